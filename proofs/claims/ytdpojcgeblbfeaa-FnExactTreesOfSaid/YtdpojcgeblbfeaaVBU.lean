/- One text out of several: LesM EnuM SetM TreM TreN TreO. -/
import Derived.Test.YtdpojcgeblbfeaaVBD
import Derived.Test.YtdpojcgeblbfeaaVBG
set_option linter.all false
/- Lists in order, the plain math: lexicographic order; sorting by insertion from the right; what is sorted and has given members is one list. -/
namespace Go.Proofs.Ytdpojcgeblbfeaa

def lessL : List Int → List Int → Bool
  | x :: a, y :: b => if x = y then lessL a b else decide (x < y)
  | _, _ => false
theorem lessL_irrefl : ∀ a, lessL a a = false
  | [] => rfl
  | x :: a => by rw [lessL, if_pos rfl]; exact lessL_irrefl a
theorem lessL_trans : ∀ {a b c : List Int}, lessL a b = true → lessL b c = true → lessL a c = true
  | x :: a, y :: b, z :: c, h1, h2 => by
    rw [lessL] at h1 h2 ⊢
    by_cases e1 : x = y
    · subst e1
      by_cases e2 : x = z
      · subst e2
        rw [if_pos rfl] at h1 h2 ⊢
        exact lessL_trans h1 h2
      · rw [if_neg e2] at h2 ⊢
        exact h2
    · rw [if_neg e1, decide_eq_true_eq] at h1
      by_cases e2 : y = z
      · subst e2
        rw [if_neg e1, decide_eq_true_eq]
        exact h1
      · rw [if_neg e2, decide_eq_true_eq] at h2
        rw [if_neg (by omega), decide_eq_true_eq]
        omega
  | x :: a, y :: b, [], h1, h2 => by simp [lessL] at h2
  | x :: a, [], c, h1, h2 => by simp [lessL] at h1
  | [], b, c, h1, h2 => by simp [lessL] at h1
theorem lessL_total : ∀ {a b : List Int}, a.length = b.length → lessL a b = false → a = b ∨ lessL b a = true
  | [], [], _, _ => .inl rfl
  | x :: a, y :: b, hl, h => by
    rw [lessL] at h ⊢
    by_cases e : x = y
    · subst e
      rw [if_pos rfl] at h ⊢
      rcases lessL_total (by simpa using hl) h with g | g
      · exact .inl (by rw [g])
      · exact .inr g
    · rw [if_neg e, decide_eq_false_iff_not] at h
      rw [if_neg (fun g => e g.symm), decide_eq_true_eq]
      exact .inr (by omega)
  | [], _ :: _, hl, _ => by simp at hl
  | _ :: _, [], hl, _ => by simp at hl
theorem lessL_asymm {a b : List Int} (h : lessL a b = true) : lessL b a = false := by
  cases g : lessL b a with
  | false => rfl
  | true => have := lessL_trans h g; rw [lessL_irrefl] at this; cases this
/-! ### insertion from the right -/
def posL (x : List Int) (L : List (List Int)) : Nat → Nat
  | 0 => 0
  | k + 1 => if lessL x (L.getD k []) = true then posL x L k else k + 1
theorem posL_le (x : List Int) (L : List (List Int)) : ∀ k, posL x L k ≤ k
  | 0 => Nat.le_refl _
  | k + 1 => by
    rw [posL]
    split
    · exact Nat.le_succ_of_le (posL_le x L k)
    · exact Nat.le_refl _
def insL (x : List Int) (L : List (List Int)) : List (List Int) := L.take (posL x L L.length) ++ x :: L.drop (posL x L L.length)
theorem insL_len (x : List Int) (L : List (List Int)) : (insL x L).length = L.length + 1 := by
  have := posL_le x L L.length
  simp [insL]
  omega
theorem insL_mem {x y : List Int} {L : List (List Int)} : y ∈ insL x L ↔ y = x ∨ y ∈ L := by
  unfold insL
  rw [List.mem_append, List.mem_cons]
  constructor
  · rintro (h | h | h)
    · exact .inr (List.mem_of_mem_take h)
    · exact .inl h
    · exact .inr (List.mem_of_mem_drop h)
  · rintro (h | h)
    · exact .inr (.inl h)
    · rw [← List.take_append_drop (posL x L L.length) L, List.mem_append] at h
      rcases h with h | h
      · exact .inl h
      · exact .inr (.inr h)
theorem posL_behind {x : List Int} {L : List (List Int)} : ∀ {k j : Nat}, posL x L k ≤ j → j < k → lessL x (L.getD j []) = true
  | 0, j, _, h => by omega
  | k + 1, j, h1, h2 => by
    rw [posL] at h1
    split at h1
    · next h =>
      by_cases e : j = k
      · rw [e]; exact h
      · exact posL_behind h1 (by omega)
    · omega
theorem posL_ahead {x : List Int} {L : List (List Int)} : ∀ {k : Nat}, 0 < posL x L k → lessL x (L.getD (posL x L k - 1) []) = false
  | 0, h => by simp [posL] at h
  | k + 1, h => by
    rw [posL] at h ⊢
    split
    · next g => rw [if_pos g] at h; exact posL_ahead h
    · next g => simpa using g
theorem insL_sorted {x : List Int} {L : List (List Int)} (h : L.Pairwise fun a b => lessL a b = true) (hx : ¬ x ∈ L) (hl : ∀ y ∈ L, y.length = x.length) : (insL x L).Pairwise fun a b => lessL a b = true := by
  have hp := posL_le x L L.length
  have hs : (L.take (posL x L L.length) ++ L.drop (posL x L L.length)).Pairwise fun a b => lessL a b = true := by rw [List.take_append_drop]; exact h
  rw [List.pairwise_append] at hs
  obtain ⟨s1, s2, s3⟩ := hs
  unfold insL
  rw [List.pairwise_append, List.pairwise_cons]
  have hb : ∀ b ∈ L.drop (posL x L L.length), lessL x b = true := fun b hb => by
    obtain ⟨i, hi, rfl⟩ := List.getElem_of_mem hb
    rw [List.getElem_drop]
    have hi2 : posL x L L.length + i < L.length := by simp at hi; omega
    have := posL_behind (x := x) (L := L) (k := L.length) (j := posL x L L.length + i) (by omega) hi2
    rwa [List.getD, List.getElem?_eq_getElem hi2, Option.getD_some] at this
  have ha : ∀ a ∈ L.take (posL x L L.length), lessL a x = true := fun a ha => by
    obtain ⟨i, hi, rfl⟩ := List.getElem_of_mem ha
    rw [List.getElem_take]
    have hi2 : i < posL x L L.length := by simp at hi; omega
    have h0 := posL_ahead (x := x) (L := L) (k := L.length) (by omega)
    have hj : posL x L L.length - 1 < L.length := by omega
    rw [List.getD, List.getElem?_eq_getElem hj, Option.getD_some] at h0
    have hlast : lessL (L[posL x L L.length - 1]) x = true := by
      rcases lessL_total (by rw [hl _ (List.getElem_mem hj)]) h0 with e | e
      · exact absurd (e ▸ List.getElem_mem hj) hx
      · exact e
    by_cases e : i = posL x L L.length - 1
    · have : L[i]'(by omega) = L[posL x L L.length - 1] := by congr 1
      rw [this]
      exact hlast
    · exact lessL_trans (List.pairwise_iff_getElem.1 h i _ (by omega) hj (by omega)) hlast
  refine ⟨s1, ⟨hb, s2⟩, fun a h1 b h2 => ?_⟩
  rw [List.mem_cons] at h2
  rcases h2 with rfl | h2
  · exact ha a h1
  · exact s3 a h1 b h2
def sortF (acc : List (List Int)) (L : List (List Int)) : List (List Int) := L.foldl (fun acc x => insL x acc) acc
def sortL (L : List (List Int)) : List (List Int) := sortF [] L
theorem sortF_mem : ∀ {L acc : List (List Int)} {y : List Int}, y ∈ sortF acc L ↔ y ∈ acc ∨ y ∈ L
  | [], acc, y => by simp [sortF]
  | x :: L, acc, y => by
    show y ∈ sortF (insL x acc) L ↔ _
    rw [sortF_mem, insL_mem, List.mem_cons]
    constructor
    · rintro ((h | h) | h)
      · exact .inr (.inl h)
      · exact .inl h
      · exact .inr (.inr h)
    · rintro (h | h | h)
      · exact .inl (.inr h)
      · exact .inl (.inl h)
      · exact .inr h
theorem sortF_len : ∀ (L acc : List (List Int)), (sortF acc L).length = acc.length + L.length
  | [], acc => by simp [sortF]
  | x :: L, acc => by
    show (sortF (insL x acc) L).length = _
    rw [sortF_len, insL_len, List.length_cons]
    omega
theorem sortF_sorted {n : Nat} : ∀ {L acc : List (List Int)}, acc.Pairwise (fun a b => lessL a b = true) → (∀ y ∈ acc, y.length = n) → (∀ y ∈ L, y.length = n) → L.Nodup → (∀ y ∈ L, ¬ y ∈ acc) → (sortF acc L).Pairwise fun a b => lessL a b = true
  | [], acc, h, _, _, _, _ => h
  | x :: L, acc, h, ha, hl, hn, hd => by
    rw [List.nodup_cons] at hn
    have hx := hl x (by simp)
    exact sortF_sorted (L := L) (insL_sorted h (hd x (by simp)) fun y hy => by rw [ha y hy, hx]) (fun y hy => by
      rcases insL_mem.1 hy with rfl | hy
      · exact hx
      · exact ha y hy) (fun y hy => hl y (by simp [hy])) hn.2 (fun y hy hc => by
      rcases insL_mem.1 hc with rfl | hc
      · exact hn.1 hy
      · exact hd y (by simp [hy]) hc)
theorem sortL_mem {L : List (List Int)} {y : List Int} : y ∈ sortL L ↔ y ∈ L := by rw [sortL, sortF_mem]; simp
theorem sortL_len (L : List (List Int)) : (sortL L).length = L.length := by rw [sortL, sortF_len]; simp
theorem sortL_sorted {n : Nat} {L : List (List Int)} (hl : ∀ y ∈ L, y.length = n) (hn : L.Nodup) : (sortL L).Pairwise fun a b => lessL a b = true := sortF_sorted (n := n) (by simp) (by simp) hl hn (by simp)
theorem sorted_same : ∀ {L K : List (List Int)}, L.Pairwise (fun a b => lessL a b = true) → K.Pairwise (fun a b => lessL a b = true) → (∀ x, x ∈ L ↔ x ∈ K) → L = K
  | [], K, _, _, h => by
    cases K with
    | nil => rfl
    | cons y K => exact absurd ((h y).2 (by simp)) (by simp)
  | x :: L, [], _, _, h => absurd ((h x).1 (by simp)) (by simp)
  | x :: L, y :: K, h1, h2, h => by
    rw [List.pairwise_cons] at h1 h2
    have e : x = y := by
      have hx := (h x).1 (by simp)
      have hy := (h y).2 (by simp)
      rw [List.mem_cons] at hx hy
      rcases hx with hx | hx
      · exact hx
      · rcases hy with hy | hy
        · exact hy.symm
        · have a1 := h2.1 x hx
          have a2 := h1.1 y hy
          rw [lessL_asymm a1] at a2
          cases a2
    subst e
    rw [sorted_same h1.2 h2.2 fun z => ?_]
    have hz := h z
    rw [List.mem_cons, List.mem_cons] at hz
    constructor
    · intro hm
      rcases hz.1 (.inr hm) with g | g
      · subst g
        have := h1.1 z hm
        rw [lessL_irrefl] at this
        cases this
      · exact g
    · intro hm
      rcases hz.2 (.inr hm) with g | g
      · subst g
        have := h2.1 z hm
        rw [lessL_irrefl] at this
        cases this
      · exact g
end Go.Proofs.Ytdpojcgeblbfeaa

/- Lists that are found one after another in lexicographic order: a counter, and what it has found. -/
namespace Go.Proofs.Ytdpojcgeblbfeaa

theorem lessL_of {x y : List Int} : ∀ {k : Nat}, x.length = y.length → k < x.length → (∀ j, j < k → x.getD j 0 = y.getD j 0) → x.getD k 0 < y.getD k 0 → lessL x y = true := by
  induction x generalizing y with
  | nil => intro k _ h; simp at h
  | cons a x ih =>
    intro k hl hk he hlt
    cases y with
    | nil => simp at hl
    | cons b y =>
      rw [lessL]
      cases k with
      | zero =>
        have h : a < b := by simpa using hlt
        rw [if_neg (by omega)]
        exact decide_eq_true h
      | succ k =>
        have h0 : a = b := by simpa using he 0 (by omega)
        rw [if_pos h0]
        refine ih (k := k) (by simpa using hl) (by simpa using hk) (fun j hj => ?_) (by simpa using hlt)
        simpa using he (j + 1) (by omega)
theorem lessL_ex {x y : List Int} (hl : x.length = y.length) (h : lessL x y = true) : ∃ k, k < x.length ∧ (∀ j, j < k → x.getD j 0 = y.getD j 0) ∧ x.getD k 0 < y.getD k 0 := by
  induction x generalizing y with
  | nil => cases y <;> simp [lessL] at h
  | cons a x ih =>
    cases y with
    | nil => simp at hl
    | cons b y =>
      rw [lessL] at h
      by_cases e : a = b
      · subst e
        rw [if_pos rfl] at h
        obtain ⟨k, h1, h2, h3⟩ := ih (by simpa using hl) h
        refine ⟨k + 1, by simpa using h1, fun j hj => ?_, by simpa using h3⟩
        cases j with
        | zero => rfl
        | succ j => simpa using h2 j (by omega)
      · rw [if_neg e, decide_eq_true_eq] at h
        exact ⟨0, by simp, fun j hj => absurd hj (by omega), by simpa using h⟩
theorem list_same {x y : List Int} (hl : x.length = y.length) (h : ∀ u, u < x.length → x.getD u 0 = y.getD u 0) : x = y := by
  refine List.ext_getElem hl fun i h1 h2 => ?_
  have := h i h1
  simpa [List.getD, h1, h2] using this
theorem not_less {x c : List Int} (hl : x.length = c.length) (h : lessL c x = false) : lessL x c = true ∨ x = c := by
  rcases lessL_total hl.symm h with g | g
  · exact .inr g.symm
  · exact .inl g
structure Succ (P : List Int → Prop) (c c' : List Int) (v : Nat) : Prop where
  lt : v < c.length
  len : c'.length = c.length
  pre : ∀ u, u < v → c'.getD u 0 = c.getD u 0
  at_ : c'.getD v 0 = c.getD v 0 + 1
  hi : ∀ x, P x → ∀ u, v < u → u < c.length → x.getD u 0 ≤ c.getD u 0
  lo : ∀ x, P x → x.getD v 0 = c'.getD v 0 → ∀ u, v < u → u < c.length → c'.getD u 0 ≤ x.getD u 0
theorem Succ.less {P : List Int → Prop} {c c' : List Int} {v : Nat} (h : Succ P c c' v) {x : List Int} (hP : P x) (hl : x.length = c.length) : lessL x c' = true ↔ lessL x c = true ∨ x = c := by
  constructor
  · intro hx
    obtain ⟨k, h1, h2, h3⟩ := lessL_ex (by rw [hl, h.len]) hx
    apply not_less hl
    cases hcx : lessL c x with
    | false => rfl
    | true =>
      exfalso
      obtain ⟨k', g1, g2, g3⟩ := lessL_ex hl.symm hcx
      rcases Nat.lt_trichotomy k v with hk | rfl | hk
      · rw [h.pre k hk] at h3
        rcases Nat.lt_trichotomy k' k with hk' | rfl | hk'
        · have := h2 k' hk'
          rw [h.pre k' (by omega)] at this
          omega
        · omega
        · have := g2 k hk'
          omega
      · rw [h.at_] at h3
        rcases Nat.lt_trichotomy k' k with hk' | rfl | hk'
        · have := h2 k' hk'
          rw [h.pre k' (by omega)] at this
          omega
        · omega
        · have := h.hi x hP k' hk' g1
          omega
      · have := h.lo x hP (h2 v hk) k hk (by omega)
        omega
  · intro hx
    rcases hx with hx | rfl
    · obtain ⟨k, h1, h2, h3⟩ := lessL_ex hl hx
      rcases Nat.lt_or_ge k v with hk | hk
      · refine lessL_of (k := k) (by rw [hl, h.len]) h1 (fun j hj => ?_) ?_
        · rw [h.pre j (by omega)]; exact h2 j hj
        · rw [h.pre k hk]; exact h3
      · refine lessL_of (k := v) (by rw [hl, h.len]) (by rw [hl]; exact h.lt) (fun j hj => ?_) ?_
        · rw [h.pre j hj]; exact h2 j (by omega)
        · rw [h.at_]
          by_cases e : k = v
          · subst e; omega
          · have := h2 v (by omega)
            omega
    · refine lessL_of (k := v) h.len.symm h.lt (fun j hj => ?_) ?_
      · rw [h.pre j hj]
      · rw [h.at_]; omega
structure Enum (P : List Int → Prop) (good : List Int → Bool) (c : List Int) (L : List (List Int)) : Prop where
  st : L.Pairwise fun a b => lessL a b = true
  mem : ∀ x, x ∈ L ↔ P x ∧ good x = true ∧ lessL x c = true
structure EnumTo (P : List Int → Prop) (good : List Int → Bool) (c : List Int) (L : List (List Int)) : Prop where
  st : L.Pairwise fun a b => lessL a b = true
  mem : ∀ x, x ∈ L ↔ P x ∧ good x = true ∧ (lessL x c = true ∨ x = c)
section
variable {P : List Int → Prop} {good : List Int → Bool} {c c' : List Int} {L : List (List Int)} {v : Nat}
theorem Enum.yes (h : Enum P good c L) (hP : P c) (hg : good c = true) : EnumTo P good c (L ++ [c]) where
  st := by
    rw [List.pairwise_append]
    refine ⟨h.st, by simp, fun a ha b hb => ?_⟩
    rw [List.mem_singleton.1 hb]
    exact ((h.mem a).1 ha).2.2
  mem := fun x => by
    rw [List.mem_append, List.mem_singleton, h.mem]
    constructor
    · rintro (⟨a, b, d⟩ | rfl)
      · exact ⟨a, b, .inl d⟩
      · exact ⟨hP, hg, .inr rfl⟩
    · rintro ⟨a, b, d | d⟩
      · exact .inl ⟨a, b, d⟩
      · exact .inr d
theorem Enum.no (h : Enum P good c L) (hg : good c = false) : EnumTo P good c L where
  st := h.st
  mem := fun x => by
    rw [h.mem]
    constructor
    · rintro ⟨a, b, d⟩
      exact ⟨a, b, .inl d⟩
    · rintro ⟨a, b, d | d⟩
      · exact ⟨a, b, d⟩
      · subst d
        rw [hg] at b
        cases b
theorem EnumTo.next (h : EnumTo P good c L) (hl : ∀ x, P x → x.length = c.length) (hs : Succ P c c' v) : Enum P good c' L where
  st := h.st
  mem := fun x => by
    rw [h.mem]
    constructor
    · rintro ⟨a, b, d⟩
      exact ⟨a, b, (hs.less a (hl x a)).2 d⟩
    · rintro ⟨a, b, d⟩
      exact ⟨a, b, (hs.less a (hl x a)).1 d⟩
theorem EnumTo.fin (h : EnumTo P good c L) (hl : ∀ x, P x → x.length = c.length) (hm : ∀ x, P x → ∀ u, u < c.length → x.getD u 0 ≤ c.getD u 0) : ∀ x, x ∈ L ↔ P x ∧ good x = true := fun x => by
  rw [h.mem]
  constructor
  · rintro ⟨a, b, _⟩
    exact ⟨a, b⟩
  · rintro ⟨a, b⟩
    refine ⟨a, b, not_less (hl x a) ?_⟩
    cases hcx : lessL c x with
    | false => rfl
    | true =>
      obtain ⟨k, g1, g2, g3⟩ := lessL_ex (hl x a).symm hcx
      have := hm x a k g1
      omega
theorem Enum.start (hl : ∀ x, P x → x.length = c.length) (hm : ∀ x, P x → ∀ u, u < c.length → c.getD u 0 ≤ x.getD u 0) : Enum P good c [] where
  st := List.Pairwise.nil
  mem := fun x => by
    constructor
    · intro h; cases h
    · rintro ⟨a, b, d⟩
      obtain ⟨k, g1, g2, g3⟩ := lessL_ex (hl x a) d
      have := hm x a k (by rw [← hl x a]; exact g1)
      omega
end
/-! ### counters with limits (recurrent configurations), and ascending lists (trees) -/
def AscP (n k : Nat) (x : List Int) : Prop := x.length = k ∧ (∀ u, u < k → 0 ≤ x.getD u 0 ∧ x.getD u 0 < (n : Int)) ∧ ∀ u, u + 1 < k → x.getD u 0 < x.getD (u + 1) 0
theorem AscP.gap {n k : Nat} {x : List Int} (h : AscP n k x) : ∀ (d u : Nat), u + d < k → x.getD u 0 + (d : Int) ≤ x.getD (u + d) 0
  | 0, u, _ => by simp
  | d + 1, u, hd => by
    have h1 := h.gap d u (by omega)
    have h2 := h.2.2 (u + d) (by omega)
    rw [show u + (d + 1) = u + d + 1 by omega]
    omega
theorem AscP.top {n k : Nat} {x : List Int} (h : AscP n k x) {u : Nat} (hu : u < k) : x.getD u 0 ≤ (n : Int) - (k : Int) + (u : Int) := by
  have h1 := h.gap (k - 1 - u) u (by omega)
  have h2 := (h.2.1 (u + (k - 1 - u)) (by omega)).2
  omega
theorem AscP.bot {n k : Nat} {x : List Int} (h : AscP n k x) {u : Nat} (hu : u < k) : (u : Int) ≤ x.getD u 0 := by
  have h1 := h.gap u 0 (by omega)
  have h2 := (h.2.1 0 (by omega)).1
  simp only [Nat.zero_add] at h1
  omega
def upA (c : List Int) (v : Nat) : List Int := (List.range c.length).map fun u => if u < v then c.getD u 0 else c.getD v 0 + 1 + ((u : Int) - (v : Int))
theorem upA_len (c : List Int) (v : Nat) : (upA c v).length = c.length := by simp [upA]
theorem upA_get {c : List Int} {v u : Nat} (h : u < c.length) : (upA c v).getD u 0 = if u < v then c.getD u 0 else c.getD v 0 + 1 + ((u : Int) - (v : Int)) := by simp [upA, List.getD, h]
theorem upA_ok {n k : Nat} {c : List Int} {v : Nat} (hc : AscP n k c) (hv : v < k) (hlt : c.getD v 0 < (n : Int) - (k : Int) + (v : Int)) : AscP n k (upA c v) := by
  refine ⟨by rw [upA_len, hc.1], fun u hu => ?_, fun u hu => ?_⟩
  · rw [upA_get (by rw [hc.1]; exact hu)]
    have h1 := hc.2.1 u hu
    have h2 := hc.2.1 v hv
    split
    · exact h1
    · omega
  · rw [upA_get (by rw [hc.1]; omega), upA_get (by rw [hc.1]; omega)]
    have h1 := hc.2.2 u hu
    by_cases e : u + 1 < v
    · rw [if_pos (by omega), if_pos e]; exact h1
    · by_cases e2 : u < v
      · have e3 : u + 1 = v := by omega
        rw [if_pos e2, if_neg e, ← e3]
        omega
      · rw [if_neg e2, if_neg e]
        omega
theorem upA_succ {n k : Nat} {c : List Int} {v : Nat} (hc : AscP n k c) (hv : v < k) (hh : ∀ u, v < u → u < k → c.getD u 0 = (n : Int) - (k : Int) + (u : Int)) : Succ (AscP n k) c (upA c v) v where
  lt := by rw [hc.1]; exact hv
  len := upA_len _ _
  pre := fun u hu => by rw [upA_get (by rw [hc.1]; omega), if_pos hu]
  at_ := by rw [upA_get (by rw [hc.1]; exact hv), if_neg (by omega)]; omega
  hi := fun x hx u h1 h2 => by
    rw [hc.1] at h2
    rw [hh u h1 h2]
    exact hx.top h2
  lo := fun x hx he u h1 h2 => by
    rw [upA_get h2, if_neg (by omega)]
    rw [hc.1] at h2
    rw [upA_get (by rw [hc.1]; exact hv), if_neg (by omega)] at he
    have := hx.gap (u - v) v (by omega)
    rw [show v + (u - v) = u by omega] at this
    omega
end Go.Proofs.Ytdpojcgeblbfeaa

/- The specification's sets of k numbers below n: all ascending lists, in lexicographic order. -/
namespace Go.Proofs.Ytdpojcgeblbfeaa

def cI (s : List Nat) : List Int := s.map fun (n : Nat) => (n : Int)
theorem cI_len (s : List Nat) : (cI s).length = s.length := by simp [cI]
theorem cI_snoc (s : List Nat) (i : Nat) : cI (s ++ [i]) = cI s ++ [(i : Int)] := by simp [cI]
theorem getD_low {x : List Int} {y : Int} {u : Nat} (h : u < x.length) : (x ++ [y]).getD u 0 = x.getD u 0 := by simp [List.getD, List.getElem?_append_left h]
theorem getD_top {x : List Int} {y : Int} {u : Nat} (h : u = x.length) : (x ++ [y]).getD u 0 = y := by subst h; simp [List.getD]
theorem behind_get {s : List Nat} {k : Nat} (h : s.length = k + 1) : (behind s : Int) = (cI s).getD k 0 + 1 := by
  rcases List.eq_nil_or_concat s with rfl | ⟨t, a, rfl⟩
  · simp at h
  · rw [List.concat_eq_append] at h ⊢
    have hk : t.length = k := by simpa using h
    rw [cI_snoc, getD_top (by rw [cI_len, hk])]
    unfold behind
    simp
theorem sets_asc (n : Nat) : ∀ k, (∀ s ∈ setsB n k, AscP n k (cI s)) ∧ (∀ x, AscP n k x → ∃ s ∈ setsB n k, x = cI s) ∧ ((setsB n k).map cI).Pairwise fun a b => lessL a b = true
  | 0 => by
    refine ⟨fun s hs => ?_, fun x hx => ⟨[], by simp [setsB], ?_⟩, by simp [setsB]⟩
    · simp [setsB] at hs
      subst hs
      exact ⟨rfl, fun u hu => absurd hu (by omega), fun u hu => absurd hu (by omega)⟩
    · exact List.length_eq_zero_iff.1 hx.1
  | k + 1 => by
    obtain ⟨h1, h2, h3⟩ := sets_asc n k
    have hlow : ∀ s ∈ setsB n k, ∀ i, behind s ≤ i ↔ (∀ u, u + 1 = k → (cI s).getD u 0 < (i : Int)) := fun s hs i => by
      have hl := (h1 s hs).1
      rw [cI_len] at hl
      cases k with
      | zero =>
        rw [List.length_eq_zero_iff.1 hl]
        simp [behind]
      | succ k =>
        have hb := behind_get hl
        constructor
        · intro h u hu
          have e : u = k := by omega
          subst e
          omega
        · intro h
          have := h k rfl
          omega
    refine ⟨fun s hs => ?_, fun x hx => ?_, ?_⟩
    · rw [setsB, List.mem_flatMap] at hs
      obtain ⟨t, ht, hs⟩ := hs
      rw [List.mem_map] at hs
      obtain ⟨i, hi, rfl⟩ := hs
      rw [List.mem_range'_1] at hi
      obtain ⟨a1, a2, a3⟩ := h1 t ht
      rw [cI_snoc]
      refine ⟨by rw [List.length_append, a1]; rfl, fun u hu => ?_, fun u hu => ?_⟩
      · by_cases e : u < k
        · rw [getD_low (by rw [a1]; exact e)]
          exact a2 u e
        · rw [getD_top (by rw [a1]; omega)]
          omega
      · rw [getD_low (by rw [a1]; omega)]
        by_cases e : u + 1 < k
        · rw [getD_low (by rw [a1]; exact e)]
          exact a3 u e
        · rw [getD_top (by rw [a1]; omega)]
          exact (hlow t ht i).1 hi.1 u (by omega)
    · have hx' : AscP n k (x.take k) := by
        have hg : ∀ u, u < k → (x.take k).getD u 0 = x.getD u 0 := fun u hu => by simp [List.getD, List.getElem?_take_of_lt hu]
        refine ⟨by rw [List.length_take, hx.1]; omega, fun u hu => ?_, fun u hu => ?_⟩
        · rw [hg u hu]
          exact hx.2.1 u (by omega)
        · rw [hg u (by omega), hg (u + 1) hu]
          exact hx.2.2 u (by omega)
      obtain ⟨s, hs, he⟩ := h2 _ hx'
      have hb := hx.2.1 k (by omega)
      have hxs : x = cI (s ++ [(x.getD k 0).toNat]) := by
        rw [cI_snoc, ← he]
        refine list_same (by rw [List.length_append, List.length_take, hx.1]; simp) fun u hu => ?_
        rw [hx.1] at hu
        by_cases e : u < k
        · rw [getD_low (by rw [List.length_take, hx.1]; omega)]
          simp [List.getD, List.getElem?_take_of_lt e]
        · have e2 : u = k := by omega
          subst e2
          rw [getD_top (by rw [List.length_take, hx.1]; omega)]
          omega
      refine ⟨_, ?_, hxs⟩
      rw [setsB, List.mem_flatMap]
      refine ⟨s, hs, ?_⟩
      rw [List.mem_map]
      refine ⟨_, ?_, rfl⟩
      rw [List.mem_range'_1]
      have hlo : behind s ≤ (x.getD k 0).toNat := (hlow s hs _).2 fun u hu => by
        rw [← he]
        have h9 := hx.2.2 u (by omega)
        rw [hu] at h9
        have h8 : (x.take k).getD u 0 = x.getD u 0 := by simp [List.getD, List.getElem?_take_of_lt (show u < k by omega)]
        rw [h8]
        omega
      omega
    · rw [setsB, List.map_flatMap, List.pairwise_flatMap]
      rw [List.pairwise_map] at h3
      refine ⟨fun s hs => ?_, h3.imp_of_mem fun {s t} hs ht hst => ?_⟩
      · rw [List.map_map, List.pairwise_map]
        refine (List.pairwise_lt_range' (s := behind s) (n := n - behind s)).imp fun {i j} hij => ?_
        show lessL (cI (s ++ [i])) (cI (s ++ [j])) = true
        rw [cI_snoc, cI_snoc]
        refine lessL_of (k := (cI s).length) (by simp) (by simp) (fun u hu => ?_) ?_
        · rw [getD_low hu, getD_low hu]
        · rw [getD_top rfl, getD_top rfl]
          omega
      · intro x hx y hy
        rw [List.mem_map] at hx hy
        obtain ⟨s', hs', rfl⟩ := hx
        obtain ⟨t', ht', rfl⟩ := hy
        rw [List.mem_map] at hs' ht'
        obtain ⟨i, -, rfl⟩ := hs'
        obtain ⟨j, -, rfl⟩ := ht'
        have l1 := (h1 s hs).1
        have l2 := (h1 t ht).1
        rw [cI_snoc, cI_snoc]
        obtain ⟨m, g1, g2, g3⟩ := lessL_ex (by rw [l1, l2]) hst
        refine lessL_of (k := m) (by simp [l1, l2]) (by simp; omega) (fun u hu => ?_) ?_
        · rw [getD_low (by omega), getD_low (by omega)]
          exact g2 u hu
        · rw [getD_low (by omega), getD_low (by omega)]
          exact g3
end Go.Proofs.Ytdpojcgeblbfeaa

/- Spanning trees and parking functions, the plain math: the walk edge by edge. -/
namespace Go.Proofs.Ytdpojcgeblbfeaa
open Go.RowKit

def eA (es : List (Int × Int)) (i : Nat) : Nat := (es.getD i (0, 0)).1.toNat
def eB (es : List (Int × Int)) (i : Nat) : Nat := (es.getD i (0, 0)).2.toNat
structure WSt where
  b : Nat → Bool
  t : Nat → Bool
  l : Nat → Int
  o : List Nat
def setT (b : Nat → Bool) (v : Nat) : Nat → Bool := fun u => decide (u = v) || b u
theorem setT_self (b : Nat → Bool) (v : Nat) : setT b v v = true := by simp [setT]
theorem setT_ne {b : Nat → Bool} {v u : Nat} (h : u ≠ v) : setT b v u = b u := by simp [setT, h]
theorem setT_up {b : Nat → Bool} {v u : Nat} (h : b u = true) : setT b v u = true := by simp [setT, h]
def freeE (es : List (Int × Int)) (s : WSt) (i : Nat) : Bool := !s.t i && (s.b (eA es i) != s.b (eB es i))
def nextE (es : List (Int × Int)) (s : WSt) : Option Nat := (List.range es.length).find? (freeE es s)
def endV (es : List (Int × Int)) (b : Nat → Bool) (i : Nat) : Nat := if b (eA es i) = true then eB es i else eA es i
def othV (es : List (Int × Int)) (b : Nat → Bool) (i : Nat) : Nat := if b (eA es i) = true then eA es i else eB es i
def stepW (es : List (Int × Int)) (dec : Nat → Nat → Int → Bool) (s : WSt) (i : Nat) : WSt :=
  if dec i (endV es s.b i) (s.l (endV es s.b i)) = true then ⟨setT s.b (endV es s.b i), setT s.t i, s.l, s.o ++ [i]⟩ else ⟨s.b, setT s.t i, addAt s.l (endV es s.b i) 1, s.o⟩
def walkW (es : List (Int × Int)) (dec : Nat → Nat → Int → Bool) : Nat → WSt → WSt
  | 0, s => s
  | k + 1, s => match nextE es s with
    | none => s
    | some i => walkW es dec k (stepW es dec s i)
def startW (q : Nat) : WSt := ⟨fun v => decide (v = q), fun _ => false, fun _ => 0, []⟩
def endW (es : List (Int × Int)) (dec : Nat → Nat → Int → Bool) (q : Nat) : WSt := walkW es dec es.length (startW q)
section
variable {M q : Nat} {es : List (Int × Int)} {dec dec' : Nat → Nat → Int → Bool} {s : WSt} {i : Nat} {f : Nat → Int}
theorem next_some (h : nextE es s = some i) : i < es.length ∧ s.t i = false ∧ s.b (eA es i) ≠ s.b (eB es i) := by
  have h1 := List.find?_some h
  have h2 := List.mem_of_find?_eq_some h
  unfold freeE at h1
  simp only [Bool.and_eq_true, Bool.not_eq_true', bne_iff_ne] at h1
  exact ⟨List.mem_range.1 h2, h1.1, h1.2⟩
theorem next_none (h : nextE es s = none) (i : Nat) (hi : i < es.length) (ht : s.t i = false) : s.b (eA es i) = s.b (eB es i) := by
  unfold nextE at h
  rw [List.find?_eq_none] at h
  have := h i (List.mem_range.2 hi)
  unfold freeE at this
  simpa [ht] using this
theorem ends_w (h : s.b (eA es i) ≠ s.b (eB es i)) : s.b (endV es s.b i) = false ∧ s.b (othV es s.b i) = true ∧ ((endV es s.b i = eA es i ∧ othV es s.b i = eB es i) ∨ (endV es s.b i = eB es i ∧ othV es s.b i = eA es i)) := by
  unfold endV othV
  cases ha : s.b (eA es i) with
  | true =>
    rw [ha] at h
    refine ⟨?_, ?_, .inr ⟨?_, ?_⟩⟩ <;> simp [ha]
    cases hb : s.b (eB es i) with
    | true => rw [hb] at h; exact absurd rfl h
    | false => rfl
  | false =>
    rw [ha] at h
    refine ⟨?_, ?_, .inl ⟨?_, ?_⟩⟩ <;> simp [ha]
    cases hb : s.b (eB es i) with
    | false => rw [hb] at h; exact absurd rfl h
    | true => rfl
inductive WR (es : List (Int × Int)) (dec : Nat → Nat → Int → Bool) (q : Nat) : WSt → Prop
  | start : WR es dec q (startW q)
  | step {s : WSt} {i : Nat} : WR es dec q s → nextE es s = some i → WR es dec q (stepW es dec s i)
theorem step_t : (stepW es dec s i).t = setT s.t i := by unfold stepW; split <;> rfl
theorem WR.walk (h : WR es dec q s) : ∀ k, WR es dec q (walkW es dec k s) := fun k => by
  induction k generalizing s with
  | zero => exact h
  | succ k ih =>
    rw [walkW]
    cases hn : nextE es s with
    | none => exact h
    | some i => exact ih (h.step hn)
theorem WR.fin : WR es dec q (endW es dec q) := WR.start.walk _
def took (s : WSt) (n : Nat) : Nat := ((List.range n).filter s.t).length
theorem took_step (hi : i < es.length) (ht : s.t i = false) : took (stepW es dec s i) es.length = took s es.length + 1 := by
  unfold took
  rw [step_t]
  have key : ∀ n, ((List.range n).filter (setT s.t i)).length = ((List.range n).filter s.t).length + if i < n then 1 else 0 := fun n => by
    induction n with
    | zero => simp
    | succ n ih =>
      rw [List.range_succ, List.filter_append, List.filter_append, List.length_append, List.length_append, ih]
      by_cases e : n = i
      · subst e
        simp [setT_self, ht]
      · rw [List.filter_cons, List.filter_cons, setT_ne e]
        simp only [List.filter_nil]
        have : (i < n + 1) = (i < n) := by apply propext; omega
        simp only [this]
        omega
  rw [key, if_pos hi]
theorem took_le (s : WSt) (n : Nat) : took s n ≤ n := by
  unfold took
  have := List.length_filter_le s.t (List.range n)
  simpa using this
theorem walk_none : ∀ (k : Nat) (s : WSt), es.length ≤ k + took s es.length → nextE es (walkW es dec k s) = none
  | 0, s, hk => by
    rw [walkW]
    cases hn : nextE es s with
    | none => rfl
    | some i =>
      obtain ⟨h1, h2, h3⟩ := next_some hn
      have := took_step (dec := dec) h1 h2
      have := took_le (stepW es dec s i) es.length
      omega
  | k + 1, s, hk => by
    rw [walkW]
    cases hn : nextE es s with
    | none => exact hn
    | some i =>
      obtain ⟨h1, h2, h3⟩ := next_some hn
      have := took_step (dec := dec) h1 h2
      exact walk_none k _ (by omega)
theorem end_none : nextE es (endW es dec q) = none := walk_none _ _ (by omega)
structure Later (s s' : WSt) : Prop where
  b : ∀ v, s.b v = true → s'.b v = true
  l : ∀ v, s.b v = true → s'.l v = s.l v
  up : ∀ v, s.l v ≤ s'.l v
  o : ∀ i, i ∈ s.o → i ∈ s'.o
  no : ∀ i, s.t i = true → i ∈ s'.o → i ∈ s.o
  t : ∀ i, s.t i = true → s'.t i = true
theorem Later.refl (s : WSt) : Later s s := ⟨fun _ h => h, fun _ _ => rfl, fun _ => Int.le_refl _, fun _ h => h, fun _ _ h => h, fun _ h => h⟩
theorem Later.trans {a b c : WSt} (h : Later a b) (k : Later b c) : Later a c :=
  ⟨fun v e => k.b v (h.b v e), fun v e => (k.l v (h.b v e)).trans (h.l v e), fun v => Int.le_trans (h.up v) (k.up v), fun i e => k.o i (h.o i e), fun i e e2 => h.no i e (k.no i (h.t i e) e2), fun i e => k.t i (h.t i e)⟩
theorem Later.step (hn : nextE es s = some i) : Later s (stepW es dec s i) := by
  obtain ⟨h1, h2, h3⟩ := next_some hn
  obtain ⟨k1, -, -⟩ := ends_w h3
  unfold stepW
  split
  · refine ⟨fun v e => setT_up e, fun _ _ => rfl, fun _ => Int.le_refl _, fun j e => by simp [e], fun j e e2 => ?_, fun j e => setT_up e⟩
    rcases List.mem_append.1 e2 with e2 | e2
    · exact e2
    · have := List.mem_singleton.1 e2
      subst this
      rw [h2] at e
      cases e
  · refine ⟨fun v e => e, fun v e => ?_, fun v => ?_, fun j e => e, fun j _ e2 => e2, fun j e => setT_up e⟩
    · have : v ≠ endV es s.b i := fun h => by rw [h, k1] at e; cases e
      show addAt s.l (endV es s.b i) 1 v = s.l v
      unfold addAt
      rw [if_neg this]
    · show s.l v ≤ addAt s.l (endV es s.b i) 1 v
      unfold addAt
      split <;> omega
theorem Later.walk : ∀ (k : Nat) (s : WSt), Later s (walkW es dec k s)
  | 0, s => Later.refl s
  | k + 1, s => by
    rw [walkW]
    cases hn : nextE es s with
    | none => exact Later.refl s
    | some i => exact (Later.step hn).trans (Later.walk k _)
theorem walk_same : ∀ (k : Nat) (s : WSt), WR es dec q s → (∀ s' i, WR es dec q s' → nextE es s' = some i → Later (stepW es dec s' i) (walkW es dec k s) → dec' i (endV es s'.b i) (s'.l (endV es s'.b i)) = dec i (endV es s'.b i) (s'.l (endV es s'.b i))) → walkW es dec' k s = walkW es dec k s
  | 0, _, _, _ => rfl
  | k + 1, s, h, hd => by
    rw [walkW, walkW]
    cases hn : nextE es s with
    | none => rfl
    | some i =>
      have e1 : walkW es dec (k + 1) s = walkW es dec k (stepW es dec s i) := by rw [walkW, hn]
      rw [e1] at hd
      have e : stepW es dec' s i = stepW es dec s i := by
        unfold stepW
        rw [hd s i h hn (Later.walk k _)]
      show walkW es dec' k (stepW es dec' s i) = walkW es dec k (stepW es dec s i)
      rw [e]
      exact walk_same k _ (h.step hn) hd
structure WI (es : List (Int × Int)) (q : Nat) (s : WSt) : Prop where
  bq : s.b q = true
  lq : s.l q = 0
  one : ∀ j, s.t j = true → s.b (eA es j) = true ∨ s.b (eB es j) = true
  ot : ∀ j, j ∈ s.o → s.t j = true ∧ j < es.length
  nd : s.o.Nodup
theorem WR.wi (h : WR es dec q s) : WI es q s := by
  induction h with
  | start => exact ⟨by simp [startW], rfl, fun j h => (by cases h), fun j h => (by cases h), List.nodup_nil⟩
  | @step s i _ hn ih =>
    obtain ⟨h1, h2, h3⟩ := next_some hn
    obtain ⟨k1, k2, k3⟩ := ends_w h3
    have hqe : q ≠ endV es s.b i := fun e => by rw [← e, ih.bq] at k1; cases k1
    have one2 : ∀ j, setT s.t i j = true → s.b (eA es j) = true ∨ s.b (eB es j) = true := fun j hj => by
      by_cases e : j = i
      · subst e
        rcases k3 with ⟨-, k⟩ | ⟨-, k⟩
        · exact .inr (by rw [← k]; exact k2)
        · exact .inl (by rw [← k]; exact k2)
      · rw [setT_ne e] at hj
        exact ih.one j hj
    unfold stepW
    split
    · refine ⟨setT_up ih.bq, ih.lq, fun j hj => ?_, fun j hj => ?_, ?_⟩
      · rcases one2 j hj with h | h
        · exact .inl (setT_up h)
        · exact .inr (setT_up h)
      · rcases List.mem_append.1 hj with hj | hj
        · exact ⟨setT_up (ih.ot j hj).1, (ih.ot j hj).2⟩
        · rw [List.mem_singleton.1 hj]
          exact ⟨setT_self _ _, h1⟩
      · rw [List.nodup_append]
        refine ⟨ih.nd, by simp, fun a ha c hc => ?_⟩
        rw [List.mem_singleton.1 hc]
        intro e
        rw [e] at ha
        rw [(ih.ot i ha).1] at h2
        cases h2
    · refine ⟨ih.bq, ?_, one2, fun j hj => ⟨setT_up (ih.ot j hj).1, (ih.ot j hj).2⟩, ih.nd⟩
      show addAt s.l (endV es s.b i) 1 q = 0
      unfold addAt
      rw [if_neg hqe]
      exact ih.lq
end
end Go.Proofs.Ytdpojcgeblbfeaa

/- Spanning trees and parking functions: what the walk loses, that all burns, and there and back. -/
namespace Go.Proofs.Ytdpojcgeblbfeaa
open Go.RowKit

def tw (es : List (Int × Int)) (v i : Nat) : Int := (if v = eA es i then 1 else 0) + (if v = eB es i then 1 else 0)
section
variable {M q : Nat} {es : List (Int × Int)} {dec : Nat → Nat → Int → Bool} {s : WSt} {i : Nat} {f : List Int}
theorem ed_facts (hes : ∀ e ∈ es, 0 ≤ e.1 ∧ e.1 < e.2 ∧ e.2 < (M : Int)) (hi : i < es.length) : es.getD i (0, 0) ∈ es ∧ ((eA es i : Nat) : Int) = (es.getD i (0, 0)).1 ∧ ((eB es i : Nat) : Int) = (es.getD i (0, 0)).2 ∧ eA es i < eB es i ∧ eB es i < M := by
  have h1 : es.getD i (0, 0) ∈ es := by simp [List.getD, hi]
  have h2 := hes _ h1
  refine ⟨h1, ?_⟩
  unfold eA eB
  omega
theorem heat_take (B : Int → Bool) (v : Nat) : ∀ k, k ≤ es.length → heat B v (es.take k) = sumV (fun i => heatE B v (es.getD i (0, 0))) k
  | 0, _ => by simp [heat, sumV]
  | k + 1, hk => by
    have h1 : es[k]? = some (es.getD k (0, 0)) := by simp [List.getD, show k < es.length by omega]
    rw [List.take_add_one, h1, heat_append, heat_take B v k (by omega), sumV]
    simp [heat]
theorem heat_ix (B : Int → Bool) (v : Nat) : heat B v es = sumV (fun i => heatE B v (es.getD i (0, 0))) es.length := by
  have := heat_take (es := es) B v es.length (Nat.le_refl _)
  rwa [List.take_length] at this
theorem heatE_ix (hes : ∀ e ∈ es, 0 ≤ e.1 ∧ e.1 < e.2 ∧ e.2 < (M : Int)) (hi : i < es.length) (b : Nat → Bool) (v : Nat) : heatE (fun x => b x.toNat) v (es.getD i (0, 0)) = (if b (eB es i) = true then (if v = eA es i then 1 else 0) else 0) + (if b (eA es i) = true then (if v = eB es i then 1 else 0) else 0) := by
  obtain ⟨-, h1, h2, -, -⟩ := ed_facts hes hi
  unfold heatE ind
  have a1 : ((v : Int) = (es.getD i (0, 0)).1) = (v = eA es i) := by apply propext; omega
  have a2 : ((v : Int) = (es.getD i (0, 0)).2) = (v = eB es i) := by apply propext; omega
  simp only [a1, a2]
  rfl
theorem tw_end (hes : ∀ e ∈ es, 0 ≤ e.1 ∧ e.1 < e.2 ∧ e.2 < (M : Int)) (hn : nextE es s = some i) : tw es (endV es s.b i) i = 1 := by
  obtain ⟨h1, h2, h3⟩ := next_some hn
  obtain ⟨-, -, -, h4, -⟩ := ed_facts hes h1
  unfold tw
  rcases (ends_w h3).2.2 with ⟨e, -⟩ | ⟨e, -⟩
  · rw [e, if_pos rfl, if_neg (by omega)]
    rfl
  · rw [e, if_neg (by omega), if_pos rfl]
    rfl
theorem tw_off (hn : nextE es s = some i) {v : Nat} (hv : s.b v = false) (hne : v ≠ endV es s.b i) : tw es v i = 0 := by
  obtain ⟨h1, h2, h3⟩ := next_some hn
  obtain ⟨k1, k2, k3⟩ := ends_w h3
  have hvo : v ≠ othV es s.b i := fun e => by rw [e, k2] at hv; cases hv
  unfold tw
  rcases k3 with ⟨e1, e2⟩ | ⟨e1, e2⟩
  · rw [e1] at hne
    rw [e2] at hvo
    rw [if_neg hne, if_neg hvo]
    rfl
  · rw [e1] at hne
    rw [e2] at hvo
    rw [if_neg hvo, if_neg hne]
    rfl
theorem lost_is (hes : ∀ e ∈ es, 0 ≤ e.1 ∧ e.1 < e.2 ∧ e.2 < (M : Int)) (h : WR es dec q s) : ∀ v, s.b v = false → s.l v = sumV (fun j => if s.t j = true then tw es v j else 0) es.length := by
  induction h with
  | start =>
    intro v _
    rw [sumV_congr (g := fun _ => (0 : Int)) _ fun j _ => by simp [startW]]
    have := sumV_const 0 es.length
    show (0 : Int) = _
    omega
  | @step s i _ hn ih =>
    obtain ⟨h1, h2, h3⟩ := next_some hn
    have key : ∀ v, sumV (fun j => if setT s.t i j = true then tw es v j else 0) es.length = sumV (fun j => if s.t j = true then tw es v j else 0) es.length + tw es v i := fun v => by
      have k := sumV_addAt (fun j => if s.t j = true then tw es v j else 0) i (tw es v i) es.length
      rw [if_pos h1] at k
      rw [← k]
      refine sumV_congr _ fun j _ => ?_
      unfold addAt
      by_cases e : j = i
      · subst e
        simp [setT_self, h2]
      · rw [setT_ne e, if_neg e]
    intro v hv
    rw [step_t, key]
    unfold stepW at hv ⊢
    split at hv
    · rename_i hd
      rw [if_pos hd]
      have hvb : setT s.b (endV es s.b i) v = false := hv
      have hne : v ≠ endV es s.b i := fun e => by rw [e, setT_self] at hvb; cases hvb
      rw [setT_ne hne] at hvb
      rw [tw_off hn hvb hne]
      have := ih v hvb
      show s.l v = _
      omega
    · rename_i hd
      rw [if_neg hd]
      have hvb : s.b v = false := hv
      have := ih v hvb
      show addAt s.l (endV es s.b i) 1 v = _
      unfold addAt
      by_cases hne : v = endV es s.b i
      · rw [if_pos hne, hne, tw_end hes hn, ← hne]
        omega
      · rw [if_neg hne, tw_off hn hvb hne]
        omega
theorem lost_heat (hes : ∀ e ∈ es, 0 ≤ e.1 ∧ e.1 < e.2 ∧ e.2 < (M : Int)) (h : WR es dec q s) (hn : nextE es s = none) {v : Nat} (hv : s.b v = false) : heat (fun x => s.b x.toNat) v es = s.l v := by
  rw [lost_is hes h v hv, heat_ix]
  refine sumV_congr _ fun j hj => ?_
  rw [heatE_ix hes hj]
  obtain ⟨-, -, -, h4, -⟩ := ed_facts hes hj
  unfold tw
  by_cases a : v = eA es j
  · have b : v ≠ eB es j := by omega
    rw [if_pos a, if_neg b]
    cases ht : s.t j with
    | true =>
      rcases h.wi.one j ht with k | k
      · rw [← a, hv] at k
        cases k
      · simp [k]
    | false =>
      have k := next_none hn j hj ht
      rw [← a, hv] at k
      simp [← k]
  · by_cases b : v = eB es j
    · rw [if_neg a, if_pos b]
      cases ht : s.t j with
      | true =>
        rcases h.wi.one j ht with k | k
        · simp [k]
        · rw [← b, hv] at k
          cases k
      | false =>
        have k := next_none hn j hj ht
        rw [← b, hv] at k
        simp [k]
    · simp [a, b]
theorem lost_less (hes : ∀ e ∈ es, 0 ≤ e.1 ∧ e.1 < e.2 ∧ e.2 < (M : Int)) (h : WR es dec q s) (hn : nextE es s = some i) : s.l (endV es s.b i) + 1 ≤ heat (fun x => s.b x.toNat) (endV es s.b i) es := by
  obtain ⟨h1, h2, h3⟩ := next_some hn
  obtain ⟨k1, k2, k3⟩ := ends_w h3
  rw [lost_is hes h _ k1, heat_ix]
  have k := sumV_addAt (fun j => if s.t j = true then tw es (endV es s.b i) j else 0) i 1 es.length
  rw [if_pos h1] at k
  rw [← k]
  refine sumV_le _ fun j hj => ?_
  rw [heatE_ix hes hj]
  obtain ⟨-, -, -, h4, -⟩ := ed_facts hes hj
  unfold addAt
  by_cases e : j = i
  · subst e
    rw [if_pos rfl]
    simp only [h2]
    rcases k3 with ⟨e1, e2⟩ | ⟨e1, e2⟩
    · rw [e2] at k2
      rw [e1, k2]
      simp
      repeat' split
      all_goals omega
    · rw [e2] at k2
      rw [e1, k2]
      simp
      repeat' split
      all_goals omega
  · rw [if_neg e]
    show (if s.t j = true then tw es (endV es s.b i) j else 0) ≤ _
    cases ht : s.t j with
    | false =>
      rw [if_neg (by decide)]
      repeat' split
      all_goals omega
    | true =>
      unfold tw
      rw [if_pos rfl]
      rcases h.wi.one j ht with k | k
      · have a : endV es s.b i ≠ eA es j := fun e => by rw [← e, k1] at k; cases k
        rw [if_neg a, k]
        simp
      · have a : endV es s.b i ≠ eB es j := fun e => by rw [← e, k1] at k; cases k
        rw [if_neg a, k]
        simp
theorem walk_fire (hes : ∀ e ∈ es, 0 ≤ e.1 ∧ e.1 < e.2 ∧ e.2 < (M : Int)) (hq : q < M) (h : WR es dec q s) : ∀ f : List Int, (∀ v, v ≠ q → s.b v = true → f.getD v 0 = s.l v) → ∀ v, s.b v = true → (v : Int) ∈ burntL M es f (q : Int) := by
  induction h with
  | start =>
    intro f _ v hv
    have : v = q := by simpa [startW] using hv
    rw [this]
    exact (burntL_all ⟨by omega, by omega⟩).1.first
  | @step s i hw hn ih =>
    intro f hf v hv
    obtain ⟨h1, h2, h3⟩ := next_some hn
    obtain ⟨k1, k2, k3⟩ := ends_w h3
    have hL := Later.step (dec := dec) hn
    have hf2 : ∀ v, v ≠ q → s.b v = true → f.getD v 0 = s.l v := fun v hvq hb => by rw [hf v hvq (hL.b v hb), hL.l v hb]
    have ih := ih f hf2
    by_cases hb : s.b v = true
    · exact ih v hb
    · have hvq : v ≠ q := fun e => hb (by rw [e]; exact hw.wi.bq)
      have e1 : v = endV es s.b i ∧ (stepW es dec s i).l v = s.l v := by
        unfold stepW at hv ⊢
        split at hv
        · rename_i hd
          rw [if_pos hd]
          refine ⟨?_, rfl⟩
          apply Classical.byContradiction
          intro hne
          have hv2 : setT s.b (endV es s.b i) v = true := hv
          rw [setT_ne hne] at hv2
          exact hb hv2
        · exact absurd hv hb
      have k4 := lost_less hes hw hn
      rw [← e1.1] at k4
      have k5 := hf v hvq hv
      rw [e1.2] at k5
      have hvM : v < M := by
        obtain ⟨-, -, -, a, b⟩ := ed_facts hes h1
        rcases k3 with ⟨e, -⟩ | ⟨e, -⟩ <;> omega
      obtain ⟨hB, hno⟩ := burntL_all (M := M) (es := es) (d := f) (q := (q : Int)) ⟨by omega, by omega⟩
      apply Classical.byContradiction
      intro hnb
      have k6 : heat (fun x => s.b x.toNat) v es ≤ heat (inL (burntL M es f (q : Int))) v es := by
        have e2 : heat (fun x => s.b x.toNat) v es = heat (fun x => s.b x.toNat && decide (0 ≤ x)) v es := heat_congr v es fun e he => by
          have := hes e he
          simp [this.1, show 0 ≤ e.2 by omega]
        rw [e2]
        refine heat_mono (fun y hy => ?_) v es
        simp only [Bool.and_eq_true, decide_eq_true_eq] at hy
        have := ih y.toNat hy.1
        rw [show ((y.toNat : Nat) : Int) = y by omega] at this
        simpa [inL] using this
      have k7 := nextV_no hno v hvM
      have k8 := catchV_iff.2 ⟨show f.getD v 0 < heat (inL (burntL M es f (q : Int))) v es by omega, hnb⟩
      rw [k7] at k8
      cases k8
theorem tree_burns (T : List Nat) (hd : ∀ i v x, dec i v x = decide (i ∈ T)) (hT : ∀ p : Nat → Bool, p q = true → (∃ v, v < M ∧ p v = false) → ∃ i ∈ T, i < es.length ∧ p (eA es i) ≠ p (eB es i)) : ∀ v, v < M → (endW es dec q).b v = true := by
  have inv : ∀ s, WR es dec q s → ∀ j ∈ T, s.t j = true → s.b (eA es j) = s.b (eB es j) := fun s h => by
    induction h with
    | start => exact fun j _ h => by cases h
    | @step s i hw hn ih =>
      obtain ⟨h1, h2, h3⟩ := next_some hn
      obtain ⟨k1, k2, k3⟩ := ends_w h3
      intro j hj ht
      rw [step_t] at ht
      unfold stepW
      by_cases e : j = i
      · subst e
        rw [if_pos (by rw [hd]; exact decide_eq_true hj)]
        show setT s.b (endV es s.b j) (eA es j) = setT s.b (endV es s.b j) (eB es j)
        rcases k3 with ⟨e1, e2⟩ | ⟨e1, e2⟩
        · rw [e1, setT_self, ← e2, setT_up k2]
        · rw [e1, setT_self, ← e2, setT_up k2]
      · rw [setT_ne e] at ht
        have ih := ih j hj ht
        have one := hw.wi.one j ht
        have b1 : s.b (eA es j) = true ∧ s.b (eB es j) = true := by
          rcases one with k | k
          · exact ⟨k, by rw [← ih]; exact k⟩
          · exact ⟨by rw [ih]; exact k, k⟩
        split
        · show setT s.b _ (eA es j) = setT s.b _ (eB es j)
          rw [setT_up b1.1, setT_up b1.2]
        · exact ih
  intro v hv
  apply Classical.byContradiction
  intro hn
  have hw : WR es dec q (endW es dec q) := WR.fin
  obtain ⟨i, hi, hl, hne⟩ := hT (endW es dec q).b hw.wi.bq ⟨v, hv, by simpa using hn⟩
  cases ht : (endW es dec q).t i with
  | true => exact hne (inv _ hw i hi ht)
  | false => exact hne (next_none end_none i hl ht)
end
end Go.Proofs.Ytdpojcgeblbfeaa

/- Spanning trees and parking functions: there and back. -/
namespace Go.Proofs.Ytdpojcgeblbfeaa
open Go.RowKit

def decF (f : List Int) (_ v : Nat) (x : Int) : Bool := x == f.getD v 0
def decT (T : List Nat) (i _ : Nat) (_ : Int) : Bool := decide (i ∈ T)
section
variable {M q : Nat} {es : List (Int × Int)} {dec : Nat → Nat → Int → Bool} {s : WSt} {i : Nat} {f : List Int} {T : List Nat}
theorem endV_lt (hes : ∀ e ∈ es, 0 ≤ e.1 ∧ e.1 < e.2 ∧ e.2 < (M : Int)) (hn : nextE es s = some i) : endV es s.b i < M := by
  obtain ⟨h1, h2, h3⟩ := next_some hn
  obtain ⟨-, -, -, a, b⟩ := ed_facts hes h1
  rcases (ends_w h3).2.2 with ⟨e, -⟩ | ⟨e, -⟩ <;> omega
theorem endV_q (h : WR es dec q s) (hn : nextE es s = some i) : endV es s.b i ≠ q := fun e => by
  obtain ⟨h1, h2, h3⟩ := next_some hn
  have := (ends_w h3).1
  rw [e, h.wi.bq] at this
  cases this
theorem step_yes (hd : dec i (endV es s.b i) (s.l (endV es s.b i)) = true) : stepW es dec s i = ⟨setT s.b (endV es s.b i), setT s.t i, s.l, s.o ++ [i]⟩ := by unfold stepW; rw [if_pos hd]
theorem step_no (hd : dec i (endV es s.b i) (s.l (endV es s.b i)) = false) : stepW es dec s i = ⟨s.b, setT s.t i, addAt s.l (endV es s.b i) 1, s.o⟩ := by unfold stepW; rw [if_neg (by rw [hd]; decide)]
theorem park_lost (hf : ∀ v, v < M → v ≠ q → 0 ≤ f.getD v 0) (h : WR es (decF f) q s) : ∀ v, v < M → v ≠ q → (s.b v = true → s.l v = f.getD v 0) ∧ s.l v ≤ f.getD v 0 := by
  induction h with
  | start =>
    intro v hv hvq
    refine ⟨fun h => absurd (by simpa [startW] using h) hvq, hf v hv hvq⟩
  | @step s i hw hn ih =>
    intro v hv hvq
    obtain ⟨i1, i2⟩ := ih v hv hvq
    cases hd : decF f i (endV es s.b i) (s.l (endV es s.b i)) with
    | true =>
      rw [step_yes hd]
      refine ⟨fun hb => ?_, i2⟩
      by_cases e : v = endV es s.b i
      · unfold decF at hd
        rw [e]
        simpa using hd
      · have hb : setT s.b (endV es s.b i) v = true := hb
        rw [setT_ne e] at hb
        exact i1 hb
    | false =>
      rw [step_no hd]
      have k1 := (ends_w (next_some hn).2.2).1
      show (s.b v = true → addAt s.l (endV es s.b i) 1 v = f.getD v 0) ∧ addAt s.l (endV es s.b i) 1 v ≤ f.getD v 0
      unfold addAt
      by_cases e : v = endV es s.b i
      · rw [if_pos e]
        unfold decF at hd
        rw [← e] at hd k1
        have hne : s.l v ≠ f.getD v 0 := by simpa using hd
        exact ⟨fun hb => (by rw [k1] at hb; cases hb), by omega⟩
      · rw [if_neg e]
        exact ⟨i1, i2⟩
theorem park_burns (hes : ∀ e ∈ es, 0 ≤ e.1 ∧ e.1 < e.2 ∧ e.2 < (M : Int)) (hq : q < M) (hf : ∀ v, v < M → v ≠ q → 0 ≤ f.getD v 0) (hall : (burntL M es f (q : Int)).length = M) : ∀ v, v < M → (endW es (decF f) q).b v = true := by
  intro v hv
  apply Classical.byContradiction
  intro hn
  have hw : WR es (decF f) q (endW es (decF f) q) := WR.fin
  have hb := (burntL_all (M := M) (es := es) (d := f) (q := (q : Int)) ⟨by omega, by omega⟩).1
  obtain ⟨u, hu, hA, hlt⟩ := burn_meets (M := M) (es := es) (d := f) (q := (q : Int)) ⟨by omega, by omega⟩ (fun x => decide (0 ≤ x ∧ x < (M : Int)) && !(endW es (decF f) q).b x.toNat) (by simp [hw.wi.bq]) ⟨(v : Int), hb.full hall v hv, by simp [hv]; simpa using hn⟩
  have hub : (endW es (decF f) q).b u = false := by
    simp only [Bool.and_eq_true, Int.toNat_natCast, Bool.not_eq_true'] at hA
    exact hA.2
  have huq : u ≠ q := fun e => by rw [e, hw.wi.bq] at hub; cases hub
  have e : heat (fun x => !(decide (0 ≤ x ∧ x < (M : Int)) && !(endW es (decF f) q).b x.toNat)) u es = heat (fun x => (endW es (decF f) q).b x.toNat) u es := heat_congr u es fun e he => by
    have := hes e he
    have a1 : 0 ≤ e.1 ∧ e.1 < (M : Int) := by omega
    have a2 : 0 ≤ e.2 ∧ e.2 < (M : Int) := by omega
    simp [a1, a2]
  rw [e, lost_heat hes hw end_none hub] at hlt
  have := (park_lost hf hw u hu huq).2
  omega
theorem tree_back (hes : ∀ e ∈ es, 0 ≤ e.1 ∧ e.1 < e.2 ∧ e.2 < (M : Int)) (hf : ∀ v, v < M → v ≠ q → f.getD v 0 = (endW es (decT T) q).l v) : endW es (decF f) q = endW es (decT T) q := by
  refine walk_same (dec' := decF f) (dec := decT T) es.length (startW q) WR.start fun s i hw hn hl => ?_
  have hvq := endV_q hw hn
  have hvM := endV_lt hes hn
  have e : f.getD (endV es s.b i) 0 = (endW es (decT T) q).l (endV es s.b i) := hf _ hvM hvq
  unfold decF
  rw [e]
  cases hd : decT T i (endV es s.b i) (s.l (endV es s.b i)) with
  | true =>
    rw [step_yes hd] at hl
    have k := hl.l (endV es s.b i) (setT_self _ _)
    unfold endW
    rw [k]
    simp
  | false =>
    rw [step_no hd] at hl
    have k := hl.up (endV es s.b i)
    have k : addAt s.l (endV es s.b i) 1 (endV es s.b i) ≤ (endW es (decT T) q).l (endV es s.b i) := k
    rw [addAt, if_pos rfl] at k
    rw [beq_eq_false_iff_ne]
    omega
theorem park_back (hT : ∀ i, i ∈ T ↔ i ∈ (endW es (decF f) q).o) : endW es (decT T) q = endW es (decF f) q := by
  refine walk_same (dec' := decT T) (dec := decF f) es.length (startW q) WR.start fun s i hw hn hl => ?_
  have h2 := (next_some hn).2.1
  unfold decT
  cases hd : decF f i (endV es s.b i) (s.l (endV es s.b i)) with
  | true =>
    rw [step_yes hd] at hl
    exact decide_eq_true ((hT i).2 (hl.o i (by simp)))
  | false =>
    rw [step_no hd] at hl
    refine decide_eq_false fun h => ?_
    have k : i ∈ s.o := hl.no i (setT_self _ _) ((hT i).1 h)
    rw [(hw.wi.ot i k).1] at h2
    cases h2
theorem out_cut (h : WR es dec q s) (p : Nat → Bool) (hp : p q = true) : (∃ v, s.b v = true ∧ p v = false) → ∃ i ∈ s.o, p (eA es i) ≠ p (eB es i) := by
  induction h with
  | start =>
    rintro ⟨v, hv, hpv⟩
    have : v = q := by simpa [startW] using hv
    rw [this, hp] at hpv
    cases hpv
  | @step s i hw hn ih =>
    obtain ⟨h1, h2, h3⟩ := next_some hn
    obtain ⟨k1, k2, k3⟩ := ends_w h3
    rintro ⟨v, hv, hpv⟩
    cases hd : dec i (endV es s.b i) (s.l (endV es s.b i)) with
    | false =>
      rw [step_no hd] at hv ⊢
      exact ih ⟨v, hv, hpv⟩
    | true =>
      rw [step_yes hd] at hv ⊢
      have hv : setT s.b (endV es s.b i) v = true := hv
      by_cases e : v = endV es s.b i
      · cases hpo : p (othV es s.b i) with
        | false =>
          obtain ⟨j, hj, hne⟩ := ih ⟨_, k2, hpo⟩
          exact ⟨j, by simp [hj], hne⟩
        | true =>
          refine ⟨i, by simp, ?_⟩
          rw [e] at hpv
          rcases k3 with ⟨a, b⟩ | ⟨a, b⟩
          · rw [← a, ← b, hpv, hpo]
            decide
          · rw [← a, ← b, hpv, hpo]
            decide
      · rw [setT_ne e] at hv
        obtain ⟨j, hj, hne⟩ := ih ⟨v, hv, hpv⟩
        exact ⟨j, by simp [hj], hne⟩
theorem out_len (hes : ∀ e ∈ es, 0 ≤ e.1 ∧ e.1 < e.2 ∧ e.2 < (M : Int)) (hq : q < M) (h : WR es dec q s) : ((List.range M).filter s.b).length = s.o.length + 1 := by
  have key : ∀ (b : Nat → Bool) (v : Nat), b v = false → ∀ n, ((List.range n).filter (setT b v)).length = ((List.range n).filter b).length + if v < n then 1 else 0 := fun b v hb n => by
    induction n with
    | zero => simp
    | succ n ih =>
      rw [List.range_succ, List.filter_append, List.filter_append, List.length_append, List.length_append, ih]
      by_cases e : n = v
      · subst e
        simp [setT_self, hb]
      · rw [List.filter_cons, List.filter_cons, setT_ne e]
        simp only [List.filter_nil]
        have : (v < n + 1) = (v < n) := by apply propext; omega
        simp only [this]
        omega
  induction h with
  | start =>
    have e : (startW q).b = setT (fun _ => false) q := by
      funext v
      simp [startW, setT]
    rw [e, key _ _ rfl, if_pos hq]
    simp [startW]
  | @step s i hw hn ih =>
    have k1 := (ends_w (next_some hn).2.2).1
    cases hd : dec i (endV es s.b i) (s.l (endV es s.b i)) with
    | false =>
      rw [step_no hd]
      exact ih
    | true =>
      rw [step_yes hd]
      show ((List.range M).filter (setT s.b (endV es s.b i))).length = (s.o ++ [i]).length + 1
      rw [key _ _ k1, if_pos (endV_lt hes hn), ih, List.length_append]
      rfl
theorem out_all (hes : ∀ e ∈ es, 0 ≤ e.1 ∧ e.1 < e.2 ∧ e.2 < (M : Int)) (hq : q < M) (h : WR es dec q s) (hb : ∀ v, v < M → s.b v = true) : s.o.length + 1 = M := by
  rw [← out_len hes hq h, List.filter_eq_self.2 fun v hv => hb v (List.mem_range.1 hv), List.length_range]
theorem out_sub (h : WR es (decT T) q s) : ∀ i, i ∈ s.o → i ∈ T := by
  induction h with
  | start => exact fun i h => by cases h
  | @step s i hw hn ih =>
    cases hd : decT T i (endV es s.b i) (s.l (endV es s.b i)) with
    | false =>
      rw [step_no hd]
      exact ih
    | true =>
      rw [step_yes hd]
      intro j hj
      rcases List.mem_append.1 hj with hj | hj
      · exact ih j hj
      · rw [List.mem_singleton.1 hj]
        unfold decT at hd
        simpa using hd
theorem nodup_all : ∀ (l m : List Nat), l.Nodup → (∀ x ∈ l, x ∈ m) → m.length ≤ l.length → ∀ x ∈ m, x ∈ l := fun l m hd hs hl x hx => by
  apply Classical.byContradiction
  intro hn
  have : ∀ (l m : List Nat), l.Nodup → (∀ x ∈ l, x ∈ m) → l.length ≤ m.length := fun l => by
    induction l with
    | nil => exact fun _ _ _ => Nat.zero_le _
    | cons a l ih =>
      intro m hd hs
      rw [List.nodup_cons] at hd
      have ha : a ∈ m := hs a (by simp)
      have h1 := ih (m.erase a) hd.2 fun x hx => (List.mem_erase_of_ne (by rintro rfl; exact hd.1 hx)).2 (hs x (by simp [hx]))
      have h2 := List.length_erase_of_mem ha
      have h3 := List.length_pos_of_mem ha
      rw [List.length_cons]
      omega
  have h1 := this (x :: l) m (List.nodup_cons.2 ⟨hn, hd⟩) fun y hy => by
    rcases List.mem_cons.1 hy with rfl | hy
    · exact hx
    · exact hs y hy
  rw [List.length_cons] at h1
  omega
theorem tree_out (hes : ∀ e ∈ es, 0 ≤ e.1 ∧ e.1 < e.2 ∧ e.2 < (M : Int)) (hq : q < M) (hT : T.length + 1 = M) (hb : ∀ v, v < M → (endW es (decT T) q).b v = true) : ∀ i, i ∈ T ↔ i ∈ (endW es (decT T) q).o := by
  have hw : WR es (decT T) q (endW es (decT T) q) := WR.fin
  have h1 := out_all hes hq hw hb
  exact fun i => ⟨fun h => nodup_all _ _ hw.wi.nd (out_sub hw) (by omega) i h, out_sub hw i⟩
end
end Go.Proofs.Ytdpojcgeblbfeaa
