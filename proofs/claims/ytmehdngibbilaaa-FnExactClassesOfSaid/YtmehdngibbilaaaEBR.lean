/- One text out of several: GrpN GrpO GrpQ GrpR GrpS GrpT GrpU GrpV. -/
import Derived.Test.YtmehdngibbilaaaEBQ
import Derived.Test.YtmehdngibbilaaaEBA
import Derived.Test.YtmehdngibbilaaaEBO
import Derived.Test.YtmehdngibbilaaaEBI
import Derived.Test.YtmehdngibbilaaaEBD
import Derived.Test.YtmehdngibbilaaaEBE
/- Lists in order: the specification's l09Less; sorting by insertion from the right; what is sorted and has given members is one list. -/
namespace Go.Proofs.Ytmehdngibbilaaa
open Go.RowKit

def lessL : List Int → List Int → Bool
  | x :: a, y :: b => if x = y then lessL a b else decide (x < y)
  | _, _ => false
theorem lessL_irrefl : ∀ a, lessL a a = false
  | [] => rfl
  | x :: a => by rw [lessL, if_pos rfl]; exact lessL_irrefl a
theorem lessL_trans : ∀ {a b c : List Int}, lessL a b = true → lessL b c = true → lessL a c = true
  | x :: a, y :: b, z :: c, h1, h2 => by
    rw [lessL] at h1 h2 ⊢
    by_cases e1 : x = y
    · subst e1
      by_cases e2 : x = z
      · subst e2
        rw [if_pos rfl] at h1 h2 ⊢
        exact lessL_trans h1 h2
      · rw [if_neg e2] at h2 ⊢
        exact h2
    · rw [if_neg e1, decide_eq_true_eq] at h1
      by_cases e2 : y = z
      · subst e2
        rw [if_neg e1, decide_eq_true_eq]
        exact h1
      · rw [if_neg e2, decide_eq_true_eq] at h2
        rw [if_neg (by omega), decide_eq_true_eq]
        omega
  | x :: a, y :: b, [], h1, h2 => by simp [lessL] at h2
  | x :: a, [], c, h1, h2 => by simp [lessL] at h1
  | [], b, c, h1, h2 => by simp [lessL] at h1
theorem lessL_total : ∀ {a b : List Int}, a.length = b.length → lessL a b = false → a = b ∨ lessL b a = true
  | [], [], _, _ => .inl rfl
  | x :: a, y :: b, hl, h => by
    rw [lessL] at h ⊢
    by_cases e : x = y
    · subst e
      rw [if_pos rfl] at h ⊢
      rcases lessL_total (by simpa using hl) h with g | g
      · exact .inl (by rw [g])
      · exact .inr g
    · rw [if_neg e, decide_eq_false_iff_not] at h
      rw [if_neg (fun g => e g.symm), decide_eq_true_eq]
      exact .inr (by omega)
  | [], _ :: _, hl, _ => by simp at hl
  | _ :: _, [], hl, _ => by simp at hl
theorem lessL_asymm {a b : List Int} (h : lessL a b = true) : lessL b a = false := by
  cases g : lessL b a with
  | false => rfl
  | true => have := lessL_trans h g; rw [lessL_irrefl] at this; cases this
theorem lessL_step {xs ys : List Int} {k : Nat} {x y : Int} (hx : xs[k]? = some x) (hy : ys[k]? = some y) : lessL (xs.drop k) (ys.drop k) = if x = y then lessL (xs.drop (k + 1)) (ys.drop (k + 1)) else decide (x < y) := by
  obtain ⟨h1, rfl⟩ := List.getElem?_eq_some_iff.1 hx
  obtain ⟨h2, rfl⟩ := List.getElem?_eq_some_iff.1 hy
  rw [List.drop_eq_getElem_cons h1, List.drop_eq_getElem_cons h2, lessL]
/-! ### insertion from the right -/
def posL (x : List Int) (L : List (List Int)) : Nat → Nat
  | 0 => 0
  | k + 1 => if lessL x (L.getD k []) = true then posL x L k else k + 1
theorem posL_le (x : List Int) (L : List (List Int)) : ∀ k, posL x L k ≤ k
  | 0 => Nat.le_refl _
  | k + 1 => by
    rw [posL]
    split
    · exact Nat.le_succ_of_le (posL_le x L k)
    · exact Nat.le_refl _
def insL (x : List Int) (L : List (List Int)) : List (List Int) := L.take (posL x L L.length) ++ x :: L.drop (posL x L L.length)
theorem insL_len (x : List Int) (L : List (List Int)) : (insL x L).length = L.length + 1 := by
  have := posL_le x L L.length
  simp [insL]
  omega
theorem insL_mem {x y : List Int} {L : List (List Int)} : y ∈ insL x L ↔ y = x ∨ y ∈ L := by
  unfold insL
  rw [List.mem_append, List.mem_cons]
  constructor
  · rintro (h | h | h)
    · exact .inr (List.mem_of_mem_take h)
    · exact .inl h
    · exact .inr (List.mem_of_mem_drop h)
  · rintro (h | h)
    · exact .inr (.inl h)
    · rw [← List.take_append_drop (posL x L L.length) L, List.mem_append] at h
      rcases h with h | h
      · exact .inl h
      · exact .inr (.inr h)
theorem posL_behind {x : List Int} {L : List (List Int)} : ∀ {k j : Nat}, posL x L k ≤ j → j < k → lessL x (L.getD j []) = true
  | 0, j, _, h => by omega
  | k + 1, j, h1, h2 => by
    rw [posL] at h1
    split at h1
    · next h =>
      by_cases e : j = k
      · rw [e]; exact h
      · exact posL_behind h1 (by omega)
    · omega
theorem posL_ahead {x : List Int} {L : List (List Int)} : ∀ {k : Nat}, 0 < posL x L k → lessL x (L.getD (posL x L k - 1) []) = false
  | 0, h => by simp [posL] at h
  | k + 1, h => by
    rw [posL] at h ⊢
    split
    · next g => rw [if_pos g] at h; exact posL_ahead h
    · next g => simpa using g
theorem insL_sorted {x : List Int} {L : List (List Int)} (h : L.Pairwise fun a b => lessL a b = true) (hx : ¬ x ∈ L) (hl : ∀ y ∈ L, y.length = x.length) : (insL x L).Pairwise fun a b => lessL a b = true := by
  have hp := posL_le x L L.length
  have hs : (L.take (posL x L L.length) ++ L.drop (posL x L L.length)).Pairwise fun a b => lessL a b = true := by rw [List.take_append_drop]; exact h
  rw [List.pairwise_append] at hs
  obtain ⟨s1, s2, s3⟩ := hs
  unfold insL
  rw [List.pairwise_append, List.pairwise_cons]
  have hb : ∀ b ∈ L.drop (posL x L L.length), lessL x b = true := fun b hb => by
    obtain ⟨i, hi, rfl⟩ := List.getElem_of_mem hb
    rw [List.getElem_drop]
    have hi2 : posL x L L.length + i < L.length := by simp at hi; omega
    have := posL_behind (x := x) (L := L) (k := L.length) (j := posL x L L.length + i) (by omega) hi2
    rwa [List.getD, List.getElem?_eq_getElem hi2, Option.getD_some] at this
  have ha : ∀ a ∈ L.take (posL x L L.length), lessL a x = true := fun a ha => by
    obtain ⟨i, hi, rfl⟩ := List.getElem_of_mem ha
    rw [List.getElem_take]
    have hi2 : i < posL x L L.length := by simp at hi; omega
    have h0 := posL_ahead (x := x) (L := L) (k := L.length) (by omega)
    have hj : posL x L L.length - 1 < L.length := by omega
    rw [List.getD, List.getElem?_eq_getElem hj, Option.getD_some] at h0
    have hlast : lessL (L[posL x L L.length - 1]) x = true := by
      rcases lessL_total (by rw [hl _ (List.getElem_mem hj)]) h0 with e | e
      · exact absurd (e ▸ List.getElem_mem hj) hx
      · exact e
    by_cases e : i = posL x L L.length - 1
    · have : L[i]'(by omega) = L[posL x L L.length - 1] := by congr 1
      rw [this]
      exact hlast
    · exact lessL_trans (List.pairwise_iff_getElem.1 h i _ (by omega) hj (by omega)) hlast
  refine ⟨s1, ⟨hb, s2⟩, fun a h1 b h2 => ?_⟩
  rw [List.mem_cons] at h2
  rcases h2 with rfl | h2
  · exact ha a h1
  · exact s3 a h1 b h2
def sortF (acc : List (List Int)) (L : List (List Int)) : List (List Int) := L.foldl (fun acc x => insL x acc) acc
def sortL (L : List (List Int)) : List (List Int) := sortF [] L
theorem sortF_mem : ∀ {L acc : List (List Int)} {y : List Int}, y ∈ sortF acc L ↔ y ∈ acc ∨ y ∈ L
  | [], acc, y => by simp [sortF]
  | x :: L, acc, y => by
    show y ∈ sortF (insL x acc) L ↔ _
    rw [sortF_mem, insL_mem, List.mem_cons]
    constructor
    · rintro ((h | h) | h)
      · exact .inr (.inl h)
      · exact .inl h
      · exact .inr (.inr h)
    · rintro (h | h | h)
      · exact .inl (.inr h)
      · exact .inl (.inl h)
      · exact .inr h
theorem sortF_len : ∀ (L acc : List (List Int)), (sortF acc L).length = acc.length + L.length
  | [], acc => by simp [sortF]
  | x :: L, acc => by
    show (sortF (insL x acc) L).length = _
    rw [sortF_len, insL_len, List.length_cons]
    omega
theorem sortF_sorted {n : Nat} : ∀ {L acc : List (List Int)}, acc.Pairwise (fun a b => lessL a b = true) → (∀ y ∈ acc, y.length = n) → (∀ y ∈ L, y.length = n) → L.Nodup → (∀ y ∈ L, ¬ y ∈ acc) → (sortF acc L).Pairwise fun a b => lessL a b = true
  | [], acc, h, _, _, _, _ => h
  | x :: L, acc, h, ha, hl, hn, hd => by
    rw [List.nodup_cons] at hn
    have hx := hl x (by simp)
    exact sortF_sorted (L := L) (insL_sorted h (hd x (by simp)) fun y hy => by rw [ha y hy, hx]) (fun y hy => by
      rcases insL_mem.1 hy with rfl | hy
      · exact hx
      · exact ha y hy) (fun y hy => hl y (by simp [hy])) hn.2 (fun y hy hc => by
      rcases insL_mem.1 hc with rfl | hc
      · exact hn.1 hy
      · exact hd y (by simp [hy]) hc)
theorem sortL_mem {L : List (List Int)} {y : List Int} : y ∈ sortL L ↔ y ∈ L := by rw [sortL, sortF_mem]; simp
theorem sortL_len (L : List (List Int)) : (sortL L).length = L.length := by rw [sortL, sortF_len]; simp
theorem sortL_sorted {n : Nat} {L : List (List Int)} (hl : ∀ y ∈ L, y.length = n) (hn : L.Nodup) : (sortL L).Pairwise fun a b => lessL a b = true := sortF_sorted (n := n) (by simp) (by simp) hl hn (by simp)
theorem sortF_snoc (acc L : List (List Int)) (x : List Int) : sortF acc (L ++ [x]) = insL x (sortF acc L) := by simp [sortF, List.foldl_append]
theorem sorted_same : ∀ {L K : List (List Int)}, L.Pairwise (fun a b => lessL a b = true) → K.Pairwise (fun a b => lessL a b = true) → (∀ x, x ∈ L ↔ x ∈ K) → L = K
  | [], K, _, _, h => by
    cases K with
    | nil => rfl
    | cons y K => exact absurd ((h y).2 (by simp)) (by simp)
  | x :: L, [], _, _, h => absurd ((h x).1 (by simp)) (by simp)
  | x :: L, y :: K, h1, h2, h => by
    rw [List.pairwise_cons] at h1 h2
    have e : x = y := by
      have hx := (h x).1 (by simp)
      have hy := (h y).2 (by simp)
      rw [List.mem_cons] at hx hy
      rcases hx with hx | hx
      · exact hx
      · rcases hy with hy | hy
        · exact hy.symm
        · have a1 := h2.1 x hx
          have a2 := h1.1 y hy
          rw [lessL_asymm a1] at a2
          cases a2
    subst e
    rw [sorted_same h1.2 h2.2 fun z => ?_]
    have hz := h z
    rw [List.mem_cons, List.mem_cons] at hz
    constructor
    · intro hm
      rcases hz.1 (.inr hm) with g | g
      · subst g
        have := h1.1 z hm
        rw [lessL_irrefl] at this
        cases this
      · exact g
    · intro hm
      rcases hz.2 (.inr hm) with g | g
      · subst g
        have := h2.1 z hm
        rw [lessL_irrefl] at this
        cases this
      · exact g
set_option maxHeartbeats 1000000 in
theorem l09Less_any (A C : Option Addr) (ca cc : Nat) (xs ys : List Int) (w : World) (hn : xs.length ≤ 1048576) (hl : xs.length = ys.length) (h1 : IntS w w.heap.size A xs) (h2 : IntS w w.heap.size C ys) :
    Calls Try.prog 135 #[.slice A xs.length ca, .slice C ys.length cc] w fun e w' => e = .returned (.bool (lessL xs ys)) ∧ w' = w := by
  have HS := Lib.hid h1
  have HT := Lib.hid h2
  clear h1 h2
  go_enter Try.func135, Try.ntmps135
  go_wp2
  go_loop [5, 6, 9] (fun _ _ i => ∃ j : Nat, j ≤ xs.length ∧ i = .int .i64 j ∧ lessL xs ys = lessL (xs.drop j) (ys.drop j)) (fun _ _ i => xs.length - (intOf i).toNat)
  case atStart => exact ⟨0, Nat.zero_le _, rfl, rfl⟩
  case round =>
    obtain ⟨j, hj, rfl, hq⟩ := hrel
    by_cases hlt : j < xs.length
    · obtain ⟨b1, o1, x, rfl, hb1, he, hc0⟩ := HS.out.at_ hlt
      obtain ⟨b2, o2, y, rfl, hb2, hf, hc1⟩ := HT.out.at_ (k := j) (by omega)
      have hj0 : (0 : Int) ≤ (j : Int) := Int.natCast_nonneg _
      have hj1 : (j : Int) < (xs.length : Int) := by omega
      have hj2 : (j : Int) < (ys.length : Int) := by omega
      rw [lessL_step he hf] at hq
      have HQ := Lib.hid hq
      clear he hf hq
      by_cases hxy : x = y
      · rw [if_pos hxy] at HQ
        have t1 : (x != y) = false := by simp [hxy]
        clear hxy
        go_wp2
        exact ⟨⟨j + 1, by omega, by go_num, HQ.out⟩, by simp [intOf]; omega⟩
      · rw [if_neg hxy] at HQ
        have t1 : (x != y) = true := by simp [hxy]
        clear hxy
        go_wp2
        go_ret
        exact ⟨ret_boolE HQ.out.symm, rfl⟩
    · have HJ := Lib.hid (show lessL xs ys = false by
        rw [hq, List.drop_eq_nil_of_le (by omega), List.drop_eq_nil_of_le (by omega)]
        rfl)
      clear hq
      go_wp2
      go_ret
      exact ⟨ret_boolE HJ.out.symm, rfl⟩
end Go.Proofs.Ytmehdngibbilaaa

/- The specification's l09Sort: rows are put in order by insertion; the rows' numbers stay where they lie. -/
namespace Go.Proofs.Ytmehdngibbilaaa
open Go.RowKit

def Hole (us : List Value) (n q : Nat) (cs : Array Value) : Prop := (∀ j, j < q → cs[j]? = us[j]?) ∧ ∀ j, q ≤ j → j < n → cs[j + 1]? = us[j]?
section
variable {us : List Value} {n q : Nat} {cs : Array Value} {u : Value}
theorem Hole.start (hl : us.length = n) (h : cs.toList.take (n + 1) = us ++ [u]) : Hole us n n cs := by
  refine ⟨fun j hj => ?_, fun j h1 h2 => by omega⟩
  have e : (cs.toList.take (n + 1))[j]? = (us ++ [u])[j]? := by rw [h]
  rw [List.getElem?_take_of_lt (by omega), List.getElem?_append_left (by omega), Array.getElem?_toList] at e
  exact e
theorem Hole.shift (h : Hole us n (q + 1) cs) (hq : q < n) (hs : n < cs.size) (hu : us[q]? = some u) : Hole us n q (cs.setIfInBounds (q + 1) u) := by
  refine ⟨fun j hj => ?_, fun j h1 h2 => ?_⟩
  · rw [Array.getElem?_setIfInBounds, if_neg (by omega)]
    exact h.1 j (by omega)
  · rw [Array.getElem?_setIfInBounds]
    by_cases e : q = j
    · subst e
      rw [if_pos rfl, if_pos (by omega), hu]
    · rw [if_neg (by omega)]
      exact h.2 j (by omega) h2
theorem Hole.fill (h : Hole us n q cs) (hl : us.length = n) (hq : q ≤ n) (hs : n < cs.size) (u : Value) : (cs.setIfInBounds q u).toList.take (n + 1) = us.take q ++ u :: us.drop q := by
  apply List.ext_getElem?
  intro i
  by_cases hi : i < n + 1
  · rw [List.getElem?_take_of_lt hi, Array.getElem?_toList, Array.getElem?_setIfInBounds]
    by_cases e : q = i
    · subst e
      rw [if_pos rfl, if_pos (by omega), List.getElem?_append_right (by simp; omega)]
      simp [hl, Nat.min_eq_left hq]
    · rw [if_neg e]
      by_cases c : i < q
      · rw [h.1 i c, List.getElem?_append_left (by simp; omega), List.getElem?_take_of_lt c]
      · obtain ⟨j, rfl⟩ : ∃ j, i = j + 1 := ⟨i - 1, by omega⟩
        rw [h.2 j (by omega) (by omega), List.getElem?_append_right (by simp; omega), List.length_take, Nat.min_eq_left (by omega), show j + 1 - q = (j - q) + 1 by omega, List.getElem?_cons_succ, List.getElem?_drop]
        congr 1
        omega
  · rw [List.getElem?_eq_none (by simp; omega), List.getElem?_eq_none (by simp; omega)]
end
theorem Hole.own {wx : World} {g cap base : Nat} {t : TypeId} {us : List Value} {k q : Nat} {cs : Array Value} (hB : Blk wx g t cs) (hh : Hole us k q cs) (hl : us.length = k) (hq : q ≤ k) (hs : cs.size = cap * 1) (hle : k + 1 ≤ cap) (hmax : cap ≤ maxLen) (hbg : base ≤ g) (u : Value) :
    (wx.setCell ⟨g, q, none⟩ u).ownsRow base t 1 (.slice (some ⟨g, 0, none⟩) (k + 1) cap) (k + 1) (us.take q ++ u :: us.drop q) := by
  refine ⟨by simp; omega, .inr ⟨g, cap, cs.setIfInBounds q u, rfl, hbg, hB.set_ q u, hle, hmax, by simp; omega, ?_⟩⟩
  rw [Nat.mul_one]
  exact hh.fill hl hq (by omega) u
def RowsV (w : World) (us : List Value) (L : List (List Int)) : Prop := us.length = L.length ∧ ∀ (i : Nat) (r : List Int), L[i]? = some r → ∃ (A : Option Addr) (c : Nat), us[i]? = some (.slice A r.length c) ∧ IntS w w.heap.size A r
theorem RowsV.nil (w : World) : RowsV w [] [] := ⟨rfl, fun i r h => by simp at h⟩
theorem RowsV.ins {w : World} {us : List Value} {L : List (List Int)} {p c : Nat} {A : Option Addr} {x : List Int} (h : RowsV w us L) (hp : p ≤ L.length) (hx : IntS w w.heap.size A x) : RowsV w (us.take p ++ .slice A x.length c :: us.drop p) (L.take p ++ x :: L.drop p) := by
  obtain ⟨h1, h2⟩ := h
  refine ⟨by simp; omega, fun i r hr => ?_⟩
  by_cases hi : i < p
  · rw [List.getElem?_append_left (by simp; omega), List.getElem?_take_of_lt hi] at hr ⊢
    exact h2 i r hr
  · rw [List.getElem?_append_right (by simp; omega), List.length_take, Nat.min_eq_left (by omega)] at hr ⊢
    by_cases e : i = p
    · subst e
      rw [Nat.sub_self, List.getElem?_cons_zero] at hr ⊢
      injection hr with hr
      subst hr
      exact ⟨A, c, rfl, hx⟩
    · rw [show i - p = (i - p - 1) + 1 by omega, List.getElem?_cons_succ, List.getElem?_drop] at hr ⊢
      exact h2 _ r hr
def GivesSort (w : World) (L : List (List Int)) (e : Ending) (w' : World) : Prop :=
  ∃ (v : Value) (us : List Value), e = .returned v ∧ w'.ownsRow w.heap.size 27 1 v L.length us ∧ RowsV w us L ∧ Below w.heap.size w w'
set_option maxRecDepth 100000 in
set_option maxHeartbeats 4000000 in
theorem l09Sort_any (A : Option Addr) (c m : Nat) (L : List (List Int)) (w : World) (hn : L.length ≤ 1048576) (hm : m ≤ 1048576) (hl : ∀ r ∈ L, r.length = m) (hS : IntSS w w.heap.size A L) :
    Calls Try.prog 93 #[.slice A L.length c] w (GivesSort w (sortL L)) := by
  obtain ⟨i1, hj, hy0, hy1, hy2⟩ := info_parts rowsInfo
  have HS := Lib.hid hS
  have HL := Lib.hid hl
  have HSF := Lib.hid (fun (k : Nat) (x : List Int) (hx : L[k]? = some x) => (show sortF [] (L.take (k + 1)) = insL x (sortF [] (L.take k)) from by rw [List.take_add_one, hx]; exact sortF_snoc _ _ _))
  have HSK := Lib.hid (fun (k : Nat) (hk : k ≤ L.length) => (show (sortF [] (L.take k)).length = k from by rw [sortF_len]; simp; omega))
  have HSM := Lib.hid (fun (k : Nat) (r : List Int) (hr : r ∈ sortF [] (L.take k)) => (show r.length = m from by
    rcases sortF_mem.1 hr with h | h
    · cases h
    · exact hl r (List.mem_of_mem_take h)))
  have HSE := Lib.hid (show sortF [] (L.take L.length) = sortL L by rw [List.take_of_length_le (Nat.le_refl _)]; rfl)
  have HSLL := Lib.hid (sortL_len L)
  obtain ⟨S, hSd⟩ : ∃ S : Nat → List (List Int), S = fun k => sortF [] (L.take k) := ⟨_, rfl⟩
  have e0 : ∀ k, sortF [] (L.take k) = S k := fun k => by rw [hSd]
  simp only [e0] at HSF HSK HSM HSE
  have HS0 := Lib.hid (show S 0 = [] by rw [← e0]; rfl)
  clear hS hl hSd e0
  go_enter Try.func93, Try.ntmps93
  go_wp2
  go_loopw [3, 5, 6, 10] (fun v _ _ i wr => ∃ (k : Nat) (us : List Value), k ≤ L.length ∧ i = .int .i64 k ∧ wr.ownsRow w.heap.size 27 1 v k us ∧ RowsV w us (S k) ∧ Below w.heap.size w wr) (fun _ _ _ i _ => L.length - (intOf i).toNat)
  case atStart => exact ⟨0, [], Nat.zero_le _, rfl, own_emptyF w _ (Nat.le_refl _) _, by rw [HS0.out]; exact RowsV.nil w, (Below.refl _ _).alloc (Nat.le_refl _) _⟩
  case round =>
    obtain ⟨k, us, hk, rfl, hown, hrv, hb⟩ := hrel
    have HO := Lib.hid hown
    have HR := Lib.hid hrv
    have HB := Lib.hid hb
    have hbs := hb.size
    clear hown hrv hb
    have hk0 : (0 : Int) ≤ (k : Int) := Int.natCast_nonneg _
    by_cases hlt : k < L.length
    · have hk1 : (k : Int) < (L.length : Int) := by omega
      obtain ⟨bL, oL, x, Ai, ci, rfl, hbL, hx, hcell, hints⟩ := HS.out.at_ hlt
      have hxl := HL.out x (List.mem_of_getElem? hx)
      have hcl : wr.cell? ⟨bL, oL + k, none⟩ = some (.slice Ai x.length ci) := (HB.out.cell (p := ⟨bL, oL + k, none⟩) hbL).trans hcell
      have HF := Lib.hid (HSF.out k x hx)
      have HI := Lib.hid hints
      have HXL := Lib.hid hxl
      have hskl := HSK.out k hk
      clear hcell hints hx hxl
      go_wp2_with (at_builtin; refine wpList_append_own _ rfl _ _ 30 rfl w.heap.size 27 i1 (.slice none 0 0) 1 24 Try.underlying30 hj hy0 hy1 hy2 rfl (by decide) _ _ _ rfl (HO.out.alloc _) ⟨wr.heap.size, 0, none⟩ 1 1 [.slice none 0 0] rfl rfl ?c1 ?c2 ?c3 ?c4 ?c5 ?_)
      case c1 => exact one_cell _ _ rfl _ _
      case c2 => simp [Value.oneCell']
      case c3 => unfold maxLen; omega
      case c4 => omega
      case c5 => simp; omega
      intro v' w5 hown' hgrow _
      have HB5 := Lib.hid ((HB.out.alloc hbs _).grown hgrow (by simp; omega) (fun q hq => (HO.out.lt q hq).1))
      obtain ⟨hl5, h5⟩ := hown'
      rcases h5 with ⟨_, h0⟩ | ⟨g, cap, cur, rfl, hbg, hg, hle, hmax, hcs, htk⟩
      · omega
      have husl : us.length = k := by have := HR.out.1; omega
      rw [Nat.mul_one] at htk
      have HH0 := Lib.hid (Hole.start husl htk)
      have HG := Lib.hid (show Blk w5 g 27 cur from hg)
      have hcs2 : k < cur.size := by omega
      have hw5 : w.heap.size ≤ w5.heap.size := HB5.out.size
      have hg5 := HG.out.lt
      have hmx : cap ≤ maxLen := hmax
      have hki : IntKind.i64.wrap (((k + 1 : Nat) : Int) - 1) = (k : Int) := by rw [IntKind.wrap_i64]; omega
      have hki2 : IntKind.i64.wrap ((k : Int) + 1 - 1) = (k : Int) := by rw [IntKind.wrap_i64]; omega
      have HMV0 := Lib.hid (Moves.refl w5 g (g + 1))
      have HUS := Lib.hid husl
      clear hgrow hl5 htk hg HO husl
      go_wp2
      go_loopw [6] (fun kv wx => ∃ (q : Nat) (cs : Array Value), q ≤ k ∧ kv = .int .i64 q ∧ Blk wx g 27 cs ∧ cs.size = cur.size ∧ Hole us k q cs ∧ Moves g (g + 1) w5 wx ∧ posL x (S k) k = posL x (S k) q) (fun kv _ => (intOf kv).toNat)
      case atStart => exact ⟨k, cur, Nat.le_refl _, rfl, HG.out, rfl, HH0.out, HMV0.out, rfl⟩
      case round =>
        clear HG HH0 HMV0
        obtain ⟨q, cs, hq, rfl, hbk, hcz, hhole, hmv, hpos⟩ := hrel
        have HG := Lib.hid hbk
        have HH := Lib.hid hhole
        have HM := Lib.hid hmv
        have HP := Lib.hid hpos
        have hq0 : (0 : Int) ≤ (q : Int) := Int.natCast_nonneg _
        have hbx : Below w.heap.size w wr := HB5.out.trans (hmv.below hbg hw5)
        have HBX := Lib.hid hbx
        have hfr := fun j => HG.out.frozen j
        have hcellj := fun j => (show wr.cell? ⟨g, j, none⟩ = cs[j]? from HG.out.cell j)
        clear hbk hhole hmv hpos hbx
        have hqk1 : (q : Int) < (k : Int) + 1 := by omega
        have hcq : wr.cell? ⟨g, q, none⟩ = some (cs[q]'(by omega)) := by rw [hcellj, Array.getElem?_eq_getElem (by omega)]
        have hfq := hfr q
        obtain ⟨zq, hzq⟩ : ∃ z, z = cs[q]'(by omega) := ⟨_, rfl⟩
        rw [← hzq] at hcq
        have HFIN := Lib.hid (fun (hp : posL x (S k) k = q) => (show (wr.setCell ⟨g, q, none⟩ (.slice Ai x.length ci)).ownsRow w.heap.size 27 1 (.slice (some ⟨g, 0, none⟩) (k + 1) cap) (k + 1) (us.take q ++ .slice Ai x.length ci :: us.drop q) ∧ RowsV w (us.take q ++ .slice Ai x.length ci :: us.drop q) (S (k + 1)) ∧ Below w.heap.size w (wr.setCell ⟨g, q, none⟩ (.slice Ai x.length ci)) from by
          refine ⟨Hole.own HG.out HH.out HUS.out hq (by omega) hle hmx hbg _, ?_, HBX.out.setCell (p := ⟨g, q, none⟩) (by simp only; omega) _⟩
          rw [HF.out, insL, hskl, hp]
          exact HR.out.ins (by omega) HI.out))
        clear hzq
        by_cases hq00 : q = 0
        · have HF2 := Lib.hid (HFIN.out (by rw [HP.out, hq00]; rfl))
          have z1 : ¬ ((0 : Int) < (q : Int)) := by omega
          clear hq00 HFIN hfr hcellj
          go_wp2
          go_roundw
          case rel => exact ⟨k + 1, _, by omega, by go_num, HF2.out.1, HF2.out.2.1, HF2.out.2.2⟩
          case measure => simp [intOf]; omega
        · have z1 : (0 : Int) < (q : Int) := by omega
          obtain ⟨p, rfl⟩ : ∃ p, q = p + 1 := ⟨q - 1, by omega⟩
          have z2 : IntKind.i64.wrap (((p + 1 : Nat) : Int) - 1) = (p : Int) := by rw [IntKind.wrap_i64]; omega
          have hpk : p < k := by omega
          have hpl : p < (S k).length := by omega
          obtain ⟨r, hr⟩ : ∃ r, (S k)[p]? = some r := ⟨_, List.getElem?_eq_getElem hpl⟩
          obtain ⟨Aj, cj, hu, hints⟩ := HR.out.2 p r hr
          have hrl := HSM.out k r (List.mem_of_getElem? hr)
          have hcp : wr.cell? ⟨g, p, none⟩ = some (.slice Aj r.length cj) := by rw [hcellj, HH.out.1 p (by omega), hu]
          have HLS := Lib.hid (l09Less_any Ai Aj ci cj x r wr (by rw [HXL.out]; exact hm) (by rw [HXL.out, hrl]) (HI.out.up_ HBX.out) (hints.up_ HBX.out))
          have hgd : (S k).getD p [] = r := by rw [List.getD, hr]; rfl
          have hpos1 : posL x (S k) (p + 1) = if lessL x r = true then posL x (S k) p else p + 1 := by rw [posL, hgd]
          have z3 : (0 : Int) ≤ (p : Int) := Int.natCast_nonneg _
          have z4 : (p : Int) < (k : Int) + 1 := by omega
          have HU := Lib.hid hu
          clear hr hints hfr hcellj hu hgd hpl hq00 hrl
          cases hless : lessL x r with
          | true =>
            rw [hless] at HLS
            rw [hless, if_pos rfl] at hpos1
            have HPP := Lib.hid (HP.out.trans hpos1)
            clear hpos1 hless HFIN
            go_wp2_with fail
            refine HLS.out.mono ?_
            rintro e wy ⟨rfl, rfl⟩
            have HB6 := Lib.hid (HG.out.set_ (p + 1) (.slice Aj r.length cj))
            have HM6 := Lib.hid (HM.out.set_ (p + 1) (.slice Aj r.length cj))
            have HH6 := Lib.hid (HH.out.shift hpk (by omega) HU.out)
            go_wp2
            go_roundw
            case rel => exact ⟨p, cs.setIfInBounds (p + 1) (.slice Aj r.length cj), by omega, by go_num, HB6.out, by simp; omega, HH6.out, HM6.out, HPP.out⟩
            case measure => simp [intOf]
          | false =>
            rw [hless] at HLS
            rw [hless, if_neg (by decide)] at hpos1
            have HF2 := Lib.hid (HFIN.out (HP.out.trans hpos1))
            clear hpos1 hless HFIN
            go_wp2_with fail
            refine HLS.out.mono ?_
            rintro e wy ⟨rfl, rfl⟩
            go_wp2
            go_roundw
            case rel => exact ⟨k + 1, _, by omega, by go_num, HF2.out.1, HF2.out.2.1, HF2.out.2.2⟩
            case measure => simp [intOf]; omega
    · have hkL : k = L.length := by omega
      have HO3 := HO.out
      have HR3 := HR.out
      subst hkL
      rw [HSE.out] at HR3
      have HRR := Lib.hid HR3
      clear HR3 hlt
      go_wp2
      go_ret
      exact ⟨_, us, rfl, by rw [HSLL.out]; exact HO3, HRR.out, HB.out⟩
end Go.Proofs.Ytmehdngibbilaaa

/- The classes of degree 0, in order: which list it is, and how long. -/
namespace Go.Proofs.Ytmehdngibbilaaa
open Go.RowKit

theorem heat_val (p : Int → Bool) (u : Nat) : ∀ es : List (Int × Int), (∀ e ∈ es, e.1 < e.2) → heat p u es ≤ endIL u es
  | [], _ => by simp [heat, endIL]
  | e :: l, h => by
    have h1 := h e (by simp)
    have ih := heat_val p u l (fun x hx => h x (by simp [hx]))
    have key : heatE p u e ≤ endI u e := by
      unfold heatE endI ind
      by_cases g1 : (u : Int) = e.1
      · rw [if_neg (show ¬ (u : Int) = e.2 by omega), if_pos (show ((e.1 == (u : Int)) || (e.2 == (u : Int))) = true by simp [g1])]
        split <;> split <;> omega
      · rw [if_neg g1]
        by_cases g2 : (u : Int) = e.2
        · rw [if_pos g2, if_pos (show ((e.1 == (u : Int)) || (e.2 == (u : Int))) = true by simp [g2])]
          split <;> split <;> omega
        · rw [if_neg g2]
          split <;> split <;> split <;> omega
    simp only [heat, endIL]
    omega
theorem endIL_le (v : Nat) : ∀ es : List (Int × Int), 0 ≤ endIL v es ∧ endIL v es ≤ es.length
  | [] => by simp [endIL]
  | e :: l => by
    have ih := endIL_le v l
    have : 0 ≤ endI v e ∧ endI v e ≤ 1 := by
      unfold endI
      split <;> omega
    rw [endIL, List.length_cons]
    omega
theorem RedN.below {M q : Nat} {es : List (Int × Int)} {x : List Int} (h : RedN M es q x) (hq : q < M) (hes : ∀ e ∈ es, 0 ≤ e.1 ∧ e.1 < e.2 ∧ e.2 < (M : Int)) (u : Nat) (hu : u < M) (huq : u ≠ q) : x.getD u 0 < endIL u es := by
  have hq2 : 0 ≤ (q : Int) ∧ (q : Int) < (M : Int) := by omega
  have hb := (burntL_all (es := es) (d := x) hq2).1.full h.all
  obtain ⟨v, hv, hA, hlt⟩ := burn_meets (d := x) (es := es) hq2 (fun y => decide (y = (u : Int))) (by
    rw [decide_eq_false_iff_not]
    omega) ⟨(u : Int), hb u hu, by simp⟩
  simp only [decide_eq_true_eq] at hA
  have hvu : v = u := by omega
  subst hvu
  exact Int.lt_of_lt_of_le hlt (heat_val _ v es fun e he => (hes e he).2.1)
def ClsP (m : Nat) (es : List (Int × Int)) (d : List Int) : Prop := RedN (m + 1) es 0 d ∧ sumN (m + 1) (gt d) = 0
section
variable {m : Nat} {es : List (Int × Int)} {L : List (List Int)} {x y : List Int}
theorem RedN.lim (hG : GrL m es) (h : RedN (m + 1) es 0 x) (u : Nat) (hu : u < m + 1) (hne : u ≠ 0) : 0 ≤ gt x u ∧ gt x u ≤ 11 := by
  have h1 := h.pos u hu hne
  have h2 := h.below (by omega) hG.ed u hu hne
  have h3 := (endIL_le u es).2
  have := hG.n12
  exact ⟨h1, by unfold gt; omega⟩
theorem ClsP.zer (hG : GrL m es) (h : ClsP m es x) : ZerL m x := by
  refine ⟨h.1.len, fun u => ?_, h.2⟩
  by_cases hu : u < m + 1
  · by_cases h0 : u = 0
    · subst h0
      have h1 := h.2
      rw [sumN_skip (gt x) (a := 0) m (Nat.zero_le m)] at h1
      have h2 := sum_lim (f := fun j => gt x (skip 0 j)) (a := 0) (b := 11) m fun j hj => h.1.lim hG _ (skip_lt hj) (skip_ne 0 j)
      have := hG.m5
      omega
    · have := h.1.lim hG u hu h0
      omega
  · rw [gt_out (by rw [h.1.len]; omega)]
    omega
def IsCls (m : Nat) (es : List (Int × Int)) (L : List (List Int)) : Prop := (L.Pairwise fun a b => lessL a b = true) ∧ ∀ x, x ∈ L ↔ ClsP m es x
open Classical in
noncomputable def clsL (m : Nat) (es : List (Int × Int)) : List (List Int) := if h : ∃ L, IsCls m es L then Classical.choose h else []
theorem IsCls.eq (h : IsCls m es L) : clsL m es = L := by
  have hx : ∃ L, IsCls m es L := ⟨L, h⟩
  rw [clsL, dif_pos hx]
  have hc := Classical.choose_spec hx
  exact sorted_same hc.1 h.1 fun z => by rw [hc.2, h.2]
theorem sink_set (hl : x.length = m + 1) : (x.set 0 (gt x 0 - sumN (m + 1) (gt x))).length = m + 1 ∧ (∀ u, u ≠ 0 → gt (x.set 0 (gt x 0 - sumN (m + 1) (gt x))) u = gt x u) ∧ sumN (m + 1) (gt (x.set 0 (gt x 0 - sumN (m + 1) (gt x)))) = 0 := by
  have hset : ∀ u, gt (x.set 0 (gt x 0 - sumN (m + 1) (gt x))) u = if u = 0 then gt x 0 - sumN (m + 1) (gt x) else gt x u := fun u => by
    unfold gt
    rw [List.getD, List.getD, List.getElem?_set]
    by_cases h0 : u = 0
    · subst h0
      rw [if_pos rfl, if_pos (by omega), if_pos rfl]
      rfl
    · rw [if_neg (fun h => h0 h.symm), if_neg h0]
      rfl
  refine ⟨by rw [List.length_set]; exact hl, fun u hu => by rw [hset, if_neg hu], ?_⟩
  have e : sumN (m + 1) (gt (x.set 0 (gt x 0 - sumN (m + 1) (gt x)))) = sumN (m + 1) fun u => gt x u + (if u = 0 then - sumN (m + 1) (gt x) else 0) := sumN_congr _ fun u _ => by
    rw [hset]
    by_cases h0 : u = 0
    · subst h0
      simp
      omega
    · simp [h0]
  rw [e, sumN_add, sumN_one (f := fun u => if u = 0 then - sumN (m + 1) (gt x) else 0) (a := 0) (m + 1) (by omega) (fun i _ hi => by simp [hi])]
  simp
  omega
theorem IsCls.len (hG : GrL m es) (hx : Gx m es) (h : IsCls m es L) : L.length = gSets m (redA 0 es) m := by
  cases m with
  | zero =>
    have h2 : IsCls 0 es [List.replicate 1 0] := ⟨by simp, fun z => by
      rw [List.mem_singleton]
      constructor
      · rintro rfl
        exact ⟨hx.none, ZerL.none.sum⟩
      · intro hz
        have h1 := hz.2
        refine ext_gt (m := 0) hz.1.len (by simp) fun u hu => ?_
        obtain rfl : u = 0 := by omega
        rw [gt_rep]
        simpa [sumN] using h1⟩
    rw [← h.eq, h2.eq, gSets_0]
    rfl
  | succ k =>
    refine red_count hG.m5 (by omega) (Nat.zero_le _) hG.n12 hG.cut hG.ed (fun z hl hz => hx.ex z hl fun u => by have := hz u; omega) (fun z hz => ?_) ?_ fun z hz hzb => ?_
    · have hc := (h.2 z).1 hz
      exact ⟨hc.1, fun u => by have := (hc.zer hG).lim u; unfold gt at this; omega⟩
    · refine List.Pairwise.imp_of_mem (fun {a b} ha hb hab => ?_) h.1
      have ca := (h.2 a).1 ha
      have cb := (h.2 b).1 hb
      apply Classical.byContradiction
      intro hne
      have e : a = b := ext_gt ca.1.len cb.1.len (at_sink (q := 0) (Nat.zero_le _) (fun u hu h0 => Classical.byContradiction fun g => hne ⟨u, hu, h0, g⟩) (ca.2.trans cb.2.symm))
      rw [e, lessL_irrefl] at hab
      cases hab
    · obtain ⟨g1, g2, g3⟩ := sink_set hz.len
      exact ⟨_, (h.2 _).2 ⟨hz.off g1 fun u _ hne => g2 u hne, g3⟩, fun u _ hne => g2 u hne⟩
end
end Go.Proofs.Ytmehdngibbilaaa

/- The specification's l09Boxes as a plain list: sorted, it is the list of the classes. -/
namespace Go.Proofs.Ytmehdngibbilaaa
open Go.RowKit

def boxD (part : List Int) : List Int := part.set 0 (-(degB (part.drop 1) (part.length - 1)))
def boxL (M : Nat) (es : List (Int × Int)) : Nat → List Int → List (List Int)
  | 0, part => if (burntL M es (boxD part) 0).length = M then [boxD part] else []
  | k + 1, part => (List.range (max 1 (valB (M : Int) es (part.length : Int)).toNat)).flatMap fun x : Nat => boxL M es k (part ++ [(x : Int)])
section
variable {m : Nat} {es : List (Int × Int)} {d part : List Int}
theorem nodup_flat {f : Nat → List (List Int)} : ∀ l : List Nat, (∀ x ∈ l, (f x).Nodup) → l.Nodup → (∀ x ∈ l, ∀ y ∈ l, x ≠ y → ∀ z, z ∈ f x → ¬ z ∈ f y) → (l.flatMap f).Nodup
  | [], _, _, _ => by simp
  | x :: l, h1, h2, h3 => by
    rw [List.nodup_cons] at h2
    rw [List.flatMap_cons, List.nodup_append]
    refine ⟨h1 x (by simp), nodup_flat l (fun y hy => h1 y (by simp [hy])) h2.2 (fun y hy z hz => h3 y (by simp [hy]) z (by simp [hz])), fun a ha b hb e => ?_⟩
    subst e
    obtain ⟨y, hy, hz⟩ := List.mem_flatMap.1 hb
    exact h3 x (by simp) y (by simp [hy]) (fun e => h2.1 (e ▸ hy)) a ha hz
structure PartL (m : Nat) (part : List Int) : Prop where
  one : 1 ≤ part.length
  len : part.length ≤ m + 1
  lim : ∀ u, 0 ≤ gt part u ∧ gt part u ≤ 12
theorem PartL.push (h : PartL m part) (hl : part.length < m + 1) {x : Nat} (hx : x ≤ 12) : PartL m (part ++ [(x : Int)]) := by
  refine ⟨by simp, by simp; omega, fun u => ?_⟩
  unfold gt
  rw [List.getD, List.getElem?_append]
  split
  · exact h.lim u
  · next hu =>
    by_cases e : u = part.length
    · subst e
      simp
      omega
    · rw [List.getElem?_eq_none (by simp; omega)]
      simp
theorem gt_push (x : Int) (u : Nat) : gt (part ++ [x]) u = if u < part.length then gt part u else if u = part.length then x else 0 := by
  unfold gt
  rw [List.getD, List.getElem?_append]
  split
  · rfl
  · next hu =>
    by_cases e : u = part.length
    · subst e
      simp
    · rw [if_neg e, List.getElem?_eq_none (by simp; omega)]
      rfl
theorem drop_deg (h5 : m ≤ 5) (h : PartL m part) (hl : part.length = m + 1) : degB (part.drop 1) (part.length - 1) = sumN (m + 1) (gt part) - gt part 0 ∧ -100 ≤ sumN (m + 1) (gt part) ∧ sumN (m + 1) (gt part) ≤ 100 := by
  have hg : ∀ u, gt (part.drop 1) u = gt part (u + 1) := fun u => by
    unfold gt
    rw [List.getD, List.getElem?_drop, Nat.add_comm]
    rfl
  have h1 := deg_sumN (a := part.drop 1) (K := 12) (by omega) (by omega) (fun u => by rw [hg]; have := h.lim (u + 1); omega) (part.length - 1) (by omega)
  rw [h1, hl, Nat.add_sub_cancel, sumN_congr (g := fun u => gt part (u + 1)) m fun u _ => hg u]
  have h2 := sumN_first (gt part) m
  have h3 := sum_lim (f := gt part) (a := 0) (b := 12) (m + 1) fun u _ => h.lim u
  omega
theorem boxD_gt (hl : 1 ≤ part.length) (u : Nat) : gt (boxD part) u = if u = 0 then -(degB (part.drop 1) (part.length - 1)) else gt part u := by
  unfold gt boxD
  rw [List.getD, List.getElem?_set]
  by_cases h0 : u = 0
  · subst h0
    rw [if_pos rfl, if_pos (by omega), if_pos rfl]
    rfl
  · rw [if_neg (fun h => h0 h.symm), if_neg h0]
    rfl
theorem boxD_len (part : List Int) : (boxD part).length = part.length := by simp [boxD]
theorem boxD_sum (h5 : m ≤ 5) (h : PartL m part) (hl : part.length = m + 1) : sumN (m + 1) (gt (boxD part)) = 0 := by
  have hd := (drop_deg h5 h hl).1
  have e : sumN (m + 1) (gt (boxD part)) = sumN (m + 1) fun u => gt part u + (if u = 0 then - sumN (m + 1) (gt part) else 0) := sumN_congr _ fun u _ => by
    rw [boxD_gt h.one]
    by_cases h0 : u = 0
    · subst h0
      rw [if_pos rfl, if_pos rfl, hd]
      omega
    · rw [if_neg h0, if_neg h0]
      omega
  rw [e, sumN_add, sumN_one (f := fun u => if u = 0 then - sumN (m + 1) (gt part) else 0) (a := 0) (m + 1) (by omega) (fun i _ hi => by simp [hi])]
  simp
  omega
theorem val_ends2 (hG : GrL m es) (v : Nat) (hv : v < m + 1) : valB ((m + 1 : Nat) : Int) es (v : Int) = endIL v es ∧ valB ((m + 1 : Nat) : Int) es (v : Int) ≤ 12 := by
  have e : valB ((m + 1 : Nat) : Int) es (v : Int) = endIL v es := by rw [valB_yes (vB_t (by omega)), val_ends]
  have := endIL_le v es
  have := hG.n12
  exact ⟨e, by omega⟩
theorem box_mem (hG : GrL m es) : ∀ (k : Nat) (part : List Int), part.length + k = m + 1 → PartL m part → ∀ d, d ∈ boxL (m + 1) es k part ↔ ClsP m es d ∧ ∀ u, 0 < u → u < part.length → gt d u = gt part u
  | 0, part, hl, hp, d => by
    have hl : part.length = m + 1 := hl
    rw [boxL]
    constructor
    · intro h
      split at h
      · next hb =>
        rw [List.mem_singleton] at h
        subst h
        exact ⟨⟨⟨by rw [boxD_len, hl], fun u hu hne => by
          have := boxD_gt hp.one u
          rw [if_neg hne] at this
          unfold gt at this
          rw [this]
          exact (hp.lim u).1, hb⟩, boxD_sum hG.m5 hp hl⟩, fun u h0 _ => by rw [boxD_gt hp.one, if_neg (by omega)]⟩
      · cases h
    · rintro ⟨hc, he⟩
      have e : d = boxD part := ext_gt hc.1.len (by rw [boxD_len, hl]) (at_sink (q := 0) (Nat.zero_le _) (fun u hu hne => by rw [boxD_gt hp.one, if_neg hne]; exact he u (by omega) (by omega)) (hc.2.trans (boxD_sum hG.m5 hp hl).symm))
      have hb : (burntL (m + 1) es (boxD part) 0).length = m + 1 := by rw [← e]; exact hc.1.all
      rw [if_pos hb, e]
      simp
  | k + 1, part, hl, hp, d => by
    have hlt : part.length < m + 1 := by omega
    obtain ⟨hv, hv12⟩ := val_ends2 hG part.length hlt
    rw [boxL, List.mem_flatMap]
    have ih := fun (x : Nat) (hx : x ≤ 12) => box_mem hG k (part ++ [(x : Int)]) (by simp; omega) (hp.push hlt hx) d
    constructor
    · rintro ⟨x, hx, hd⟩
      rw [List.mem_range] at hx
      obtain ⟨h1, h2⟩ := (ih x (by omega)).1 hd
      refine ⟨h1, fun u h0 hu => ?_⟩
      have := h2 u h0 (by simp; omega)
      rwa [gt_push, if_pos hu] at this
    · rintro ⟨h1, h2⟩
      have hb := h1.1.below (by omega) hG.ed part.length hlt (by have := hp.one; omega)
      have hg := h1.1.pos part.length hlt (by have := hp.one; omega)
      obtain ⟨x, hx⟩ : ∃ x : Nat, (x : Int) = gt d part.length := ⟨(gt d part.length).toNat, by unfold gt; omega⟩
      have hx2 : (x : Int) < endIL part.length es := by rw [hx]; exact hb
      refine ⟨x, List.mem_range.2 (by omega), (ih x (by omega)).2 ⟨h1, fun u h0 hu => ?_⟩⟩
      rw [gt_push]
      by_cases c : u < part.length
      · rw [if_pos c]
        exact h2 u h0 c
      · have : u = part.length := by simp at hu; omega
        rw [if_neg c, if_pos this, this, hx]
theorem box_nodup (hG : GrL m es) : ∀ (k : Nat) (part : List Int), part.length + k = m + 1 → PartL m part → (boxL (m + 1) es k part).Nodup
  | 0, part, _, _ => by
    rw [boxL]
    split <;> simp
  | k + 1, part, hl, hp => by
    have hlt : part.length < m + 1 := by omega
    obtain ⟨hv, hv12⟩ := val_ends2 hG part.length hlt
    rw [boxL]
    refine nodup_flat _ (fun x hx => box_nodup hG k _ (by simp; omega) (hp.push hlt (by rw [List.mem_range] at hx; omega))) List.nodup_range fun x hx y hy hne z hz hz2 => ?_
    rw [List.mem_range] at hx hy
    have h1 := ((box_mem hG k _ (by simp; omega) (hp.push hlt (x := x) (by omega)) z).1 hz).2 part.length (by have := hp.one; omega) (by simp)
    have h2 := ((box_mem hG k _ (by simp; omega) (hp.push hlt (x := y) (by omega)) z).1 hz2).2 part.length (by have := hp.one; omega) (by simp)
    rw [gt_push, if_neg (Nat.lt_irrefl _), if_pos rfl] at h1 h2
    omega
theorem PartL.zero (m : Nat) : PartL m [0] := ⟨by simp, by simp, fun u => by cases u <;> simp [gt]⟩
theorem box_cls (hG : GrL m es) : IsCls m es (sortL (boxL (m + 1) es m [0])) := by
  have hm := box_mem hG m [0] (by simp; omega) (PartL.zero m)
  refine ⟨sortL_sorted (n := m + 1) (fun y hy => ((hm y).1 hy).1.1.len) (box_nodup hG m [0] (by simp; omega) (PartL.zero m)), fun x => ?_⟩
  rw [sortL_mem, hm]
  constructor
  · exact fun h => h.1
  · exact fun h => ⟨h, fun u h0 hu => by simp at hu; omega⟩
end
end Go.Proofs.Ytmehdngibbilaaa

/- The specification's l09Boxes: the rows grow in place. -/
namespace Go.Proofs.Ytmehdngibbilaaa
open Go.RowKit

structure Fr (w w' : World) (v v' : Value) : Prop where
  gr : w.grownBy w' v.ownBlock
  at_ : v'.ownBlock = v.ownBlock ∨ ∃ g, v'.ownBlock = some g ∧ w.heap.size ≤ g
theorem Fr.refl (w : World) (v : Value) : Fr w w v v := ⟨World.grownBy.refl _ _, .inl rfl⟩
theorem Fr.trans {w w1 w2 : World} {v v1 v2 : Value} (h : Fr w w1 v v1) (k : Fr w1 w2 v1 v2) : Fr w w2 v v2 := by
  refine ⟨⟨k.gr.os.trans h.gr.os, k.gr.tape.trans h.gr.tape, k.gr.output.trans h.gr.output, Nat.le_trans h.gr.size k.gr.size, fun i hi hne => (k.gr.block i (Nat.lt_of_lt_of_le hi h.gr.size) fun e => ?_).trans (h.gr.block i hi hne)⟩, ?_⟩
  · rcases h.at_ with g | ⟨g, hg, hs⟩
    · exact hne (e.trans g)
    · rw [hg] at e
      injection e with e
      omega
  · rcases k.at_ with g | ⟨g, hg, hs⟩
    · rw [g]
      exact h.at_
    · exact .inr ⟨g, hg, Nat.le_trans h.gr.size hs⟩
theorem Fr.of_below {w w' : World} (v : Value) (h : Below w.heap.size w w') : Fr w w' v v := ⟨⟨h.os, h.tape, h.output, h.size, fun i hi _ => h.block i hi⟩, .inl rfl⟩
structure BoxI (wr : World) (B0 base : Nat) (P : Option Addr) (cp : Nat) (part : List Int) (A : Option Addr) (es : List (Int × Int)) (v : Value) (rs : List (List Int)) : Prop where
  lo : B0 ≤ base
  own : SSOwn wr base v rs
  part : QOwn wr B0 (.slice P part.length cp) part
  ed : EdgeS wr B0 A es
  size : base ≤ wr.heap.size
theorem SSOwn.row {w : World} {base : Nat} {v : Value} {rs : List (List Int)} (h : SSOwn w base v rs) : ∃ vs, w.ownsRow base 27 1 v rs.length vs := by
  obtain ⟨vs, h1, -⟩ := h
  exact ⟨vs, h1⟩
theorem BoxI.next {wr wd : World} {B0 base cp : Nat} {P A : Option Addr} {part : List Int} {es : List (Int × Int)} {v : Value} {rs : List (List Int)} (h : BoxI wr B0 base P cp part A es v rs) (hb : Below wr.heap.size wr wd) : BoxI wd B0 base P cp part A es v rs :=
  ⟨h.lo, h.own.kept hb, QOwn.below h.part hb, h.ed.below (hb.mono (Nat.le_trans h.lo h.size)), Nat.le_trans h.size hb.size⟩
theorem BoxI.fr {wr wd : World} {B0 base cp : Nat} {P A : Option Addr} {part : List Int} {es : List (Int × Int)} {v v' : Value} {rs rs' : List (List Int)} (h : BoxI wr B0 base P cp part A es v rs) (hf : Fr wr wd v v') (ho : SSOwn wd base v' rs') : BoxI wd B0 base P cp part A es v' rs' := by
  obtain ⟨vs, hv⟩ := h.own.row
  exact ⟨h.lo, ho, World.ownsRow.kept h.part hf.gr (own_types2 h.part hv (by decide)), h.ed.below (grown_below hf.gr (Nat.le_trans h.lo h.size) fun k hk => Nat.le_trans h.lo (hv.lt k hk).1), Nat.le_trans h.size hf.gr.size⟩
def GivesBox (w : World) (base : Nat) (v : Value) (rs : List (List Int)) (e : Ending) (w' : World) : Prop := ∃ v', e = .returned v' ∧ SSOwn w' base v' rs ∧ Fr w w' v v'
set_option maxRecDepth 100000 in
set_option maxHeartbeats 8000000 in
theorem boxes_leaf {m : Nat} {es : List (Int × Int)} (hG : GrL m es) (A P : Option Addr) (c cp B0 base : Nat) (part : List Int) (v : Value) (rs : List (List Int)) (w : World) (hl : part.length = m + 1) (hp : PartL m part) (hr : rs.length ≤ 1048576) (hI : BoxI w B0 base P cp part A es v rs) :
    Calls Try.prog 94 #[.agg #[.int .i64 ((m + 1 : Nat) : Int), .slice A es.length c], .slice P part.length cp, v] w (GivesBox w base v (rs ++ boxL (m + 1) es 0 part)) := by
  obtain ⟨i0, hi, hz0, hz1, hz2⟩ := info_parts intInfo
  obtain ⟨i1, hj, hy0, hy1, hy2⟩ := info_parts rowsInfo
  have h5 := hG.m5
  obtain ⟨b1, b2, b3⟩ := drop_deg h5 hp hl
  have HLO := Lib.hid (show base ≤ w.heap.size + 1 from Nat.le_succ_of_le hI.size)
  have HII := Lib.hid (fun (W : World) (h : Below w.heap.size w W) => hI.next h)
  have hb0 : Below w.heap.size w (w.alloc (Obj.cells #[.int .i64 ((m + 1 : Nat) : Int), .slice A es.length c] 25)) := (Below.refl _ _).alloc (Nat.le_refl _) _
  obtain ⟨W0, hW0⟩ : ∃ X : World, X = w.alloc (Obj.cells #[.int .i64 ((m + 1 : Nat) : Int), .slice A es.length c] 25) := ⟨_, rfl⟩
  have hB := Blk.new w 25 #[.int .i64 ((m + 1 : Nat) : Int), .slice A es.length c]
  rw [← hW0] at hb0 hB
  have I0 := Lib.hid (hI.next hb0)
  have HB0 := Lib.hid hb0
  have HBX := Lib.hid hB
  have HW0 := Lib.hid hW0
  have hpg : part.length = m + 1 := hl
  have HBN := Lib.hid (fun (X : Option Addr) (cx : Nat) (W : World) (h1 : EdgeS W W.heap.size A es) (h2 : IntS W W.heap.size X (boxD part)) => l05Burn_any A X c cx (m + 1) 0 es (boxD part) W (by omega) (by omega) (by omega) (by rw [boxD_len, hl]) hG.n12 hG.ed h1 h2)
  rw [boxD_len, hl] at HBN
  have HDG := Lib.hid (fun (X : Option Addr) (cx : Nat) (W : World) (h2 : IntS W W.heap.size X (part.drop 1)) => specDegW X cx (part.drop 1) W (by simp; omega) h2)
  have e1 : (part.drop 1).length = part.length - 1 := by simp
  rw [e1] at HDG
  obtain ⟨y, hy⟩ : ∃ y, y = degB (part.drop 1) (part.length - 1) := ⟨_, rfl⟩
  have hbd : boxD part = part.set 0 (-y) := by rw [hy]; rfl
  rw [← hy] at HDG b1
  have hg0 := hp.lim 0
  have hyw : IntKind.i64.wrap (-y) = -y := by rw [IntKind.wrap_i64]; omega
  have HBD := Lib.hid hbd
  have HBL := Lib.hid (show boxL (m + 1) es 0 part = if (burntL (m + 1) es (boxD part) 0).length = m + 1 then [boxD part] else [] from rfl)
  obtain ⟨D, hD⟩ : ∃ D, D = boxD part := ⟨_, rfl⟩
  rw [← hD] at HBN HBD HBL
  obtain ⟨R, hR⟩ : ∃ R, R = burntL (m + 1) es D 0 := ⟨_, rfl⟩
  have hR2 : R = burntL (m + 1) es D ((0 : Nat) : Int) := hR
  rw [← hR] at HBL
  rw [← hR2] at HBN
  have HDL := Lib.hid (show D.length = m + 1 by rw [hD, boxD_len, hl])
  obtain ⟨L0, hL0⟩ : ∃ L0, L0 = boxL (m + 1) es 0 part := ⟨_, rfl⟩
  rw [← hL0] at HBL ⊢
  have HT := Lib.hid (show R.length = m + 1 → L0 = [D] from fun h => by rw [HBL.out, if_pos h])
  have HF := Lib.hid (show R.length ≠ m + 1 → L0 = [] from fun h => by rw [HBL.out, if_neg h])
  clear hL0 hD hR hR2 hy hbd b1 b2 b3 hg0 e1 hW0 hb0 hB hI hG hp HBL
  rw [hl] at HDG ⊢
  generalize hM : m + 1 = M at *
  have hM0 : (1 : Int) ≤ (M : Int) := by omega
  have hM1 : 0 < M := by omega
  have hM6 : M ≤ 6 := by omega
  obtain ⟨bp, op, hP, hbp, hpc⟩ := (QOwn.ints I0.out.part) (by omega)
  subst hP
  have HPC := Lib.hid hpc
  have hO0 := own_emptyF W0 W0.heap.size (Nat.le_refl _) 3
  have hbA : Below W0.heap.size W0 (W0.alloc (.cells #[] 3)) := (Below.refl _ _).alloc (Nat.le_refl _) _
  have hN0 : ∀ (j : Nat) (u : Value), (intCells part)[j]? = some u → (W0.alloc (.cells #[] 3)).cell? ((⟨bp, op, none⟩ : Addr).add j) = some u := fun j u hu => by
    simp only [intCells, List.getElem?_map, Option.map_eq_some_iff] at hu
    obtain ⟨z, hz, rfl⟩ := hu
    rw [Addr.add_lit]
    exact (hbA.cell (p := ⟨bp, op + j, none⟩) hbp).trans (hpc j z hz)
  have hs0 : W0.heap.size = w.heap.size + 1 := by rw [HW0.out]; simp
  rw [HW0.out] at hO0 hN0
  simp only [World.size_alloc] at hO0
  have HO0 := Lib.hid hO0
  have HN0 := Lib.hid hN0
  have HPL := Lib.hid hpg
  have hM9 : M - 1 ≤ 5 := by omega
  have tM : ((M : Int) == (M : Int)) = true := by simp
  have HU := Lib.hid (show ∀ u ∈ intCells part, u.oneCell' = true from fun u hu => by
    simp only [intCells, List.mem_map] at hu
    obtain ⟨z, _, rfl⟩ := hu
    rfl)
  clear hpc hl hpg hM hO0 hN0 hbA
  go_enter Try.func94, Try.ntmps94
  go_wp2_with (at_builtin; refine wpList_append_own _ rfl _ _ 27 rfl (w.heap.size + 1) 3 i0 (.int .i64 0) 1 8 Try.underlying27 hi hz0 hz1 hz2 rfl (by decide) _ _ _ rfl HO0.out ⟨bp, op, none⟩ M cp (intCells part) rfl ?k0 HN0.out HU.out ?k3 ?k4 ?k5 ?_)
  case k0 => simp [intCells, HPL.out]
  case k3 => unfold maxLen; omega
  case k4 => omega
  case k5 => simp
  intro v1 w1 hown hgrow _
  have hb1 : Below W0.heap.size W0 w1 := by
    rw [← HW0.out] at hgrow
    exact ((Below.refl W0.heap.size W0).alloc (Nat.le_refl _) _).trans (grown_below hgrow (by simp) (fun k hk => by have := (HO0.out.lt k hk).1; omega))
  obtain ⟨g, cap, rfl, hle⟩ : ∃ g cap, v1 = .slice (some ⟨g, 0, none⟩) M cap ∧ M ≤ cap := by
    rcases hown.2 with ⟨e, e0⟩ | ⟨g, cap, cur, e, _, _, h, _⟩
    · omega
    · exact ⟨g, cap, e, h⟩
  have I1 := Lib.hid (I0.out.next hb1)
  have X1 := Lib.hid (HBX.out.below hb1 HBX.out.lt)
  have HOW := Lib.hid hown
  have hgs := hown.lt g rfl
  have HB01 := Lib.hid (HB0.out.trans (hb1.mono HB0.out.size))
  obtain ⟨p0, hp0⟩ : ∃ z, part[0]? = some z := ⟨_, List.getElem?_eq_getElem (by rw [HPL.out]; omega)⟩
  have hc0 : w1.cell? ⟨g, 0, none⟩ = some (.int .i64 p0) := by
    have h := hown.cellAt 0 (by omega)
    rw [h]
    simp [intCells, hp0]
  have hf0 := hown.frozenAt 0
  have HIN := Lib.hid (show ∀ o, IntS w1 w1.heap.size (some ⟨g, 1, o⟩) (part.drop 1) ∨ o ≠ none from fun o => by
    cases o with
    | some _ => exact .inr (by simp)
    | none =>
      refine .inl fun _ => ⟨g, 1, rfl, hgs.2, fun i z hz => ?_⟩
      rw [List.getElem?_drop] at hz
      have hi2 := (List.getElem?_eq_some_iff.1 hz).1
      have h := hown.cellAt (1 + i) (by rw [HPL.out] at hi2; omega)
      rw [h]
      simp [intCells, hz])
  have HST := Lib.hid (hown.stored 0 (.int .i64 (-y)))
  have hcs1 : (M : Int) ≤ (cap : Int) := by omega
  clear hgrow hown hb1 HO0 HN0 I0 HBX
  obtain ⟨x0, x1, x2, x3, x4⟩ := box_facts X1.out
  by_cases hcap : cap = 1
  · have hM2 : M = 1 := by omega
    subst hcap
    subst hM2
    have HDI : IntS w1 w1.heap.size (some ⟨g, 1, none⟩) (part.drop 1) := fun hn => by
      have := HPL.out
      simp at hn
      omega
    have hdr : part.drop 1 = [] := List.drop_eq_nil_of_le (by rw [HPL.out]; exact Nat.le_refl _)
    have HDE := Lib.hid (fun (X : Option Addr) (cx : Nat) (W : World) => HDG.out X cx W (fun hn => by rw [hdr] at hn; simp at hn))
    clear hdr
    go_wp2_with fail
    refine (HDE.out _ _ w1).mono ?_
    rintro e wz ⟨rfl, hwz⟩
    rw [hwz]
    clear hwz wz HDI HDE
    have HC2 := Lib.hid (show QOwn (w1.setCell ⟨g, 0, none⟩ (.int .i64 (-y))) (w.heap.size + 1) (.slice (some ⟨g, 0, none⟩) 1 1) D from by
      have h := HST.out.1
      have e : (intCells part).set 0 (.int .i64 (-y)) = intCells D := by rw [HBD.out]; simp [intCells, List.map_set]
      rw [e] at h
      unfold QOwn
      rw [HDL.out]
      exact h)
    have hbs : Below w.heap.size w (w1.setCell ⟨g, 0, none⟩ (.int .i64 (-y))) := HB01.out.setCell (p := ⟨g, 0, none⟩) (by simp only; omega) _
    obtain ⟨w2, hw2⟩ : ∃ q, q = w1.setCell ⟨g, 0, none⟩ (.int .i64 (-y)) := ⟨_, rfl⟩
    have X2 := Lib.hid (show Blk w2 w.heap.size 25 #[.int .i64 ((1 : Nat) : Int), .slice A es.length c] from by rw [hw2]; exact X1.out.far (by simp only; omega) _)
    have I2 := Lib.hid (show BoxI w2 B0 base (some ⟨bp, op, none⟩) cp part A es v rs from by
      rw [hw2]
      exact HII.out _ hbs)
    rw [← hw2] at HC2 hbs
    have HW2 := Lib.hid hw2
    have HB2 := Lib.hid hbs
    clear hw2 hbs HST HIN HDG HBD
    obtain ⟨z0, z1, z2, z3, z4⟩ := box_facts X2.out
    have HP0 := Lib.hid (show w2.drew.cell? ⟨w.heap.size, 0, none⟩ = some (.int .i64 ((1 : Nat) : Int)) ∧ w2.drew.cell? ⟨w.heap.size, 1, none⟩ = some (.slice A es.length c) ∧ Below w2.heap.size w2 w2.drew from ⟨z0, z1, (Below.refl _ _).drew⟩)
    have PB := fun (W : World) (h : Below w2.heap.size w2 W) => HBN.out (some ⟨g, 0, none⟩) 1 W ((I2.out.next h).ed.up (Below.refl _ _) (Nat.le_trans (Nat.le_trans I2.out.lo I2.out.size) h.size)) (OwnI.of_own (by have h9 := QOwn.below HC2.out h; unfold QOwn at h9; rw [HDL.out] at h9; exact h9)).ints
    go_wp2_with fail
    rw [← HW2.out]
    go_region_held3 (fun w' => w'.cell? ⟨w.heap.size, 0, none⟩ = some (.int .i64 ((1 : Nat) : Int)) ∧ w'.cell? ⟨w.heap.size, 1, none⟩ = some (.slice A es.length c) ∧ Below w2.heap.size w2 w')
      (first
        | with_reducible exact HP0.out
        | with_reducible exact keepG (by assumption) hb3)
      (first
        | (go_at_call 136; refine (PB _ (And.right (And.right (by assumption)))).mono ?_; rintro e w3 ⟨A3, c3, rfl, ho3, hb3⟩))
    all_goals
      have hb23 : Below w2.heap.size w2 w3 := And.right (And.right (by assumption))
      have I3 := Lib.hid (I2.out.next hb23)
      have HC3 := Lib.hid (QOwn.below HC2.out hb23)
      have HB3 := Lib.hid (HB2.out.trans (hb23.mono HB2.out.size))
      clear hb3 ho3 hb23 z0 z1 z2 z3 z4 x0 x1 x2 x3 x4 hc0 hf0
      by_cases hR : R.length = 1
      · have tR : ((R.length : Int) == ((1 : Nat) : Int)) = true := by simp [hR]
        have HT2 := Lib.hid (HT.out hR)
        clear hR HT HF
        obtain ⟨vs, ho1, ho2⟩ := I3.out.own
        have HO1 := Lib.hid ho1
        have HO2 := Lib.hid ho2
        have hs3 := I3.out.size
        clear ho1 ho2
        go_wp2_with (at_builtin; refine wpList_append_own_at _ rfl _ _ 30 rfl base 27 i1 (.slice none 0 0) 1 24 Try.underlying30 hj hy0 hy1 hy2 rfl (by decide) _ _ _ rfl (HO1.out.alloc _) ⟨w3.heap.size, 0, none⟩ 1 1 [.slice (some ⟨g, 0, none⟩) 1 1] rfl rfl ?c1 ?c2 ?c3 ?c4 ?c5 ?_)
        case c1 => exact one_cell _ _ rfl _ _
        case c2 => simp [Value.oneCell']
        case c3 => unfold maxLen; omega
        case c4 => omega
        case c5 => simp; omega
        intro v4 w4 hown4 hgrow4 _ hat4
        have hba : Below w3.heap.size w3 (w3.alloc (.cells #[.slice (some ⟨g, 0, none⟩) 1 1] 27)) := (Below.refl _ _).alloc (Nat.le_refl _) _
        have hsn := SSOwn.push (HO1.out.alloc _) (fun i r hr => by
          obtain ⟨u, hu, hq⟩ := HO2.out i r hr
          exact ⟨u, hu, hq.below hba⟩) (ownsRow_mono (QOwn.below HC3.out hba) HLO.out) hown4 hgrow4
        have hfr : Fr w w4 v v4 := (Fr.of_below v (HB3.out.trans (hba.mono HB3.out.size))).trans ⟨hgrow4, by
          rcases hat4 with h | h
          · exact .inl h
          · exact .inr ⟨_, h, by simp⟩⟩
        have HSN := Lib.hid hsn
        have HFR := Lib.hid hfr
        clear hsn hfr hba hown4 hgrow4 hat4
        go_wp2
        go_ret
        exact ⟨v4, rfl, by rw [HT2.out]; exact HSN.out, HFR.out⟩
      · have tR : ((R.length : Int) == ((1 : Nat) : Int)) = false := by simp; omega
        have HF2 := Lib.hid (HF.out hR)
        clear hR HT HF
        go_wp2
        go_ret
        exact ⟨v, rfl, by rw [HF2.out, List.append_nil]; exact I3.out.own, Fr.of_below v HB3.out⟩
  · have hc1 : (1 : Int) ≤ (cap : Int) := by omega
    have HDI := (HIN.out none).resolve_right (by simp)
    go_wp2_with fail
    refine (HDG.out (some ⟨g, 1, none⟩) _ w1 HDI).mono ?_
    rintro e wz ⟨rfl, hwz⟩
    rw [hwz]
    clear hwz wz
    have HC2 := Lib.hid (show QOwn (w1.setCell ⟨g, 0, none⟩ (.int .i64 (-y))) (w.heap.size + 1) (.slice (some ⟨g, 0, none⟩) M cap) D from by
      have h := HST.out.1
      have e : (intCells part).set 0 (.int .i64 (-y)) = intCells D := by rw [HBD.out]; simp [intCells, List.map_set]
      rw [e] at h
      unfold QOwn
      rw [HDL.out]
      exact h)
    have hbs : Below w.heap.size w (w1.setCell ⟨g, 0, none⟩ (.int .i64 (-y))) := HB01.out.setCell (p := ⟨g, 0, none⟩) (by simp only; omega) _
    obtain ⟨w2, hw2⟩ : ∃ q, q = w1.setCell ⟨g, 0, none⟩ (.int .i64 (-y)) := ⟨_, rfl⟩
    have X2 := Lib.hid (show Blk w2 w.heap.size 25 #[.int .i64 (M : Int), .slice A es.length c] from by rw [hw2]; exact X1.out.far (by simp only; omega) _)
    have I2 := Lib.hid (show BoxI w2 B0 base (some ⟨bp, op, none⟩) cp part A es v rs from by
      rw [hw2]
      exact HII.out _ hbs)
    rw [← hw2] at HC2 hbs
    have HW2 := Lib.hid hw2
    have HB2 := Lib.hid hbs
    clear hw2 hbs HST HIN HDG HBD
    obtain ⟨z0, z1, z2, z3, z4⟩ := box_facts X2.out
    have HP0 := Lib.hid (show w2.drew.cell? ⟨w.heap.size, 0, none⟩ = some (.int .i64 (M : Int)) ∧ w2.drew.cell? ⟨w.heap.size, 1, none⟩ = some (.slice A es.length c) ∧ Below w2.heap.size w2 w2.drew from ⟨z0, z1, (Below.refl _ _).drew⟩)
    have PB := fun (W : World) (h : Below w2.heap.size w2 W) => HBN.out (some ⟨g, 0, none⟩) cap W ((I2.out.next h).ed.up (Below.refl _ _) (Nat.le_trans (Nat.le_trans I2.out.lo I2.out.size) h.size)) (OwnI.of_own (by have h9 := QOwn.below HC2.out h; unfold QOwn at h9; rw [HDL.out] at h9; exact h9)).ints
    go_wp2_with fail
    rw [← HW2.out]
    go_region_held3 (fun w' => w'.cell? ⟨w.heap.size, 0, none⟩ = some (.int .i64 (M : Int)) ∧ w'.cell? ⟨w.heap.size, 1, none⟩ = some (.slice A es.length c) ∧ Below w2.heap.size w2 w')
      (first
        | with_reducible exact HP0.out
        | with_reducible exact keepG (by assumption) hb3)
      (first
        | (go_at_call 136; refine (PB _ (And.right (And.right (by assumption)))).mono ?_; rintro e w3 ⟨A3, c3, rfl, ho3, hb3⟩))
    all_goals
      have hb23 : Below w2.heap.size w2 w3 := And.right (And.right (by assumption))
      have I3 := Lib.hid (I2.out.next hb23)
      have HC3 := Lib.hid (QOwn.below HC2.out hb23)
      have HB3 := Lib.hid (HB2.out.trans (hb23.mono HB2.out.size))
      clear hb3 ho3 hb23 z0 z1 z2 z3 z4 x0 x1 x2 x3 x4 hc0 hf0
      by_cases hR : R.length = M
      · have tR : ((R.length : Int) == (M : Int)) = true := by simp [hR]
        have HT2 := Lib.hid (HT.out hR)
        clear hR HT HF
        obtain ⟨vs, ho1, ho2⟩ := I3.out.own
        have HO1 := Lib.hid ho1
        have HO2 := Lib.hid ho2
        have hs3 := I3.out.size
        clear ho1 ho2
        go_wp2_with (at_builtin; refine wpList_append_own_at _ rfl _ _ 30 rfl base 27 i1 (.slice none 0 0) 1 24 Try.underlying30 hj hy0 hy1 hy2 rfl (by decide) _ _ _ rfl (HO1.out.alloc _) ⟨w3.heap.size, 0, none⟩ 1 1 [.slice (some ⟨g, 0, none⟩) M cap] rfl rfl ?c1 ?c2 ?c3 ?c4 ?c5 ?_)
        case c1 => exact one_cell _ _ rfl _ _
        case c2 => simp [Value.oneCell']
        case c3 => unfold maxLen; omega
        case c4 => omega
        case c5 => simp; omega
        intro v4 w4 hown4 hgrow4 _ hat4
        have hba : Below w3.heap.size w3 (w3.alloc (.cells #[.slice (some ⟨g, 0, none⟩) M cap] 27)) := (Below.refl _ _).alloc (Nat.le_refl _) _
        have hsn := SSOwn.push (HO1.out.alloc _) (fun i r hr => by
          obtain ⟨u, hu, hq⟩ := HO2.out i r hr
          exact ⟨u, hu, hq.below hba⟩) (ownsRow_mono (QOwn.below HC3.out hba) HLO.out) hown4 hgrow4
        have hfr : Fr w w4 v v4 := (Fr.of_below v (HB3.out.trans (hba.mono HB3.out.size))).trans ⟨hgrow4, by
          rcases hat4 with h | h
          · exact .inl h
          · exact .inr ⟨_, h, by simp⟩⟩
        have HSN := Lib.hid hsn
        have HFR := Lib.hid hfr
        clear hsn hfr hba hown4 hgrow4 hat4
        go_wp2
        go_ret
        exact ⟨v4, rfl, by rw [HT2.out]; exact HSN.out, HFR.out⟩
      · have tR : ((R.length : Int) == (M : Int)) = false := by simp; omega
        have HF2 := Lib.hid (HF.out hR)
        clear hR HT HF
        go_wp2
        go_ret
        exact ⟨v, rfl, by rw [HF2.out, List.append_nil]; exact I3.out.own, Fr.of_below v HB3.out⟩
end Go.Proofs.Ytmehdngibbilaaa

/- The specification's l09Boxes: the parts that grow. -/
namespace Go.Proofs.Ytmehdngibbilaaa
open Go.RowKit

theorem flat_len {f : Nat → List (List Int)} {b : Nat} : ∀ n : Nat, (∀ x, x < n → (f x).length ≤ b) → ((List.range n).flatMap f).length ≤ n * b
  | 0, _ => by simp
  | n + 1, h => by
    rw [List.range_succ, List.flatMap_append, List.length_append, Nat.succ_mul]
    have h1 := flat_len n fun x hx => h x (by omega)
    have h2 := h n (by omega)
    simp only [List.flatMap_cons, List.flatMap_nil, List.append_nil]
    omega
theorem box_len {m : Nat} {es : List (Int × Int)} (hG : GrL m es) : ∀ (k : Nat) (part : List Int), part.length + k = m + 1 → (boxL (m + 1) es k part).length ≤ 12 ^ k
  | 0, part, _ => by
    rw [boxL]
    split <;> simp
  | k + 1, part, hl => by
    obtain ⟨hv, hv12⟩ := val_ends2 hG part.length (by omega)
    rw [boxL]
    have h := flat_len (f := fun x : Nat => boxL (m + 1) es k (part ++ [(x : Int)])) (b := 12 ^ k) (max 1 (valB ((m + 1 : Nat) : Int) es (part.length : Int)).toNat) fun x _ => box_len hG k _ (by simp; omega)
    refine Nat.le_trans h ?_
    rw [Nat.pow_succ, Nat.mul_comm]
    exact Nat.mul_le_mul_left _ (by omega)
theorem below_grown {B : Nat} {W0 W w1 : World} {row : Option Nat} (hb : Below B W0 W) (hB : B ≤ W0.heap.size) (hg : W.grownBy w1 row) (hr : ∀ k, row = some k → B ≤ k) : Below B W0 w1 := hb.trans (grown_below hg (Nat.le_trans hB hb.size) hr)
theorem keepC {W W' : World} {X : Nat} {a b : Value} (h : W.cell? ⟨X, 0, none⟩ = some a ∧ W.cell? ⟨X, 1, none⟩ = some b) (hb : W'.heap[X]? = W.heap[X]?) : W'.cell? ⟨X, 0, none⟩ = some a ∧ W'.cell? ⟨X, 1, none⟩ = some b :=
  ⟨(World.cell?_of_block (a := ⟨X, 0, none⟩) hb).trans h.1, (World.cell?_of_block (a := ⟨X, 1, none⟩) hb).trans h.2⟩
set_option maxRecDepth 100000 in
set_option maxHeartbeats 8000000 in
theorem l09Boxes_any {m : Nat} {es : List (Int × Int)} (hG : GrL m es) (A : Option Addr) (c B0 base : Nat) : ∀ (k : Nat) (P : Option Addr) (cp : Nat) (part : List Int) (v : Value) (rs : List (List Int)) (w : World), part.length + k = m + 1 → PartL m part → rs.length + 12 ^ k ≤ 1048577 → BoxI w B0 base P cp part A es v rs →
    Calls Try.prog 94 #[.agg #[.int .i64 ((m + 1 : Nat) : Int), .slice A es.length c], .slice P part.length cp, v] w (GivesBox w base v (rs ++ boxL (m + 1) es k part)) := by
  intro k
  induction k with
  | zero =>
    intro P cp part v rs w hl hp hr hI
    exact boxes_leaf hG A P c cp B0 base part v rs w hl hp (by simp at hr; omega) hI
  | succ k ih =>
    intro P cp part v rs w hl hp hr hI
    obtain ⟨i0, hi, hz0, hz1, hz2⟩ := info_parts intInfo
    have h5 := hG.m5
    have hlt : part.length < m + 1 := by omega
    obtain ⟨hv, hv12⟩ := val_ends2 hG part.length hlt
    obtain ⟨mx, hmx⟩ : ∃ mx, mx = max 1 (valB ((m + 1 : Nat) : Int) es (part.length : Int)).toNat := ⟨_, rfl⟩
    have hv0 := (endIL_le part.length es).1
    rw [← hv] at hv0
    have hmx12 : 1 ≤ mx ∧ mx ≤ 12 := by omega
    have HMX := Lib.hid (show (mx : Int) = max 1 (valB ((m + 1 : Nat) : Int) es (part.length : Int)) by omega)
    have HBL := Lib.hid (show boxL (m + 1) es (k + 1) part = (List.range mx).flatMap fun x : Nat => boxL (m + 1) es k (part ++ [(x : Int)]) from by rw [hmx]; rfl)
    obtain ⟨F, hF⟩ : ∃ F : Nat → List (List Int), F = fun n => (List.range n).flatMap fun x : Nat => boxL (m + 1) es k (part ++ [(x : Int)]) := ⟨_, rfl⟩
    have HF0 := Lib.hid (show F 0 = [] by rw [hF]; rfl)
    have HFS := Lib.hid (show ∀ n, F (n + 1) = F n ++ boxL (m + 1) es k (part ++ [(n : Int)]) from fun n => by rw [hF]; simp [List.range_succ, List.flatMap_append])
    have HFM := Lib.hid (show boxL (m + 1) es (k + 1) part = F mx from by rw [HBL.out, hF])
    have HFL := Lib.hid (show ∀ n, n < mx → (rs ++ F n).length + 12 ^ k ≤ 1048577 from fun n hn => by
      have h1 := flat_len (f := fun x : Nat => boxL (m + 1) es k (part ++ [(x : Int)])) (b := 12 ^ k) n fun x _ => box_len hG k _ (by simp; omega)
      have h2 : (F n).length ≤ n * 12 ^ k := by rw [hF]; exact h1
      have h3 : (n + 1) * 12 ^ k ≤ 12 * 12 ^ k := Nat.mul_le_mul_right _ (by omega)
      rw [Nat.succ_mul] at h3
      rw [Nat.pow_succ, Nat.mul_comm] at hr
      rw [List.length_append]
      omega)
    have HV := Lib.hid (fun (W : World) (h : EdgeS W W.heap.size A es) => specVal_yes ((m + 1 : Nat) : Int) A c es (part.length : Int) W (by have := hG.n12; omega) (vB_t (by omega)) h)
    have hve : ((es.filter (touch (part.length : Int))).length : Int) = valB ((m + 1 : Nat) : Int) es (part.length : Int) := by rw [valB_yes (vB_t (by omega))]
    rw [hve] at HV
    have HIH := Lib.hid (fun (n : Nat) (P2 : Option Addr) (c2 : Nat) (vv : Value) (W : World) (hn : n < mx) (h : BoxI W B0 base P2 c2 (part ++ [(n : Int)]) A es vv (rs ++ F n)) => (show Calls Try.prog 94 #[.agg #[.int .i64 ((m + 1 : Nat) : Int), .slice A es.length c], .slice P2 (part.length + 1) c2, vv] W (GivesBox W base vv (rs ++ F (n + 1))) from by
      have h9 := ih P2 c2 (part ++ [(n : Int)]) vv (rs ++ F n) W (by simp; omega) (hp.push hlt (by omega)) (HFL.out n hn) h
      rw [List.length_append, List.length_cons, List.length_nil] at h9
      rw [HFS.out, ← List.append_assoc]
      exact h9))
    have hpl : 0 < part.length := hp.one
    rw [HFM.out]
    obtain ⟨val, hval⟩ : ∃ q, q = valB ((m + 1 : Nat) : Int) es (part.length : Int) := ⟨_, rfl⟩
    rw [← hval] at HV HMX
    have hb0 : Below w.heap.size w (w.alloc (Obj.cells #[.int .i64 ((m + 1 : Nat) : Int), .slice A es.length c] 25)) := (Below.refl _ _).alloc (Nat.le_refl _) _
    obtain ⟨W0, hW0⟩ : ∃ X : World, X = w.alloc (Obj.cells #[.int .i64 ((m + 1 : Nat) : Int), .slice A es.length c] 25) := ⟨_, rfl⟩
    have hB := Blk.new w 25 #[.int .i64 ((m + 1 : Nat) : Int), .slice A es.length c]
    rw [← hW0] at hb0 hB
    have hs0 : W0.heap.size = w.heap.size + 1 := by rw [hW0]; simp
    have I0 := Lib.hid (hI.next hb0)
    have HB0 := Lib.hid hb0
    have HBX := Lib.hid hB
    have HW0 := Lib.hid hW0
    have hvl : ∀ g, v.ownBlock = some g → g < w.heap.size := fun g hg => by
      obtain ⟨vs, h⟩ := hI.own.row
      exact (h.lt g hg).2
    have HVL := Lib.hid hvl
    have tne : (((part.length : Nat) : Int) == ((m + 1 : Nat) : Int)) = false := by simp; omega
    have hpl6 : part.length ≤ 5 := by omega
    clear hW0 hb0 hB hI hp ih hr hve hv hv0 hv12 hmx HBL hF hval hvl HFM HFL hG
    generalize m + 1 = M at *
    go_enter Try.func94, Try.ntmps94
    go_wp2
    rw [← HW0.out]
    go_loopw [2, 9] (fun vv i wr => ∃ x : Nat, x ≤ mx ∧ i = .int .i64 x ∧ BoxI wr B0 base P cp part A es vv (rs ++ F x) ∧ Blk wr w.heap.size 25 #[.int .i64 (M : Int), .slice A es.length c] ∧ Fr W0 wr v vv) (fun _ i _ => mx - (intOf i).toNat)
    case atStart =>
      refine ⟨0, Nat.zero_le _, rfl, ?_, HBX.out, Fr.refl _ _⟩
      rw [HF0.out, List.append_nil]
      exact I0.out
    case round =>
      clear I0 HBX
      obtain ⟨x, hx, rfl, hI, hbx, hfr⟩ := hrel
      have I1 := Lib.hid hI
      have X1 := Lib.hid hbx
      have R1 := Lib.hid hfr
      obtain ⟨x0, x1, x2, x3, x4⟩ := box_facts hbx
      have hx0 : (0 : Int) ≤ (x : Int) := Int.natCast_nonneg _
      have HED := Lib.hid (HV.out wr (hI.ed.up (Below.refl _ _) (Nat.le_trans hI.lo hI.size)))
      clear hI hbx hfr
      go_wp2_with fail
      refine HED.out.mono ?_
      rintro e w1 ⟨rfl, hb1⟩
      have I2 := Lib.hid (I1.out.next hb1)
      have X2 := Lib.hid (X1.out.below hb1 X1.out.lt)
      have R2 := Lib.hid (R1.out.trans (Fr.of_below u2 hb1))
      clear hb1 I1 X1 R1 HED x0 x1 x2 x3 x4
      obtain ⟨x0, x1, x2, x3, x4⟩ := box_facts X2.out
      have hmv := HMX.out
      by_cases hlt1 : x < mx
      · have hlt2 : (x : Int) < max 1 val := by omega
        have hs1 : B0 ≤ w1.heap.size := Nat.le_trans I2.out.lo I2.out.size
        obtain ⟨bp, op, hP, hbp, hpc⟩ := (QOwn.ints I2.out.part) hpl
        subst hP
        have HU := Lib.hid (show ∀ u ∈ intCells part, u.oneCell' = true from fun u hu => by
          simp only [intCells, List.mem_map] at hu
          obtain ⟨z, _, rfl⟩ := hu
          rfl)
        have HPC := Lib.hid (show ∀ W, Below w1.heap.size w1 W → ∀ (j : Nat) (u : Value), (intCells part)[j]? = some u → W.cell? ((⟨bp, op, none⟩ : Addr).add j) = some u from fun W hb j u hu => by
          simp only [intCells, List.getElem?_map, Option.map_eq_some_iff] at hu
          obtain ⟨z, hz, rfl⟩ := hu
          rw [Addr.add_lit]
          exact (hb.cell (p := ⟨bp, op + j, none⟩) hbp).trans (hpc j z hz))
        have hbA : Below w1.heap.size w1 (w1.drew.alloc (Obj.cells #[] 3)) := (Below.refl _ _).drew.alloc (Nat.le_refl _) _
        have hbX : Below w1.heap.size w1 (w1.drew.alloc (Obj.cells #[.int .i64 (x : Int)] 3)) := (Below.refl _ _).drew.alloc (Nat.le_refl _) _
        have hbAX : Below w1.heap.size w1 ((w1.drew.alloc (Obj.cells #[] 3)).alloc (Obj.cells #[.int .i64 (x : Int)] 3)) := hbA.alloc hbA.size _
        have hbXA : Below w1.heap.size w1 ((w1.drew.alloc (Obj.cells #[.int .i64 (x : Int)] 3)).alloc (Obj.cells #[] 3)) := hbX.alloc hbX.size _
        have hOa := own_emptyD w1.drew w1.heap.size (Nat.le_refl _) 3
        have hOb := World.ownsRow.alloc hOa (Obj.cells #[.int .i64 (x : Int)] 3)
        have hOc := own_emptyD (w1.drew.alloc (Obj.cells #[.int .i64 (x : Int)] 3)) w1.heap.size (by simp) 3
        rw [World.size_alloc] at hOc
        have HOA := Lib.hid hOa
        have HOB := Lib.hid hOb
        have HOC := Lib.hid hOc
        have HBA := Lib.hid hbA
        have HBX := Lib.hid hbX
        have HBAX := Lib.hid hbAX
        have HBXA := Lib.hid hbXA
        -- the new number's cell, behind the first append
        have NXB := Lib.hid (show ∀ w2, World.grownBy ((w1.drew.alloc (Obj.cells #[] 3)).alloc (Obj.cells #[.int .i64 (x : Int)] 3)) w2 (some w1.heap.size) → ∀ (j : Nat) (u : Value), [Value.int .i64 (x : Int)][j]? = some u → w2.cell? ((⟨w1.heap.size + 1, 0, none⟩ : Addr).add j) = some u from fun w2 hg j u hu => by
          have h := one_cell (w1.drew.alloc (Obj.cells #[] 3)) (w1.heap.size + 1) (by simp) 3 (.int .i64 (x : Int)) j u hu
          rw [Addr.add_lit] at h ⊢
          exact (World.cell?_of_block (a := ⟨w1.heap.size + 1, 0 + j, none⟩) (hg.block (w1.heap.size + 1) (by simp) (by simp))).trans h)
        have NXC := Lib.hid (show ∀ w2, World.grownBy ((w1.drew.alloc (Obj.cells #[.int .i64 (x : Int)] 3)).alloc (Obj.cells #[] 3)) w2 (some (w1.heap.size + 1)) → ∀ (j : Nat) (u : Value), [Value.int .i64 (x : Int)][j]? = some u → w2.cell? ((⟨w1.heap.size, 0, none⟩ : Addr).add j) = some u from fun w2 hg j u hu => by
          have h := one_cell w1.drew w1.heap.size rfl 3 (.int .i64 (x : Int)) j u hu
          rw [Addr.add_lit] at h ⊢
          have h2 : ((w1.drew.alloc (Obj.cells #[.int .i64 (x : Int)] 3)).alloc (Obj.cells #[] 3)).cell? ⟨w1.heap.size, 0 + j, none⟩ = some u :=
            (((Below.refl (w1.drew.alloc (Obj.cells #[.int .i64 (x : Int)] 3)).heap.size _).alloc (Nat.le_refl _) _).cell (p := ⟨w1.heap.size, 0 + j, none⟩) (by simp)).trans h
          exact (World.cell?_of_block (a := ⟨w1.heap.size, 0 + j, none⟩) (hg.block w1.heap.size (by simp; omega) (by simp))).trans h2)
        have HGR := Lib.hid (fun (W W' : World) (row : Option Nat) (h : Below w1.heap.size w1 W) (hg : W.grownBy W' row) (hr : ∀ q, row = some q → w1.heap.size ≤ q) => below_grown h (Nat.le_refl _) hg hr)
        have HP0 := Lib.hid (show w1.drew.cell? ⟨w.heap.size, 0, none⟩ = some (.int .i64 (M : Int)) ∧ w1.drew.cell? ⟨w.heap.size, 1, none⟩ = some (.slice A es.length c) from ⟨x0, x1⟩)
        have hxs : w.heap.size < w1.heap.size := x4
        have HVN := Lib.hid (show some w.heap.size ≠ u2.ownBlock from fun e => by
          rcases R2.out.at_ with h | ⟨q, h, hq⟩
          · have := HVL.out _ (h.symm.trans e.symm)
            omega
          · rw [h] at e
            injection e with e
            omega)
        have g1 : (intCells part).length = part.length * 1 := by simp [intCells]
        have g3 : 0 + part.length ≤ maxLen := by unfold maxLen; omega
        have g4 : (0 + part.length) * 8 ≤ 140737488355328 := by omega
        have g5 : w1.heap.size ≤ (w1.drew.alloc (Obj.cells #[] 3)).heap.size := hbA.size
        have g6 : w1.heap.size ≤ ((w1.drew.alloc (Obj.cells #[] 3)).alloc (Obj.cells #[.int .i64 (x : Int)] 3)).heap.size := hbAX.size
        have g7 : w1.heap.size ≤ ((w1.drew.alloc (Obj.cells #[.int .i64 (x : Int)] 3)).alloc (Obj.cells #[] 3)).heap.size := hbXA.size
        have G1 := Lib.hid g1
        have k3 : 0 + part.length + 1 ≤ maxLen := by unfold maxLen; omega
        have k4 : (0 + part.length + 1) * 8 ≤ 140737488355328 := by omega
        have HOR := Lib.hid (show ∀ w2, (World.grownBy (w1.drew.alloc (Obj.cells #[] 3)) w2 (some w1.heap.size) ∨ World.grownBy ((w1.drew.alloc (Obj.cells #[] 3)).alloc (Obj.cells #[.int .i64 (x : Int)] 3)) w2 (some w1.heap.size)) ∨ World.grownBy ((w1.drew.alloc (Obj.cells #[.int .i64 (x : Int)] 3)).alloc (Obj.cells #[] 3)) w2 (some (w1.heap.size + 1)) → Below w1.heap.size w1 w2 from fun w2 h => by
          rcases h with (h | h) | h
          · exact HGR.out _ _ _ HBA.out h (fun q hq => by injection hq with hq; omega)
          · exact HGR.out _ _ _ HBAX.out h (fun q hq => by injection hq with hq; omega)
          · exact HGR.out _ _ _ HBXA.out h (fun q hq => by injection hq with hq; omega))
        have HBK := Lib.hid (show ∀ w2, (World.grownBy (w1.drew.alloc (Obj.cells #[] 3)) w2 (some w1.heap.size) ∨ World.grownBy ((w1.drew.alloc (Obj.cells #[] 3)).alloc (Obj.cells #[.int .i64 (x : Int)] 3)) w2 (some w1.heap.size)) ∨ World.grownBy ((w1.drew.alloc (Obj.cells #[.int .i64 (x : Int)] 3)).alloc (Obj.cells #[] 3)) w2 (some (w1.heap.size + 1)) → w2.heap[w.heap.size]? = w1.heap[w.heap.size]? from fun w2 h => (HOR.out w2 h).block _ hxs)
        have HCALL := Lib.hid (fun (v3 : Value) (w3 : World) (h3 : w3.ownsRow w1.heap.size 3 1 v3 (0 + part.length + 1) ([] ++ intCells part ++ [.int .i64 (x : Int)])) (hb : Below w1.heap.size w1 w3) => (show Calls Try.prog 94 #[.agg #[.int .i64 (M : Int), .slice A es.length c], v3, u2] w3 (GivesBox w3 base u2 (rs ++ F (x + 1))) from by
          have hq : QOwn w3 B0 v3 (part ++ [(x : Int)]) := by
            have h4 := ownsRow_mono h3 hs1
            have e1 : 0 + part.length + 1 = (part ++ [(x : Int)]).length := by simp
            have e2 : ([] : List Value) ++ intCells part ++ [.int .i64 (x : Int)] = intCells (part ++ [(x : Int)]) := by simp [intCells]
            rw [e1, e2] at h4
            exact h4
          obtain ⟨P2, c2, rfl⟩ := hq.slice
          have h5 := HIH.out x P2 c2 u2 w3 hlt1 ⟨I2.out.lo, (I2.out.next hb).own, hq, (I2.out.next hb).ed, (I2.out.next hb).size⟩
          rw [List.length_append, List.length_cons, List.length_nil]
          exact h5))
        clear hpc hOa hOb hOc hbA hbX hbAX hbXA g1
        go_wp2_with fail
        go_region_held3 (fun w' => w'.cell? ⟨w.heap.size, 0, none⟩ = some (.int .i64 (M : Int)) ∧ w'.cell? ⟨w.heap.size, 1, none⟩ = some (.slice A es.length c))
          (first
            | with_reducible exact HP0.out
            | exact keepC HP0.out hk4
            | exact keepC HP0.out hk3
            | exact keepC HP0.out hk2
            | exact keepC (by assumption) (((Below.refl _ _).alloc (Nat.le_refl _) _).block _ (by first | exact Nat.lt_of_lt_of_le hxs hbel2.size | exact hxs | (simp; omega))))
          (first
            | (refine step_append_ownD rfl (.tmp 46) (.tmp 47) 27 rfl w1.heap.size 3 i0 (.int .i64 0) 1 8 Try.underlying27 hi hz0 hz1 hz2 rfl (by decide) _ _ _ rfl (by first | exact HOA.out | exact HOB.out | exact HOC.out) ⟨bp, op, none⟩ part.length cp (intCells part) rfl G1.out (by first | exact HPC.out _ HBA.out | exact HPC.out _ HBAX.out | exact HPC.out _ HBXA.out) HU.out g3 g4 (by first | exact g5 | exact g6 | exact g7) ?_
               intro v2 w2 hown2 hgrow2
               have hor2 : (World.grownBy (w1.drew.alloc (Obj.cells #[] 3)) w2 (some w1.heap.size) ∨ World.grownBy ((w1.drew.alloc (Obj.cells #[] 3)).alloc (Obj.cells #[.int .i64 (x : Int)] 3)) w2 (some w1.heap.size)) ∨ World.grownBy ((w1.drew.alloc (Obj.cells #[.int .i64 (x : Int)] 3)).alloc (Obj.cells #[] 3)) w2 (some (w1.heap.size + 1)) := (by first | exact .inl (.inl hgrow2) | exact .inl (.inr hgrow2) | exact .inr hgrow2)
               have hbel2 : Below w1.heap.size w1 w2 := HOR.out w2 hor2
               have hk2 := HBK.out w2 hor2)
            | (refine step_append_ownD rfl (.tmp 48) (.tmp 50) 27 rfl w1.heap.size 3 i0 (.int .i64 0) 1 8 Try.underlying27 hi hz0 hz1 hz2 rfl (by decide) _ _ _ rfl (by first | exact hown2 | exact hown2.alloc _) _ 1 1 [.int .i64 (x : Int)] rfl rfl (by first | exact one_cell _ _ rfl _ _ | exact NXB.out _ hgrow2 | exact NXC.out _ hgrow2) (by simp [Value.oneCell']) k3 k4 (by first | exact hbel2.size | exact Nat.le_trans hbel2.size (by simp)) ?_
               intro v3 w3 hown3 hgrow3
               have hbel3 : Below w1.heap.size w1 w3 := (by first | exact HGR.out _ _ _ hbel2 hgrow3 (fun q hq => (hown2.lt q hq).1) | exact HGR.out _ _ _ (hbel2.alloc hbel2.size _) hgrow3 (fun q hq => (hown2.lt q hq).1))
               have hk3 : w3.heap[w.heap.size]? = w1.heap[w.heap.size]? := hbel3.block _ hxs)
            | (go_at_call 94; refine (HCALL.out v3 w3 hown3 hbel3).mono ?_; rintro e w4 ⟨v4, rfl, hso4, hfr4⟩; have hk4 : w4.heap[w.heap.size]? = w1.heap[w.heap.size]? := (hfr4.gr.block w.heap.size (Nat.lt_of_lt_of_le hxs hbel3.size) HVN.out).trans hk3))
        all_goals
          have I4 := Lib.hid ((I2.out.next hbel3).fr hfr4 hso4)
          have X4 := Lib.hid (show Blk w4 w.heap.size 25 #[.int .i64 (M : Int), .slice A es.length c] from hk4.trans X2.out)
          have R4 := Lib.hid (R2.out.trans ((Fr.of_below u2 hbel3).trans hfr4))
          clear hk4 hk3 hk2 hbel3 hbel2 hfr4 hso4 hown3 hown2 hgrow3 hgrow2 hor2 x0 x1 x2 x3 x4 HVN HGR HP0
          go_wp2
          exact ⟨⟨x + 1, by omega, by go_num, I4.out, X4.out, R4.out⟩, by simp [intOf]; omega⟩
      · have hlt2 : ¬ ((x : Int) < max 1 val) := by omega
        have hxm : x = mx := by omega
        have HO := Lib.hid (show SSOwn w1 base u2 (rs ++ F mx) from by rw [← hxm]; exact I2.out.own)
        have HR := Lib.hid (show Fr w w1 v u2 from (Fr.of_below v HB0.out).trans R2.out)
        clear hxm
        go_wp2
        go_ret
        exact ⟨u2, rfl, HO.out, HR.out⟩
end Go.Proofs.Ytmehdngibbilaaa

/- The specification's ClassesOf. -/
namespace Go.Proofs.Ytmehdngibbilaaa
open Go.RowKit

def GivesRowsOkC (w : World) (rs : List (List Int)) (b : Bool) (e : Ending) (w' : World) : Prop :=
  ∃ (A : Option Addr) (c : Nat), e = .returned (.tuple #[.slice A rs.length c, .bool b]) ∧ IntSS w' w'.heap.size A rs ∧ Below w.heap.size w w'
noncomputable def clsOk (N : Int) (es : List (Int × Int)) : Bool := graphB N es && decide (treesB N es ≤ 400)
noncomputable def clsC (N : Int) (es : List (Int × Int)) : List (List Int) := if clsOk N es = true then clsL (N.toNat - 1) es else []
theorem clsC_f {N : Int} {es : List (Int × Int)} (h : clsOk N es = false) : clsC N es = [] := by rw [clsC, if_neg (by rw [h]; decide)]
theorem clsC_t {m : Nat} {es : List (Int × Int)} (h : clsOk ((m + 1 : Nat) : Int) es = true) : clsC ((m + 1 : Nat) : Int) es = clsL m es := by rw [clsC, if_pos h, Int.toNat_natCast]; rfl
theorem sort_rows {w w' : World} {v : Value} {us : List Value} {L : List (List Int)} (h1 : w'.ownsRow w.heap.size 27 1 v L.length us) (h2 : RowsV w us L) (hb : Below w.heap.size w w') : ∃ (A : Option Addr) (c : Nat), v = .slice A L.length c ∧ IntSS w' w'.heap.size A L := by
  rcases h1.2 with ⟨e, e0⟩ | ⟨g, cap, cur, e, _, hg, _⟩
  · exact ⟨none, 0, by rw [e, e0], fun hn => by omega⟩
  · subst e
    refine ⟨some ⟨g, 0, none⟩, cap, rfl, fun hn => ⟨g, 0, rfl, (h1.lt g rfl).2, fun i r hr => ?_⟩⟩
    obtain ⟨Ai, ci, hu, hi⟩ := h2.2 i r hr
    have hil := (List.getElem?_eq_some_iff.1 hr).1
    refine ⟨Ai, ci, ?_, hi.up_ hb⟩
    rw [Nat.zero_add, h1.cellAt i (by omega), hu]
set_option maxRecDepth 100000 in
set_option maxHeartbeats 4000000 in
theorem specCls (N : Int) (A : Option Addr) (c : Nat) (es : List (Int × Int)) (w : World) (hn : es.length ≤ 1048576) (hE : EdgeS w w.heap.size A es) :
    Calls Try.prog 43 #[.agg #[.int .i64 N, .slice A es.length c]] w (GivesRowsOkC w (clsC N es) (clsOk N es)) := by
  have HE := Lib.hid hE
  have G0 := GB.start w N A c es
  have HD := fun w h1 => Lib.hid (specGraphOk N A c es w (by omega) h1)
  have HO := fun w h1 => Lib.hid (specOrdG N A c es w hn h1)
  cases h1 : graphB N es with
  | false =>
    rw [h1] at HD
    have h0 : clsOk N es = false := by rw [clsOk, h1]; rfl
    rw [clsC_f h0, h0]
    clear h1 h0 hE HO
    go_enter Try.func43, Try.ntmps43
    go_wp2_with fail
    refine (HD _ (HE.out.up_ G0.old)).out.mono ?_
    rintro e w1 ⟨rfl, hb1⟩
    have G1 := Lib.hid (G0.next hb1)
    clear G0 hb1
    go_wp2
    go_ret2
    exact ⟨none, 0, rfl, fun hn => absurd hn (by simp), G1.out.old⟩
  | true =>
    rw [h1] at HD
    by_cases h2 : treesB N es ≤ 400
    · have h0 : clsOk N es = true := by rw [clsOk, h1, decide_eq_true h2]; rfl
      obtain ⟨m, rfl, hG⟩ := grl_of h1
      have h5 := hG.m5
      rw [clsC_t h0, h0, (box_cls hG).eq]
      obtain ⟨T, hT⟩ : ∃ T, T = treesB ((m + 1 : Nat) : Int) es := ⟨_, rfl⟩
      rw [← hT] at HO h2
      have t2 : ¬ (400 : Int) < T := by omega
      have HBX := Lib.hid (fun (P : Option Addr) (cp : Nat) (W : World) (B0 base : Nat) (h : BoxI W B0 base P cp [0] A es (.slice none 0 0) []) => l09Boxes_any hG A c B0 base m P cp [0] (.slice none 0 0) [] W (by simp; omega) (PartL.zero m) (by
        have h3 : 12 ^ m ≤ 12 ^ 5 := Nat.pow_le_pow_right (by omega) h5
        have h4 : 12 ^ 5 = 248832 := by decide
        simp only [List.length_nil]
        omega) h)
      have hbl := box_len hG m [0] (by simp; omega)
      have hbl2 : (boxL (m + 1) es m [0]).length ≤ 1048576 := by
        have h3 : 12 ^ m ≤ 12 ^ 5 := Nat.pow_le_pow_right (by omega) h5
        have h4 : 12 ^ 5 = 248832 := by decide
        omega
      have hbm : ∀ r ∈ boxL (m + 1) es m [0], r.length = m + 1 := fun r hr => ((box_mem hG m [0] (by simp; omega) (PartL.zero m) r).1 hr).1.1.len
      have HST := Lib.hid (fun (X : Option Addr) (cx : Nat) (W : World) (h : IntSS W W.heap.size X (boxL (m + 1) es m [0])) => l09Sort_any X cx (m + 1) (boxL (m + 1) es m [0]) W hbl2 (by omega) hbm h)
      simp only [List.nil_append, List.length_singleton] at HBX
      obtain ⟨L, hL⟩ : ∃ L, L = boxL (m + 1) es m [0] := ⟨_, rfl⟩
      rw [← hL] at HBX HST ⊢
      clear h1 h2 h0 hE hT hL hbl hbl2 hbm hG h5
      generalize m + 1 = M at *
      go_enter Try.func43, Try.ntmps43
      go_wp2_with fail
      refine (HD _ (HE.out.up_ G0.old)).out.mono ?_
      rintro e w1 ⟨rfl, hb1⟩
      have G1 := Lib.hid (G0.next hb1)
      have c0 := G1.out.c0
      have c1 := G1.out.c1
      clear G0 hb1
      go_wp2_with fail
      refine (HO _ (HE.out.up_ G1.out.old)).out.mono ?_
      rintro e w2 ⟨rfl, hb2⟩
      have G2 := Lib.hid (G1.out.next hb2)
      clear hb2 c0 c1
      have c0 := G2.out.c0
      have c1 := G2.out.c1
      have hba : Below w2.heap.size w2 (w2.alloc (.cells #[.int .i64 0] 3)) := (Below.refl _ _).alloc (Nat.le_refl _) _
      have G3 := Lib.hid (G2.out.next hba)
      have HI := Lib.hid (show BoxI (w2.alloc (.cells #[.int .i64 0] 3)) w.heap.size (w2.alloc (.cells #[.int .i64 0] 3)).heap.size (some ⟨w2.heap.size, 0, none⟩) 1 [0] A es (.slice none 0 0) [] from
        ⟨G3.out.old.size, ⟨[], ⟨rfl, .inl ⟨rfl, rfl⟩⟩, fun i r h => by simp at h⟩, ⟨rfl, .inr ⟨w2.heap.size, 1, #[.int .i64 0], rfl, G2.out.old.size, heap_alloc_new w2 _, Nat.le_refl _, by unfold maxLen; omega, rfl, rfl⟩⟩, HE.out.below G3.out.old, Nat.le_refl _⟩)
      clear hba
      go_wp2_with fail
      refine (HBX.out (some ⟨w2.heap.size, 0, none⟩) 1 _ _ _ HI.out).mono ?_
      rintro e w4 ⟨v4, rfl, hso, hfr⟩
      have hb4 : Below (w2.alloc (.cells #[.int .i64 0] 3)).heap.size (w2.alloc (.cells #[.int .i64 0] 3)) w4 := grown_below hfr.gr (Nat.le_refl _) (fun k hk => by cases hk)
      obtain ⟨A4, c4, rfl, hs4⟩ := hso.rows
      have G4 := Lib.hid (G3.out.next hb4)
      have HS4 := Lib.hid hs4
      clear hb4 hso hfr hs4 c0 c1
      go_wp2_with fail
      refine (HST.out A4 c4 w4 HS4.out).mono ?_
      rintro e w5 ⟨v5, us, rfl, ho5, hr5, hb5⟩
      obtain ⟨A5, c5, rfl, hs5⟩ := sort_rows ho5 hr5 hb5
      have G5 := Lib.hid (G4.out.next hb5)
      have HS5 := Lib.hid hs5
      clear hb5 ho5 hr5 hs5
      go_wp2
      go_ret2
      exact ⟨A5, c5, rfl, HS5.out, G5.out.old⟩
    · have h0 : clsOk N es = false := by rw [clsOk, h1, decide_eq_false h2]; rfl
      rw [clsC_f h0, h0]
      obtain ⟨T, hT⟩ : ∃ T, T = treesB N es := ⟨_, rfl⟩
      rw [← hT] at HO h2
      have t2 : (400 : Int) < T := by omega
      clear h1 h0 hE hT h2
      go_enter Try.func43, Try.ntmps43
      go_wp2_with fail
      refine (HD _ (HE.out.up_ G0.old)).out.mono ?_
      rintro e w1 ⟨rfl, hb1⟩
      have G1 := Lib.hid (G0.next hb1)
      have c0 := G1.out.c0
      have c1 := G1.out.c1
      clear G0 hb1
      go_wp2_with fail
      refine (HO _ (HE.out.up_ G1.out.old)).out.mono ?_
      rintro e w2 ⟨rfl, hb2⟩
      have G2 := Lib.hid (G1.out.next hb2)
      clear hb2 c0 c1
      go_wp2
      go_ret2
      exact ⟨none, 0, rfl, fun hn => absurd hn (by simp), G2.out.old⟩
end Go.Proofs.Ytmehdngibbilaaa

/- ClassesOf: the answer is not long. -/
namespace Go.Proofs.Ytmehdngibbilaaa
open Go.RowKit

theorem GrL.gxw {m : Nat} {es : List (Int × Int)} (h : GrL m es) (w : World) : Gx m es :=
  h.gx (some ⟨w.heap.size, 0, none⟩) (w.alloc (.cells (flat es).toArray 71)) (OwnE.of_blk (base := 0) (Blk.new w 71 (flat es).toArray) (Nat.zero_le _)).edges
theorem clsL_len {m : Nat} {es : List (Int × Int)} (hG : GrL m es) (w : World) : (clsL m es).length = gSets m (redA 0 es) m := by
  rw [(box_cls hG).eq]
  exact (box_cls hG).len hG (hG.gxw w)
theorem clsC_len {m : Nat} {es : List (Int × Int)} (hB : graphB ((m + 1 : Nat) : Int) es = true) (hG : GrL m es) (h : treesB ((m + 1 : Nat) : Int) es ≤ 400) (w : World) : ((clsC ((m + 1 : Nat) : Int) es).length : Int) = treesB ((m + 1 : Nat) : Int) es := by
  have h0 : clsOk ((m + 1 : Nat) : Int) es = true := by rw [clsOk, hB, decide_eq_true h]; rfl
  rw [clsC_t h0, clsL_len hG w, trees_det hB hG.m5 hG.n12, (red_det hG.m5 (Nat.zero_le m) hG.cut hG.ed).1]
theorem clsC_few (N : Int) (es : List (Int × Int)) (w : World) : (clsC N es).length ≤ 400 ∧ lens (clsC N es) ≤ 1048576 := by
  cases h : clsOk N es with
  | false => rw [clsC_f h]; simp [lens]
  | true =>
    have h1 := h
    unfold clsOk at h1
    rw [Bool.and_eq_true, decide_eq_true_eq] at h1
    obtain ⟨m, rfl, hG⟩ := grl_of h1.1
    have h2 := clsC_len h1.1 hG h1.2 w
    have h3 : (clsC ((m + 1 : Nat) : Int) es).length ≤ 400 := by have := h1.2; omega
    have h5 := hG.m5
    have h4 := lens_le 6 (clsC ((m + 1 : Nat) : Int) es) fun r hr => by
      rw [clsC_t h] at hr
      rw [(box_cls hG).eq] at hr
      have := (((box_cls hG).2 r).1 hr).1.len
      omega
    omega
end Go.Proofs.Ytmehdngibbilaaa
