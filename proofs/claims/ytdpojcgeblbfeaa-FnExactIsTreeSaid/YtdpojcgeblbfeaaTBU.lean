/- One text out of several: LesM EnuM SetM TreM TreN TreO. -/
import Derived.Test.YtdpojcgeblbfeaaTBD
import Derived.Test.YtdpojcgeblbfeaaTBG
set_option linter.all false
/- Lists in order, the plain math: lexicographic order; sorting by insertion from the right; what is sorted and has given members is one list. -/
namespace Go.Proofs.Ytdpojcgeblbfeaa

def lessL : List Int → List Int → Bool
  | x :: a, y :: b => if x = y then lessL a b else decide (x < y)
  | _, _ => false
theorem lessL_total : ∀ {a b : List Int}, a.length = b.length → lessL a b = false → a = b ∨ lessL b a = true
  | [], [], _, _ => .inl rfl
  | x :: a, y :: b, hl, h => by
    rw [lessL] at h ⊢
    by_cases e : x = y
    · subst e
      rw [if_pos rfl] at h ⊢
      rcases lessL_total (by simpa using hl) h with g | g
      · exact .inl (by rw [g])
      · exact .inr g
    · rw [if_neg e, decide_eq_false_iff_not] at h
      rw [if_neg (fun g => e g.symm), decide_eq_true_eq]
      exact .inr (by omega)
  | [], _ :: _, hl, _ => by simp at hl
  | _ :: _, [], hl, _ => by simp at hl
/-! ### insertion from the right -/
end Go.Proofs.Ytdpojcgeblbfeaa

/- Lists that are found one after another in lexicographic order: a counter, and what it has found. -/
namespace Go.Proofs.Ytdpojcgeblbfeaa

theorem lessL_of {x y : List Int} : ∀ {k : Nat}, x.length = y.length → k < x.length → (∀ j, j < k → x.getD j 0 = y.getD j 0) → x.getD k 0 < y.getD k 0 → lessL x y = true := by
  induction x generalizing y with
  | nil => intro k _ h; simp at h
  | cons a x ih =>
    intro k hl hk he hlt
    cases y with
    | nil => simp at hl
    | cons b y =>
      rw [lessL]
      cases k with
      | zero =>
        have h : a < b := by simpa using hlt
        rw [if_neg (by omega)]
        exact decide_eq_true h
      | succ k =>
        have h0 : a = b := by simpa using he 0 (by omega)
        rw [if_pos h0]
        refine ih (k := k) (by simpa using hl) (by simpa using hk) (fun j hj => ?_) (by simpa using hlt)
        simpa using he (j + 1) (by omega)
theorem lessL_ex {x y : List Int} (hl : x.length = y.length) (h : lessL x y = true) : ∃ k, k < x.length ∧ (∀ j, j < k → x.getD j 0 = y.getD j 0) ∧ x.getD k 0 < y.getD k 0 := by
  induction x generalizing y with
  | nil => cases y <;> simp [lessL] at h
  | cons a x ih =>
    cases y with
    | nil => simp at hl
    | cons b y =>
      rw [lessL] at h
      by_cases e : a = b
      · subst e
        rw [if_pos rfl] at h
        obtain ⟨k, h1, h2, h3⟩ := ih (by simpa using hl) h
        refine ⟨k + 1, by simpa using h1, fun j hj => ?_, by simpa using h3⟩
        cases j with
        | zero => rfl
        | succ j => simpa using h2 j (by omega)
      · rw [if_neg e, decide_eq_true_eq] at h
        exact ⟨0, by simp, fun j hj => absurd hj (by omega), by simpa using h⟩
theorem not_less {x c : List Int} (hl : x.length = c.length) (h : lessL c x = false) : lessL x c = true ∨ x = c := by
  rcases lessL_total hl.symm h with g | g
  · exact .inr g.symm
  · exact .inl g
structure Succ (P : List Int → Prop) (c c' : List Int) (v : Nat) : Prop where
  lt : v < c.length
  len : c'.length = c.length
  pre : ∀ u, u < v → c'.getD u 0 = c.getD u 0
  at_ : c'.getD v 0 = c.getD v 0 + 1
  hi : ∀ x, P x → ∀ u, v < u → u < c.length → x.getD u 0 ≤ c.getD u 0
  lo : ∀ x, P x → x.getD v 0 = c'.getD v 0 → ∀ u, v < u → u < c.length → c'.getD u 0 ≤ x.getD u 0
theorem Succ.less {P : List Int → Prop} {c c' : List Int} {v : Nat} (h : Succ P c c' v) {x : List Int} (hP : P x) (hl : x.length = c.length) : lessL x c' = true ↔ lessL x c = true ∨ x = c := by
  constructor
  · intro hx
    obtain ⟨k, h1, h2, h3⟩ := lessL_ex (by rw [hl, h.len]) hx
    apply not_less hl
    cases hcx : lessL c x with
    | false => rfl
    | true =>
      exfalso
      obtain ⟨k', g1, g2, g3⟩ := lessL_ex hl.symm hcx
      rcases Nat.lt_trichotomy k v with hk | rfl | hk
      · rw [h.pre k hk] at h3
        rcases Nat.lt_trichotomy k' k with hk' | rfl | hk'
        · have := h2 k' hk'
          rw [h.pre k' (by omega)] at this
          omega
        · omega
        · have := g2 k hk'
          omega
      · rw [h.at_] at h3
        rcases Nat.lt_trichotomy k' k with hk' | rfl | hk'
        · have := h2 k' hk'
          rw [h.pre k' (by omega)] at this
          omega
        · omega
        · have := h.hi x hP k' hk' g1
          omega
      · have := h.lo x hP (h2 v hk) k hk (by omega)
        omega
  · intro hx
    rcases hx with hx | rfl
    · obtain ⟨k, h1, h2, h3⟩ := lessL_ex hl hx
      rcases Nat.lt_or_ge k v with hk | hk
      · refine lessL_of (k := k) (by rw [hl, h.len]) h1 (fun j hj => ?_) ?_
        · rw [h.pre j (by omega)]; exact h2 j hj
        · rw [h.pre k hk]; exact h3
      · refine lessL_of (k := v) (by rw [hl, h.len]) (by rw [hl]; exact h.lt) (fun j hj => ?_) ?_
        · rw [h.pre j hj]; exact h2 j (by omega)
        · rw [h.at_]
          by_cases e : k = v
          · subst e; omega
          · have := h2 v (by omega)
            omega
    · refine lessL_of (k := v) h.len.symm h.lt (fun j hj => ?_) ?_
      · rw [h.pre j hj]
      · rw [h.at_]; omega
structure Enum (P : List Int → Prop) (good : List Int → Bool) (c : List Int) (L : List (List Int)) : Prop where
  st : L.Pairwise fun a b => lessL a b = true
  mem : ∀ x, x ∈ L ↔ P x ∧ good x = true ∧ lessL x c = true
structure EnumTo (P : List Int → Prop) (good : List Int → Bool) (c : List Int) (L : List (List Int)) : Prop where
  st : L.Pairwise fun a b => lessL a b = true
  mem : ∀ x, x ∈ L ↔ P x ∧ good x = true ∧ (lessL x c = true ∨ x = c)
section
variable {P : List Int → Prop} {good : List Int → Bool} {c c' : List Int} {L : List (List Int)} {v : Nat}
theorem Enum.no (h : Enum P good c L) (hg : good c = false) : EnumTo P good c L where
  st := h.st
  mem := fun x => by
    rw [h.mem]
    constructor
    · rintro ⟨a, b, d⟩
      exact ⟨a, b, .inl d⟩
    · rintro ⟨a, b, d | d⟩
      · exact ⟨a, b, d⟩
      · subst d
        rw [hg] at b
        cases b
theorem EnumTo.next (h : EnumTo P good c L) (hl : ∀ x, P x → x.length = c.length) (hs : Succ P c c' v) : Enum P good c' L where
  st := h.st
  mem := fun x => by
    rw [h.mem]
    constructor
    · rintro ⟨a, b, d⟩
      exact ⟨a, b, (hs.less a (hl x a)).2 d⟩
    · rintro ⟨a, b, d⟩
      exact ⟨a, b, (hs.less a (hl x a)).1 d⟩
theorem EnumTo.fin (h : EnumTo P good c L) (hl : ∀ x, P x → x.length = c.length) (hm : ∀ x, P x → ∀ u, u < c.length → x.getD u 0 ≤ c.getD u 0) : ∀ x, x ∈ L ↔ P x ∧ good x = true := fun x => by
  rw [h.mem]
  constructor
  · rintro ⟨a, b, _⟩
    exact ⟨a, b⟩
  · rintro ⟨a, b⟩
    refine ⟨a, b, not_less (hl x a) ?_⟩
    cases hcx : lessL c x with
    | false => rfl
    | true =>
      obtain ⟨k, g1, g2, g3⟩ := lessL_ex (hl x a).symm hcx
      have := hm x a k g1
      omega
theorem Enum.start (hl : ∀ x, P x → x.length = c.length) (hm : ∀ x, P x → ∀ u, u < c.length → c.getD u 0 ≤ x.getD u 0) : Enum P good c [] where
  st := List.Pairwise.nil
  mem := fun x => by
    constructor
    · intro h; cases h
    · rintro ⟨a, b, d⟩
      obtain ⟨k, g1, g2, g3⟩ := lessL_ex (hl x a) d
      have := hm x a k (by rw [← hl x a]; exact g1)
      omega
end
/-! ### counters with limits (recurrent configurations), and ascending lists (trees) -/
def AscP (n k : Nat) (x : List Int) : Prop := x.length = k ∧ (∀ u, u < k → 0 ≤ x.getD u 0 ∧ x.getD u 0 < (n : Int)) ∧ ∀ u, u + 1 < k → x.getD u 0 < x.getD (u + 1) 0
end Go.Proofs.Ytdpojcgeblbfeaa

/- The specification's sets of k numbers below n: all ascending lists, in lexicographic order. -/
namespace Go.Proofs.Ytdpojcgeblbfeaa

end Go.Proofs.Ytdpojcgeblbfeaa

/- Spanning trees and parking functions, the plain math: the walk edge by edge. -/
namespace Go.Proofs.Ytdpojcgeblbfeaa
open Go.RowKit

def eA (es : List (Int × Int)) (i : Nat) : Nat := (es.getD i (0, 0)).1.toNat
def eB (es : List (Int × Int)) (i : Nat) : Nat := (es.getD i (0, 0)).2.toNat
structure WSt where
  b : Nat → Bool
  t : Nat → Bool
  l : Nat → Int
  o : List Nat
def setT (b : Nat → Bool) (v : Nat) : Nat → Bool := fun u => decide (u = v) || b u
theorem setT_up {b : Nat → Bool} {v u : Nat} (h : b u = true) : setT b v u = true := by simp [setT, h]
def freeE (es : List (Int × Int)) (s : WSt) (i : Nat) : Bool := !s.t i && (s.b (eA es i) != s.b (eB es i))
def nextE (es : List (Int × Int)) (s : WSt) : Option Nat := (List.range es.length).find? (freeE es s)
def endV (es : List (Int × Int)) (b : Nat → Bool) (i : Nat) : Nat := if b (eA es i) = true then eB es i else eA es i
def othV (es : List (Int × Int)) (b : Nat → Bool) (i : Nat) : Nat := if b (eA es i) = true then eA es i else eB es i
def stepW (es : List (Int × Int)) (dec : Nat → Nat → Int → Bool) (s : WSt) (i : Nat) : WSt :=
  if dec i (endV es s.b i) (s.l (endV es s.b i)) = true then ⟨setT s.b (endV es s.b i), setT s.t i, s.l, s.o ++ [i]⟩ else ⟨s.b, setT s.t i, addAt s.l (endV es s.b i) 1, s.o⟩
def walkW (es : List (Int × Int)) (dec : Nat → Nat → Int → Bool) : Nat → WSt → WSt
  | 0, s => s
  | k + 1, s => match nextE es s with
    | none => s
    | some i => walkW es dec k (stepW es dec s i)
def startW (q : Nat) : WSt := ⟨fun v => decide (v = q), fun _ => false, fun _ => 0, []⟩
def endW (es : List (Int × Int)) (dec : Nat → Nat → Int → Bool) (q : Nat) : WSt := walkW es dec es.length (startW q)
section
variable {M q : Nat} {es : List (Int × Int)} {dec dec' : Nat → Nat → Int → Bool} {s : WSt} {i : Nat} {f : Nat → Int}
theorem next_some (h : nextE es s = some i) : i < es.length ∧ s.t i = false ∧ s.b (eA es i) ≠ s.b (eB es i) := by
  have h1 := List.find?_some h
  have h2 := List.mem_of_find?_eq_some h
  unfold freeE at h1
  simp only [Bool.and_eq_true, Bool.not_eq_true', bne_iff_ne] at h1
  exact ⟨List.mem_range.1 h2, h1.1, h1.2⟩
theorem ends_w (h : s.b (eA es i) ≠ s.b (eB es i)) : s.b (endV es s.b i) = false ∧ s.b (othV es s.b i) = true ∧ ((endV es s.b i = eA es i ∧ othV es s.b i = eB es i) ∨ (endV es s.b i = eB es i ∧ othV es s.b i = eA es i)) := by
  unfold endV othV
  cases ha : s.b (eA es i) with
  | true =>
    rw [ha] at h
    refine ⟨?_, ?_, .inr ⟨?_, ?_⟩⟩ <;> simp [ha]
    cases hb : s.b (eB es i) with
    | true => rw [hb] at h; exact absurd rfl h
    | false => rfl
  | false =>
    rw [ha] at h
    refine ⟨?_, ?_, .inl ⟨?_, ?_⟩⟩ <;> simp [ha]
    cases hb : s.b (eB es i) with
    | false => rw [hb] at h; exact absurd rfl h
    | true => rfl
inductive WR (es : List (Int × Int)) (dec : Nat → Nat → Int → Bool) (q : Nat) : WSt → Prop
  | start : WR es dec q (startW q)
  | step {s : WSt} {i : Nat} : WR es dec q s → nextE es s = some i → WR es dec q (stepW es dec s i)
theorem WR.walk (h : WR es dec q s) : ∀ k, WR es dec q (walkW es dec k s) := fun k => by
  induction k generalizing s with
  | zero => exact h
  | succ k ih =>
    rw [walkW]
    cases hn : nextE es s with
    | none => exact h
    | some i => exact ih (h.step hn)
theorem WR.fin : WR es dec q (endW es dec q) := WR.start.walk _
structure Later (s s' : WSt) : Prop where
  b : ∀ v, s.b v = true → s'.b v = true
  l : ∀ v, s.b v = true → s'.l v = s.l v
  up : ∀ v, s.l v ≤ s'.l v
  o : ∀ i, i ∈ s.o → i ∈ s'.o
  no : ∀ i, s.t i = true → i ∈ s'.o → i ∈ s.o
  t : ∀ i, s.t i = true → s'.t i = true
theorem Later.refl (s : WSt) : Later s s := ⟨fun _ h => h, fun _ _ => rfl, fun _ => Int.le_refl _, fun _ h => h, fun _ _ h => h, fun _ h => h⟩
theorem Later.trans {a b c : WSt} (h : Later a b) (k : Later b c) : Later a c :=
  ⟨fun v e => k.b v (h.b v e), fun v e => (k.l v (h.b v e)).trans (h.l v e), fun v => Int.le_trans (h.up v) (k.up v), fun i e => k.o i (h.o i e), fun i e e2 => h.no i e (k.no i (h.t i e) e2), fun i e => k.t i (h.t i e)⟩
theorem Later.step (hn : nextE es s = some i) : Later s (stepW es dec s i) := by
  obtain ⟨h1, h2, h3⟩ := next_some hn
  obtain ⟨k1, -, -⟩ := ends_w h3
  unfold stepW
  split
  · refine ⟨fun v e => setT_up e, fun _ _ => rfl, fun _ => Int.le_refl _, fun j e => by simp [e], fun j e e2 => ?_, fun j e => setT_up e⟩
    rcases List.mem_append.1 e2 with e2 | e2
    · exact e2
    · have := List.mem_singleton.1 e2
      subst this
      rw [h2] at e
      cases e
  · refine ⟨fun v e => e, fun v e => ?_, fun v => ?_, fun j e => e, fun j _ e2 => e2, fun j e => setT_up e⟩
    · have : v ≠ endV es s.b i := fun h => by rw [h, k1] at e; cases e
      show addAt s.l (endV es s.b i) 1 v = s.l v
      unfold addAt
      rw [if_neg this]
    · show s.l v ≤ addAt s.l (endV es s.b i) 1 v
      unfold addAt
      split <;> omega
theorem Later.walk : ∀ (k : Nat) (s : WSt), Later s (walkW es dec k s)
  | 0, s => Later.refl s
  | k + 1, s => by
    rw [walkW]
    cases hn : nextE es s with
    | none => exact Later.refl s
    | some i => exact (Later.step hn).trans (Later.walk k _)
end
end Go.Proofs.Ytdpojcgeblbfeaa

/- Spanning trees and parking functions: what the walk loses, that all burns, and there and back. -/
namespace Go.Proofs.Ytdpojcgeblbfeaa
open Go.RowKit

section
variable {M q : Nat} {es : List (Int × Int)} {dec : Nat → Nat → Int → Bool} {s : WSt} {i : Nat} {f : List Int}
end
end Go.Proofs.Ytdpojcgeblbfeaa

/- Spanning trees and parking functions: there and back. -/
namespace Go.Proofs.Ytdpojcgeblbfeaa
open Go.RowKit

section
variable {M q : Nat} {es : List (Int × Int)} {dec : Nat → Nat → Int → Bool} {s : WSt} {i : Nat} {f : List Int} {T : List Nat}
end
end Go.Proofs.Ytdpojcgeblbfeaa
