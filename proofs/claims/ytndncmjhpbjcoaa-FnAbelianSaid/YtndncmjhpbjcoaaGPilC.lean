/- Sandpiles: the first unstable vertex, stabilizing: the specification's side. -/
import Derived.Test.YtndncmjhpbjcoaaGPilB
import Derived.Test.YtndncmjhpbjcoaaGBE
set_option linter.all false
namespace Go.Proofs.Ytndncmjhpbjcoaa
open Go.RowKit

def uns1 (q : Nat) (es : List (Int × Int)) (P : List Int) (v : Nat) : Bool := decide (v ≠ q) && decide (valP es v ≤ P.getD v 0)
def unsF (M q : Nat) (es : List (Int × Int)) (P : List Int) : Option Nat := (List.range M).find? (uns1 q es P)
def unsI : Option Nat → Int
  | some v => (v : Int)
  | none => -1
theorem unsF_none {M q : Nat} {es : List (Int × Int)} {P : List Int} (h : unsF M q es P = none) : ∀ v, v < M → v ≠ q → P.getD v 0 < valP es v := fun v hv hq => by
  have := List.find?_eq_none.1 h v (List.mem_range.2 hv)
  simp only [uns1, Bool.and_eq_true, decide_eq_true_eq, not_and] at this
  have := this hq
  omega
theorem unsF_some {M q v : Nat} {es : List (Int × Int)} {P : List Int} (h : unsF M q es P = some v) : v < M ∧ v ≠ q ∧ valP es v ≤ P.getD v 0 := by
  have h1 := List.find?_some h
  have h2 := List.mem_of_find?_eq_some h
  simp only [uns1, Bool.and_eq_true, decide_eq_true_eq] at h1
  exact ⟨List.mem_range.1 h2, h1.1, h1.2⟩
theorem unsF_at {M q k : Nat} {es : List (Int × Int)} {P : List Int} (hk : k < M) (h0 : ∀ j, j < k → uns1 q es P j = false) (h : uns1 q es P k = true) : unsF M q es P = some k := by
  unfold unsF
  rw [List.find?_range_eq_some]
  exact ⟨h, List.mem_range.2 hk, fun j hj => by rw [h0 j hj]; rfl⟩
theorem unsF_no {M q : Nat} {es : List (Int × Int)} {P : List Int} (h0 : ∀ j, j < M → uns1 q es P j = false) : unsF M q es P = none := by
  unfold unsF
  rw [List.find?_eq_none]
  intro x hx
  rw [h0 x (List.mem_range.1 hx)]
  decide
end Go.Proofs.Ytndncmjhpbjcoaa
