/- Sandpiles: the specification's Topple. -/
import Derived.Test.YtndncmjhpbjcoaaGPilE
import Derived.Test.YtndncmjhpbjcoaaGAnyH
set_option linter.all false
namespace Go.Proofs.Ytndncmjhpbjcoaa
open Go.RowKit

noncomputable def topOk (N : Int) (es : List (Int × Int)) (p : List Int) (q v : Int) : Bool := pileB N es p q && (decide (v ≠ q) && (vB v N && decide (valP es v.toNat ≤ p.getD v.toNat 0)))
noncomputable def topC (N : Int) (es : List (Int × Int)) (p : List Int) (q v : Int) : List Int := if topOk N es p q v = true then pileL N.toNat es p q.toNat (addAt (fun _ => 0) v.toNat 1) else []
theorem topC_f {N : Int} {es : List (Int × Int)} {p : List Int} {q v : Int} (h : topOk N es p q v = false) : topC N es p q v = [] := by rw [topC, if_neg (by rw [h]; decide)]
theorem topC_t {M k j : Nat} {es : List (Int × Int)} {p : List Int} (h : topOk (M : Int) es p (k : Int) (j : Int) = true) : topC (M : Int) es p (k : Int) (j : Int) = pileL M es p k (addAt (fun _ => 0) j 1) := by rw [topC, if_pos h]; rfl
end Go.Proofs.Ytndncmjhpbjcoaa
