/- Spanning trees as ascending lists of indices: what joins and what is cut; what the walk hands back. -/
import Derived.Test.YtdpojcgeblbfeaaTBJ
import Derived.Test.YtdpojcgeblbfeaaTBU
set_option linter.all false
namespace Go.Proofs.Ytdpojcgeblbfeaa
open Go.RowKit

def partL (es : List (Int × Int)) (T : List Int) : List (Int × Int) := T.map fun i => es.getD i.toNat (0, 0)
theorem asc_at {n k : Nat} {T : List Int} (hT : AscP n k T) {i : Int} (hi : i ∈ T) : 0 ≤ i ∧ i < (n : Int) := by
  obtain ⟨j, hj⟩ := List.getElem?_of_mem hi
  have hjl := (List.getElem?_eq_some_iff.1 hj).1
  have h := hT.2.1 j (by rw [← hT.1]; exact hjl)
  have e2 : T.getD j 0 = i := by rw [List.getD, hj]; rfl
  rwa [e2] at h
end Go.Proofs.Ytdpojcgeblbfeaa
