/- NegateDivisor: the specification's appended numbers and the program's filled slice are one plain list. -/
import Derived.Test.YtndncmjhpbjcoaaKBA
set_option linter.all false
namespace Go.Proofs.Ytndncmjhpbjcoaa
open Go.RowKit

theorem take_snocI {l : List Int} {k : Nat} {x : Int} (h : l[k]? = some x) : l.take (k + 1) = l.take k ++ [x] := by rw [List.take_add_one, h]; rfl

theorem partI_len0 (xs : List Int) : partI xs 0 = List.replicate xs.length 0 := by simp [partI]
end Go.Proofs.Ytndncmjhpbjcoaa
