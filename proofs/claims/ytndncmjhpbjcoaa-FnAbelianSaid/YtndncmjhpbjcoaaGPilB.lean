/- Sandpiles: one toppling: the specification's side. -/
import Derived.Test.YtndncmjhpbjcoaaGPilA
import Derived.Test.YtndncmjhpbjcoaaGBJ
import Derived.Test.YtndncmjhpbjcoaaGBM
set_option linter.all false
namespace Go.Proofs.Ytndncmjhpbjcoaa
open Go.RowKit

theorem nets_cap (v u : Nat) : ∀ es : List (Int × Int), nets (v : Int) u es ≤ es.length
  | [] => by simp [nets]
  | e :: l => by
    have ih := nets_cap v u l
    have : net (v : Int) u e ≤ 1 := by
      unfold net ind
      repeat' split
      all_goals omega
    rw [nets, List.length_cons]
    omega
end Go.Proofs.Ytndncmjhpbjcoaa
