/- Sandpiles: the program's unstable vertices. -/
import Derived.Test.YtndncmjhpbjcoaaRPilX
import Derived.Test.YtndncmjhpbjcoaaRAnyH
import Derived.Test.YtndncmjhpbjcoaaRBI
import Derived.Test.YtndncmjhpbjcoaaRBJ
set_option linter.all false
namespace Go.Proofs.Ytndncmjhpbjcoaa
open Go.RowKit

structure Pile (w : World) (sp pb g M cg cA q : Nat) (A : Option Addr) (es : List (Int × Int)) (P : List Int) : Prop where
  sand : Blk w sp 78 #[.pointer (some ⟨pb, 0, none⟩), .int .i64 (q : Int)]
  board : Blk w pb 75 #[.slice A es.length cA, .slice (some ⟨g, 0, none⟩) M cg]
  chips : Chips w g P
end Go.Proofs.Ytndncmjhpbjcoaa
