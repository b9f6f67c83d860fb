/- Sandpiles: the program's unstable vertices. -/
import Derived.Test.YtdpojcgeblbfeaaWPilH
import Derived.Test.YtdpojcgeblbfeaaWBI
import Derived.Test.YtdpojcgeblbfeaaWBA
import Derived.Test.YtdpojcgeblbfeaaWBF
import Derived.Test.YtdpojcgeblbfeaaWSh
import Derived.Test.YtdpojcgeblbfeaaWAnyH
import Derived.Test.YtdpojcgeblbfeaaWBJ
set_option linter.all false
namespace Go.Proofs.Ytdpojcgeblbfeaa
open Go.RowKit

structure Pile (w : World) (sp pb g M cg cA q : Nat) (A : Option Addr) (es : List (Int × Int)) (P : List Int) : Prop where
  sand : Blk w sp 128 #[.pointer (some ⟨pb, 0, none⟩), .int .i64 (q : Int)]
  board : Blk w pb 112 #[.slice A es.length cA, .slice (some ⟨g, 0, none⟩) M cg]
  chips : Chips w g P
end Go.Proofs.Ytdpojcgeblbfeaa
