/- Sandpiles: the program's unstable vertices. -/
import Derived.Test.YtdpojcgeblbfeaaVPilH
import Derived.Test.YtdpojcgeblbfeaaVBI
import Derived.Test.YtdpojcgeblbfeaaVBA
import Derived.Test.YtdpojcgeblbfeaaVBF
import Derived.Test.YtdpojcgeblbfeaaVSh
import Derived.Test.YtdpojcgeblbfeaaVAnyH
import Derived.Test.YtdpojcgeblbfeaaVBJ
set_option linter.all false
namespace Go.Proofs.Ytdpojcgeblbfeaa
open Go.RowKit

structure Pile (w : World) (sp pb g M cg cA q : Nat) (A : Option Addr) (es : List (Int × Int)) (P : List Int) : Prop where
  sand : Blk w sp 128 #[.pointer (some ⟨pb, 0, none⟩), .int .i64 (q : Int)]
  board : Blk w pb 112 #[.slice A es.length cA, .slice (some ⟨g, 0, none⟩) M cg]
  chips : Chips w g P
end Go.Proofs.Ytdpojcgeblbfeaa
