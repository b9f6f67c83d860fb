/- Sandpiles: FullPile: the specification's side. -/
import Derived.Test.YtdpojcgeblbfeaaVPilA
import Derived.Test.YtdpojcgeblbfeaaVBJ
import Derived.Test.YtdpojcgeblbfeaaVBM
import Derived.Test.YtdpojcgeblbfeaaVBE
import Derived.Test.YtdpojcgeblbfeaaVBI
set_option linter.all false
namespace Go.Proofs.Ytdpojcgeblbfeaa
open Go.RowKit

def fullTo (es : List (Int × Int)) (q j : Nat) : List Int := (List.range j).map fun u => if u = q then 0 else valP es u - 1
end Go.Proofs.Ytdpojcgeblbfeaa
