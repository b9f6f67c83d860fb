/- Sandpiles: FullPile: the specification's side. -/
import Derived.Test.YtdpojcgeblbfeaaWPilA
import Derived.Test.YtdpojcgeblbfeaaWBJ
import Derived.Test.YtdpojcgeblbfeaaWBM
import Derived.Test.YtdpojcgeblbfeaaWBE
import Derived.Test.YtdpojcgeblbfeaaWBI
set_option linter.all false
namespace Go.Proofs.Ytdpojcgeblbfeaa
open Go.RowKit

def fullTo (es : List (Int × Int)) (q j : Nat) : List Int := (List.range j).map fun u => if u = q then 0 else valP es u - 1
theorem fullTo_len (es : List (Int × Int)) (q j : Nat) : (fullTo es q j).length = j := by simp [fullTo]
noncomputable def fullOk (N : Int) (es : List (Int × Int)) (q : Int) : Bool := graphB N es && vB q N
noncomputable def fullC (N : Int) (es : List (Int × Int)) (q : Int) : List Int := if fullOk N es q = true then fullTo es q.toNat N.toNat else []
theorem fullC_f {N : Int} {es : List (Int × Int)} {q : Int} (h : fullOk N es q = false) : fullC N es q = [] := by rw [fullC, if_neg (by rw [h]; decide)]
theorem fullC_t {M k : Nat} {es : List (Int × Int)} (h : fullOk (M : Int) es (k : Int) = true) : fullC (M : Int) es (k : Int) = fullTo es k M := by rw [fullC, if_pos h]; rfl
end Go.Proofs.Ytdpojcgeblbfeaa
