/- RecurrentPiles and ParkingsOf: the specification's side. -/
import Derived.Test.YtdpojcgeblbfeaaVPilS
import Derived.Test.YtdpojcgeblbfeaaVAllM
import Derived.Test.YtdpojcgeblbfeaaVFrB
import Derived.Test.YtdpojcgeblbfeaaVBI
import Derived.Test.YtdpojcgeblbfeaaVBM
import Derived.Test.YtdpojcgeblbfeaaVOutR
import Derived.Test.YtdpojcgeblbfeaaVRecN
import Derived.Test.YtdpojcgeblbfeaaVBG
import Derived.Test.YtdpojcgeblbfeaaVBT
import Derived.Test.YtdpojcgeblbfeaaVPilH
import Derived.Test.YtdpojcgeblbfeaaVPilY
import Derived.OwnWalk
import Derived.Test.YtdpojcgeblbfeaaVPilA
import Derived.Test.YtdpojcgeblbfeaaVBJ
import Derived.Test.YtdpojcgeblbfeaaVBE
import Derived.Test.YtdpojcgeblbfeaaVBA
import Derived.Test.YtdpojcgeblbfeaaVAnyH
import Derived.Test.YtdpojcgeblbfeaaVBF
set_option linter.all false
namespace Go.Proofs.Ytdpojcgeblbfeaa
open Go.RowKit

def GivesRowsP (w : World) (rs : List (List Int)) (b : Bool) (e : Ending) (w' : World) : Prop :=
  ∃ (A : Option Addr) (c : Nat), e = .returned (.tuple #[.slice A rs.length c, .bool b]) ∧ IntSS w' w'.heap.size A rs ∧ Below w.heap.size w w'
theorem box_rows {w : World} {B : Nat} {v : Value} {rs : List (List Int)} (h : SSOwn w B v rs) : ∃ (A : Option Addr) (c : Nat), v = .slice A rs.length c ∧ IntSS w w.heap.size A rs := by
  obtain ⟨A, c, e, hs⟩ := h.rows
  exact ⟨A, c, e, hs⟩
end Go.Proofs.Ytdpojcgeblbfeaa
