/- Sandpiles: the program's first unstable vertex, its sandpile. -/
import Derived.Test.YtdpojcgeblbfeaaVUnsI
set_option linter.all false
namespace Go.Proofs.Ytdpojcgeblbfeaa
open Go.RowKit

theorem Pile.below {w w' : World} {sp pb g M cg cA q : Nat} {A : Option Addr} {es : List (Int × Int)} {P : List Int} (h : Pile w sp pb g M cg cA q A es P) (hb : Below w.heap.size w w') : Pile w' sp pb g M cg cA q A es P :=
  ⟨(hb.block sp h.sand.lt).trans h.sand, (hb.block pb h.board.lt).trans h.board, h.chips.below hb⟩
end Go.Proofs.Ytdpojcgeblbfeaa
