/- Queues kept from world to world. -/
import Derived.Test.YtkmbdclhjdbhpabQueue
import Derived.Test.YtkmbdclhjdbhpabMapDel
namespace Go.Proofs.Ytkmbdclhjdbhpab
open Go.RowKit

theorem QOwn.below {w w' : World} {base : Nat} {v : Value} {q : List Int} (h : QOwn w base v q) (hb : Below w.heap.size w w') : QOwn w' base v q :=
  World.ownsRow.kept h (row := none) ⟨hb.os, hb.tape, hb.output, hb.size, fun i hi _ => hb.block i hi⟩ (Classical.em _)
theorem QOwn.set {w : World} {base b o n c g i : Nat} {q : List Int} {u : Value} (h : QOwn w base (.slice (some ⟨b, o, none⟩) n c) q) (hg : g < base) : QOwn (w.setCell ⟨g, i, none⟩ u) base (.slice (some ⟨b, o, none⟩) n c) q :=
  World.ownsRow.kept h (setCell_grown w g i u) (.inr (by have := h.block; simp only [Value.ownBlock, ne_eq, Option.some.injEq]; omega))
end Go.Proofs.Ytkmbdclhjdbhpab
