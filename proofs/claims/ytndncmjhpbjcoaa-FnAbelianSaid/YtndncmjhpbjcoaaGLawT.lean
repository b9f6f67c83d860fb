/- A law whose call starts goroutines: out of its code, walked beside leavers, comes the row. -/
import Derived.Test.YtndncmjhpbjcoaaGBA
import Derived.Test.YtndncmjhpbjcoaaGCB
set_option linter.all false
namespace Go.Proofs.Ytndncmjhpbjcoaa
open Go Go.Conc Go.ConcN Go.RowKit Go.WideShapes Go.ChangeShapes Go.ChangeAt

def LawEnd (W : World) : Value → World → Prop := fun v w' => v = .bool true ∧ Below W.heap.size W w'
theorem LawEnd.easy {W : World} : Easy (LawEnd W) := fun _ _ _ hl ⟨h1, h2⟩ =>
  ⟨h1, ⟨hl.drew.os.trans h2.os, hl.drew.tape.trans h2.tape, hl.drew.out.trans h2.output, by rw [hl.heap]; exact h2.size, fun i hi => by rw [hl.heap]; exact h2.block i hi⟩⟩
end Go.Proofs.Ytndncmjhpbjcoaa
