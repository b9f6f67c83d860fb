/- Two closed facts of the translated program. -/
import Derived.Test.YtijmenmmijkpbaaLaw
namespace Go.Proofs.Ytijmenmmijkpbaa
theorem Try.own : ownKnob Try.prog.godebug = none := by kernel_rfl
theorem Try.laidOut : laidOutB Try.prog = true := by kernel_rfl
end Go.Proofs.Ytijmenmmijkpbaa
