/- Two closed facts of the translated program. -/
import Derived.Test.YtbmihbbpdmpmpaaDoorLaw
namespace Go.Proofs.YtbmihbbpdmpmpaaDoor
theorem Tryd.own : ownKnob Tryd.prog.godebug = none := by kernel_rfl
theorem Tryd.laidOut : laidOutB Tryd.prog = true := by kernel_rfl
theorem int_wf {n : Int} (h : (Lit.int .i64 n).wf = true) : -9223372036854775808 ≤ n ∧ n ≤ 9223372036854775807 := by
  simp only [Lit.wf, Bool.and_eq_true, decide_eq_true_eq] at h
  exact h
end Go.Proofs.YtbmihbbpdmpmpaaDoor
