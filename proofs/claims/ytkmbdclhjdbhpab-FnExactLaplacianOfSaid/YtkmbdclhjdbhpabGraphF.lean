/- What a valid graph keeps. -/
import Derived.Test.YtkmbdclhjdbhpabGraphS
import Derived.Test.YtkmbdclhjdbhpabVertB
namespace Go.Proofs.Ytkmbdclhjdbhpab
open Go.RowKit

theorem graphB_all {N : Int} {es : List (Int × Int)} (h : graphB N es = true) : edgesB N es = true ∧ Conn N es := by
  simp only [graphB, Bool.and_eq_true] at h
  refine ⟨h.1.1, ?_⟩
  have := h.2
  unfold connB at this
  simpa using this
end Go.Proofs.Ytkmbdclhjdbhpab
