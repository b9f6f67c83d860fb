/- bits.OnesCount of numbers below 64. -/
import Derived.Test.YtkmbdclhjdbhpabEdge
import Derived.Test.YtkmbdclhjdbhpabDetB
namespace Go.Proofs.Ytkmbdclhjdbhpab
open Go.RowKit

set_option maxRecDepth 100000 in
set_option maxHeartbeats 1000000 in
theorem ones64 (x : Nat) (hx : x < 64) (w : World) : Calls Try.prog 115 #[.int .u64 (x : Int)] w fun e w' => e = .returned (.int .i64 (ones x)) ∧ w = w' := by
  go_enter Try.func115, Try.ntmps115
  go_wp2
  go_ret
  refine ⟨ret_intE ?_, rfl⟩
  revert hx
  revert x
  decide +kernel
theorem onesU (x : Nat) (hx : x < 64) (w : World) : Calls Try.prog 101 #[.int .u64 (x : Int)] w fun e w' => e = .returned (.int .i64 (ones x)) ∧ w = w' := by
  go_enter Try.func101, Try.ntmps101
  go_wp2_with (go_at_call 115; refine (ones64 x hx _).mono ?_; rintro e w' ⟨rfl, rfl⟩)
  go_ret
  exact ⟨rfl, rfl⟩
end Go.Proofs.Ytkmbdclhjdbhpab
