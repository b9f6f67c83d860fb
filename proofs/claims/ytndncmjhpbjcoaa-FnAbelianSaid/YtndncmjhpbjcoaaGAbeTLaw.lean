/- laws.FnAbelian: for every argument the call returns true, and each argument reads afterwards as it read before. No condition. -/
import Derived.Test.YtndncmjhpbjcoaaRows
import Derived.Test.YtndncmjhpbjcoaaGAbeT
import Derived.Test.YtndncmjhpbjcoaaGBA
import Derived.Test.YtndncmjhpbjcoaaGLonU
import Derived.Test.YtndncmjhpbjcoaaGPilV
import Derived.ProofKit
import Derived.Test.YtndncmjhpbjcoaaGBM
set_option linter.all false
namespace Go.Proofs.Ytndncmjhpbjcoaa
open Go.ChangeShapes Go.WideShapes Go.ChangeAt Go.RowKit
open Go.ChangeMaps (open_string)

set_option maxRecDepth 100000 in
theorem fnAbelian_lifted (os : Os) (started : os.Started) (H : Type) (enc : TypeId × Value → H) :
    ReturnsInLeavingWide {} Try.checked os 3 .any (Rows.fnAbelianSpec.pre6 enc Try.prog Try.f3 Rows.fnAbelianRow.domain false) (Rows.fnAbelianSpec.post enc Try.prog Try.f3 false true false false) := by
  refine law_liftedD (C := Try.checked) prog_bodied prog_ready Try.own started (by kernel_rfl) Try.func3 rfl Try.laidOut (by kernel_rfl) (tb := 4) rfl (by kernel_rfl) rfl
    (ChangeSpec.witness6 (enc := enc) (C := Try.checked) false ⟨#[], #[.slice none 0 0], []⟩ 8 (by kernel_rfl) (by kernel_rfl) (by kernel_rfl) (by kernel_rfl)) ?_ ?_
  · intro ds h
    match ds, h with
    | [d0], _ => rfl
  · intro W base args ds ps hval hA hlt
    have hA1 : DataW.TrodAll enc Try.prog W 0 (fun _ => true) true Try.f3.params.toList args.toList ds ps := hA
    have hv1 : ∀ (j : Nat) t v, Try.f3.params[j]? = some t → args[j]? = some v → Value.okWide Try.prog W .any base t v := hval
    rw [Try.params3] at hA1 hv1
    obtain ⟨v0, d0, rfl, rfl, h0⟩ := trodAll_one hA1
    obtain ⟨A0, c0, xs0, rfl, hl0, hc0⟩ := open_code (hv1 0 22 v0 rfl rfl) h0 (fun x hx => hlt x (by simpa using hx))
    exact lawTAbelian A0 c0 xs0 W hl0 hc0

theorem fnAbelian_holds : Rows.FnAbelianSaid :=
  OpenClaim.holds_of_wide_leaving 3 Try.f3 rfl rfl rfl rfl rfl rfl rfl ⟨rfl, rfl, rfl, rfl, rfl⟩ rfl rfl rfl rfl rfl (by kernel_rfl) Try.func3 (by kernel_rfl)
    (of_decide_eq_true (by kernel_rfl)) (by unfold Func.isWrapper; first | (rw [if_pos (by decide +kernel)]; kernel_rfl) | (rw [if_neg (by decide +kernel)]; exact ⟨rfl, rfl⟩))
    (fun os started H enc _ => fnAbelian_lifted os started H enc)
end Go.Proofs.Ytndncmjhpbjcoaa
