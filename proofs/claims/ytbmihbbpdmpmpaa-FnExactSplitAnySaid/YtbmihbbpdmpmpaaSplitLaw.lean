/- laws.FnExactSplitAny: for every argument the call returns true, and each argument reads afterwards as it read before. No condition. -/
import Derived.Test.YtbmihbbpdmpmpaaRows
import Derived.Test.YtbmihbbpdmpmpaaSplitW
import Derived.Test.YtbmihbbpdmpmpaaLaw
import Derived.Test.YtbmihbbpdmpmpaaBase
import Derived.ProofKit
namespace Go.Proofs.Ytbmihbbpdmpmpaa
open Go.ChangeShapes Go.WideShapes Go.ChangeAt Go.RowKit
open Go.ChangeMaps (open_string)

set_option maxRecDepth 100000 in
theorem fnExactSplitAny_lifted (os : Os) (started : os.Started) (H : Type) (enc : TypeId × Value → H) :
    ReturnsInHanded {} Try.checked os 8 .any (Rows.fnExactSplitAnySpec.pre6 enc Try.prog Try.f8 Rows.fnExactSplitAnyRow.domain false) (Rows.fnExactSplitAnySpec.post enc Try.prog Try.f8 false true false false) := by
  refine law_lifted (C := Try.checked) Try.own started (by kernel_rfl) Try.func8 Try.laidOut (by kernel_rfl) (tb := 4) rfl (by kernel_rfl) rfl
    (ChangeSpec.witness6 (enc := enc) (C := Try.checked) false ⟨#[], #[.string ByteArray.empty, .string ByteArray.empty], []⟩ 8 (by kernel_rfl) (by kernel_rfl) (by kernel_rfl) (by kernel_rfl)) ?_ ?_
  · intro ds h
    match ds, h with
    | [d0, d1], _ => rfl
  · intro W base args ds ps hval hA hlt
    have hA1 : DataW.TrodAll enc Try.prog W 0 (fun _ => true) true Try.f8.params.toList args.toList ds ps := hA
    have hv1 : ∀ (j : Nat) t v, Try.f8.params[j]? = some t → args[j]? = some v → Value.okWide Try.prog W .any base t v := hval
    rw [Try.params8] at hA1 hv1
    obtain ⟨v0, v1, d0, d1, p0, p1, rfl, rfl, rfl, h0, h1⟩ := trodAll_two hA1
    obtain ⟨s0, rfl, rfl, _, hs0⟩ := open_string Try.underlying9 (hv1 0 9 v0 rfl rfl) h0
    obtain ⟨s1, rfl, rfl, _, hs1⟩ := open_string Try.underlying9 (hv1 1 9 v1 rfl rfl) h1
    exact lawSplitAny s0 s1 W hs0 hs1

theorem fnExactSplitAny_holds : Rows.FnExactSplitAnySaid :=
  OpenClaim.holds_of_wide 8 Try.f8 rfl rfl rfl rfl rfl rfl rfl ⟨rfl, rfl, rfl, rfl, rfl⟩ rfl rfl rfl rfl rfl (by kernel_rfl) Try.func8 (by kernel_rfl)
    (of_decide_eq_true (by kernel_rfl)) (by unfold Func.isWrapper; first | (rw [if_pos (by decide +kernel)]; kernel_rfl) | (rw [if_neg (by decide +kernel)]; exact ⟨rfl, rfl⟩))
    (fun os started H enc _ => fnExactSplitAny_lifted os started H enc)
end Go.Proofs.Ytbmihbbpdmpmpaa
