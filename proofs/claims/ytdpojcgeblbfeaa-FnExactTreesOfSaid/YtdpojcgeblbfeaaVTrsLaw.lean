/- laws.FnExactTreesOf: for every argument the call returns true, and each argument reads afterwards as it read before. No condition. -/
import Derived.Test.YtdpojcgeblbfeaaRows
import Derived.Test.YtdpojcgeblbfeaaVTrsW
import Derived.Test.YtdpojcgeblbfeaaVBA
import Derived.Test.YtdpojcgeblbfeaaVLawV
import Derived.ProofKit
set_option linter.all false
namespace Go.Proofs.Ytdpojcgeblbfeaa
open Go.ChangeShapes Go.WideShapes Go.ChangeAt Go.RowKit
open Go.ChangeMaps (open_string)

set_option maxRecDepth 100000 in
theorem fnExactTreesOf_lifted (os : Os) (started : os.Started) (H : Type) (enc : TypeId × Value → H) :
    ReturnsInHanded {} Try.checked os 6 .any (Rows.fnExactTreesOfSpec.pre6 enc Try.prog Try.f6 Rows.fnExactTreesOfRow.domain false) (Rows.fnExactTreesOfSpec.post enc Try.prog Try.f6 false true false false) := by
  refine law_lifted (C := Try.checked) Try.own started (by kernel_rfl) Try.func6 Try.laidOut (by kernel_rfl) (tb := 4) rfl (by kernel_rfl) rfl
    (ChangeSpec.witness6 (enc := enc) (C := Try.checked) false ⟨#[], #[.agg #[.int .i64 0, .slice none 0 0]], []⟩ 8 (by kernel_rfl) (by kernel_rfl) (by kernel_rfl) (by kernel_rfl)) ?_ ?_
  · intro ds h
    match ds, h with
    | [d0], _ => rfl
  · intro W base args ds ps hval hA hlt
    have hA1 : DataW.TrodAll enc Try.prog W 0 (fun _ => true) true Try.f6.params.toList args.toList ds ps := hA
    have hv1 : ∀ (j : Nat) t v, Try.f6.params[j]? = some t → args[j]? = some v → Value.okWide Try.prog W .any base t v := hval
    rw [Try.params6] at hA1 hv1
    obtain ⟨v0, d0, rfl, rfl, h0⟩ := trodAll_one hA1
    obtain ⟨N0, A0, c0, es0, rfl, hg0⟩ := open_graph (hv1 0 39 v0 rfl rfl) h0 hlt
    exact lawTreesOf N0 A0 c0 es0 W hg0

theorem fnExactTreesOf_holds : Rows.FnExactTreesOfSaid :=
  OpenClaim.holds_of_wide_leaving 6 Try.f6 rfl rfl rfl rfl rfl rfl rfl ⟨rfl, rfl, rfl, rfl, rfl⟩ rfl rfl rfl rfl rfl (by kernel_rfl) Try.func6 (by kernel_rfl)
    (of_decide_eq_true (by kernel_rfl)) (by unfold Func.isWrapper; first | (rw [if_pos (by decide +kernel)]; kernel_rfl) | (rw [if_neg (by decide +kernel)]; exact ⟨rfl, rfl⟩))
    (fun os started H enc _ => leaving_of_handed (fnExactTreesOf_lifted os started H enc))
end Go.Proofs.Ytdpojcgeblbfeaa
