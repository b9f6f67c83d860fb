/- laws.FnExactParkingsOf: for every argument the call returns true, and each argument reads afterwards as it read before. No condition. -/
import Derived.Test.YtdpojcgeblbfeaaRows
import Derived.Test.YtdpojcgeblbfeaaWPksW
import Derived.Test.YtdpojcgeblbfeaaWBA
import Derived.Test.YtdpojcgeblbfeaaWLawV
import Derived.ProofKit
set_option linter.all false
namespace Go.Proofs.Ytdpojcgeblbfeaa
open Go.ChangeShapes Go.WideShapes Go.ChangeAt Go.RowKit
open Go.ChangeMaps (open_string)

set_option maxRecDepth 100000 in
theorem fnExactParkingsOf_lifted (os : Os) (started : os.Started) (H : Type) (enc : TypeId × Value → H) :
    ReturnsInHanded {} Try.checked os 10 .any (Rows.fnExactParkingsOfSpec.pre6 enc Try.prog Try.f10 Rows.fnExactParkingsOfRow.domain false) (Rows.fnExactParkingsOfSpec.post enc Try.prog Try.f10 false true false false) := by
  refine law_lifted (C := Try.checked) Try.own started (by kernel_rfl) Try.func10 Try.laidOut (by kernel_rfl) (tb := 4) rfl (by kernel_rfl) rfl
    (ChangeSpec.witness6 (enc := enc) (C := Try.checked) false ⟨#[], #[.agg #[.int .i64 0, .slice none 0 0], .int .i64 0], []⟩ 8 (by kernel_rfl) (by kernel_rfl) (by kernel_rfl) (by kernel_rfl)) ?_ ?_
  · intro ds h
    match ds, h with
    | [d0, d1], _ => rfl
  · intro W base args ds ps hval hA hlt
    have hA1 : DataW.TrodAll enc Try.prog W 0 (fun _ => true) true Try.f10.params.toList args.toList ds ps := hA
    have hv1 : ∀ (j : Nat) t v, Try.f10.params[j]? = some t → args[j]? = some v → Value.okWide Try.prog W .any base t v := hval
    rw [Try.params10] at hA1 hv1
    obtain ⟨v0, v1, d0, d1, p0, p1, rfl, rfl, rfl, h0, h1⟩ := trodAll_two hA1
    obtain ⟨N0, A0, c0, es0, rfl, hg0⟩ := open_graph (hv1 0 39 v0 rfl rfl) h0 (fun x hx => hlt x (by simp [hx]))
    obtain ⟨n1, rfl, rfl, _, hw1⟩ := open_int Try.underlying3 (hv1 1 3 v1 rfl rfl) h1
    have hb1 := int_wf hw1
    exact lawParkingsOf N0 A0 c0 es0 n1 W hg0 hb1.1 hb1.2

theorem fnExactParkingsOf_holds : Rows.FnExactParkingsOfSaid :=
  OpenClaim.holds_of_wide_leaving 10 Try.f10 rfl rfl rfl rfl rfl rfl rfl ⟨rfl, rfl, rfl, rfl, rfl⟩ rfl rfl rfl rfl rfl (by kernel_rfl) Try.func10 (by kernel_rfl)
    (of_decide_eq_true (by kernel_rfl)) (by unfold Func.isWrapper; first | (rw [if_pos (by decide +kernel)]; kernel_rfl) | (rw [if_neg (by decide +kernel)]; exact ⟨rfl, rfl⟩))
    (fun os started H enc _ => leaving_of_handed (fnExactParkingsOf_lifted os started H enc))
end Go.Proofs.Ytdpojcgeblbfeaa
