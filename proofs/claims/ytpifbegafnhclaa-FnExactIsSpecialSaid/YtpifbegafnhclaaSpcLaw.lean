/- laws.FnExactIsSpecial: for every argument the call returns true, and each argument reads afterwards as it read before. No condition. -/
import Derived.Test.YtpifbegafnhclaaRows
import Derived.Test.YtpifbegafnhclaaSpcW
import Derived.Test.YtpifbegafnhclaaBA
import Derived.ProofKit
namespace Go.Proofs.Ytpifbegafnhclaa
open Go.ChangeShapes Go.WideShapes Go.ChangeAt Go.RowKit
open Go.ChangeMaps (open_string)

set_option maxRecDepth 100000 in
theorem fnExactIsSpecial_lifted (os : Os) (started : os.Started) (H : Type) (enc : TypeId × Value → H) :
    ReturnsInHanded {} Try.checked os 5 .any (Rows.fnExactIsSpecialSpec.pre6 enc Try.prog Try.f5 Rows.fnExactIsSpecialRow.domain false) (Rows.fnExactIsSpecialSpec.post enc Try.prog Try.f5 false true false false) := by
  refine law_lifted (C := Try.checked) Try.own started (by kernel_rfl) Try.func5 Try.laidOut (by kernel_rfl) (tb := 4) rfl (by kernel_rfl) rfl
    (ChangeSpec.witness6 (enc := enc) (C := Try.checked) false ⟨#[], #[.agg #[.int .i64 0, .slice none 0 0], .slice none 0 0], []⟩ 8 (by kernel_rfl) (by kernel_rfl) (by kernel_rfl) (by kernel_rfl)) ?_ ?_
  · intro ds h
    match ds, h with
    | [d0, d1], _ => rfl
  · intro W base args ds ps hval hA hlt
    have hA1 : DataW.TrodAll enc Try.prog W 0 (fun _ => true) true Try.f5.params.toList args.toList ds ps := hA
    have hv1 : ∀ (j : Nat) t v, Try.f5.params[j]? = some t → args[j]? = some v → Value.okWide Try.prog W .any base t v := hval
    rw [Try.params5] at hA1 hv1
    obtain ⟨v0, v1, d0, d1, p0, p1, rfl, rfl, rfl, h0, h1⟩ := trodAll_two hA1
    obtain ⟨N0, A0, c0, es0, rfl, hg0⟩ := open_graph (hv1 0 24 v0 rfl rfl) h0 (fun x hx => hlt x (by simp [hx]))
    obtain ⟨A1, c1, zs1, rfl, hg1⟩ := open_intsA (hv1 1 26 v1 rfl rfl) h1 (fun x hx => hlt x (by simp [hx]))
    exact lawIsSpecial N0 A0 c0 es0 A1 c1 zs1 W hg0 hg1

theorem fnExactIsSpecial_holds : Rows.FnExactIsSpecialSaid :=
  OpenClaim.holds_of_wide 5 Try.f5 rfl rfl rfl rfl rfl rfl rfl ⟨rfl, rfl, rfl, rfl, rfl⟩ rfl rfl rfl rfl rfl (by kernel_rfl) Try.func5 (by kernel_rfl)
    (of_decide_eq_true (by kernel_rfl)) (by unfold Func.isWrapper; first | (rw [if_pos (by decide +kernel)]; kernel_rfl) | (rw [if_neg (by decide +kernel)]; exact ⟨rfl, rfl⟩))
    (fun os started H enc _ => fnExactIsSpecial_lifted os started H enc)
end Go.Proofs.Ytpifbegafnhclaa
