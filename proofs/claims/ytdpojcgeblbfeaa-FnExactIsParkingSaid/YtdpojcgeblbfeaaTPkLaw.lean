/- laws.FnExactIsParking: for every argument the call returns true, and each argument reads afterwards as it read before. No condition. -/
import Derived.Test.YtdpojcgeblbfeaaRows
import Derived.Test.YtdpojcgeblbfeaaTPkW
import Derived.Test.YtdpojcgeblbfeaaTBA
import Derived.Test.YtdpojcgeblbfeaaTLawV
import Derived.ProofKit
set_option linter.all false
namespace Go.Proofs.Ytdpojcgeblbfeaa
open Go.ChangeShapes Go.WideShapes Go.ChangeAt Go.RowKit
open Go.ChangeMaps (open_string)

set_option maxRecDepth 100000 in
theorem fnExactIsParking_lifted (os : Os) (started : os.Started) (H : Type) (enc : TypeId × Value → H) :
    ReturnsInHanded {} Try.checked os 7 .any (Rows.fnExactIsParkingSpec.pre6 enc Try.prog Try.f7 Rows.fnExactIsParkingRow.domain false) (Rows.fnExactIsParkingSpec.post enc Try.prog Try.f7 false true false false) := by
  refine law_lifted (C := Try.checked) Try.own started (by kernel_rfl) Try.func7 Try.laidOut (by kernel_rfl) (tb := 4) rfl (by kernel_rfl) rfl
    (ChangeSpec.witness6 (enc := enc) (C := Try.checked) false ⟨#[], #[.agg #[.int .i64 0, .slice none 0 0], .slice none 0 0, .int .i64 0], []⟩ 8 (by kernel_rfl) (by kernel_rfl) (by kernel_rfl) (by kernel_rfl)) ?_ ?_
  · intro ds h
    match ds, h with
    | [d0, d1, d2], _ => rfl
  · intro W base args ds ps hval hA hlt
    have hA1 : DataW.TrodAll enc Try.prog W 0 (fun _ => true) true Try.f7.params.toList args.toList ds ps := hA
    have hv1 : ∀ (j : Nat) t v, Try.f7.params[j]? = some t → args[j]? = some v → Value.okWide Try.prog W .any base t v := hval
    rw [Try.params7] at hA1 hv1
    obtain ⟨v0, v1, v2, d0, d1, d2, p0, p1, p2, rfl, rfl, rfl, h0, h1, h2⟩ := trodAll_three hA1
    obtain ⟨N0, A0, c0, es0, rfl, hg0⟩ := open_graph (hv1 0 39 v0 rfl rfl) h0 (fun x hx => hlt x (by simp [hx]))
    obtain ⟨A1, c1, zs1, rfl, hg1⟩ := open_intsA (hv1 1 28 v1 rfl rfl) h1 (fun x hx => hlt x (by simp [hx]))
    obtain ⟨n2, rfl, rfl, _, hw2⟩ := open_int Try.underlying3 (hv1 2 3 v2 rfl rfl) h2
    have hb2 := int_wf hw2
    exact lawIsParking N0 A0 c0 es0 A1 c1 zs1 n2 W hg0 hg1 hb2.1 hb2.2

theorem fnExactIsParking_holds : Rows.FnExactIsParkingSaid :=
  OpenClaim.holds_of_wide_leaving 7 Try.f7 rfl rfl rfl rfl rfl rfl rfl ⟨rfl, rfl, rfl, rfl, rfl⟩ rfl rfl rfl rfl rfl (by kernel_rfl) Try.func7 (by kernel_rfl)
    (of_decide_eq_true (by kernel_rfl)) (by unfold Func.isWrapper; first | (rw [if_pos (by decide +kernel)]; kernel_rfl) | (rw [if_neg (by decide +kernel)]; exact ⟨rfl, rfl⟩))
    (fun os started H enc _ => leaving_of_handed (fnExactIsParking_lifted os started H enc))
end Go.Proofs.Ytdpojcgeblbfeaa
