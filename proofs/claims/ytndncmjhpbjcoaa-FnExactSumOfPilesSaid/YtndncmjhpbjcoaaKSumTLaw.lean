/- laws.FnExactSumOfPiles: for every argument the call returns true, and each argument reads afterwards as it read before. No condition. -/
import Derived.Test.YtndncmjhpbjcoaaRows
import Derived.Test.YtndncmjhpbjcoaaKSumTW
import Derived.Test.YtndncmjhpbjcoaaKBA
import Derived.Test.YtndncmjhpbjcoaaKLonU
import Derived.Test.YtndncmjhpbjcoaaKPilV
import Derived.ProofKit
import Derived.Carry
set_option linter.all false
namespace Go.Proofs.Ytndncmjhpbjcoaa
open Go.ChangeShapes Go.WideShapes Go.ChangeAt Go.RowKit
open Go.ChangeMaps (open_string)

set_option maxRecDepth 100000 in
theorem fnExactSumOfPiles_lifted (os : Os) (started : os.Started) (H : Type) (enc : TypeId × Value → H) :
    ReturnsInLeavingWide {} Try.checked os 10 .any (Rows.fnExactSumOfPilesSpec.pre6 enc Try.prog Try.f10 Rows.fnExactSumOfPilesRow.domain false) (Rows.fnExactSumOfPilesSpec.post enc Try.prog Try.f10 false true false false) := by
  refine law_liftedD (C := Try.checked) prog_bodied prog_ready Try.own started (by kernel_rfl) Try.func10 rfl Try.laidOut (by kernel_rfl) (tb := 4) rfl (by kernel_rfl) rfl
    (ChangeSpec.witness6 (enc := enc) (C := Try.checked) false ⟨#[], #[.agg #[.int .i64 0, .slice none 0 0], .slice none 0 0, .slice none 0 0, .int .i64 0], []⟩ 8 (by kernel_rfl) (by kernel_rfl) (by kernel_rfl) (by kernel_rfl)) ?_ ?_
  · intro ds h
    match ds, h with
    | [d0, d1, d2, d3], _ => rfl
  · intro W base args ds ps hval hA hlt
    have hA1 : DataW.TrodAll enc Try.prog W 0 (fun _ => true) true Try.f10.params.toList args.toList ds ps := hA
    have hv1 : ∀ (j : Nat) t v, Try.f10.params[j]? = some t → args[j]? = some v → Value.okWide Try.prog W .any base t v := hval
    rw [Try.params10] at hA1 hv1
    obtain ⟨v0, v1, v2, v3, d0, d1, d2, d3, p0, p1, p2, p3, rfl, rfl, rfl, h0, h1, h2, h3⟩ := trodAll_four hA1
    obtain ⟨N0, A0, c0, es0, rfl, hg0⟩ := open_graph (hv1 0 44 v0 rfl rfl) h0 (fun x hx => hlt x (by simp [hx]))
    obtain ⟨A1, c1, zs1, rfl, hg1⟩ := open_intsA (hv1 1 28 v1 rfl rfl) h1 (fun x hx => hlt x (by simp [hx]))
    obtain ⟨A2, c2, zs2, rfl, hg2⟩ := open_intsA (hv1 2 28 v2 rfl rfl) h2 (fun x hx => hlt x (by simp [hx]))
    obtain ⟨n3, rfl, rfl, _, hw3⟩ := open_int Try.underlying3 (hv1 3 3 v3 rfl rfl) h3
    have hb3 := int_wf hw3
    exact lawTSumOfPiles N0 A0 c0 es0 A1 c1 zs1 A2 c2 zs2 n3 W hg0 hg1 hg2 hb3.1 hb3.2

theorem fnExactSumOfPiles_holds : Rows.FnExactSumOfPilesSaid :=
  OpenClaim.holds_of_wide_leaving 10 Try.f10 rfl rfl rfl rfl rfl rfl rfl ⟨rfl, rfl, rfl, rfl, rfl⟩ rfl rfl rfl rfl rfl (by kernel_rfl) Try.func10 (by kernel_rfl)
    (of_decide_eq_true (by kernel_rfl)) (by unfold Func.isWrapper; first | (rw [if_pos (by decide +kernel)]; kernel_rfl) | (rw [if_neg (by decide +kernel)]; exact ⟨rfl, rfl⟩))
    (fun os started H enc _ => fnExactSumOfPiles_lifted os started H enc)
end Go.Proofs.Ytndncmjhpbjcoaa
