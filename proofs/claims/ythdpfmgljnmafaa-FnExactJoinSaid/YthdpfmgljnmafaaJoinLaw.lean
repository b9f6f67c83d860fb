/- laws.FnExactJoin: for every argument the call returns true, and each argument reads afterwards as it read before. No condition. -/
import Derived.Test.YthdpfmgljnmafaaRows
import Derived.Test.YthdpfmgljnmafaaJoinW
import Derived.Test.YthdpfmgljnmafaaBase
import Derived.ProofKit
import Derived.Test.YthdpfmgljnmafaaOpenS
namespace Go.Proofs.Ythdpfmgljnmafaa
open Go.ChangeShapes Go.WideShapes Go.ChangeAt Go.RowKit
open Go.ChangeMaps (open_string)

set_option maxRecDepth 100000 in
theorem fnExactJoin_lifted (os : Os) (started : os.Started) (H : Type) (enc : TypeId × Value → H) :
    ReturnsInHanded {} Try.checked os 6 .any (Rows.fnExactJoinSpec.pre6 enc Try.prog Try.f6 Rows.fnExactJoinRow.domain false) (Rows.fnExactJoinSpec.post enc Try.prog Try.f6 false true false false) := by
  refine law_lifted (C := Try.checked) Try.own started (by kernel_rfl) Try.func6 Try.laidOut (by kernel_rfl) (tb := 4) rfl (by kernel_rfl) rfl
    (ChangeSpec.witness6 (enc := enc) (C := Try.checked) false ⟨#[], #[.slice none 0 0, .string ByteArray.empty], []⟩ 8 (by kernel_rfl) (by kernel_rfl) (by kernel_rfl) (by kernel_rfl)) ?_ ?_
  · intro ds h
    match ds, h with
    | [d0, d1], _ => rfl
  · intro W base args ds ps hval hA hlt
    have hA1 : DataW.TrodAll enc Try.prog W 0 (fun _ => true) true Try.f6.params.toList args.toList ds ps := hA
    have hv1 : ∀ (j : Nat) t v, Try.f6.params[j]? = some t → args[j]? = some v → Value.okWide Try.prog W .any base t v := hval
    rw [Try.params6] at hA1 hv1
    obtain ⟨v0, v1, d0, d1, p0, p1, rfl, rfl, rfl, h0, h1⟩ := trodAll_two hA1
    obtain ⟨A0, c0, xs0, rfl, hg0⟩ := open_strs (hv1 0 40 v0 rfl rfl) h0 (fun x hx => hlt x (by simp [hx]))
    obtain ⟨s1, rfl, rfl, _, hs1⟩ := open_string Try.underlying9 (hv1 1 9 v1 rfl rfl) h1
    exact lawJoin A0 c0 xs0 s1 W hg0 hs1

theorem fnExactJoin_holds : Rows.FnExactJoinSaid :=
  OpenClaim.holds_of_wide 6 Try.f6 rfl rfl rfl rfl rfl rfl rfl ⟨rfl, rfl, rfl, rfl, rfl⟩ rfl rfl rfl rfl rfl (by kernel_rfl) Try.func6 (by kernel_rfl)
    (of_decide_eq_true (by kernel_rfl)) (by unfold Func.isWrapper; first | (rw [if_pos (by decide +kernel)]; kernel_rfl) | (rw [if_neg (by decide +kernel)]; exact ⟨rfl, rfl⟩))
    (fun os started H enc _ => fnExactJoin_lifted os started H enc)
end Go.Proofs.Ythdpfmgljnmafaa
