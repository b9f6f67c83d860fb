/- slices.Backward: its closure goes through a slice from its end. -/
import Derived.RangeFuncLeaves
import Derived.WalkKit
import Derived.OwnWalkIn
import Derived.TacticsInMore
import Derived.LoopIn
import Derived.Shelf.Abstract
import Derived.Test.YtdpojcgeblbfeaaVBItr
import Derived.Test.YtdpojcgeblbfeaaVBA
set_option linter.all false
namespace Go.Proofs.Ytdpojcgeblbfeaa
open Go.RowKit Go.Shelf

set_option maxRecDepth 100000 in
set_option maxHeartbeats 2000000 in
theorem back_it_int (lb n c : Nat) (A : Option Addr) (hn : n ≤ 1048576) : BIt 186 lb A n c := by
  intro l J Jx W hJ hJx hbx hrd hY h0
  have HY := Lib.hid hY
  have HJ := Lib.hid hJ
  have HRD := Lib.hid hrd
  have H0 := Lib.hid h0
  have tn : IntKind.i64.wrap ((n : Int) - 1) = (n : Int) - 1 := by rw [IntKind.wrap_i64]; omega
  clear hY hJ hJx h0 hrd
  refine callsIn_wide.1 (callsIn_of_wp_marks (n := 9) Try.func186 rfl trivial ?_ rfl)
  simp only [Try.ntmps186, List.size_toArray, List.length_cons, List.length_nil, Nat.reduceAdd, Nat.reduceSub, Array.replicate_succ, Array.replicate_zero, List.push_toArray, List.append_toArray, List.nil_append, List.cons_append]
  gi_wp2
  gi_loopw [3] (fun i wr => ∃ t : Nat, t ≤ n ∧ i = .int .i64 ((n : Int) - 1 - (t : Int)) ∧ J t wr ∧ W.heap.size ≤ wr.heap.size) (fun i _ => (intOf i + 1).toNat)
  case atStart => exact ⟨0, Nat.zero_le _, by simp, H0.out, Nat.le_refl _⟩
  case round =>
    obtain ⟨t, ht, rfl, hj, hsz⟩ := hrel
    have HJJ := Lib.hid hj
    clear hj H0
    by_cases hlt : t < n
    · obtain ⟨u, hu⟩ := HRD.out t wr HJJ.out hlt
      obtain ⟨b1, b, off, rfl, b2⟩ := hu
      obtain ⟨fn, tmps, assign, body, hy, hR⟩ := YieldAt.anyB (m' := 8) (YieldAt.monoB
        (R' := fun e Z => ∃ bb : Bool, e = .returned (.bool bb) ∧ wr.heap.size ≤ Z.heap.size ∧ (bb = true → J (t + 1) Z) ∧ (bb = false → ∃ t', Jx t' Z))
        (HY.out t u wr HJJ.out hlt ⟨b1, b, off, rfl, b2⟩) (fun e Z h => by
          rcases h with ⟨rfl, q1, q2⟩ | ⟨rfl, q1, q2⟩
          · exact ⟨true, rfl, q2.size, fun _ => q1, fun h => (by cases h)⟩
          · exact ⟨false, rfl, q2.size, fun h => (by cases h), fun _ => ⟨_, q1⟩⟩))
      have e0 : ((n - 1 - t : Nat) : Int) = (n : Int) - 1 - (t : Int) := by omega
      rw [e0] at hy
      have t0 : (0 : Int) ≤ (n : Int) - 1 - (t : Int) := by omega
      have t1 : (n : Int) - 1 - (t : Int) < (n : Int) := by omega
      have t2 : IntKind.i64.wrap ((n : Int) - 1 - (t : Int) - 1) = (n : Int) - 1 - (t : Int) - 1 := by rw [IntKind.wrap_i64]; omega
      have t3 : decide (((n : Int) - 1 - (t : Int)) ≥ 0) = true := decide_eq_true t0
      have t4 : decide ((t : Int) ≤ (n : Int) - 1) = true := decide_eq_true (by omega)
      gi_wp2
      refine hR.mono ?_
      rintro e Z ⟨bb, rfl, hz, hj1, hj2⟩
      cases bb with
      | true =>
        have hj3 := Lib.hid (hj1 rfl)
        clear hj1 hj2
        gi_wp2
        exact ⟨⟨t + 1, by omega, by congr 1; omega, hj3.out, by omega⟩, by simp [intOf]; omega⟩
      | false =>
        have hj3 := Lib.hid (hj2 rfl)
        clear hj1 hj2
        gi_wp2
        exact ⟨_, results_none rfl _ _ _, ⟨_, rfl⟩, .inr hj3.out⟩
    · have t3 : decide (((n : Int) - 1 - (t : Int)) ≥ 0) = false := decide_eq_false (by omega)
      have t4 : decide ((t : Int) ≤ (n : Int) - 1) = false := decide_eq_false (by omega)
      have HE := Lib.hid (show J n wr from by rw [← show t = n by omega]; exact HJJ.out)
      gi_wp2
      exact ⟨_, results_none rfl _ _ _, ⟨_, rfl⟩, .inl HE.out⟩
theorem back_enters_int : ∀ args w, (callFunc 186 args).run Try.prog w = .ok (.enter 186 args) w := enters_of Try.func186 (by kernel_rfl) rfl
theorem back_int (A : Option Addr) (n c : Nat) (w : World) :
    Calls Try.prog 133 #[.slice A n c] w fun e w' => e = .returned (.func (.func 186) #[] #[.pointer (some ⟨w.heap.size, 0, none⟩)]) ∧ w' = w.alloc (.cells #[.slice A n c] 28) := by
  go_enter Try.func133, Try.ntmps133
  go_wp2
  go_ret
  exact ⟨rfl, rfl⟩
end Go.Proofs.Ytdpojcgeblbfeaa
