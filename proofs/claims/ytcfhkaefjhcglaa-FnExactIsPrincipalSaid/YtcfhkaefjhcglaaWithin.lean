/- The program's range tests: isBeyond and areWithin. -/
import Derived.Test.YtcfhkaefjhcglaaBA
import Derived.Test.YtcfhkaefjhcglaaBF
namespace Go.Proofs.Ytcfhkaefjhcglaa
open Go.RowKit

def within (m z : Int) : Bool := inB z (-m) m
theorem within_f {m z : Int} (h : z < -m ∨ m < z) : within m z = false := inB_f h
theorem within_t {m z : Int} (h : -m ≤ z ∧ z ≤ m) : within m z = true := inB_t h
theorem within_iff {m z : Int} (h : within m z = true) : -m ≤ z ∧ z ≤ m := by simpa [within, inB] using h
theorem all_miss {xs : List Int} {k : Nat} {z : Int} {p : Int → Bool} (he : xs[k]? = some z) (h : p z = false) : xs.all p = false := by
  rw [List.all_eq_false]
  exact ⟨z, List.mem_of_getElem? he, by simp [h]⟩
set_option maxHeartbeats 400000 in
theorem isBeyond_any (z m : Int) (w : World) (h0 : 0 ≤ m) (hm : m ≤ 1000000) : Calls Try.prog 101 #[.int .i64 z, .int .i64 m] w fun e w' => e = .returned (.bool (!within m z)) ∧ w = w' := by
  by_cases h1 : z < -m
  · rw [within_f (.inl h1)]
    have t1 : decide (z < -m) = true := decide_eq_true h1
    go_enter Try.func101, Try.ntmps101
    go_wp2
    go_ret
    exact ⟨rfl, rfl⟩
  · have t1 : decide (z < -m) = false := decide_eq_false h1
    by_cases h2 : m < z
    · rw [within_f (.inr h2)]
      have t2 : decide (m < z) = true := decide_eq_true h2
      clear h1
      go_enter Try.func101, Try.ntmps101
      go_wp2
      go_ret
      exact ⟨rfl, rfl⟩
    · rw [within_t ⟨by omega, by omega⟩]
      have t2 : decide (m < z) = false := decide_eq_false h2
      clear h1 h2
      go_enter Try.func101, Try.ntmps101
      go_wp2
      go_ret
      exact ⟨rfl, rfl⟩
set_option maxHeartbeats 400000 in
theorem areWithin_any (A : Option Addr) (c B : Nat) (xs : List Int) (m : Int) (w : World) (hn : xs.length ≤ 1048576) (h0 : 0 ≤ m) (hm : m ≤ 1000000) (hS : IntS w B A xs) :
    Calls Try.prog 67 #[.slice A xs.length c, .int .i64 m] w fun e w' => e = .returned (.bool (xs.all (within m))) ∧ w = w' := by
  have HS := Lib.hid hS
  clear hS
  go_enter Try.func67, Try.ntmps67
  go_wp2
  go_loop [9] (fun i => ∃ j : Nat, j ≤ xs.length ∧ i = .int .i64 j ∧ (xs.take j).all (within m) = true) (fun i => xs.length - (intOf i).toNat)
  case atStart => exact ⟨0, Nat.zero_le _, rfl, rfl⟩
  case round =>
    obtain ⟨j, hj, rfl, hall⟩ := hrel
    have HA := Lib.hid hall
    clear hall
    by_cases hlt : j < xs.length
    · obtain ⟨b1, o1, x, rfl, hb1, he, hc0⟩ := HS.out.at_ hlt
      have hj0 : (0 : Int) ≤ (j : Int) := Int.natCast_nonneg _
      have hj1 : (j : Int) < (xs.length : Int) := by omega
      cases hx : within m x with
      | true =>
        have H := Lib.hid (allTake_snoc HA.out he hx)
        have HB := isBeyond_any x m
        rw [hx] at HB
        have HC := fun w => Lib.hid (HB w h0 hm)
        clear he hx HB
        go_wp2_with fail
        refine (HC _).out.mono ?_
        rintro e w' ⟨rfl, rfl⟩
        go_wp2
        exact ⟨⟨j + 1, by omega, by go_num, H.out⟩, by simp [intOf]; omega⟩
      | false =>
        have H := Lib.hid (all_miss (p := within m) he hx)
        have HB := isBeyond_any x m
        rw [hx] at HB
        have HC := fun w => Lib.hid (HB w h0 hm)
        clear he hx HB
        go_wp2_with fail
        refine (HC _).out.mono ?_
        rintro e w' ⟨rfl, rfl⟩
        go_wp2
        go_ret
        exact ⟨ret_boolE H.out.symm, rfl⟩
    · have H := Lib.hid (allTake_end HA.out (by omega))
      go_wp2
      go_ret
      exact ⟨ret_boolE H.out.symm, rfl⟩
end Go.Proofs.Ytcfhkaefjhcglaa
