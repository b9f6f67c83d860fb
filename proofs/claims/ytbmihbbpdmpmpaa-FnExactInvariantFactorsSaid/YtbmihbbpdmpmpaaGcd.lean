/- Greatest common divisors: the program's and the specification's. -/
import Derived.Test.YtbmihbbpdmpmpaaBD
import Derived.Test.YtbmihbbpdmpmpaaBA
import Derived.RegionTactic
import Derived.ChangeAlike
namespace Go.Proofs.Ytbmihbbpdmpmpaa
open Go.RowKit

theorem gcd_tmod (a b : Int) : Int.gcd b (a.tmod b) = Int.gcd a b := by
  unfold Int.gcd
  rw [Int.natAbs_tmod, Nat.gcd_comm a.natAbs b.natAbs, Nat.gcd_rec b.natAbs a.natAbs, Nat.gcd_comm]
theorem gcd_end (a : Int) : (Int.gcd a 0 : Int) = max a (-a) := by
  rw [Int.gcd_zero_right]
  omega
theorem tmod_small (a b : Int) (h : b ≠ 0) : (a.tmod b).natAbs < b.natAbs := by
  rw [Int.natAbs_tmod]
  exact Nat.mod_lt _ (by omega)
set_option maxHeartbeats 1000000 in
theorem commonDivisor_any (a b : Int) (w : World) (ha : absB 9000000000000000000 a) (hb : absB 9000000000000000000 b) :
    Calls Try.prog 100 #[.int .i64 a, .int .i64 b] w fun e w' => e = .returned (.int .i64 (Int.gcd a b : Nat)) ∧ Below w.heap.size w w' := by
  unfold absB at ha hb
  obtain ⟨ha1, ha2⟩ := ha
  obtain ⟨hb1, hb2⟩ := hb
  go_enter Try.func100, Try.ntmps100
  go_wp2
  go_loopw [0, 1] (fun x y wr => ∃ c d : Int, x = .int .i64 c ∧ y = .int .i64 d ∧ (-9000000000000000000 ≤ c ∧ c ≤ 9000000000000000000) ∧ (-9000000000000000000 ≤ d ∧ d ≤ 9000000000000000000) ∧ Int.gcd c d = Int.gcd a b ∧ Below w.heap.size w wr) (fun _ y _ => (intOf y).natAbs)
  case atStart => exact ⟨a, b, rfl, rfl, ⟨ha1, ha2⟩, ⟨hb1, hb2⟩, rfl, Below.refl _ _⟩
  case round =>
    obtain ⟨c, d, rfl, rfl, ⟨hc1, hc2⟩, ⟨hd1, hd2⟩, hg, hbw⟩ := hrel
    have HG := Lib.hid hg
    clear hg
    by_cases hd : d = 0
    · have HE := Lib.hid (show (Int.gcd a b : Int) = max c (-c) by rw [← HG.out, hd, gcd_end])
      have t1 : (d != 0) = false := by simp [hd]
      clear hd
      go_wp2
      all_goals
        go_ret
        exact ⟨ret_intE (by have h := HE.out; first | exact h.symm | omega), hbw⟩
    · have t1 : (d != 0) = true := by simp [hd]
      have hlt := tmod_small c d hd
      have HG2 := Lib.hid ((gcd_tmod c d).trans HG.out)
      have hm1 : -9000000000000000000 ≤ c.tmod d ∧ c.tmod d ≤ 9000000000000000000 := by
        generalize c.tmod d = m at hlt
        omega
      go_wp2
      go_region
      go_wp2
      exact ⟨⟨d, c.tmod d, rfl, rfl, ⟨hd1, hd2⟩, hm1, HG2.out, hbw.drew⟩, hlt⟩
set_option maxHeartbeats 1000000 in
theorem l03Gcd_any (a b : Int) (w : World) (ha : absB 9000000000000000000 a) (hb : absB 9000000000000000000 b) :
    Calls Try.prog 71 #[.int .i64 a, .int .i64 b] w fun e w' => e = .returned (.int .i64 (Int.gcd a b : Nat)) ∧ w = w' := by
  unfold absB at ha hb
  obtain ⟨ha1, ha2⟩ := ha
  obtain ⟨hb1, hb2⟩ := hb
  rcases Int.lt_or_le a 0 with h1 | h1 <;> rcases Int.lt_or_le b 0 with h2 | h2
  all_goals
    go_enter Try.func71, Try.ntmps71
    go_wp2
    go_loop [0, 1] (fun x y => ∃ c d : Int, x = .int .i64 c ∧ y = .int .i64 d ∧ (0 ≤ c ∧ c ≤ 9000000000000000000) ∧ (0 ≤ d ∧ d ≤ 9000000000000000000) ∧ Int.gcd c d = Int.gcd a b) (fun _ y => (intOf y).natAbs)
    case atStart => exact ⟨_, _, rfl, rfl, ⟨by omega, by omega⟩, ⟨by omega, by omega⟩, by unfold Int.gcd; congr 1 <;> omega⟩
    case round =>
      obtain ⟨c, d, rfl, rfl, ⟨hc1, hc2⟩, ⟨hd1, hd2⟩, hg⟩ := hrel
      have HG := Lib.hid hg
      clear hg
      by_cases hd : d = 0
      · have HE := Lib.hid (show (Int.gcd a b : Int) = c by rw [← HG.out, hd, gcd_end]; omega)
        have t1 : (d != 0) = false := by simp [hd]
        clear hd
        go_wp2
        go_ret
        exact ⟨ret_intE (by have h := HE.out; first | exact h.symm | omega), rfl⟩
      · have t1 : (d != 0) = true := by simp [hd]
        have hlt := tmod_small c d hd
        have HG2 := Lib.hid ((gcd_tmod c d).trans HG.out)
        have hd3 : 0 < d := by omega
        have htm : c.tmod d = c % d := Int.tmod_eq_emod_of_nonneg hc1
        rw [htm] at HG2 hlt
        have hm1 : 0 ≤ c % d ∧ c % d ≤ 9000000000000000000 := by
          have := Int.emod_nonneg c (show d ≠ 0 by omega)
          omega
        clear htm
        go_wp2
        exact ⟨⟨d, c % d, rfl, rfl, ⟨by omega, hd2⟩, hm1, HG2.out⟩, by simp [intOf]; omega⟩
end Go.Proofs.Ytbmihbbpdmpmpaa
