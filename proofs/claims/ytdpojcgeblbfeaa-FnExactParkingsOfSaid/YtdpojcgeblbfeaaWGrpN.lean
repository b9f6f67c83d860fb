/- Lists in order: the specification's l09Less. -/
import Derived.Test.YtdpojcgeblbfeaaWBU
import Derived.Test.YtdpojcgeblbfeaaWBA
set_option linter.all false
namespace Go.Proofs.Ytdpojcgeblbfeaa
open Go.RowKit

set_option maxHeartbeats 1000000 in
theorem l09Less_any (A C : Option Addr) (ca cc : Nat) (xs ys : List Int) (w : World) (hn : xs.length ≤ 1048576) (hl : xs.length = ys.length) (h1 : IntS w w.heap.size A xs) (h2 : IntS w w.heap.size C ys) :
    Calls Try.prog 124 #[.slice A xs.length ca, .slice C ys.length cc] w fun e w' => e = .returned (.bool (lessL xs ys)) ∧ w' = w := by
  have HS := Lib.hid h1
  have HT := Lib.hid h2
  clear h1 h2
  go_enter Try.func124, Try.ntmps124
  go_wp2
  go_loop [5, 6, 9] (fun _ _ i => ∃ j : Nat, j ≤ xs.length ∧ i = .int .i64 j ∧ lessL xs ys = lessL (xs.drop j) (ys.drop j)) (fun _ _ i => xs.length - (intOf i).toNat)
  case atStart => exact ⟨0, Nat.zero_le _, rfl, rfl⟩
  case round =>
    obtain ⟨j, hj, rfl, hq⟩ := hrel
    by_cases hlt : j < xs.length
    · obtain ⟨b1, o1, x, rfl, hb1, he, hc0⟩ := HS.out.at_ hlt
      obtain ⟨b2, o2, y, rfl, hb2, hf, hc1⟩ := HT.out.at_ (k := j) (by omega)
      have hj0 : (0 : Int) ≤ (j : Int) := Int.natCast_nonneg _
      have hj1 : (j : Int) < (xs.length : Int) := by omega
      have hj2 : (j : Int) < (ys.length : Int) := by omega
      rw [lessL_step he hf] at hq
      have HQ := Lib.hid hq
      clear he hf hq
      by_cases hxy : x = y
      · rw [if_pos hxy] at HQ
        have t1 : (x != y) = false := by simp [hxy]
        clear hxy
        go_wp2
        exact ⟨⟨j + 1, by omega, by go_num, HQ.out⟩, by simp [intOf]; omega⟩
      · rw [if_neg hxy] at HQ
        have t1 : (x != y) = true := by simp [hxy]
        clear hxy
        go_wp2
        go_ret
        exact ⟨ret_boolE HQ.out.symm, rfl⟩
    · have HJ := Lib.hid (show lessL xs ys = false by
        rw [hq, List.drop_eq_nil_of_le (by omega), List.drop_eq_nil_of_le (by omega)]
        rfl)
      clear hq
      go_wp2
      go_ret
      exact ⟨ret_boolE HJ.out.symm, rfl⟩
end Go.Proofs.Ytdpojcgeblbfeaa
