/- SameDivisor: the specification's loop and the program's slices.Equal answer whether the lists are equal. -/
import Derived.Test.YtdpojcgeblbfeaaTBA
import Derived.Test.YtdpojcgeblbfeaaTSh
set_option linter.all false
namespace Go.Proofs.Ytdpojcgeblbfeaa
open Go.RowKit

set_option maxHeartbeats 1000000 in
theorem specSameD (A C : Option Addr) (ca cc : Nat) (xs ys : List Int) (w : World) (hn : xs.length ≤ 1048576) (hm : ys.length ≤ 1048576) (h1 : IntS w w.heap.size A xs) (h2 : IntS w w.heap.size C ys) :
    Calls Try.prog 155 #[.slice A xs.length ca, .slice C ys.length cc] w fun e w' => e = .returned (.bool (decide (xs = ys))) ∧ Below w.heap.size w w' := by
  by_cases hl : xs.length = ys.length
  · have H1 := Lib.hid h1
    have H2 := Lib.hid h2
    clear h1 h2
    have hl2 : ((xs.length : Int) != (ys.length : Int)) = false := by simp [hl]
    have hl3 : xs.length ≤ ys.length := by omega
    have hl4 : ys.length ≤ xs.length := by omega
    clear hl
    go_enter Try.func155, Try.ntmps155
    go_wp2
    go_loop [14] (fun i => ∃ k : Nat, k ≤ xs.length ∧ i = .int .i64 k ∧ xs.take k = ys.take k) (fun i => xs.length - (intOf i).toNat)
    case atStart => exact ⟨0, Nat.zero_le _, rfl, rfl⟩
    case round =>
      obtain ⟨k, hk, rfl, ht⟩ := hrel
      have HT := Lib.hid ht
      clear ht
      by_cases hlt : k < xs.length
      · obtain ⟨b1, o1, x, rfl, hb1, he, hc0⟩ := H1.out.at_ hlt
        obtain ⟨b2, o2, y, rfl, hb2, hf, hd0⟩ := H2.out.at_ (k := k) (by omega)
        have HE := Lib.hid he
        have HF := Lib.hid hf
        clear he hf
        have hi0 : (0 : Int) ≤ (k : Int) := Int.natCast_nonneg _
        have hi1 : (k : Int) < (xs.length : Int) := by omega
        have hi2 : (k : Int) < (ys.length : Int) := by omega
        by_cases hxy : x = y
        · have t1 : (x != y) = false := by simp [hxy]
          have HQ := Lib.hid (take_same HT.out HE.out (by rw [hxy]; exact HF.out))
          clear hxy
          go_wp2
          exact ⟨⟨k + 1, by omega, by go_num, HQ.out⟩, by simp [intOf]; omega⟩
        · have t1 : (x != y) = true := by simp [hxy]
          have HQ := Lib.hid (take_differ HE.out HF.out hxy)
          clear hxy
          go_wp2
          go_ret
          exact ⟨ret_boolE HQ.out.symm, Below.refl _ _⟩
      · have HA := Lib.hid (take_all_same HT.out (by omega) (by omega))
        go_wp2
        go_ret
        exact ⟨ret_boolE HA.out.symm, Below.refl _ _⟩
  · have hl2 : ((xs.length : Int) != (ys.length : Int)) = true := by simp; omega
    have HD := Lib.hid (show decide (xs = ys) = false by rw [decide_eq_false_iff_not]; rintro rfl; exact hl rfl)
    clear hl
    go_enter Try.func155, Try.ntmps155
    go_wp2
    go_ret
    exact ⟨ret_boolE HD.out.symm, Below.refl _ _⟩
end Go.Proofs.Ytdpojcgeblbfeaa
