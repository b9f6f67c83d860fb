/- The laws' eqStringS. -/
import Derived.Test.YtbmihbbpdmpmpaaStrB
namespace Go.Proofs.Ytbmihbbpdmpmpaa
open Go.RowKit

set_option maxHeartbeats 400000 in
theorem eqStringS_any (A C : Option Addr) (ca cc : Nat) (xs ys : List ByteArray) (w : World) (hn : xs.length ≤ 9223372036854775807) (hm : ys.length ≤ 9223372036854775807)
    (h1 : StrS w w.heap.size A xs) (h2 : StrS w w.heap.size C ys) :
    Calls Try.prog 36 #[.slice A xs.length ca, .slice C ys.length cc] w fun e w' => e = .returned (.bool (decide (xs = ys))) ∧ Below w.heap.size w w' := by
  by_cases hl : xs.length = ys.length
  · have H1 := Lib.hid h1
    have H2 := Lib.hid h2
    clear h1 h2
    have hl2 : ((xs.length : Int) != (ys.length : Int)) = false := by simp [hl]
    have hl3 : xs.length ≤ ys.length := by omega
    have hl4 : ys.length ≤ xs.length := by omega
    clear hl
    go_enter Try.func36, Try.ntmps36
    go_wp2
    go_loopw [5] (fun i wr => ∃ k : Nat, k ≤ xs.length ∧ i = .int .i64 k ∧ xs.take k = ys.take k ∧ Below w.heap.size w wr) (fun i _ => xs.length - (intOf i).toNat)
    case atStart => exact ⟨0, Nat.zero_le _, rfl, rfl, Below.refl _ _⟩
    case round =>
      obtain ⟨k, hk, rfl, ht, hb⟩ := hrel
      have HT := Lib.hid ht
      clear ht
      by_cases hlt : k < xs.length
      · obtain ⟨b1, o1, x, rfl, hb1, he, hc0⟩ := (H1.out.below hb).at_ hlt
        obtain ⟨b2, o2, y, rfl, hb2, hf, hd0⟩ := (H2.out.below hb).at_ (k := k) (by omega)
        have HE := Lib.hid he
        have HF := Lib.hid hf
        clear he hf
        have hi0 : (0 : Int) ≤ (k : Int) := Int.natCast_nonneg _
        have hi1 : (k : Int) < (xs.length : Int) := by omega
        have hi2 : (k : Int) < (ys.length : Int) := by omega
        go_wp2
        go_region
        go_wp2
        · have hE : (!x.toList == y.toList) = true := by assumption
          have HQ := Lib.hid (take_differ HE.out HF.out (fun h => by rw [h] at hE; simp at hE))
          go_ret
          exact ⟨ret_boolE HQ.out.symm, hb.drew⟩
        · have hE : (!x.toList == y.toList) = false := by assumption
          have hxy := same_bytes hE
          exact ⟨⟨k + 1, by omega, by go_num, take_same HT.out HE.out (by rw [hxy]; exact HF.out), hb.drew⟩, by simp [intOf]; omega⟩
      · have HA := Lib.hid (take_all_same HT.out (by omega) (by omega))
        go_wp2
        go_ret
        exact ⟨ret_boolE HA.out.symm, hb⟩
  · have hl2 : ((xs.length : Int) != (ys.length : Int)) = true := by simp; omega
    have HD := Lib.hid (show decide (xs = ys) = false by rw [decide_eq_false_iff_not]; rintro rfl; exact hl rfl)
    clear hl
    go_enter Try.func36, Try.ntmps36
    go_wp2
    go_ret
    exact ⟨ret_boolE HD.out.symm, Below.refl _ _⟩
end Go.Proofs.Ytbmihbbpdmpmpaa
