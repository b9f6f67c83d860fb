/- The difference of two divisors: the specification's side. -/
import Derived.Test.YtdpojcgeblbfeaaUBG
import Derived.Test.YtdpojcgeblbfeaaUBT
set_option linter.all false
namespace Go.Proofs.Ytdpojcgeblbfeaa
open Go.RowKit

set_option maxHeartbeats 1000000 in
theorem specMinus (A C : Option Addr) (ca cc : Nat) (xs ys : List Int) (w : World) (hm : ys.length ≤ 1048576) (hl1 : xs.length ≤ ys.length) (h1 : IntS w w.heap.size A xs) (h2 : IntS w w.heap.size C ys) :
    Calls Try.prog 102 #[.slice A xs.length ca, .slice C ys.length cc] w (GivesInts w (subB xs ys)) := by
  obtain ⟨i0, hi, hz0, hz1, hz2⟩ := info_parts intInfo
  have HS := Lib.hid h1
  have HT := Lib.hid h2
  clear h1 h2
  go_enter Try.func102, Try.ntmps102
  go_wp2
  go_loopw [5, 11] (fun v i wr => ∃ k : Nat, k ≤ xs.length ∧ i = .int .i64 k ∧ wr.ownsRow w.heap.size 3 1 v k (intCells ((subB xs ys).take k)) ∧ Below w.heap.size w wr) (fun _ i _ => xs.length - (intOf i).toNat)
  case atStart =>
    refine ⟨0, Nat.zero_le _, rfl, ?_, (Below.refl _ _).alloc (Nat.le_refl _) _⟩
    exact ⟨rfl, .inr ⟨w.heap.size, 0, #[], rfl, Nat.le_refl _, heap_alloc_new w _, Nat.le_refl _, Nat.zero_le _, rfl, rfl⟩⟩
  case round =>
    obtain ⟨k, hk, rfl, hown, hb⟩ := hrel
    have HO := Lib.hid hown
    have hbn := hb.size
    clear hown
    by_cases hlt : k < xs.length
    · obtain ⟨b1, o1, x, rfl, hb1, he, hc0⟩ := (HS.out.below hb).at_ hlt
      obtain ⟨b2, o2, y, rfl, hb2, hf, hd0⟩ := (HT.out.below hb).at_ (k := k) (by omega)
      have hi0 : (0 : Int) ≤ (k : Int) := Int.natCast_nonneg _
      have hi1 : (k : Int) < (xs.length : Int) := by omega
      have hi2 : (k : Int) < (ys.length : Int) := by omega
      have HMT := Lib.hid (take_snocI (subB_at he hf))
      clear he hf
      go_wp2_with (at_builtin; refine wpList_append_own _ rfl _ _ 28 rfl w.heap.size 3 i0 (.int .i64 0) 1 8 Try.underlying28 hi hz0 hz1 hz2 rfl (by decide) _ _ _ rfl (HO.out.alloc _) ⟨wr.heap.size, 0, none⟩ 1 1 [.int .i64 (wrap64 (x - y))] rfl rfl ?c1 ?c2 ?c3 ?c4 ?c5 ?_)
      case c1 => exact one_cellI _ _ (by simp) _ _
      case c2 => simp [Value.oneCell']
      case c3 => unfold maxLen; omega
      case c4 => omega
      case c5 => simp; omega
      intro v' w1 hown' hgrow _
      have HO2 := Lib.hid hown'
      clear hown'
      go_wp2
      refine ⟨⟨k + 1, by omega, by go_num, ?_, (hb.alloc hb.size _).grown hgrow (by simp; omega) (fun q hq => (HO.out.lt q hq).1)⟩, by simp [intOf]; omega⟩
      have h3 := HO2.out
      rw [HMT.out]
      simpa [intCells] using h3
    · have HO3 := HO.out
      rw [show k = xs.length by omega, List.take_of_length_le (by rw [subB_len]; exact Nat.le_refl _)] at HO3
      obtain ⟨Ar, cr, rfl⟩ : ∃ Ar cr, u5 = .slice Ar xs.length cr := by
        rcases HO3.2 with ⟨h1, h2⟩ | ⟨g, cap, cur, h1, _⟩
        · exact ⟨none, 0, by rw [h1, h2]⟩
        · exact ⟨_, _, h1⟩
      have HF := Lib.hid (OwnI.of_own HO3)
      have HLM := Lib.hid (subB_len xs ys)
      clear HO3
      go_wp2
      go_ret
      exact ⟨Ar, cr, by rw [HLM.out]; rfl, HF.out, hb⟩
end Go.Proofs.Ytdpojcgeblbfeaa
