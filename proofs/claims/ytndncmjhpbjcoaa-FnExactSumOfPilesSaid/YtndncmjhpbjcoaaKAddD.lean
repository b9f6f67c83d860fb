/- AddDivisors: the specification's appended sums and the program's filled slice are one plain list. -/
import Derived.Test.YtndncmjhpbjcoaaKBA
import Derived.Test.YtndncmjhpbjcoaaKNeg
set_option linter.all false
namespace Go.Proofs.Ytndncmjhpbjcoaa
open Go.RowKit

def sumsB (xs ys : List Int) : List Int := (List.range xs.length).map fun i => wrap64 (xs.getD i 0 + ys.getD i 0)
def addB (xs ys : List Int) : List Int := if xs.length = ys.length then sumsB xs ys else []
def sameLen (xs ys : List Int) : Bool := decide (xs.length = ys.length)
theorem sumsB_length (xs ys : List Int) : (sumsB xs ys).length = xs.length := by simp [sumsB]
theorem addB_len {xs ys : List Int} (h : xs.length ≤ 1048576) : (addB xs ys).length ≤ 1048576 := by
  unfold addB
  split
  · rw [sumsB_length]; exact h
  · simp
theorem sumsB_at {xs ys : List Int} {k : Nat} {x y : Int} (h : xs[k]? = some x) (h2 : ys[k]? = some y) : (sumsB xs ys)[k]? = some (wrap64 (x + y)) := by
  have hk : k < xs.length := (List.getElem?_eq_some_iff.1 h).1
  simp [sumsB, hk, List.getD, h2]
  rw [List.getElem?_eq_getElem hk] at h
  injection h with h
  rw [h]

set_option maxHeartbeats 1000000 in
theorem specAddD (A C : Option Addr) (ca cc : Nat) (xs ys : List Int) (w : World) (_ : xs.length ≤ 1048576) (hm : ys.length ≤ 1048576) (h1 : IntS w w.heap.size A xs) (h2 : IntS w w.heap.size C ys) :
    Calls Try.prog 85 #[.slice A xs.length ca, .slice C ys.length cc] w (GivesIntsOk w (addB xs ys) (sameLen xs ys)) := by
  obtain ⟨i0, hi, hz0, hz1, hz2⟩ := info_parts intInfo
  have HS := Lib.hid h1
  have HT := Lib.hid h2
  clear h1 h2
  by_cases hl : xs.length = ys.length
  · rw [addB, if_pos hl, sameLen, decide_eq_true hl]
    have t0 : ((xs.length : Int) != (ys.length : Int)) = false := by simp [hl]
    have hl1 : xs.length ≤ ys.length := by omega
    clear hl
    go_enter Try.func85, Try.ntmps85
    go_wp2
    go_loopw [6, 17] (fun v i wr => ∃ k : Nat, k ≤ xs.length ∧ i = .int .i64 k ∧ wr.ownsRow w.heap.size 3 1 v k (intCells ((sumsB xs ys).take k)) ∧ Below w.heap.size w wr) (fun _ i _ => xs.length - (intOf i).toNat)
    case atStart =>
      refine ⟨0, Nat.zero_le _, rfl, ?_, (Below.refl _ _).alloc (Nat.le_refl _) _⟩
      exact ⟨rfl, .inr ⟨w.heap.size, 0, #[], rfl, Nat.le_refl _, heap_alloc_new w _, Nat.le_refl _, Nat.zero_le _, rfl, rfl⟩⟩
    case round =>
      obtain ⟨k, hk, rfl, hown, hb⟩ := hrel
      have HO := Lib.hid hown
      have hbn := hb.size
      clear hown
      by_cases hlt : k < xs.length
      · obtain ⟨b1, o1, x, rfl, hb1, he, hc0⟩ := (HS.out.below hb).at_ hlt
        obtain ⟨b2, o2, y, rfl, hb2, hf, hd0⟩ := (HT.out.below hb).at_ (k := k) (by omega)
        have hi0 : (0 : Int) ≤ (k : Int) := Int.natCast_nonneg _
        have hi1 : (k : Int) < (xs.length : Int) := by omega
        have hi2 : (k : Int) < (ys.length : Int) := by omega
        have HMT := Lib.hid (take_snocI (sumsB_at he hf))
        clear he hf
        go_wp2_with (at_builtin; refine wpList_append_own _ rfl _ _ 28 rfl w.heap.size 3 i0 (.int .i64 0) 1 8 Try.underlying28 hi hz0 hz1 hz2 rfl (by decide) _ _ _ rfl (HO.out.alloc _) ⟨wr.heap.size, 0, none⟩ 1 1 [.int .i64 (wrap64 (x + y))] rfl rfl ?c1 ?c2 ?c3 ?c4 ?c5 ?_)
        case c1 => exact one_cellI _ _ (by simp) _ _
        case c2 => simp [Value.oneCell']
        case c3 => unfold maxLen; omega
        case c4 => omega
        case c5 => simp; omega
        intro v' w1 hown' hgrow _
        have HO2 := Lib.hid hown'
        clear hown'
        go_wp2
        refine ⟨⟨k + 1, by omega, by go_num, ?_, (hb.alloc hb.size _).grown hgrow (by simp; omega) (fun q hq => (HO.out.lt q hq).1)⟩, by simp [intOf]; omega⟩
        have h3 := HO2.out
        rw [HMT.out]
        simpa [intCells] using h3
      · have HO3 := HO.out
        rw [show k = xs.length by omega, List.take_of_length_le (by rw [sumsB_length]; exact Nat.le_refl _)] at HO3
        obtain ⟨Ar, cr, rfl⟩ : ∃ Ar cr, u6 = .slice Ar xs.length cr := by
          rcases HO3.2 with ⟨h1, h2⟩ | ⟨g, cap, cur, h1, _⟩
          · exact ⟨none, 0, by rw [h1, h2]⟩
          · exact ⟨_, _, h1⟩
        have HF := Lib.hid (OwnI.of_own HO3)
        have HLM := Lib.hid (sumsB_length xs ys)
        clear HO3
        go_wp2
        go_ret2
        exact ⟨Ar, cr, by rw [HLM.out]; rfl, HF.out, hb⟩
  · rw [addB, if_neg hl, sameLen, decide_eq_false hl]
    have t0 : ((xs.length : Int) != (ys.length : Int)) = true := by simp; omega
    clear hl
    go_enter Try.func85, Try.ntmps85
    go_wp2
    go_ret2
    exact ⟨none, 0, rfl, OwnI.nil _ _ _, Below.refl _ _⟩

set_option maxHeartbeats 1000000 in
theorem implAddD (A C : Option Addr) (ca cc : Nat) (xs ys : List Int) (w : World) (hn : xs.length ≤ 1048576) (hm : ys.length ≤ 1048576) (h1 : IntS w w.heap.size A xs) (h2 : IntS w w.heap.size C ys) :
    Calls Try.prog 70 #[.slice A xs.length ca, .slice C ys.length cc] w (GivesIntsOk w (addB xs ys) (sameLen xs ys)) := by
  have HS := Lib.hid h1
  have HT := Lib.hid h2
  clear h1 h2
  by_cases hl : xs.length = ys.length
  · rw [addB, if_pos hl, sameLen, decide_eq_true hl]
    have t0 : ((xs.length : Int) != (ys.length : Int)) = false := by simp [hl]
    have hl1 : xs.length ≤ ys.length := by omega
    have hmk := make_ints xs.length hn
    have HL := Lib.hid (sumsB_length xs ys)
    clear hl
    go_enter Try.func70, Try.ntmps70
    go_wp2
    go_loopw [18] (fun i wr => ∃ k : Nat, k ≤ xs.length ∧ i = .int .i64 k ∧ Blk wr w.heap.size 3 (intCells (partI (sumsB xs ys) k)).toArray ∧ Below w.heap.size w wr) (fun i _ => xs.length - (intOf i).toNat)
    case atStart =>
      refine ⟨0, Nat.zero_le _, rfl, ?_, (Below.refl _ _).alloc (Nat.le_refl _) _⟩
      rw [partI_len0, HL.out]
      exact Blk.new w _ _
    case round =>
      obtain ⟨k, hk, rfl, hblk, hb⟩ := hrel
      have HB := Lib.hid hblk
      clear hblk hmk
      by_cases hlt : k < xs.length
      · obtain ⟨b1, o1, x, rfl, hb1, he, hc0⟩ := (HS.out.below hb).at_ hlt
        obtain ⟨b2, o2, y, rfl, hb2, hf, hd0⟩ := (HT.out.below hb).at_ (k := k) (by omega)
        have hi0 : (0 : Int) ≤ (k : Int) := Int.natCast_nonneg _
        have hi1 : (k : Int) < (xs.length : Int) := by omega
        have hi2 : (k : Int) < (ys.length : Int) := by omega
        have HX := Lib.hid (sumsB_at he hf)
        clear he hf
        have hf0 := HB.out.frozen k
        have hcl0 : wr.cell? ⟨w.heap.size, k, none⟩ = some (.int .i64 0) := by rw [HB.out.cell]; simp [intCells, partI_at (sumsB xs ys) k (by rw [HL.out]; exact hlt)]
        go_wp2
        go_region
        go_wp2
        exact ⟨⟨k + 1, by omega, by go_num, (blk_partI HB.out HX.out).drew, (hb.setCell (Nat.le_refl _) _).drew⟩, by simp [intOf]; omega⟩
      · have HB2 := HB.out
        rw [show k = (sumsB xs ys).length by rw [HL.out]; omega, partI_all] at HB2
        have HB3 := Lib.hid HB2
        clear HB2
        go_wp2
        go_ret2
        exact ⟨some ⟨w.heap.size, 0, none⟩, xs.length, by rw [HL.out]; rfl, OwnI.of_blk HB3.out (Nat.le_refl _), hb⟩
  · rw [addB, if_neg hl, sameLen, decide_eq_false hl]
    have t0 : ((xs.length : Int) != (ys.length : Int)) = true := by simp; omega
    clear hl
    go_enter Try.func70, Try.ntmps70
    go_wp2
    go_ret2
    exact ⟨none, 0, rfl, OwnI.nil _ _ _, Below.refl _ _⟩
end Go.Proofs.Ytndncmjhpbjcoaa
