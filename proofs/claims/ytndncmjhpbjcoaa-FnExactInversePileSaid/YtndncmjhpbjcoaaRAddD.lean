/- AddDivisors: the specification's appended sums and the program's filled slice are one plain list. -/
import Derived.Test.YtndncmjhpbjcoaaRBA
import Derived.Test.YtndncmjhpbjcoaaRNeg
set_option linter.all false
namespace Go.Proofs.Ytndncmjhpbjcoaa
open Go.RowKit

def sumsB (xs ys : List Int) : List Int := (List.range xs.length).map fun i => wrap64 (xs.getD i 0 + ys.getD i 0)
def addB (xs ys : List Int) : List Int := if xs.length = ys.length then sumsB xs ys else []
def sameLen (xs ys : List Int) : Bool := decide (xs.length = ys.length)
theorem sumsB_length (xs ys : List Int) : (sumsB xs ys).length = xs.length := by simp [sumsB]
theorem sumsB_at {xs ys : List Int} {k : Nat} {x y : Int} (h : xs[k]? = some x) (h2 : ys[k]? = some y) : (sumsB xs ys)[k]? = some (wrap64 (x + y)) := by
  have hk : k < xs.length := (List.getElem?_eq_some_iff.1 h).1
  simp [sumsB, hk, List.getD, h2]
  rw [List.getElem?_eq_getElem hk] at h
  injection h with h
  rw [h]

set_option maxHeartbeats 1000000 in
theorem implAddD (A C : Option Addr) (ca cc : Nat) (xs ys : List Int) (w : World) (hn : xs.length ≤ 1048576) (hm : ys.length ≤ 1048576) (h1 : IntS w w.heap.size A xs) (h2 : IntS w w.heap.size C ys) :
    Calls Try.prog 70 #[.slice A xs.length ca, .slice C ys.length cc] w (GivesIntsOk w (addB xs ys) (sameLen xs ys)) := by
  have HS := Lib.hid h1
  have HT := Lib.hid h2
  clear h1 h2
  by_cases hl : xs.length = ys.length
  · rw [addB, if_pos hl, sameLen, decide_eq_true hl]
    have t0 : ((xs.length : Int) != (ys.length : Int)) = false := by simp [hl]
    have hl1 : xs.length ≤ ys.length := by omega
    have hmk := make_ints xs.length hn
    have HL := Lib.hid (sumsB_length xs ys)
    clear hl
    go_enter Try.func70, Try.ntmps70
    go_wp2
    go_loopw [18] (fun i wr => ∃ k : Nat, k ≤ xs.length ∧ i = .int .i64 k ∧ Blk wr w.heap.size 3 (intCells (partI (sumsB xs ys) k)).toArray ∧ Below w.heap.size w wr) (fun i _ => xs.length - (intOf i).toNat)
    case atStart =>
      refine ⟨0, Nat.zero_le _, rfl, ?_, (Below.refl _ _).alloc (Nat.le_refl _) _⟩
      rw [partI_len0, HL.out]
      exact Blk.new w _ _
    case round =>
      obtain ⟨k, hk, rfl, hblk, hb⟩ := hrel
      have HB := Lib.hid hblk
      clear hblk hmk
      by_cases hlt : k < xs.length
      · obtain ⟨b1, o1, x, rfl, hb1, he, hc0⟩ := (HS.out.below hb).at_ hlt
        obtain ⟨b2, o2, y, rfl, hb2, hf, hd0⟩ := (HT.out.below hb).at_ (k := k) (by omega)
        have hi0 : (0 : Int) ≤ (k : Int) := Int.natCast_nonneg _
        have hi1 : (k : Int) < (xs.length : Int) := by omega
        have hi2 : (k : Int) < (ys.length : Int) := by omega
        have HX := Lib.hid (sumsB_at he hf)
        clear he hf
        have hf0 := HB.out.frozen k
        have hcl0 : wr.cell? ⟨w.heap.size, k, none⟩ = some (.int .i64 0) := by rw [HB.out.cell]; simp [intCells, partI_at (sumsB xs ys) k (by rw [HL.out]; exact hlt)]
        go_wp2
        go_region
        go_wp2
        exact ⟨⟨k + 1, by omega, by go_num, (blk_partI HB.out HX.out).drew, (hb.setCell (Nat.le_refl _) _).drew⟩, by simp [intOf]; omega⟩
      · have HB2 := HB.out
        rw [show k = (sumsB xs ys).length by rw [HL.out]; omega, partI_all] at HB2
        have HB3 := Lib.hid HB2
        clear HB2
        go_wp2
        go_ret2
        exact ⟨some ⟨w.heap.size, 0, none⟩, xs.length, by rw [HL.out]; rfl, OwnI.of_blk HB3.out (Nat.le_refl _), hb⟩
  · rw [addB, if_neg hl, sameLen, decide_eq_false hl]
    have t0 : ((xs.length : Int) != (ys.length : Int)) = true := by simp; omega
    clear hl
    go_enter Try.func70, Try.ntmps70
    go_wp2
    go_ret2
    exact ⟨none, 0, rfl, OwnI.nil _ _ _, Below.refl _ _⟩
end Go.Proofs.Ytndncmjhpbjcoaa
