/- SameGraph: the specification's loop and the library's slices.Equal answer alike. -/
import Derived.Test.YthdpfmgljnmafabToEdge
import Derived.RegionTactic
import Derived.ChangeAlike
import Derived.Laws.StructEq
namespace Go.Proofs.Ythdpfmgljnmafab
open Go.RowKit

set_option maxHeartbeats 400000 in
theorem sliceEq_any (A C : Option Addr) (ca cc : Nat) (es fs : List (Int × Int)) (w : World) (hn : es.length ≤ 9223372036854775807) (hm : fs.length ≤ 9223372036854775807)
    (h1 : EdgeS w w.heap.size A es) (h2 : EdgeS w w.heap.size C fs) :
    Calls Try.prog 71 #[.slice A es.length ca, .slice C fs.length cc] w fun e w' => e = .returned (.bool (decide (es = fs))) ∧ Below w.heap.size w w' := by
  by_cases hl : es.length = fs.length
  · have H1 := Lib.hid h1
    have H2 := Lib.hid h2
    clear h1 h2
    have hl2 : ((es.length : Int) != (fs.length : Int)) = false := by simp [hl]
    have hl3 : es.length ≤ fs.length := by omega
    have hl4 : fs.length ≤ es.length := by omega
    clear hl
    go_enter Try.func71, Try.ntmps71
    go_wp2
    go_loopw [13] (fun i wr => ∃ k : Nat, k ≤ es.length ∧ i = .int .i64 k ∧ es.take k = fs.take k ∧ Below w.heap.size w wr) (fun i _ => es.length - (intOf i).toNat)
    case atStart => exact ⟨0, Nat.zero_le _, rfl, rfl, Below.refl _ _⟩
    case round =>
      obtain ⟨k, hk, rfl, ht, hb⟩ := hrel
      have HT := Lib.hid ht
      clear ht
      by_cases hlt : k < es.length
      · obtain ⟨b1, o1, e, rfl, hb1, he, hc0, hc1⟩ := (H1.out.below hb).at_ hlt
        obtain ⟨b2, o2, f, rfl, hb2, hf, hd0, hd1⟩ := (H2.out.below hb).at_ (k := k) (by omega)
        have HE := Lib.hid he
        have HF := Lib.hid hf
        clear he hf
        have hi0 : (0 : Int) ≤ (k : Int) := Int.natCast_nonneg _
        have hi1 : (k : Int) < (es.length : Int) := by omega
        have hi2 : (k : Int) < (fs.length : Int) := by omega
        obtain ⟨a, b⟩ := e
        obtain ⟨c, d⟩ := f
        simp only at hc0 hc1 hd0 hd1
        by_cases h1 : a = c
        · subst h1
          by_cases h2 : b = d
          · subst h2
            have HQ := Lib.hid (take_same HT.out HE.out HF.out)
            go_wp2
            go_region
            go_wp2
            exact ⟨⟨k + 1, by omega, by go_num, HQ.out, hb.drew⟩, by simp [intOf]; omega⟩
          · have HQ := Lib.hid (take_differ HE.out HF.out (fun h => h2 (by injection h)))
            go_wp2
            go_region
            go_wp2
            go_ret
            exact ⟨ret_boolE HQ.out.symm, hb.drew⟩
        · have HQ := Lib.hid (take_differ HE.out HF.out (fun h => h1 (by injection h)))
          go_wp2
          go_region
          go_wp2
          go_ret
          exact ⟨ret_boolE HQ.out.symm, hb.drew⟩
      · have HA := Lib.hid (take_all_same HT.out (by omega) (by omega))
        go_wp2
        go_ret
        exact ⟨ret_boolE HA.out.symm, hb⟩
  · have hl2 : ((es.length : Int) != (fs.length : Int)) = true := by simp; omega
    have HD := Lib.hid (show decide (es = fs) = false by rw [decide_eq_false_iff_not]; rintro rfl; exact hl rfl)
    clear hl
    go_enter Try.func71, Try.ntmps71
    go_wp2
    go_ret
    exact ⟨ret_boolE HD.out.symm, Below.refl _ _⟩

set_option maxHeartbeats 400000 in
theorem implSame (N M : Int) (A C : Option Addr) (ca cc : Nat) (es fs : List (Int × Int)) (w : World) (hn : es.length ≤ 9223372036854775807) (hm : fs.length ≤ 9223372036854775807)
    (h1 : EdgeS w w.heap.size A es) (h2 : EdgeS w w.heap.size C fs) :
    Calls Try.prog 32 #[.agg #[.int .i64 N, .slice A es.length ca], .agg #[.int .i64 M, .slice C fs.length cc]] w fun e w' => e = .returned (.bool (eqG N M es fs)) ∧ Below w.heap.size w w' := by
  have H1 := Lib.hid h1
  have H2 := Lib.hid h2
  clear h1 h2
  have hb0 : Below w.heap.size w ((w.alloc (Obj.cells #[.int .i64 N, .slice A es.length ca] 29)).alloc (Obj.cells #[.int .i64 M, .slice C fs.length cc] 29)) :=
    ((Below.refl _ _).alloc (Nat.le_refl _) _).alloc (by simp) _
  by_cases h : N = M
  · have e1 : (N == M) = true := by simp [h]
    have H := Lib.hid (show eqG N M es fs = decide (es = fs) by simp [eqG, h])
    clear h
    have HC := fun w h3 h4 => Lib.hid (sliceEq_any A C ca cc es fs w hn hm h3 h4)
    go_enter Try.func32, Try.ntmps32
    go_wp2_with (go_at_call 71; refine (HC _ (H1.out.up_ hb0) (H2.out.up_ hb0)).out.mono ?_; rintro e w1 ⟨rfl, hb⟩)
    go_ret
    exact ⟨ret_boolE (by rw [H.out]), hb0.trans (hb.mono hb0.size)⟩
  · have e1 : (N == M) = false := by simp [h]
    have H := Lib.hid (show eqG N M es fs = false by simp [eqG, h])
    clear h
    go_enter Try.func32, Try.ntmps32
    go_wp2
    go_ret
    exact ⟨ret_boolE (by rw [H.out]), hb0⟩

set_option maxHeartbeats 1000000 in
theorem specSame (N M : Int) (A C : Option Addr) (ca cc : Nat) (es fs : List (Int × Int)) (w : World) (hn : es.length ≤ 9223372036854775807) (hm : fs.length ≤ 9223372036854775807)
    (h1 : EdgeS w w.heap.size A es) (h2 : EdgeS w w.heap.size C fs) :
    Calls Try.prog 31 #[.agg #[.int .i64 N, .slice A es.length ca], .agg #[.int .i64 M, .slice C fs.length cc]] w fun e w' => e = .returned (.bool (eqG N M es fs)) ∧ Below w.heap.size w w' := by
  have H1 := Lib.hid h1
  have H2 := Lib.hid h2
  clear h1 h2
  have hb0 : Below w.heap.size w ((w.alloc (Obj.cells #[.int .i64 N, .slice A es.length ca] 29)).alloc (Obj.cells #[.int .i64 M, .slice C fs.length cc] 29)) :=
    ((Below.refl _ _).alloc (Nat.le_refl _) _).alloc (by simp) _
  by_cases h : N = M
  · have e1 : (N != M) = false := by simp [h]
    have H := Lib.hid (show eqG N M es fs = decide (es = fs) by simp [eqG, h])
    clear h
    by_cases hl : es.length = fs.length
    · have hl2 : ((es.length : Int) != (fs.length : Int)) = false := by simp [hl]
      have hl3 : es.length ≤ fs.length := by omega
      have hl4 : fs.length ≤ es.length := by omega
      clear hl
      go_enter Try.func31, Try.ntmps31
      go_wp2
      go_loopw [24] (fun i wr => ∃ k : Nat, k ≤ es.length ∧ i = .int .i64 k ∧ es.take k = fs.take k ∧ Blk wr (w.heap.size + 1) 29 #[.int .i64 M, .slice C fs.length cc] ∧ Below w.heap.size w wr) (fun i _ => es.length - (intOf i).toNat)
      case atStart =>
        have hq := Blk.new (w.alloc (Obj.cells #[.int .i64 N, .slice A es.length ca] 29)) 29 #[.int .i64 M, .slice C fs.length cc]
        rw [show (w.alloc (Obj.cells #[.int .i64 N, .slice A es.length ca] 29)).heap.size = w.heap.size + 1 by simp] at hq
        exact ⟨0, Nat.zero_le _, rfl, rfl, hq, hb0⟩
      case round =>
        obtain ⟨k, hk, rfl, ht, hblk, hb⟩ := hrel
        have HT := Lib.hid ht
        have HB := Lib.hid hblk
        have hlt0 := hblk.lt
        have hg1 : wr.cell? ⟨w.heap.size + 1, 1, none⟩ = some (.slice C fs.length cc) := by rw [hblk.cell]; rfl
        clear ht hblk
        by_cases hlt : k < es.length
        · obtain ⟨b1, o1, e, rfl, hb1, he, hc0, hc1⟩ := (H1.out.below hb).at_ hlt
          obtain ⟨b2, o2, f, rfl, hb2, hf, hd0, hd1⟩ := (H2.out.below hb).at_ (k := k) (by omega)
          have HE := Lib.hid he
          have HF := Lib.hid hf
          clear he hf
          have hi0 : (0 : Int) ≤ (k : Int) := Int.natCast_nonneg _
          have hi1 : (k : Int) < (es.length : Int) := by omega
          have hi2 : (k : Int) < (fs.length : Int) := by omega
          have hbn := hb.size
          have hb2w : b2 < wr.heap.size := by omega
          obtain ⟨a, b⟩ := e
          obtain ⟨c, d⟩ := f
          simp only at hc0 hc1 hd0 hd1
          by_cases h1 : a = c
          · subst h1
            by_cases h2 : b = d
            · subst h2
              have HQ := Lib.hid (take_same HT.out HE.out HF.out)
              go_wp2
              go_region
              go_wp2
              exact ⟨⟨k + 1, by omega, by go_num, HQ.out, (HB.out.alloc _).drew, (hb.alloc hb.size _).drew⟩, by simp [intOf]; omega⟩
            · have HQ := Lib.hid (take_differ HE.out HF.out (fun h => h2 (by injection h)))
              go_wp2
              go_region
              go_wp2
              go_ret
              exact ⟨ret_boolE (by rw [H.out, HQ.out]), (hb.alloc hb.size _).drew⟩
          · have HQ := Lib.hid (take_differ HE.out HF.out (fun h => h1 (by injection h)))
            go_wp2
            go_region
            go_wp2
            go_ret
            exact ⟨ret_boolE (by rw [H.out, HQ.out]), (hb.alloc hb.size _).drew⟩
        · have HA := Lib.hid (take_all_same HT.out (by omega) (by omega))
          go_wp2
          go_ret
          exact ⟨ret_boolE (by rw [H.out, HA.out]), hb⟩
    · have hl2 : ((es.length : Int) != (fs.length : Int)) = true := by simp; omega
      have HD := Lib.hid (show decide (es = fs) = false by rw [decide_eq_false_iff_not]; rintro rfl; exact hl rfl)
      clear hl
      go_enter Try.func31, Try.ntmps31
      go_wp2
      go_ret
      exact ⟨ret_boolE (by rw [H.out, HD.out]), hb0⟩
  · have e1 : (N != M) = true := by simp [h]
    have H := Lib.hid (show eqG N M es fs = false by simp [eqG, h])
    clear h
    go_enter Try.func31, Try.ntmps31
    go_wp2
    go_ret
    exact ⟨ret_boolE H.out.symm, hb0⟩
end Go.Proofs.Ythdpfmgljnmafab
