/- OneAt: both sides. -/
import Derived.Test.YtkmbdclhjdbhpaaDivB
import Derived.Test.YtkmbdclhjdbhpaaNeg
import Derived.Test.YtkmbdclhjdbhpaaKeep
namespace Go.Proofs.Ytkmbdclhjdbhpaa
open Go.RowKit

noncomputable def oneOk (N : Int) (es : List (Int × Int)) (v n : Int) : Bool := graphB N es && (vB v N && within 60 n)
noncomputable def oneB (N : Int) (es : List (Int × Int)) (v n : Int) : List Int := if oneOk N es v n = true then (List.replicate N.toNat 0).set v.toNat n else []
theorem oneB_f {N : Int} {es : List (Int × Int)} {v n : Int} (h : oneOk N es v n = false) : oneB N es v n = [] := by rw [oneB, if_neg (by rw [h]; decide)]
theorem oneB_t {N : Int} {es : List (Int × Int)} {v n : Int} (h : oneOk N es v n = true) : oneB N es v n = (List.replicate N.toNat 0).set v.toNat n := by rw [oneB, if_pos h]
theorem oneB_len {N : Int} {es : List (Int × Int)} {v n : Int} : (oneB N es v n).length ≤ 1048576 := by
  cases h : oneOk N es v n with
  | false => rw [oneB_f h]; simp
  | true =>
    rw [oneB_t h]
    simp only [oneOk, Bool.and_eq_true] at h
    have := edgesB_lims (graphB_all h.1).1
    simp
    omega
theorem blk_one {w : World} {g : Nat} {t : TypeId} {M v : Nat} {n : Int} (h : Blk w g t (intCells (List.replicate M 0)).toArray) :
    Blk (w.setCell ⟨g, v, none⟩ (.int .i64 n)) g t (intCells ((List.replicate M 0).set v n)).toArray := by
  have h2 := h.set_ v (.int .i64 n)
  rw [List.setIfInBounds_toArray] at h2
  have : (intCells (List.replicate M 0)).set v (.int .i64 n) = intCells ((List.replicate M 0).set v n) := by simp [intCells, List.map_set]
  rw [this] at h2
  exact h2

set_option maxHeartbeats 1000000 in
theorem specOne (N : Int) (A : Option Addr) (c : Nat) (es : List (Int × Int)) (v n : Int) (w : World) (hn : es.length ≤ 1048576) (hE : EdgeS w w.heap.size A es) :
    Calls Try.prog 36 #[.agg #[.int .i64 N, .slice A es.length c], .int .i64 v, .int .i64 n] w (GivesIntsOk w (oneB N es v n) (oneOk N es v n)) := by
  have HE := Lib.hid hE
  clear hE
  have hb0 : Below w.heap.size w (w.alloc (Obj.cells #[.int .i64 N, .slice A es.length c] 37)) := (Below.refl _ _).alloc (Nat.le_refl _) _
  have HG := fun w h => Lib.hid (specGraphOk N A c es w (by omega) h)
  cases hB : graphB N es with
  | false =>
    rw [hB] at HG
    have h0 : oneOk N es v n = false := by simp [oneOk, hB]
    rw [oneB_f h0, h0]
    clear hB h0
    go_enter Try.func36, Try.ntmps36
    go_wp2_with fail
    refine (HG _ (HE.out.up_ hb0)).out.mono ?_
    rintro e w1 ⟨rfl, hb1⟩
    have hbb : Below w.heap.size w w1 := hb0.trans (hb1.mono hb0.size)
    have hx1 := (Blk.new w 37 #[.int .i64 N, .slice A es.length c]).below hb1 (by simp)
    have c0 : w1.cell? ⟨w.heap.size, 0, none⟩ = some (.int .i64 N) := by rw [hx1.cell]; rfl
    have c1 : w1.cell? ⟨w.heap.size, 1, none⟩ = some (.slice A es.length c) := by rw [hx1.cell]; rfl
    have HX1 := Lib.hid hx1
    clear hb0 hb1 hx1
    go_wp2
    go_ret2
    exact ⟨none, 0, rfl, OwnI.nil _ _ _, hbb⟩
  | true =>
    rw [hB] at HG
    obtain ⟨hN1, hN6, hn12⟩ := edgesB_lims (graphB_all hB).1
    have HV := fun w => Lib.hid (l01In_any v 0 (N - 1) w)
    rw [inB_vB] at HV
    cases hV : vB v N with
    | false =>
      rw [hV] at HV
      have h0 : oneOk N es v n = false := by simp [oneOk, hV]
      rw [oneB_f h0, h0]
      clear hB hV h0
      go_enter Try.func36, Try.ntmps36
      go_wp2_with fail
      refine (HG _ (HE.out.up_ hb0)).out.mono ?_
      rintro e w1 ⟨rfl, hb1⟩
      have hbb : Below w.heap.size w w1 := hb0.trans (hb1.mono hb0.size)
      have hx1 := (Blk.new w 37 #[.int .i64 N, .slice A es.length c]).below hb1 (by simp)
      have c0 : w1.cell? ⟨w.heap.size, 0, none⟩ = some (.int .i64 N) := by rw [hx1.cell]; rfl
      have c1 : w1.cell? ⟨w.heap.size, 1, none⟩ = some (.slice A es.length c) := by rw [hx1.cell]; rfl
      have HX1 := Lib.hid hx1
      clear hb0 hb1 hx1
      go_wp2_with fail
      refine (HV _).out.mono ?_
      rintro e w' ⟨rfl, rfl⟩
      go_wp2
      go_ret2
      exact ⟨none, 0, rfl, OwnI.nil _ _ _, hbb⟩
    | true =>
      rw [hV] at HV
      have HW := fun w => Lib.hid (l01In_any n (-60) 60 w)
      cases hI : within 60 n with
      | false =>
        have h0 : oneOk N es v n = false := by simp [oneOk, hI]
        rw [oneB_f h0, h0]
        have hI2 : inB n (-60) 60 = false := hI
        rw [hI2] at HW
        clear hB hV hI h0 hI2
        go_enter Try.func36, Try.ntmps36
        go_wp2_with fail
        refine (HG _ (HE.out.up_ hb0)).out.mono ?_
        rintro e w1 ⟨rfl, hb1⟩
        have hbb : Below w.heap.size w w1 := hb0.trans (hb1.mono hb0.size)
        have hx1 := (Blk.new w 37 #[.int .i64 N, .slice A es.length c]).below hb1 (by simp)
        have c0 : w1.cell? ⟨w.heap.size, 0, none⟩ = some (.int .i64 N) := by rw [hx1.cell]; rfl
        have c1 : w1.cell? ⟨w.heap.size, 1, none⟩ = some (.slice A es.length c) := by rw [hx1.cell]; rfl
        have HX1 := Lib.hid hx1
        clear hb0 hb1 hx1
        go_wp2_with fail
        refine (HV _).out.mono ?_
        rintro e w' ⟨rfl, rfl⟩
        go_wp2_with fail
        refine (HW _).out.mono ?_
        rintro e w' ⟨rfl, rfl⟩
        go_wp2
        go_ret2
        exact ⟨none, 0, rfl, OwnI.nil _ _ _, hbb⟩
      | true =>
        have h0 : oneOk N es v n = true := by simp [oneOk, hB, hV, hI]
        rw [oneB_t h0, h0]
        have hI2 : inB n (-60) 60 = true := hI
        rw [hI2] at HW
        obtain ⟨hv0, hv1⟩ := vB_iff hV
        obtain ⟨M, rfl⟩ : ∃ M : Nat, N = (M : Int) := ⟨N.toNat, by omega⟩
        obtain ⟨u, rfl⟩ : ∃ u : Nat, v = (u : Int) := ⟨v.toNat, by omega⟩
        rw [Int.toNat_natCast, Int.toNat_natCast]
        have hmk := make_ints M (by omega)
        have HL := Lib.hid (show ((List.replicate M (0 : Int)).set u n).length = M by simp)
        have huM : u < M := by omega
        clear hB hV hI h0 hI2
        go_enter Try.func36, Try.ntmps36
        go_wp2_with fail
        refine (HG _ (HE.out.up_ hb0)).out.mono ?_
        rintro e w1 ⟨rfl, hb1⟩
        have hbb : Below w.heap.size w w1 := hb0.trans (hb1.mono hb0.size)
        have hx1 := (Blk.new w 37 #[.int .i64 (M : Int), .slice A es.length c]).below hb1 (by simp)
        have c0 : w1.cell? ⟨w.heap.size, 0, none⟩ = some (.int .i64 (M : Int)) := by rw [hx1.cell]; rfl
        have c1 : w1.cell? ⟨w.heap.size, 1, none⟩ = some (.slice A es.length c) := by rw [hx1.cell]; rfl
        have HX1 := Lib.hid hx1
        clear hb0 hb1 hx1
        go_wp2_with fail
        refine (HV _).out.mono ?_
        rintro e w' ⟨rfl, rfl⟩
        go_wp2_with fail
        refine (HW _).out.mono ?_
        rintro e w' ⟨rfl, rfl⟩
        have hs2 := hbb.size
        have HM := Lib.hid (Blk.new w1 3 (intCells (List.replicate M 0)).toArray)
        have hcl0 : (w1.alloc (Obj.cells (intCells (List.replicate M 0)).toArray 3)).cell? ⟨w1.heap.size, u, none⟩ = some (.int .i64 0) := by rw [HM.out.cell]; simp [intCells, huM]
        have hf0 := HM.out.frozen u
        have HS1 := Lib.hid (show (intCells (List.replicate M 0)).set u (.int .i64 n) = intCells ((List.replicate M 0).set u n) by simp [intCells, List.map_set])
        go_wp2
        go_ret2
        exact ⟨some ⟨w1.heap.size, 0, none⟩, M, by rw [HL.out]; rfl, OwnI.of_blk (t := 3) (by rw [HS1.out]; exact Blk.new _ _ _) (by omega), hbb.alloc (by omega) _⟩

set_option maxHeartbeats 1000000 in
theorem implOne (N : Int) (A : Option Addr) (c : Nat) (es : List (Int × Int)) (v n : Int) (w : World) (hn : es.length ≤ 1048576) (hE : EdgeS w w.heap.size A es) :
    Calls Try.prog 37 #[.agg #[.int .i64 N, .slice A es.length c], .int .i64 v, .int .i64 n] w (GivesIntsOk w (oneB N es v n) (oneOk N es v n)) := by
  have HE := Lib.hid hE
  clear hE
  have hb0 : Below w.heap.size w (w.alloc (Obj.cells #[.int .i64 N, .slice A es.length c] 37)) := (Below.refl _ _).alloc (Nat.le_refl _) _
  have HG := fun w h => Lib.hid (implGraphOk N A c es w hn h)
  cases hB : graphB N es with
  | false =>
    rw [hB] at HG
    have h0 : oneOk N es v n = false := by simp [oneOk, hB]
    rw [oneB_f h0, h0]
    clear hB h0
    go_enter Try.func37, Try.ntmps37
    go_wp2_with fail
    refine (HG _ (HE.out.up_ hb0)).out.mono ?_
    rintro e w1 ⟨rfl, hb1⟩
    have hbb : Below w.heap.size w w1 := hb0.trans (hb1.mono hb0.size)
    have hx1 := (Blk.new w 37 #[.int .i64 N, .slice A es.length c]).below hb1 (by simp)
    have c0 : w1.cell? ⟨w.heap.size, 0, none⟩ = some (.int .i64 N) := by rw [hx1.cell]; rfl
    have c1 : w1.cell? ⟨w.heap.size, 1, none⟩ = some (.slice A es.length c) := by rw [hx1.cell]; rfl
    have HX1 := Lib.hid hx1
    clear hb0 hb1 hx1
    go_wp2
    go_ret2
    exact ⟨none, 0, rfl, OwnI.nil _ _ _, hbb⟩
  | true =>
    rw [hB] at HG
    obtain ⟨hN1, hN6, hn12⟩ := edgesB_lims (graphB_all hB).1
    have HV := fun w => Lib.hid (hasVertex_any N (.slice A es.length c) v w ⟨_, _, _, rfl⟩)
    cases hV : vB v N with
    | false =>
      rw [hV] at HV
      have h0 : oneOk N es v n = false := by simp [oneOk, hV]
      rw [oneB_f h0, h0]
      clear hB hV h0
      go_enter Try.func37, Try.ntmps37
      go_wp2_with fail
      refine (HG _ (HE.out.up_ hb0)).out.mono ?_
      rintro e w1 ⟨rfl, hb1⟩
      have hbb : Below w.heap.size w w1 := hb0.trans (hb1.mono hb0.size)
      have hx1 := (Blk.new w 37 #[.int .i64 N, .slice A es.length c]).below hb1 (by simp)
      have c0 : w1.cell? ⟨w.heap.size, 0, none⟩ = some (.int .i64 N) := by rw [hx1.cell]; rfl
      have c1 : w1.cell? ⟨w.heap.size, 1, none⟩ = some (.slice A es.length c) := by rw [hx1.cell]; rfl
      have HX1 := Lib.hid hx1
      clear hb0 hb1 hx1
      go_wp2_with fail
      refine (HV _).out.mono ?_
      rintro e w2 ⟨rfl, hb2⟩
      have hbc : Below w.heap.size w w2 := hbb.trans (hb2.mono hbb.size)
      have hx2 := HX1.out.below hb2 HX1.out.lt
      clear c0 c1
      have c0 : w2.cell? ⟨w.heap.size, 0, none⟩ = some (.int .i64 N) := by rw [hx2.cell]; rfl
      have c1 : w2.cell? ⟨w.heap.size, 1, none⟩ = some (.slice A es.length c) := by rw [hx2.cell]; rfl
      clear hx2 hb2
      go_wp2
      go_ret2
      exact ⟨none, 0, rfl, OwnI.nil _ _ _, hbc⟩
    | true =>
      rw [hV] at HV
      have HW := fun w => Lib.hid (isBeyond_any n 60 w (by omega) (by omega))
      cases hI : within 60 n with
      | false =>
        have h0 : oneOk N es v n = false := by simp [oneOk, hI]
        rw [oneB_f h0, h0]
        skip
        rw [hI] at HW
        clear hB hV hI h0 
        go_enter Try.func37, Try.ntmps37
        go_wp2_with fail
        refine (HG _ (HE.out.up_ hb0)).out.mono ?_
        rintro e w1 ⟨rfl, hb1⟩
        have hbb : Below w.heap.size w w1 := hb0.trans (hb1.mono hb0.size)
        have hx1 := (Blk.new w 37 #[.int .i64 N, .slice A es.length c]).below hb1 (by simp)
        have c0 : w1.cell? ⟨w.heap.size, 0, none⟩ = some (.int .i64 N) := by rw [hx1.cell]; rfl
        have c1 : w1.cell? ⟨w.heap.size, 1, none⟩ = some (.slice A es.length c) := by rw [hx1.cell]; rfl
        have HX1 := Lib.hid hx1
        clear hb0 hb1 hx1
        go_wp2_with fail
        refine (HV _).out.mono ?_
        rintro e w2 ⟨rfl, hb2⟩
        have hbc : Below w.heap.size w w2 := hbb.trans (hb2.mono hbb.size)
        have hx2 := HX1.out.below hb2 HX1.out.lt
        clear c0 c1
        have c0 : w2.cell? ⟨w.heap.size, 0, none⟩ = some (.int .i64 N) := by rw [hx2.cell]; rfl
        have c1 : w2.cell? ⟨w.heap.size, 1, none⟩ = some (.slice A es.length c) := by rw [hx2.cell]; rfl
        clear hx2 hb2
        go_wp2_with fail
        refine (HW _).out.mono ?_
        rintro e w' ⟨rfl, rfl⟩
        go_wp2
        go_ret2
        exact ⟨none, 0, rfl, OwnI.nil _ _ _, hbc⟩
      | true =>
        have h0 : oneOk N es v n = true := by simp [oneOk, hB, hV, hI]
        rw [oneB_t h0, h0]
        skip
        rw [hI] at HW
        obtain ⟨hv0, hv1⟩ := vB_iff hV
        obtain ⟨M, rfl⟩ : ∃ M : Nat, N = (M : Int) := ⟨N.toNat, by omega⟩
        obtain ⟨u, rfl⟩ : ∃ u : Nat, v = (u : Int) := ⟨v.toNat, by omega⟩
        rw [Int.toNat_natCast, Int.toNat_natCast]
        have hmk := make_ints M (by omega)
        have HL := Lib.hid (show ((List.replicate M (0 : Int)).set u n).length = M by simp)
        have huM : u < M := by omega
        clear hB hV hI h0 
        go_enter Try.func37, Try.ntmps37
        go_wp2_with fail
        refine (HG _ (HE.out.up_ hb0)).out.mono ?_
        rintro e w1 ⟨rfl, hb1⟩
        have hbb : Below w.heap.size w w1 := hb0.trans (hb1.mono hb0.size)
        have hx1 := (Blk.new w 37 #[.int .i64 (M : Int), .slice A es.length c]).below hb1 (by simp)
        have c0 : w1.cell? ⟨w.heap.size, 0, none⟩ = some (.int .i64 (M : Int)) := by rw [hx1.cell]; rfl
        have c1 : w1.cell? ⟨w.heap.size, 1, none⟩ = some (.slice A es.length c) := by rw [hx1.cell]; rfl
        have HX1 := Lib.hid hx1
        clear hb0 hb1 hx1
        go_wp2_with fail
        refine (HV _).out.mono ?_
        rintro e w2 ⟨rfl, hb2⟩
        have hbc : Below w.heap.size w w2 := hbb.trans (hb2.mono hbb.size)
        have hx2 := HX1.out.below hb2 HX1.out.lt
        clear c0 c1
        have c0 : w2.cell? ⟨w.heap.size, 0, none⟩ = some (.int .i64 (M : Int)) := by rw [hx2.cell]; rfl
        have c1 : w2.cell? ⟨w.heap.size, 1, none⟩ = some (.slice A es.length c) := by rw [hx2.cell]; rfl
        clear hx2 hb2
        go_wp2_with fail
        refine (HW _).out.mono ?_
        rintro e w' ⟨rfl, rfl⟩
        have hs2 := hbc.size
        have HM := Lib.hid (Blk.new w2 3 (intCells (List.replicate M 0)).toArray)
        have hcl0 : (w2.alloc (Obj.cells (intCells (List.replicate M 0)).toArray 3)).cell? ⟨w2.heap.size, u, none⟩ = some (.int .i64 0) := by rw [HM.out.cell]; simp [intCells, huM]
        have hf0 := HM.out.frozen u
        have HS1 := Lib.hid (show (intCells (List.replicate M 0)).set u (.int .i64 n) = intCells ((List.replicate M 0).set u n) by simp [intCells, List.map_set])
        go_wp2
        go_ret2
        exact ⟨some ⟨w2.heap.size, 0, none⟩, M, by rw [HL.out]; rfl, OwnI.of_blk (t := 3) (by rw [HS1.out]; exact Blk.new _ _ _) (by omega), hbc.alloc (by omega) _⟩
end Go.Proofs.Ytkmbdclhjdbhpaa
