/- The walk of the program's LaplacianOf. -/
import Derived.Test.YtkmbdclhjdbhpabLapK
import Derived.Test.YtkmbdclhjdbhpabGraphI
namespace Go.Proofs.Ytkmbdclhjdbhpab
open Go.RowKit

theorem zero_row (M : Nat) {k : Nat} (h : k < M) : (mat M fun _ _ => 0)[k]? = some (List.replicate M 0) := by
  rw [mat_at _ h]
  congr 1
  apply List.ext_getElem?
  intro j
  rw [List.getElem?_map, List.getElem?_replicate]
  split
  · rw [List.getElem?_range (by assumption)]; rfl
  · rw [List.getElem?_eq_none (by simp; omega)]; rfl

/-- one entry of a matrix in memory: what it reads, what a write leaves -/
theorem mat_write {W : World} {go hi M a b : Nat} {f : Nat → Nat → Int} (h : RowsTo W go hi (mat M f) M) (ha : a < M) (hb : b < M) :
    ∃ ga : Nat, go < ga ∧ ga < hi ∧ W.cell? ⟨go, a, none⟩ = some (.slice (some ⟨ga, 0, none⟩) M M) ∧ W.cell? ⟨ga, b, none⟩ = some (.int .i64 (f a b)) ∧ W.frozen? ⟨ga, b, none⟩ = false ∧
      ∀ x, RowsTo (W.setCell ⟨ga, b, none⟩ (.int .i64 x)).drew go hi (mat M (bump f a b x)) M := by
  have h' : RowsTo W go hi (mat M f) (mat M f).length := by rw [mat_len]; exact h
  obtain ⟨ga, h1, h2, h3, h4, _⟩ := RowsTo.write (b := b) h' (mat_at f ha) 0
  refine ⟨ga, h1, h2, by simpa using h3, blk_get h4 (by simp [hb]), h4.frozen _, fun x => ?_⟩
  obtain ⟨ga', _, _, h3', _, h5⟩ := RowsTo.write (b := b) h' (mat_at f ha) x
  rw [h3] at h3'
  simp only [Option.some.injEq, Value.slice.injEq, Addr.mk.injEq, and_true] at h3'
  obtain ⟨rfl, _⟩ := h3'
  rw [mat_bump, mat_len] at h5
  exact h5
theorem two_cells {w : World} {g : Nat} {t : TypeId} {u v : Value} (h : Blk w g t #[u, v]) : w.cell? ⟨g, 0, none⟩ = some u ∧ w.cell? ⟨g, 1, none⟩ = some v := ⟨by rw [h.cell]; rfl, by rw [h.cell]; rfl⟩

set_option maxRecDepth 100000 in
set_option maxHeartbeats 4000000 in
theorem implLap_yes (M : Nat) (A : Option Addr) (c : Nat) (es : List (Int × Int)) (w : World) (hB : graphB M es = true) (hE : EdgeS w w.heap.size A es) :
    Calls Try.prog 27 #[.agg #[.int .i64 (M : Int), .slice A es.length c]] w (fun e w' => ∃ g : Nat, e = .returned (.slice (some ⟨g, 0, none⟩) M M) ∧ w.heap.size ≤ g ∧ RowsTo w' g w'.heap.size (lapM M es) M ∧ Below w.heap.size w w') := by
  obtain ⟨hEB, _⟩ := graphB_all hB
  obtain ⟨hN1, hN6, hn12⟩ := edgesB_lims hEB
  have hmr := make_rows M (by omega)
  have hmi := make_ints M (by omega)
  have HEB := Lib.hid hEB
  have HE := Lib.hid hE
  clear hE hEB
  have hb0 : Below w.heap.size w (w.alloc (Obj.cells #[.int .i64 (M : Int), .slice A es.length c] 39)) := (Below.refl _ _).alloc (Nat.le_refl _) _
  go_enter Try.func27, Try.ntmps27
  go_wp2_with fail
  refine (implGraphOk _ _ _ _ _ (by omega) (HE.out.up_ hb0)).mono ?_
  rintro e w1 ⟨rfl, hb1⟩
  have hbb : Below w.heap.size w w1 := hb0.trans (hb1.mono hb0.size)
  have hx1 := (Blk.new w 39 #[.int .i64 (M : Int), .slice A es.length c]).below hb1 (by simp)
  have c0 : w1.cell? ⟨w.heap.size, 0, none⟩ = some (.int .i64 (M : Int)) := by rw [hx1.cell]; rfl
  have c1 : w1.cell? ⟨w.heap.size, 1, none⟩ = some (.slice A es.length c) := by rw [hx1.cell]; rfl
  have hlx := hx1.lt
  have HX1 := Lib.hid hx1
  clear hb0 hb1 hx1
  go_wp2_with fail
  go_loopw [15] (fun i wr => ∃ k : Nat, k ≤ M ∧ i = .int .i64 k ∧ RowsTo wr w1.heap.size wr.heap.size (mat M fun _ _ => 0) k ∧ w1.heap.size < wr.heap.size ∧ Blk wr w.heap.size 39 #[.int .i64 (M : Int), .slice A es.length c] ∧ Below w.heap.size w wr) (fun i _ => M - (intOf i).toNat)
  case atStart => exact ⟨0, Nat.zero_le _, rfl, ⟨[], fun _ => 0, by rw [mat_len]; exact Blk.new w1 _ _, rfl, fun i r hi _ => absurd hi (by omega), fun i j _ hj => absurd hj (by omega)⟩, by simp, HX1.out.alloc _, hbb.alloc hbb.size _⟩
  case round =>
    obtain ⟨k, hk, rfl, hrow, hlt0, hbx, hb⟩ := hrel
    have HR := Lib.hid hrow
    have HBX := Lib.hid hbx
    have hlb := hbx.lt
    have g0 : wr.cell? ⟨w.heap.size, 0, none⟩ = some (.int .i64 (M : Int)) := by rw [hbx.cell]; rfl
    have g1 : wr.cell? ⟨w.heap.size, 1, none⟩ = some (.slice A es.length c) := by rw [hbx.cell]; rfl
    clear hrow hbx
    by_cases hlt : k < M
    · have hk0 : (0 : Int) ≤ (k : Int) := Int.natCast_nonneg _
      have hk1 : (k : Int) < (M : Int) := by omega
      obtain ⟨hcl, hfr⟩ := HR.out.cell (by rw [mat_len]; exact hlt)
      have hbA : Below wr.heap.size wr (wr.alloc (Obj.cells (intCells (List.replicate M 0)).toArray 3)) := (Below.refl _ _).alloc (Nat.le_refl _) _
      have hput := ((HR.out.below hbA).put (zero_row M hlt) hlt0 (Blk.new wr 3 (intCells (List.replicate M 0)).toArray))
      rw [List.length_replicate, World.setCell_alloc_past _ _ _ _ hlt0] at hput
      have hbx5 := (HBX.out.far (p := ⟨w1.heap.size, k, none⟩) (by simp only; have := hbb.size; omega) (.slice (some ⟨wr.heap.size, 0, none⟩) M M)).alloc (Obj.cells (intCells (List.replicate M 0)).toArray 3)
      have hb5 : Below w.heap.size w ((wr.setCell ⟨w1.heap.size, k, none⟩ (.slice (some ⟨wr.heap.size, 0, none⟩) M M)).alloc (Obj.cells (intCells (List.replicate M 0)).toArray 3)) := (hb.setCell (p := ⟨w1.heap.size, k, none⟩) hbb.size _).alloc (by simp; omega) _
      have hsz5 : ((wr.setCell ⟨w1.heap.size, k, none⟩ (.slice (some ⟨wr.heap.size, 0, none⟩) M M)).alloc (Obj.cells (intCells (List.replicate M 0)).toArray 3)).heap.size = wr.heap.size + 1 := by simp
      have HSZ := Lib.hid hsz5
      have HBX5 := Lib.hid hbx5
      have HB5 := Lib.hid hb5
      clear hsz5 hbx5 hb5
      have HP := Lib.hid hput
      clear hput
      go_wp2
      exact ⟨⟨k + 1, by omega, by go_num, HP.out.more (by rw [HSZ.out]; omega), by rw [HSZ.out]; omega, HBX5.out, HB5.out⟩, by simp [intOf]; omega⟩
    · obtain rfl : M = k := by omega
      have hr0 := HR.out
      rw [← lapK_zero es] at hr0
      have HR0 := Lib.hid hr0
      clear hr0 hmr hmi
      obtain ⟨hi0, hhi⟩ : ∃ x, x = wr.heap.size := ⟨_, rfl⟩
      rw [← hhi] at HR0
      have hhi2 : hi0 ≤ wr.heap.size := by omega
      clear hhi
      go_wp2_with fail
      go_loopw [28] (fun i wr => ∃ m : Nat, m ≤ es.length ∧ i = .int .i64 m ∧ RowsTo wr w1.heap.size hi0 (mat M (lapK es m)) M ∧ hi0 ≤ wr.heap.size ∧ Below w.heap.size w wr) (fun i _ => es.length - (intOf i).toNat)
      case atStart => exact ⟨0, Nat.zero_le _, rfl, HR0.out, hhi2, hb⟩
      case round =>
        obtain ⟨m, hm, rfl, hrow, hsz, hb2⟩ := hrel
        have HR2 := Lib.hid hrow
        clear hrow
        by_cases hlt2 : m < es.length
        · skip
          obtain ⟨b1, o1, e, rfl, hb1, he, hc0, hc1⟩ := (HE.out.below hb2).at_ hlt2
          obtain ⟨hA, hB', hC⟩ := all_edge HEB.out (List.mem_of_getElem? he)
          obtain ⟨x0, y0⟩ := e
          simp only at hA hB' hC
          obtain ⟨x, rfl⟩ : ∃ x : Nat, x0 = (x : Int) := ⟨x0.toNat, by omega⟩
          obtain ⟨y, rfl⟩ : ∃ y : Nat, y0 = (y : Int) := ⟨y0.toNat, by omega⟩
          have hxM : x < M := by omega
          have hyM : y < M := by omega
          have hxi : (0 : Int) ≤ (x : Int) := Int.natCast_nonneg _
          have hyi : (0 : Int) ≤ (y : Int) := Int.natCast_nonneg _
          have hxj : (x : Int) < (M : Int) := by omega
          have hyj : (y : Int) < (M : Int) := by omega
          have hm0 : (0 : Int) ≤ (m : Int) := Int.natCast_nonneg _
          have hm1 : (m : Int) < (es.length : Int) := by omega
          have HST := Lib.hid (lapK_step he (by omega))
          have hxy : x < y := by omega
          have b11 := lapK_bound es m x x
          have b22 := lapK_bound es m y y
          have b12 := lapK_bound es m x y
          have b21 := lapK_bound es m y x
          have hblw : b1 < wr.heap.size := by have := hb2.size; omega
          have hbA : Below wr.heap.size wr (wr.alloc (Obj.cells #[.int .i64 (x : Int), .int .i64 (y : Int)] 67)) := (Below.refl _ _).alloc (Nat.le_refl _) _
          have R0 := Lib.hid (HR2.out.below hbA)
          have C0 := Lib.hid (Blk.new wr 67 #[.int .i64 (x : Int), .int .i64 (y : Int)])
          have D0 := hb2.alloc hb2.size (Obj.cells #[.int .i64 (x : Int), .int .i64 (y : Int)] 67)
          have E0 : hi0 ≤ (wr.alloc (Obj.cells #[.int .i64 (x : Int), .int .i64 (y : Int)] 67)).heap.size := by simp; omega
          have F0 := C0.out.lt
          clear he hA hB' hC
          go_wp2_with fail
          obtain ⟨W0, hW0⟩ : ∃ X : World, X = wr.alloc (Obj.cells #[.int .i64 (x : Int), .int .i64 (y : Int)] 67) := ⟨_, rfl⟩
          rw [← hW0] at R0 C0 D0 E0 F0 ⊢
          clear hW0 hbA hc0 hc1
          obtain ⟨g0, a0, b0, r0, v0, f0, HW0⟩ := mat_write R0.out hxM hxM
          obtain ⟨p0, q0⟩ := two_cells C0.out
          have z0 : g0 < hi0 := b0
          have R1 := Lib.hid (HW0 (lapK es m x x + 1))
          have C1 := Lib.hid ((C0.out.far (p := ⟨g0, x, none⟩) (by simp only; omega) (.int .i64 (lapK es m x x + 1))).drew)
          have D1 : Below w.heap.size w (W0.setCell ⟨g0, x, none⟩ (.int .i64 (lapK es m x x + 1))).drew := (D0.setCell (p := ⟨g0, x, none⟩) (by simp only; have := hbb.size; omega) _).drew
          have E1 : hi0 ≤ (W0.setCell ⟨g0, x, none⟩ (.int .i64 (lapK es m x x + 1))).drew.heap.size := by simp only [World.drew, World.setCell, Array.size_modify]; exact E0
          have F1 : wr.heap.size < (W0.setCell ⟨g0, x, none⟩ (.int .i64 (lapK es m x x + 1))).drew.heap.size := C1.out.lt
          clear HW0
          go_wp2_with fail
          go_region
          obtain ⟨W1, hW1⟩ : ∃ X : World, X = (W0.setCell ⟨g0, x, none⟩ (.int .i64 (lapK es m x x + 1))).drew := ⟨_, rfl⟩
          rw [← hW1] at R1 C1 D1 E1 F1 ⊢
          clear hW1 r0 v0 f0 p0 q0 D0 E0 F0
          obtain ⟨g1, a1, b1, r1, v1, f1, HW1⟩ := mat_write R1.out hyM hyM
          have e1 : (bump (lapK es m) x x (lapK es m x x + 1)) y y = lapK es m y y := by simp only [bump]; repeat (rw [if_neg (by omega)])
          rw [e1] at v1
          clear e1
          obtain ⟨p1, q1⟩ := two_cells C1.out
          have z1 : g1 < hi0 := b1
          have R2 := Lib.hid (HW1 (lapK es m y y + 1))
          have C2 := Lib.hid ((C1.out.far (p := ⟨g1, y, none⟩) (by simp only; omega) (.int .i64 (lapK es m y y + 1))).drew)
          have D2 : Below w.heap.size w (W1.setCell ⟨g1, y, none⟩ (.int .i64 (lapK es m y y + 1))).drew := (D1.setCell (p := ⟨g1, y, none⟩) (by simp only; have := hbb.size; omega) _).drew
          have E2 : hi0 ≤ (W1.setCell ⟨g1, y, none⟩ (.int .i64 (lapK es m y y + 1))).drew.heap.size := by simp only [World.drew, World.setCell, Array.size_modify]; exact E1
          have F2 : wr.heap.size < (W1.setCell ⟨g1, y, none⟩ (.int .i64 (lapK es m y y + 1))).drew.heap.size := C2.out.lt
          clear HW1
          go_wp2_with fail
          go_region
          obtain ⟨W2, hW2⟩ : ∃ X : World, X = (W1.setCell ⟨g1, y, none⟩ (.int .i64 (lapK es m y y + 1))).drew := ⟨_, rfl⟩
          rw [← hW2] at R2 C2 D2 E2 F2 ⊢
          clear hW2 r1 v1 f1 p1 q1 D1 E1 F1
          obtain ⟨g2, a2, b2, r2, v2, f2, HW2⟩ := mat_write R2.out hxM hyM
          have e2 : (bump (bump (lapK es m) x x (lapK es m x x + 1)) y y (lapK es m y y + 1)) x y = lapK es m x y := by simp only [bump]; repeat (rw [if_neg (by omega)])
          rw [e2] at v2
          clear e2
          obtain ⟨p2, q2⟩ := two_cells C2.out
          have z2 : g2 < hi0 := b2
          have R3 := Lib.hid (HW2 (lapK es m x y - 1))
          have C3 := Lib.hid ((C2.out.far (p := ⟨g2, y, none⟩) (by simp only; omega) (.int .i64 (lapK es m x y - 1))).drew)
          have D3 : Below w.heap.size w (W2.setCell ⟨g2, y, none⟩ (.int .i64 (lapK es m x y - 1))).drew := (D2.setCell (p := ⟨g2, y, none⟩) (by simp only; have := hbb.size; omega) _).drew
          have E3 : hi0 ≤ (W2.setCell ⟨g2, y, none⟩ (.int .i64 (lapK es m x y - 1))).drew.heap.size := by simp only [World.drew, World.setCell, Array.size_modify]; exact E2
          have F3 : wr.heap.size < (W2.setCell ⟨g2, y, none⟩ (.int .i64 (lapK es m x y - 1))).drew.heap.size := C3.out.lt
          clear HW2
          go_wp2_with fail
          go_region
          obtain ⟨W3, hW3⟩ : ∃ X : World, X = (W2.setCell ⟨g2, y, none⟩ (.int .i64 (lapK es m x y - 1))).drew := ⟨_, rfl⟩
          rw [← hW3] at R3 C3 D3 E3 F3 ⊢
          clear hW3 r2 v2 f2 p2 q2 D2 E2 F2
          obtain ⟨g3, a3, b3, r3, v3, f3, HW3⟩ := mat_write R3.out hyM hxM
          have e3 : (bump (bump (bump (lapK es m) x x (lapK es m x x + 1)) y y (lapK es m y y + 1)) x y (lapK es m x y - 1)) y x = lapK es m y x := by simp only [bump]; repeat (rw [if_neg (by omega)])
          rw [e3] at v3
          clear e3
          obtain ⟨p3, q3⟩ := two_cells C3.out
          have z3 : g3 < hi0 := b3
          have R4 := Lib.hid (HW3 (lapK es m y x - 1))
          have C4 := Lib.hid ((C3.out.far (p := ⟨g3, x, none⟩) (by simp only; omega) (.int .i64 (lapK es m y x - 1))).drew)
          have D4 : Below w.heap.size w (W3.setCell ⟨g3, x, none⟩ (.int .i64 (lapK es m y x - 1))).drew := (D3.setCell (p := ⟨g3, x, none⟩) (by simp only; have := hbb.size; omega) _).drew
          have E4 : hi0 ≤ (W3.setCell ⟨g3, x, none⟩ (.int .i64 (lapK es m y x - 1))).drew.heap.size := by simp only [World.drew, World.setCell, Array.size_modify]; exact E3
          have F4 : wr.heap.size < (W3.setCell ⟨g3, x, none⟩ (.int .i64 (lapK es m y x - 1))).drew.heap.size := C4.out.lt
          clear HW3
          go_wp2_with fail
          go_region
          obtain ⟨W4, hW4⟩ : ∃ X : World, X = (W3.setCell ⟨g3, x, none⟩ (.int .i64 (lapK es m y x - 1))).drew := ⟨_, rfl⟩
          rw [← hW4] at R4 C4 D4 E4 F4 ⊢
          clear hW4 r3 v3 f3 p3 q3 D3 E3 F3
          have hfin := R4.out
          rw [← HST.out] at hfin
          have HFN := Lib.hid hfin
          clear hfin
          go_wp2
          go_roundw
          case rel => exact ⟨m + 1, by omega, by go_num, HFN.out, E4, D4⟩
          case measure => simp [intOf]; omega
        · have HF : Hid (RowsTo wr w1.heap.size wr.heap.size (lapM M es) M) := Lib.hid (by
            have h := HR2.out
            rw [show m = es.length by omega, lapK_all] at h
            exact h.more hsz)
          go_wp2
          go_ret
          exact ⟨w1.heap.size, rfl, hbb.size, HF.out, hb2⟩
end Go.Proofs.Ytkmbdclhjdbhpab
