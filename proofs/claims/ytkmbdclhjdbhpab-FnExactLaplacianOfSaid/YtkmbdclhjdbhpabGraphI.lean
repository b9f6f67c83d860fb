/- The program's GraphOk. -/
import Derived.Test.YtkmbdclhjdbhpabWalkL
namespace Go.Proofs.Ytkmbdclhjdbhpab
open Go.RowKit

theorem dist_conn {M : Nat} {es : List (Int × Int)} {ds : List Int} (h : DistOk M es 0 ds) : (!ds.contains (-1)) = connB M es := by
  by_cases hc : Conn M es
  · rw [connB_t hc]
    have : ¬ (-1 : Int) ∈ ds := by
      intro hm
      obtain ⟨u, hu⟩ := List.getElem?_of_mem hm
      have hul : u < M := by have := (List.getElem?_eq_some_iff.1 hu).1; have := h.len; omega
      obtain ⟨d, hd, _⟩ := h.near u hul (hc u (by omega) (by omega))
      rw [hd] at hu
      injection hu with hu
      omega
    simp [this]
  · rw [connB_f hc]
    have : (-1 : Int) ∈ ds := by
      apply Classical.byContradiction
      intro hn
      refine hc fun u h0 h1 => ?_
      apply Classical.byContradiction
      intro hk
      have := h.far u.toNat (by omega) (by rw [show ((u.toNat : Nat) : Int) = u by omega]; exact hk)
      exact hn (List.mem_of_getElem? this)
    simp [this]

set_option maxHeartbeats 1000000 in
theorem isConnected_any (M c : Nat) (A : Option Addr) (es : List (Int × Int)) (w : World) (hB : edgesB M es = true) (hE : EdgeS w w.heap.size A es) :
    Calls Try.prog 93 #[.agg #[.int .i64 (M : Int), .slice A es.length c]] w fun e w' => e = .returned (.bool (connB M es)) ∧ Below w.heap.size w w' := by
  obtain ⟨hM1, hM6, hn12⟩ := edgesB_lims hB
  have HE := Lib.hid hE
  have HB := Lib.hid hB
  clear hE hB
  have hb0 : Below w.heap.size w (w.alloc (Obj.cells #[.int .i64 (M : Int), .slice A es.length c] 39)) := (Below.refl _ _).alloc (Nat.le_refl _) _
  go_enter Try.func93, Try.ntmps93
  go_wp2_with fail
  refine (walkLayers_any M 0 c A es _ HB.out (by omega) (HE.out.up_ hb0)).mono ?_
  rintro e w2 ⟨g, ds, rfl, hd, hblk, hg, hb2⟩
  have hB2 : Below w.heap.size w w2 := hb0.trans (hb2.mono hb0.size)
  have hlen := hd.len
  have hcc := Try.slices_Contains_int g 0 M M ds (-1) w2 (by omega) (by omega) (fun j hj => by
    rw [Nat.zero_add]
    exact blk_get hblk (by rw [List.getD_eq_getElem?_getD, List.getElem?_eq_getElem hj]; rfl))
  rw [List.take_of_length_le (by omega)] at hcc
  have HC := Lib.hid hcc
  have HD := Lib.hid (dist_conn hd)
  clear hcc hd hblk hb2
  go_wp2_with fail
  refine HC.out.mono ?_
  rintro e w3 ⟨rfl, rfl⟩
  go_wp2
  go_ret
  exact ⟨ret_boolE (by simpa using HD.out), hB2⟩

set_option maxHeartbeats 1000000 in
theorem implGraphOk (N : Int) (A : Option Addr) (c : Nat) (es : List (Int × Int)) (w : World) (hn : es.length ≤ 1048576) (hE : EdgeS w w.heap.size A es) :
    Calls Try.prog 55 #[.agg #[.int .i64 N, .slice A es.length c]] w fun e w' => e = .returned (.bool (graphB N es)) ∧ Below w.heap.size w w' := by
  have HE := Lib.hid hE
  clear hE
  have hb0 : Below w.heap.size w (w.alloc (Obj.cells #[.int .i64 N, .slice A es.length c] 39)) := (Below.refl _ _).alloc (Nat.le_refl _) _
  cases hB : edgesB N es with
  | false =>
    have HF := Lib.hid (graphB_e hB)
    go_enter Try.func55, Try.ntmps55
    go_wp2_with fail
    refine (implEdgesOk _ _ _ _ _ (by omega) (HE.out.up_ hb0)).mono ?_
    rintro e w1 ⟨rfl, hb1⟩
    have hbb : Below w.heap.size w w1 := hb0.trans (hb1.mono hb0.size)
    clear hb0 hb1
    go_wp2
    go_ret
    exact ⟨ret_boolE HF.out.symm, hbb⟩
  | true =>
    obtain ⟨hN1, hN6, hn12⟩ := edgesB_lims hB
    obtain ⟨M, rfl⟩ : ∃ M : Nat, N = (M : Int) := ⟨N.toNat, by omega⟩
    have HB := Lib.hid hB
    cases hO : ordB es with
    | false =>
      have HF := Lib.hid (graphB_o (N := M) hO)
      go_enter Try.func55, Try.ntmps55
      go_wp2_with fail
      refine (implEdgesOk _ _ _ _ _ (by omega) (HE.out.up_ hb0)).mono ?_
      rintro e w1 ⟨rfl, hb1⟩
      have hbb : Below w.heap.size w w1 := hb0.trans (hb1.mono hb0.size)
      have hx1 := (Blk.new w 39 #[.int .i64 (M : Int), .slice A es.length c]).below hb1 (by simp)
      have c0 : w1.cell? ⟨w.heap.size, 0, none⟩ = some (.int .i64 (M : Int)) := by rw [hx1.cell]; rfl
      have c1 : w1.cell? ⟨w.heap.size, 1, none⟩ = some (.slice A es.length c) := by rw [hx1.cell]; rfl
      clear hb0 hb1 hx1
      go_wp2_with fail
      refine (isSorted_any _ _ _ _ hn (HE.out.up_ hbb)).mono ?_
      rintro e w2 ⟨rfl, hb2⟩
      have hb3 : Below w.heap.size w w2 := hbb.trans (hb2.mono hbb.size)
      go_wp2
      go_ret
      exact ⟨ret_boolE HF.out.symm, hb3⟩
    | true =>
      have HF := Lib.hid (graphB_c hB hO)
      go_enter Try.func55, Try.ntmps55
      go_wp2_with fail
      refine (implEdgesOk _ _ _ _ _ (by omega) (HE.out.up_ hb0)).mono ?_
      rintro e w1 ⟨rfl, hb1⟩
      have hbb : Below w.heap.size w w1 := hb0.trans (hb1.mono hb0.size)
      have hx1 := (Blk.new w 39 #[.int .i64 (M : Int), .slice A es.length c]).below hb1 (by simp)
      have c0 : w1.cell? ⟨w.heap.size, 0, none⟩ = some (.int .i64 (M : Int)) := by rw [hx1.cell]; rfl
      have c1 : w1.cell? ⟨w.heap.size, 1, none⟩ = some (.slice A es.length c) := by rw [hx1.cell]; rfl
      clear hb0 hb1
      go_wp2_with fail
      refine (isSorted_any _ _ _ _ hn (HE.out.up_ hbb)).mono ?_
      rintro e w2 ⟨rfl, hb2⟩
      have hb3 : Below w.heap.size w w2 := hbb.trans (hb2.mono hbb.size)
      have hx2 := hx1.below hb2 hx1.lt
      clear c0 c1 hx1
      have c0 : w2.cell? ⟨w.heap.size, 0, none⟩ = some (.int .i64 (M : Int)) := by rw [hx2.cell]; rfl
      have c1 : w2.cell? ⟨w.heap.size, 1, none⟩ = some (.slice A es.length c) := by rw [hx2.cell]; rfl
      clear hx2 hb2 hbb
      go_wp2_with fail
      refine (isConnected_any M _ _ _ _ HB.out (HE.out.up_ hb3)).mono ?_
      rintro e w3 ⟨rfl, hb4⟩
      have hb5 : Below w.heap.size w w3 := hb3.trans (hb4.mono hb3.size)
      go_wp2
      go_ret
      exact ⟨ret_boolE HF.out.symm, hb5⟩

theorem specGraphOkU (N : Int) (A : Option Addr) (c : Nat) (es : List (Int × Int)) (w : World) (hn : es.length ≤ 1048576) (_ : ∀ e ∈ es, (Lit.int .i64 e.1).wf = true ∧ (Lit.int .i64 e.2).wf = true) (_ : -9223372036854775808 ≤ N) (_ : N ≤ 9223372036854775807) (hE : EdgeS w w.heap.size A es) :
    Calls Try.prog 62 #[.agg #[.int .i64 N, .slice A es.length c]] w fun e w' => e = .returned (.bool (graphB N es)) ∧ Below w.heap.size w w' := specGraphOk N A c es w (by omega) hE
theorem implGraphOkU (N : Int) (A : Option Addr) (c : Nat) (es : List (Int × Int)) (w : World) (hn : es.length ≤ 1048576) (_ : ∀ e ∈ es, (Lit.int .i64 e.1).wf = true ∧ (Lit.int .i64 e.2).wf = true) (_ : -9223372036854775808 ≤ N) (_ : N ≤ 9223372036854775807) (hE : EdgeS w w.heap.size A es) :
    Calls Try.prog 55 #[.agg #[.int .i64 N, .slice A es.length c]] w fun e w' => e = .returned (.bool (graphB N es)) ∧ Below w.heap.size w w' := implGraphOk N A c es w hn hE
end Go.Proofs.Ytkmbdclhjdbhpab
