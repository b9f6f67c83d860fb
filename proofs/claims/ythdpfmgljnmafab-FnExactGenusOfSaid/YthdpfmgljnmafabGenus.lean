/- GenusOf: both answer alike. -/
import Derived.Test.YthdpfmgljnmafabGraphI
namespace Go.Proofs.Ythdpfmgljnmafab
open Go.RowKit

/-- the genus of a valid graph, and else -1 -/
noncomputable def genusB (N : Int) (es : List (Int × Int)) : Int := if graphB N es = true then es.length - N + 1 else -1
theorem genusB_t {N : Int} {es : List (Int × Int)} (h : graphB N es = true) : genusB N es = es.length - N + 1 := by rw [genusB, if_pos h]
theorem genusB_f {N : Int} {es : List (Int × Int)} (h : graphB N es = false) : genusB N es = -1 := by rw [genusB, if_neg (by rw [h]; decide)]
theorem graphB_edges {N : Int} {es : List (Int × Int)} (h : graphB N es = true) : edgesB N es = true := by
  simp only [graphB, Bool.and_eq_true] at h
  exact h.1.1

set_option maxHeartbeats 1000000 in
theorem specGenus (N : Int) (A : Option Addr) (c : Nat) (es : List (Int × Int)) (w : World) (hn : es.length ≤ 1048576) (_ : ∀ e ∈ es, (Lit.int .i64 e.1).wf = true ∧ (Lit.int .i64 e.2).wf = true) (_ : -9223372036854775808 ≤ N) (_ : N ≤ 9223372036854775807) (hE : EdgeS w w.heap.size A es) :
    Calls Try.prog 16 #[.agg #[.int .i64 N, .slice A es.length c]] w fun e w' => e = .returned (.int .i64 (genusB N es)) ∧ Below w.heap.size w w' := by
  have HE := Lib.hid hE
  clear hE
  have hb0 : Below w.heap.size w (w.alloc (Obj.cells #[.int .i64 N, .slice A es.length c] 29)) := (Below.refl _ _).alloc (Nat.le_refl _) _
  cases hB : graphB N es with
  | false =>
    have HF := Lib.hid (genusB_f hB)
    go_enter Try.func16, Try.ntmps16
    go_wp2_with fail
    refine (specGraphOk _ _ _ _ _ (by omega) (HE.out.up_ hb0)).mono ?_
    rintro e w1 ⟨rfl, hb1⟩
    have hbb : Below w.heap.size w w1 := hb0.trans (hb1.mono hb0.size)
    clear hb0 hb1
    go_wp2
    go_ret
    exact ⟨ret_intE HF.out.symm, hbb⟩
  | true =>
    obtain ⟨hN1, hN6, hn12⟩ := edgesB_lims (graphB_edges hB)
    have HF := Lib.hid (genusB_t hB)
    go_enter Try.func16, Try.ntmps16
    go_wp2_with fail
    refine (specGraphOk _ _ _ _ _ (by omega) (HE.out.up_ hb0)).mono ?_
    rintro e w1 ⟨rfl, hb1⟩
    have hbb : Below w.heap.size w w1 := hb0.trans (hb1.mono hb0.size)
    have hx1 := (Blk.new w 29 #[.int .i64 N, .slice A es.length c]).below hb1 (by simp)
    have c0 : w1.cell? ⟨w.heap.size, 0, none⟩ = some (.int .i64 N) := by rw [hx1.cell]; rfl
    have c1 : w1.cell? ⟨w.heap.size, 1, none⟩ = some (.slice A es.length c) := by rw [hx1.cell]; rfl
    clear hb0 hb1 hx1
    go_wp2
    go_ret
    exact ⟨by rw [HF.out]; go_num, hbb⟩

set_option maxHeartbeats 1000000 in
theorem implGenus (N : Int) (A : Option Addr) (c : Nat) (es : List (Int × Int)) (w : World) (hn : es.length ≤ 1048576) (_ : ∀ e ∈ es, (Lit.int .i64 e.1).wf = true ∧ (Lit.int .i64 e.2).wf = true) (_ : -9223372036854775808 ≤ N) (_ : N ≤ 9223372036854775807) (hE : EdgeS w w.heap.size A es) :
    Calls Try.prog 18 #[.agg #[.int .i64 N, .slice A es.length c]] w fun e w' => e = .returned (.int .i64 (genusB N es)) ∧ Below w.heap.size w w' := by
  have HE := Lib.hid hE
  clear hE
  have hb0 : Below w.heap.size w (w.alloc (Obj.cells #[.int .i64 N, .slice A es.length c] 29)) := (Below.refl _ _).alloc (Nat.le_refl _) _
  cases hB : graphB N es with
  | false =>
    have HF := Lib.hid (genusB_f hB)
    go_enter Try.func18, Try.ntmps18
    go_wp2_with fail
    refine (implGraphOk _ _ _ _ _ (by omega) (HE.out.up_ hb0)).mono ?_
    rintro e w1 ⟨rfl, hb1⟩
    have hbb : Below w.heap.size w w1 := hb0.trans (hb1.mono hb0.size)
    clear hb0 hb1
    go_wp2
    go_ret
    exact ⟨ret_intE HF.out.symm, hbb⟩
  | true =>
    obtain ⟨hN1, hN6, hn12⟩ := edgesB_lims (graphB_edges hB)
    have HF := Lib.hid (genusB_t hB)
    go_enter Try.func18, Try.ntmps18
    go_wp2_with fail
    refine (implGraphOk _ _ _ _ _ (by omega) (HE.out.up_ hb0)).mono ?_
    rintro e w1 ⟨rfl, hb1⟩
    have hbb : Below w.heap.size w w1 := hb0.trans (hb1.mono hb0.size)
    have hx1 := (Blk.new w 29 #[.int .i64 N, .slice A es.length c]).below hb1 (by simp)
    have c0 : w1.cell? ⟨w.heap.size, 0, none⟩ = some (.int .i64 N) := by rw [hx1.cell]; rfl
    have c1 : w1.cell? ⟨w.heap.size, 1, none⟩ = some (.slice A es.length c) := by rw [hx1.cell]; rfl
    clear hb0 hb1 hx1
    go_wp2
    go_ret
    exact ⟨by rw [HF.out]; go_num, hbb⟩
end Go.Proofs.Ythdpfmgljnmafab
