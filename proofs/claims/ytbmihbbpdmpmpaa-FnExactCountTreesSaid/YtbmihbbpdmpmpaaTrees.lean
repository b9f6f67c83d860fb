/- CountTrees: both sides. -/
import Derived.Test.YtbmihbbpdmpmpaaRedI
import Derived.Test.YtbmihbbpdmpmpaaBD
namespace Go.Proofs.Ytbmihbbpdmpmpaa
open Go.RowKit

/-- the number of spanning trees of a valid graph, else nothing -/
noncomputable def treesB (N : Int) (es : List (Int × Int)) : Int := if graphB N es = true then detB (redB N es 0) else 0
theorem treesB_t {N : Int} {es : List (Int × Int)} (h : graphB N es = true) : treesB N es = detB (redB N es 0) := by rw [treesB, if_pos h]
theorem treesB_f {N : Int} {es : List (Int × Int)} (h : graphB N es = false) : treesB N es = 0 := by rw [treesB, if_neg (by rw [h]; decide)]
set_option maxHeartbeats 1000000 in
theorem specTrees (N : Int) (A : Option Addr) (c : Nat) (es : List (Int × Int)) (w : World) (hn : es.length ≤ 1048576) (hE : EdgeS w w.heap.size A es) :
    Calls Try.prog 20 #[.agg #[.int .i64 N, .slice A es.length c]] w fun e w' => e = .returned (.int .i64 (treesB N es)) ∧ Below w.heap.size w w' := by
  have HE := Lib.hid hE
  clear hE
  have hb0 : Below w.heap.size w (w.alloc (Obj.cells #[.int .i64 N, .slice A es.length c] 30)) := (Below.refl _ _).alloc (Nat.le_refl _) _
  have HG := fun w h => Lib.hid (specGraphOk N A c es w (by omega) h)
  cases hB : graphB N es with
  | false =>
    rw [hB] at HG
    rw [treesB_f hB]
    clear hB
    go_enter Try.func20, Try.ntmps20
    go_wp2_with fail
    refine (HG _ (HE.out.up_ hb0)).out.mono ?_
    rintro e w1 ⟨rfl, hb1⟩
    have hbb : Below w.heap.size w w1 := hb0.trans (hb1.mono hb0.size)
    clear hb0 hb1
    go_wp2
    go_ret
    exact ⟨rfl, hbb⟩
  | true =>
    rw [hB] at HG
    rw [treesB_t hB]
    have HR := fun w h => Lib.hid (specRed N A c es 0 w hn h)
    obtain ⟨hr6, hrl⟩ := redB_len (N := N) (es := es) (q := 0)
    obtain ⟨rs, hrs⟩ : ∃ rs, rs = redB N es 0 := ⟨_, rfl⟩
    rw [← hrs] at HR hr6 hrl ⊢
    have HD := fun A c w h => Lib.hid (specDet A c rs w (by omega) (fun r hr => by have := hrl r hr; omega) h)
    clear hB hrs hrl
    go_enter Try.func20, Try.ntmps20
    go_wp2_with fail
    refine (HG _ (HE.out.up_ hb0)).out.mono ?_
    rintro e w1 ⟨rfl, hb1⟩
    have hbb : Below w.heap.size w w1 := hb0.trans (hb1.mono hb0.size)
    have hx1 := (Blk.new w 30 #[.int .i64 N, .slice A es.length c]).below hb1 (by simp)
    have k0 : w1.cell? ⟨w.heap.size, 0, none⟩ = some (.int .i64 N) := by rw [hx1.cell]; rfl
    have k1 : w1.cell? ⟨w.heap.size, 1, none⟩ = some (.slice A es.length c) := by rw [hx1.cell]; rfl
    clear hb0 hb1 hx1
    go_wp2_with fail
    refine (HR _ (HE.out.up_ hbb)).out.mono ?_
    rintro e w2 ⟨A2, c2, rfl, hr2, hb2⟩
    have hb3 := hbb.trans (hb2.mono hbb.size)
    have HR2 := Lib.hid hr2
    clear hr2 hb2 hbb k0 k1
    go_wp2_with fail
    refine (HD _ _ _ HR2.out).out.mono ?_
    rintro e w3 ⟨rfl, hb4⟩
    have hb5 := hb3.trans (hb4.mono hb3.size)
    go_wp2
    go_ret
    exact ⟨rfl, hb5⟩
set_option maxHeartbeats 1000000 in
theorem implTrees (N : Int) (A : Option Addr) (c : Nat) (es : List (Int × Int)) (w : World) (hn : es.length ≤ 1048576) (hE : EdgeS w w.heap.size A es) :
    Calls Try.prog 21 #[.agg #[.int .i64 N, .slice A es.length c]] w fun e w' => e = .returned (.int .i64 (treesB N es)) ∧ Below w.heap.size w w' := by
  have HE := Lib.hid hE
  clear hE
  have hb0 : Below w.heap.size w (w.alloc (Obj.cells #[.int .i64 N, .slice A es.length c] 30)) := (Below.refl _ _).alloc (Nat.le_refl _) _
  have HG := fun w h => Lib.hid (implGraphOk N A c es w hn h)
  cases hB : graphB N es with
  | false =>
    rw [hB] at HG
    rw [treesB_f hB]
    clear hB
    go_enter Try.func21, Try.ntmps21
    go_wp2_with fail
    refine (HG _ (HE.out.up_ hb0)).out.mono ?_
    rintro e w1 ⟨rfl, hb1⟩
    have hbb : Below w.heap.size w w1 := hb0.trans (hb1.mono hb0.size)
    clear hb0 hb1
    go_wp2
    go_ret
    exact ⟨rfl, hbb⟩
  | true =>
    rw [hB] at HG
    rw [treesB_t hB]
    have HR := fun w h => Lib.hid (implRed N A c es 0 w hn h)
    obtain ⟨hr6, hrl⟩ := redB_len (N := N) (es := es) (q := 0)
    obtain ⟨rs, hrs⟩ : ∃ rs, rs = redB N es 0 := ⟨_, rfl⟩
    rw [← hrs] at HR hr6 hrl ⊢
    have HD := fun A c w h => Lib.hid (implDet A c rs w (by omega) (fun r hr => by have := hrl r hr; omega) h)
    clear hB hrs hrl
    go_enter Try.func21, Try.ntmps21
    go_wp2_with fail
    refine (HG _ (HE.out.up_ hb0)).out.mono ?_
    rintro e w1 ⟨rfl, hb1⟩
    have hbb : Below w.heap.size w w1 := hb0.trans (hb1.mono hb0.size)
    have hx1 := (Blk.new w 30 #[.int .i64 N, .slice A es.length c]).below hb1 (by simp)
    have k0 : w1.cell? ⟨w.heap.size, 0, none⟩ = some (.int .i64 N) := by rw [hx1.cell]; rfl
    have k1 : w1.cell? ⟨w.heap.size, 1, none⟩ = some (.slice A es.length c) := by rw [hx1.cell]; rfl
    clear hb0 hb1 hx1
    go_wp2_with fail
    refine (HR _ (HE.out.up_ hbb)).out.mono ?_
    rintro e w2 ⟨A2, c2, rfl, hr2, hb2⟩
    have hb3 := hbb.trans (hb2.mono hbb.size)
    have HR2 := Lib.hid hr2.ints
    clear hr2 hb2 hbb k0 k1
    go_wp2_with fail
    refine (HD _ _ _ HR2.out).out.mono ?_
    rintro e w3 ⟨rfl, hb4⟩
    have hb5 := hb3.trans (hb4.mono hb3.size)
    go_wp2
    go_ret
    exact ⟨rfl, hb5⟩
end Go.Proofs.Ytbmihbbpdmpmpaa
