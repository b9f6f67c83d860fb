/- The specification's LaplacianOf, whatever the graph. -/
import Derived.Test.YtkmbdclhjdbhpabLapSW
namespace Go.Proofs.Ytkmbdclhjdbhpab
open Go.RowKit

/-- the Laplacian of a valid graph, else nothing -/
noncomputable def lapB (N : Int) (es : List (Int × Int)) : List (List Int) := if graphB N es = true then lapM N.toNat es else []
theorem lapB_t {N : Int} {es : List (Int × Int)} (h : graphB N es = true) : lapB N es = lapM N.toNat es := by rw [lapB, if_pos h]
theorem lapB_f {N : Int} {es : List (Int × Int)} (h : graphB N es = false) : lapB N es = [] := by rw [lapB, if_neg (by rw [h]; decide)]
set_option maxHeartbeats 1000000 in
theorem specLap_no (N : Int) (A : Option Addr) (c : Nat) (es : List (Int × Int)) (w : World) (hn : es.length ≤ 1048576) (hB : graphB N es = false) (hE : EdgeS w w.heap.size A es) :
    Calls Try.prog 25 #[.agg #[.int .i64 N, .slice A es.length c]] w (GivesRows w []) := by
  have HE := Lib.hid hE
  clear hE
  have hb0 : Below w.heap.size w (w.alloc (Obj.cells #[.int .i64 N, .slice A es.length c] 39)) := (Below.refl _ _).alloc (Nat.le_refl _) _
  go_enter Try.func25, Try.ntmps25
  go_wp2_with fail
  refine (specGraphOk _ _ _ _ _ (by omega) (HE.out.up_ hb0)).mono ?_
  rintro e w1 ⟨rfl, hb1⟩
  have hbb : Below w.heap.size w w1 := hb0.trans (hb1.mono hb0.size)
  clear hb0 hb1
  go_wp2
  go_ret
  exact ⟨none, 0, rfl, fun h => absurd h (by simp), hbb⟩
theorem specLap (N : Int) (A : Option Addr) (c : Nat) (es : List (Int × Int)) (w : World) (hn : es.length ≤ 1048576) (hE : EdgeS w w.heap.size A es) :
    Calls Try.prog 25 #[.agg #[.int .i64 N, .slice A es.length c]] w (GivesRows w (lapB N es)) := by
  cases h : graphB N es with
  | false => rw [lapB_f h]; exact specLap_no N A c es w hn h hE
  | true =>
    rw [lapB_t h]
    have h1 := edgesB_lims (graphB_all h).1
    obtain ⟨M, rfl⟩ : ∃ M : Nat, N = (M : Int) := ⟨N.toNat, by omega⟩
    rw [Int.toNat_natCast]
    exact specLap_yes M A c es w h hE
theorem lapB_len {N : Int} {es : List (Int × Int)} : (lapB N es).length ≤ 6 ∧ ∀ r ∈ lapB N es, r.length ≤ 6 := by
  unfold lapB
  split
  · rename_i h
    have h1 := edgesB_lims (graphB_all h).1
    refine ⟨by rw [lapM_len]; omega, fun r hr => ?_⟩
    simp only [lapM, List.mem_map, List.mem_range] at hr
    obtain ⟨a, _, rfl⟩ := hr
    rw [lapR_len]
    omega
  · exact ⟨by simp, fun r hr => by simp at hr⟩
end Go.Proofs.Ytkmbdclhjdbhpab
