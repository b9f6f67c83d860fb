/- countEdges: the map that it makes counts the edges. -/
import Derived.Test.YtkmbdclhjdbhpabToEdge
import Derived.Test.YtkmbdclhjdbhpabEdgeMap
import Derived.RegionTactic
import Derived.ChangeAlike
namespace Go.Proofs.Ytkmbdclhjdbhpab
open Go.RowKit Go.Maps

def MadeCount (w : World) (es : List (Int × Int)) (e : Ending) (w' : World) : Prop :=
  e = .returned (.map (some (w.heap.size + 1))) ∧ CM w' (w.heap.size + 1) es ∧ Below w.heap.size w w'

theorem below_grown_map {a w w' : World} {B : Nat} (h : Below a.heap.size a w) (hg : w.grownBy w' (some B)) (hB : a.heap.size ≤ B) : Below a.heap.size a w' :=
  h.grown hg h.size (fun k hk => by cases hk; exact hB)

set_option maxHeartbeats 1000000 in
theorem countEdges_any (N : Int) (A : Option Addr) (c : Nat) (es : List (Int × Int)) (w : World) (hn : es.length ≤ 1048576) (hw : ∀ e ∈ es, WfE e) (hE : EdgeS w w.heap.size A es) :
    Calls Try.prog 89 #[.agg #[.int .i64 N, .slice A es.length c]] w (MadeCount w es) := by
  have HE := Lib.hid hE
  have HW := Lib.hid hw
  clear hE hw
  have hmm := @run_makeMap Try.prog
  go_enter Try.func89, Try.ntmps89
  go_wp2
  go_loopw [10] (fun i wr => ∃ k : Nat, k ≤ es.length ∧ i = .int .i64 k ∧ CM wr (w.heap.size + 1) (es.take k) ∧ Below w.heap.size w wr) (fun i _ => es.length - (intOf i).toNat)
  case atStart => 
    refine ⟨0, Nat.zero_le _, rfl, ?_, ((Below.refl _ _).alloc (Nat.le_refl _) _).alloc (by simp) _⟩
    have := CM.made (w.alloc (.cells #[.int .i64 N, .slice A es.length c] 39))
    simpa using this
  case round =>
    obtain ⟨k, hk, rfl, hcm, hb⟩ := hrel
    have HC := Lib.hid hcm
    clear hcm hmm
    by_cases hlt : k < es.length
    · obtain ⟨b1, o1, e, rfl, hb1, he, hc0, hc1⟩ := (HE.out.below hb).at_ hlt
      have hi0 : (0 : Int) ≤ (k : Int) := Int.natCast_nonneg _
      have hi1 : (k : Int) < (es.length : Int) := by omega
      have hwe := Lib.hid (HW.out e (List.mem_of_getElem? he))
      have HX := Lib.hid he
      clear he
      have hz : ((es.take k).count e : Int) ≤ 1048576 := by
        have h1 : (es.take k).count e ≤ (es.take k).length := List.count_le_length
        simp only [List.length_take] at h1
        omega
      obtain ⟨v0, st, W2, W3, q1, q2, q3, q4, hg2, hg3, hcm3⟩ := cm_incr (w := (wr.alloc (.cells #[.int .i64 e.1, .int .i64 e.2] 67)).drew) ((HC.out.alloc _).drew) hwe.out (by simp only [List.length_take]; omega)
      unfold edgeV at q1 q2 q4
      have HC3 := Lib.hid hcm3
      clear hcm3
      go_wp2
      go_region
      go_wp2
      refine ⟨⟨k + 1, by omega, by go_num, ?_, below_grown_map ((hb.alloc hb.size _).drew) hg3 (by omega)⟩, by simp [intOf]; omega⟩
      rw [List.take_add_one, HX.out]
      exact HC3.out
    · have HC3 := HC.out
      rw [List.take_of_length_le (by omega)] at HC3
      have HC4 := Lib.hid HC3
      clear HC3
      go_wp2
      go_ret
      exact ⟨rfl, HC4.out, hb⟩
end Go.Proofs.Ytkmbdclhjdbhpab
