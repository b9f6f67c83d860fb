/- The walk of laws.FnExactIsCyclic. -/
import Derived.Test.YtmehdngibbilaaaEGrpXd
import Derived.Test.YtmehdngibbilaaaEGrpXf
import Derived.Test.YtmehdngibbilaaaEGrpXg
import Derived.Test.YtmehdngibbilaaaEGrpXh
import Derived.Test.YtmehdngibbilaaaEGrpXj
import Derived.Test.YtmehdngibbilaaaEBQ
import Derived.Test.YtmehdngibbilaaaEBR
import Derived.Test.YtmehdngibbilaaaEBA
namespace Go.Proofs.Ytmehdngibbilaaa
open Go.RowKit

set_option maxRecDepth 100000 in
set_option maxHeartbeats 2000000 in
theorem lawIsCyclic (N0 : Int) (A0 : Option Addr) (c0 : Nat) (es0 : List (Int × Int)) (w : World) (hg0 : GraphArg w N0 A0 c0 es0) :
    Calls Try.prog 14 #[.agg #[.int .i64 N0, .slice A0 es0.length c0]] w fun e w' => e = .returned (.bool true) ∧ Below w.heap.size w w' := by
  have hlen0 := hg0.len
  by_cases hbig : (1048576 : Int) < es0.length
  · clear hg0
    go_enter Try.func14, Try.ntmps14
    go_wp2_with (go_at_call 34; refine (szGraph_big _ _ _ _ _ _ hlen0 (by omega) (by omega) hbig).mono ?_; rintro e w1 ⟨rfl, hb1⟩)
    go_ret
    exact ⟨rfl, ((LawG.start w N0 A0 c0 es0).next hb1).old⟩
  have hsm : (es0.length : Int) ≤ 1048576 := by omega
  have hn0 : es0.length ≤ 1048576 := by omega
  clear hbig
  have HE0 := Lib.hid hg0.edges
  have hw0 := Lib.hid hg0.wf
  have hl0 := hg0.lo
  have hh0 := hg0.hi
  clear hg0
  have HSP := fun (A0 : Option Addr) (c0 : Nat) (w : World) (E0 : EdgeS w w.heap.size A0 es0) => Lib.hid (specCyc N0 A0 c0 es0 w hn0 E0)
  have HIM := fun (A0 : Option Addr) (c0 : Nat) (w : World) (E0 : EdgeS w w.heap.size A0 es0) => Lib.hid (implCyc N0 A0 c0 es0 w hn0 E0)
  obtain ⟨vv, hvv⟩ : ∃ v, v = cycC N0 es0 := ⟨_, rfl⟩
  rw [← hvv] at HSP HIM
  clear hvv
  go_enter Try.func14, Try.ntmps14
  go_wp2_with fail
  refine (szGraph_ok _ _ _ _ _ _ (by omega) hsm).mono ?_
  rintro e w1 ⟨rfl, hb1⟩
  have L_1 := Lib.hid ((LawG.start w N0 A0 c0 es0).next hb1)
  have B_1 := Lib.hid L_1.out.old
  have ltL := L_1.out.lt
  clear hb1 hsm
  have k0 := L_1.out.c0
  have k1 := L_1.out.c1
  go_wp2_with fail
  refine (toGraph_any _ _ _ _ _ hn0 (HE0.out.up_ B_1.out)).mono ?_
  rintro e w2 ⟨g2, rfl, hg2, hk2, hb2⟩
  have L_2 := Lib.hid (L_1.out.next hb2)
  have B_2 := Lib.hid (belowMoves B_1.out (belowMv hb2 _) (Nat.le_refl _) B_1.out.size)
  have s2 := hb2.size
  clear L_1 B_1 k0 k1 hb2
  have T0E_2 := Lib.hid hk2
  have lt2 := hk2.lt
  clear hk2
  have k0 := L_2.out.c0
  have k1 := L_2.out.c1
  go_wp2_with fail
  refine (HSP _ _ _ (EdgeS.of_blk T0E_2.out T0E_2.out.lt)).out.mono ?_
  rintro e w3 ⟨rfl, hb3⟩
  have L_3 := Lib.hid (L_2.out.next hb3)
  have B_3 := Lib.hid (belowMoves B_2.out (belowMv hb3 _) (Nat.le_refl _) B_2.out.size)
  have s3 := hb3.size
  clear L_2 B_2 T0E_2 k0 k1 hb3
  have k0 := L_3.out.c0
  have k1 := L_3.out.c1
  go_wp2_with fail
  refine (toGraph_any _ _ _ _ _ hn0 (HE0.out.up_ B_3.out)).mono ?_
  rintro e w4 ⟨g4, rfl, hg4, hk4, hb4⟩
  have L_4 := Lib.hid (L_3.out.next hb4)
  have B_4 := Lib.hid (belowMoves B_3.out (belowMv hb4 _) (Nat.le_refl _) B_3.out.size)
  have s4 := hb4.size
  clear L_3 B_3 k0 k1 hb4
  have X0E_4 := Lib.hid hk4
  have lt4 := hk4.lt
  clear hk4
  have k0 := L_4.out.c0
  have k1 := L_4.out.c1
  go_wp2_with fail
  obtain ⟨w5, hw5_⟩ : ∃ x, x = w4.alloc (.cells #[.int .i64 N0, .slice (some ⟨g4, 0, none⟩) es0.length es0.length] 25) := ⟨_, rfl⟩
  rw [← hw5_]
  have hb5 : Below w4.heap.size w4 w5 := by rw [hw5_]; exact (Below.refl _ _).alloc (Nat.le_refl _) _
  have hk5 : Blk w5 w4.heap.size 25 #[.int .i64 N0, .slice (some ⟨g4, 0, none⟩) es0.length es0.length] := by rw [hw5_]; exact Blk.new w4 _ _
  have sx5 : w4.heap.size + 1 ≤ w5.heap.size := by rw [hw5_]; simp
  clear hw5_
  have L_5 := Lib.hid (L_4.out.next hb5)
  have B_5 := Lib.hid (belowMoves B_4.out (belowMv hb5 _) (Nat.le_refl _) B_4.out.size)
  have X0E_5 := Lib.hid (X0E_4.out.moves (belowMv hb5 _) (.inr (Nat.le_refl _)))
  have s5 := hb5.size
  clear L_4 B_4 X0E_4 k0 k1 hb5
  have XB_5 := Lib.hid hk5
  clear hk5
  have k0 := L_5.out.c0
  have k1 := L_5.out.c1
  have d0 : w5.cell? ⟨w4.heap.size, 0, none⟩ = some (.int .i64 N0) := by rw [XB_5.out.cell]; rfl
  have d1 : w5.cell? ⟨w4.heap.size, 1, none⟩ = some (.slice (some ⟨g4, 0, none⟩) es0.length es0.length) := by rw [XB_5.out.cell]; rfl
  refine (HIM _ _ _ (EdgeS.of_blk X0E_5.out X0E_5.out.lt)).out.mono ?_
  rintro e w6 ⟨rfl, hb6⟩
  have L_6 := Lib.hid (L_5.out.next hb6)
  have B_6 := Lib.hid (belowMoves B_5.out (belowMv hb6 _) (Nat.le_refl _) B_5.out.size)
  have XB_6 := Lib.hid (XB_5.out.moves (belowMv hb6 _) (.inr (Nat.le_refl _)))
  have XE_6 := Lib.hid (X0E_5.out.moves (belowMv hb6 _) (.inr (Nat.le_refl _)))
  have s6 := hb6.size
  clear L_5 B_5 XB_5 X0E_5 k0 k1 d0 d1 hb6
  have k0 := L_6.out.c0
  have k1 := L_6.out.c1
  have d0 : w6.cell? ⟨w4.heap.size, 0, none⟩ = some (.int .i64 N0) := by rw [XB_6.out.cell]; rfl
  have d1 : w6.cell? ⟨w4.heap.size, 1, none⟩ = some (.slice (some ⟨g4, 0, none⟩) es0.length es0.length) := by rw [XB_6.out.cell]; rfl
  have l0 := L_6.out.lt
  have l1 := XB_6.out.lt
  have l2 := XE_6.out.lt
  go_wp2_with fail
  go_region_held3 (fun w' => w'.cell? ⟨w.heap.size, 0, none⟩ = some (.int .i64 N0) ∧ w'.cell? ⟨w.heap.size, 1, none⟩ = some (.slice A0 es0.length c0) ∧ w'.cell? ⟨w4.heap.size, 0, none⟩ = some (.int .i64 N0) ∧ w'.cell? ⟨w4.heap.size, 1, none⟩ = some (.slice (some ⟨g4, 0, none⟩) es0.length es0.length) ∧ Below w6.heap.size w6 w')
    (first
      | exact ⟨k0, k1, d0, d1, (Below.refl _ _).drew⟩
      | exact keep4 (by assumption) hb7 l0 l0 l1 l1
      | exact keep4 (by assumption) hb8 l0 l0 l1 l1)
    (first
      | (go_at_call 36; refine (toGraph_any _ _ _ _ _ hn0 (HE0.out.up_ (B_6.out.drew))).mono ?_; rintro e w7 ⟨g7, rfl, hg7, hk7, hb7⟩)
      | (go_at_call 37; refine (eqGraph_any _ _ _ _ _ _ _ _ _ hlen0 hlen0 (EdgeS.of_blk (XE_6.out.drew.below hb7 l2) (Nat.lt_of_lt_of_le l2 hb7.size)) (EdgeS.of_blk hk7 hk7.lt)).mono ?_; rintro e w8 ⟨rfl, hb8⟩))
  have hbz8 : Below w6.heap.size w6 w8 := (Below.refl _ _).drew.trans (hb7.trans (hb8.mono hb7.size))
  have hq := eqG_self N0 es0
  rw [hq]
  clear hq hb7 hb8 hk7 hg7 l0 l1 l2
  have L_8 := Lib.hid (L_6.out.next hbz8)
  have B_8 := Lib.hid (belowMoves B_6.out (belowMv hbz8 _) (Nat.le_refl _) B_6.out.size)
  have XB_8 := Lib.hid (XB_6.out.moves (belowMv hbz8 _) (.inr (Nat.le_refl _)))
  have XE_8 := Lib.hid (XE_6.out.moves (belowMv hbz8 _) (.inr (Nat.le_refl _)))
  have s8 := hbz8.size
  clear L_6 B_6 XB_6 XE_6 k0 k1 d0 d1 hbz8
  have k0 := L_8.out.c0
  have k1 := L_8.out.c1
  have d0 : w8.cell? ⟨w4.heap.size, 0, none⟩ = some (.int .i64 N0) := by rw [XB_8.out.cell]; rfl
  have d1 : w8.cell? ⟨w4.heap.size, 1, none⟩ = some (.slice (some ⟨g4, 0, none⟩) es0.length es0.length) := by rw [XB_8.out.cell]; rfl
  go_wp2
  go_ret
  exact ⟨rfl, B_8.out⟩
end Go.Proofs.Ytmehdngibbilaaa
