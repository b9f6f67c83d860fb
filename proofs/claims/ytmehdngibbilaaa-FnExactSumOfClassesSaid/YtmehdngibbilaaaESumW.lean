/- The walk of laws.FnExactSumOfClasses. -/
import Derived.Test.YtmehdngibbilaaaEGrpXd
import Derived.Test.YtmehdngibbilaaaEGrpXf
import Derived.Test.YtmehdngibbilaaaEGrpXg
import Derived.Test.YtmehdngibbilaaaEGrpXh
import Derived.Test.YtmehdngibbilaaaEGrpXj
import Derived.Test.YtmehdngibbilaaaEBQ
import Derived.Test.YtmehdngibbilaaaEBR
import Derived.Test.YtmehdngibbilaaaEBA
namespace Go.Proofs.Ytmehdngibbilaaa
open Go.RowKit

set_option maxRecDepth 100000 in
set_option maxHeartbeats 2000000 in
theorem lawSumOfClasses (N0 : Int) (A0 : Option Addr) (c0 : Nat) (es0 : List (Int × Int)) (A1 : Option Addr) (c1 : Nat) (xs1 : List Int) (A2 : Option Addr) (c2 : Nat) (xs2 : List Int) (w : World) (hg0 : GraphArg w N0 A0 c0 es0) (hg1 : IntsArg w A1 c1 xs1) (hg2 : IntsArg w A2 c2 xs2) :
    Calls Try.prog 9 #[.agg #[.int .i64 N0, .slice A0 es0.length c0], .slice A1 xs1.length c1, .slice A2 xs2.length c2] w fun e w' => e = .returned (.bool true) ∧ Below w.heap.size w w' := by
  have hlen1 := hg1.len
  have hlen2 := hg2.len
  have hlen0 := hg0.len
  by_cases hxb : 1048576 < xs1.length
  · clear hg1 hg2 hg0
    go_enter Try.func9, Try.ntmps9
    go_wp2
    go_ret
    exact ⟨rfl, (Below.refl _ _).alloc (Nat.le_refl _) _⟩
  have hn1 : xs1.length ≤ 1048576 := by omega
  clear hxb
  by_cases hxb : 1048576 < xs2.length
  · clear hg1 hg2 hg0
    go_enter Try.func9, Try.ntmps9
    go_wp2
    go_ret
    exact ⟨rfl, (Below.refl _ _).alloc (Nat.le_refl _) _⟩
  have hn2 : xs2.length ≤ 1048576 := by omega
  clear hxb
  by_cases hbig : (1048576 : Int) < es0.length
  · clear hg1 hg2 hg0
    go_enter Try.func9, Try.ntmps9
    go_wp2_with (go_at_call 34; refine (szGraph_big _ _ _ _ _ _ hlen0 (by omega) (by omega) hbig).mono ?_; rintro e w1 ⟨rfl, hb1⟩)
    go_ret
    exact ⟨rfl, ((LawG.start w N0 A0 c0 es0).next hb1).old⟩
  have hsm : (es0.length : Int) ≤ 1048576 := by omega
  have hn0 : es0.length ≤ 1048576 := by omega
  clear hbig
  have HE0 := Lib.hid hg0.edges
  have hw0 := Lib.hid hg0.wf
  have hl0 := hg0.lo
  have hh0 := hg0.hi
  have HS1 := Lib.hid hg1.ints
  have hw1 := Lib.hid hg1.each
  have HS2 := Lib.hid hg2.ints
  have hw2 := Lib.hid hg2.each
  clear hg1 hg2 hg0
  have HSP := fun (A0 : Option Addr) (c0 : Nat) (A1 : Option Addr) (c1 : Nat) (A2 : Option Addr) (c2 : Nat) (w : World) (E0 : EdgeS w w.heap.size A0 es0) (S1 : IntS w w.heap.size A1 xs1) (S2 : IntS w w.heap.size A2 xs2) => Lib.hid (specSumC N0 A0 A1 A2 c0 c1 c2 es0 xs1 xs2 w hn0 hn1 hn2 E0 S1 S2)
  have HIM := fun (A0 : Option Addr) (c0 : Nat) (A1 : Option Addr) (c1 : Nat) (A2 : Option Addr) (c2 : Nat) (w : World) (E0 : EdgeS w w.heap.size A0 es0) (S1 : IntS w w.heap.size A1 xs1) (S2 : IntS w w.heap.size A2 xs2) => Lib.hid (implSumC N0 A0 A1 A2 c0 c1 c2 es0 xs1 xs2 w hn0 hn1 hn2 E0 S1 S2)
  obtain ⟨zs, hzs⟩ : ∃ zs, zs = sumC N0 es0 xs1 xs2 := ⟨_, rfl⟩
  have hzn : zs.length ≤ 1048576 := by rw [hzs]; exact Nat.le_trans (sumC_len N0 es0 xs1 xs2) (by decide)
  rw [← hzs] at HSP HIM
  clear hzs
  obtain ⟨vb, hvb⟩ : ∃ v, v = (zeroB N0 es0 xs1 && zeroB N0 es0 xs2) := ⟨_, rfl⟩
  rw [← hvb] at HSP HIM
  clear hvb
  go_enter Try.func9, Try.ntmps9
  go_wp2_with fail
  refine (szGraph_ok _ _ _ _ _ _ (by omega) hsm).mono ?_
  rintro e w1 ⟨rfl, hb1⟩
  have L_1 := Lib.hid ((LawG.start w N0 A0 c0 es0).next hb1)
  have B_1 := Lib.hid L_1.out.old
  have ltL := L_1.out.lt
  clear hb1 hsm
  have k0 := L_1.out.c0
  have k1 := L_1.out.c1
  go_wp2_with fail
  refine (toGraph_any _ _ _ _ _ hn0 (HE0.out.up_ B_1.out)).mono ?_
  rintro e w2 ⟨g2, rfl, hg2, hk2, hb2⟩
  have L_2 := Lib.hid (L_1.out.next hb2)
  have B_2 := Lib.hid (belowMoves B_1.out (belowMv hb2 _) (Nat.le_refl _) B_1.out.size)
  have s2 := hb2.size
  clear L_1 B_1 k0 k1 hb2
  have T0E_2 := Lib.hid hk2
  have lt2 := hk2.lt
  clear hk2
  have k0 := L_2.out.c0
  have k1 := L_2.out.c1
  go_wp2_with fail
  refine (toIntS_any _ _ _ _ hn1 (HS1.out.up_ B_2.out)).mono ?_
  rintro e w3 ⟨rfl, hk3, hb3⟩
  have L_3 := Lib.hid (L_2.out.next hb3)
  have B_3 := Lib.hid (belowMoves B_2.out (belowMv hb3 _) (Nat.le_refl _) B_2.out.size)
  have T0E_3 := Lib.hid (T0E_2.out.moves (belowMv hb3 _) (.inr (Nat.le_refl _)))
  have s3 := hb3.size
  clear L_2 B_2 T0E_2 k0 k1 hb3
  have T1_3 := Lib.hid hk3
  have lt3 := hk3.lt
  clear hk3
  have k0 := L_3.out.c0
  have k1 := L_3.out.c1
  go_wp2_with fail
  refine (toIntS_any _ _ _ _ hn2 (HS2.out.up_ B_3.out)).mono ?_
  rintro e w4 ⟨rfl, hk4, hb4⟩
  have L_4 := Lib.hid (L_3.out.next hb4)
  have B_4 := Lib.hid (belowMoves B_3.out (belowMv hb4 _) (Nat.le_refl _) B_3.out.size)
  have T0E_4 := Lib.hid (T0E_3.out.moves (belowMv hb4 _) (.inr (Nat.le_refl _)))
  have T1_4 := Lib.hid (T1_3.out.moves (belowMv hb4 _) (.inr (Nat.le_refl _)))
  have s4 := hb4.size
  clear L_3 B_3 T0E_3 T1_3 k0 k1 hb4
  have T2_4 := Lib.hid hk4
  have lt4 := hk4.lt
  clear hk4
  have k0 := L_4.out.c0
  have k1 := L_4.out.c1
  go_wp2_with fail
  refine (HSP _ _ _ _ _ _ _ (EdgeS.of_blk T0E_4.out T0E_4.out.lt) (IntS.of_blk T1_4.out T1_4.out.lt) (IntS.of_blk T2_4.out T2_4.out.lt)).out.mono ?_
  rintro e w5 ⟨AW, cW, rfl, ho5, hb5⟩
  have L_5 := Lib.hid (L_4.out.next hb5)
  have B_5 := Lib.hid (belowMoves B_4.out (belowMv hb5 _) (Nat.le_refl _) B_4.out.size)
  have s5 := hb5.size
  clear L_4 B_4 T0E_4 T1_4 T2_4 k0 k1 hb5
  have W_5 := Lib.hid ho5.ints
  clear ho5
  have k0 := L_5.out.c0
  have k1 := L_5.out.c1
  go_wp2_with fail
  refine (toGraph_any _ _ _ _ _ hn0 (HE0.out.up_ B_5.out)).mono ?_
  rintro e w6 ⟨g6, rfl, hg6, hk6, hb6⟩
  have L_6 := Lib.hid (L_5.out.next hb6)
  have B_6 := Lib.hid (belowMoves B_5.out (belowMv hb6 _) (Nat.le_refl _) B_5.out.size)
  have W_6 := Lib.hid (W_5.out.moves (belowMv hb6 _) (Nat.le_refl _) (by omega))
  have s6 := hb6.size
  clear L_5 B_5 W_5 k0 k1 hb6
  have X0E_6 := Lib.hid hk6
  have lt6 := hk6.lt
  clear hk6
  have k0 := L_6.out.c0
  have k1 := L_6.out.c1
  go_wp2_with fail
  obtain ⟨w7, hw7_⟩ : ∃ x, x = w6.alloc (.cells #[.int .i64 N0, .slice (some ⟨g6, 0, none⟩) es0.length es0.length] 25) := ⟨_, rfl⟩
  rw [← hw7_]
  have hb7 : Below w6.heap.size w6 w7 := by rw [hw7_]; exact (Below.refl _ _).alloc (Nat.le_refl _) _
  have hk7 : Blk w7 w6.heap.size 25 #[.int .i64 N0, .slice (some ⟨g6, 0, none⟩) es0.length es0.length] := by rw [hw7_]; exact Blk.new w6 _ _
  have sx7 : w6.heap.size + 1 ≤ w7.heap.size := by rw [hw7_]; simp
  clear hw7_
  have L_7 := Lib.hid (L_6.out.next hb7)
  have B_7 := Lib.hid (belowMoves B_6.out (belowMv hb7 _) (Nat.le_refl _) B_6.out.size)
  have W_7 := Lib.hid (W_6.out.moves (belowMv hb7 _) (Nat.le_refl _) (by omega))
  have X0E_7 := Lib.hid (X0E_6.out.moves (belowMv hb7 _) (.inr (Nat.le_refl _)))
  have s7 := hb7.size
  clear L_6 B_6 W_6 X0E_6 k0 k1 hb7
  have XB_7 := Lib.hid hk7
  clear hk7
  have k0 := L_7.out.c0
  have k1 := L_7.out.c1
  have d0 : w7.cell? ⟨w6.heap.size, 0, none⟩ = some (.int .i64 N0) := by rw [XB_7.out.cell]; rfl
  have d1 : w7.cell? ⟨w6.heap.size, 1, none⟩ = some (.slice (some ⟨g6, 0, none⟩) es0.length es0.length) := by rw [XB_7.out.cell]; rfl
  refine (toIntS_any _ _ _ _ hn1 (HS1.out.up_ B_7.out)).mono ?_
  rintro e w8 ⟨rfl, hk8, hb8⟩
  have L_8 := Lib.hid (L_7.out.next hb8)
  have B_8 := Lib.hid (belowMoves B_7.out (belowMv hb8 _) (Nat.le_refl _) B_7.out.size)
  have W_8 := Lib.hid (W_7.out.moves (belowMv hb8 _) (Nat.le_refl _) (by omega))
  have XB_8 := Lib.hid (XB_7.out.moves (belowMv hb8 _) (.inr (Nat.le_refl _)))
  have XE_8 := Lib.hid (X0E_7.out.moves (belowMv hb8 _) (.inr (Nat.le_refl _)))
  have s8 := hb8.size
  clear L_7 B_7 W_7 XB_7 X0E_7 k0 k1 d0 d1 hb8
  have X1_8 := Lib.hid hk8
  have lt8 := hk8.lt
  clear hk8
  have k0 := L_8.out.c0
  have k1 := L_8.out.c1
  have d0 : w8.cell? ⟨w6.heap.size, 0, none⟩ = some (.int .i64 N0) := by rw [XB_8.out.cell]; rfl
  have d1 : w8.cell? ⟨w6.heap.size, 1, none⟩ = some (.slice (some ⟨g6, 0, none⟩) es0.length es0.length) := by rw [XB_8.out.cell]; rfl
  go_wp2_with fail
  refine (toIntS_any _ _ _ _ hn2 (HS2.out.up_ B_8.out)).mono ?_
  rintro e w9 ⟨rfl, hk9, hb9⟩
  have L_9 := Lib.hid (L_8.out.next hb9)
  have B_9 := Lib.hid (belowMoves B_8.out (belowMv hb9 _) (Nat.le_refl _) B_8.out.size)
  have W_9 := Lib.hid (W_8.out.moves (belowMv hb9 _) (Nat.le_refl _) (by omega))
  have XB_9 := Lib.hid (XB_8.out.moves (belowMv hb9 _) (.inr (Nat.le_refl _)))
  have XE_9 := Lib.hid (XE_8.out.moves (belowMv hb9 _) (.inr (Nat.le_refl _)))
  have X1_9 := Lib.hid (X1_8.out.moves (belowMv hb9 _) (.inr (Nat.le_refl _)))
  have s9 := hb9.size
  clear L_8 B_8 W_8 XB_8 XE_8 X1_8 k0 k1 d0 d1 hb9
  have X2_9 := Lib.hid hk9
  have lt9 := hk9.lt
  clear hk9
  have k0 := L_9.out.c0
  have k1 := L_9.out.c1
  have d0 : w9.cell? ⟨w6.heap.size, 0, none⟩ = some (.int .i64 N0) := by rw [XB_9.out.cell]; rfl
  have d1 : w9.cell? ⟨w6.heap.size, 1, none⟩ = some (.slice (some ⟨g6, 0, none⟩) es0.length es0.length) := by rw [XB_9.out.cell]; rfl
  go_wp2_with fail
  refine (HIM _ _ _ _ _ _ _ (EdgeS.of_blk XE_9.out XE_9.out.lt) (IntS.of_blk X1_9.out X1_9.out.lt) (IntS.of_blk X2_9.out X2_9.out.lt)).out.mono ?_
  rintro e w10 ⟨AG, cG, rfl, ho10, hb10⟩
  have L_10 := Lib.hid (L_9.out.next hb10)
  have B_10 := Lib.hid (belowMoves B_9.out (belowMv hb10 _) (Nat.le_refl _) B_9.out.size)
  have W_10 := Lib.hid (W_9.out.moves (belowMv hb10 _) (Nat.le_refl _) (by omega))
  have XB_10 := Lib.hid (XB_9.out.moves (belowMv hb10 _) (.inr (Nat.le_refl _)))
  have XE_10 := Lib.hid (XE_9.out.moves (belowMv hb10 _) (.inr (Nat.le_refl _)))
  have X1_10 := Lib.hid (X1_9.out.moves (belowMv hb10 _) (.inr (Nat.le_refl _)))
  have X2_10 := Lib.hid (X2_9.out.moves (belowMv hb10 _) (.inr (Nat.le_refl _)))
  have s10 := hb10.size
  clear L_9 B_9 W_9 XB_9 XE_9 X1_9 X2_9 k0 k1 d0 d1 hb10
  have G_10 := Lib.hid ho10
  clear ho10
  have k0 := L_10.out.c0
  have k1 := L_10.out.c1
  have d0 : w10.cell? ⟨w6.heap.size, 0, none⟩ = some (.int .i64 N0) := by rw [XB_10.out.cell]; rfl
  have d1 : w10.cell? ⟨w6.heap.size, 1, none⟩ = some (.slice (some ⟨g6, 0, none⟩) es0.length es0.length) := by rw [XB_10.out.cell]; rfl
  go_wp2_with fail
  refine (eqIntS_any _ _ _ _ _ _ _ (by omega) (by omega) (G_10.out.ints.wide (by omega)) (W_10.out.wide (by omega))).mono ?_
  rintro e w11 ⟨rfl, hb11⟩
  have L_11 := Lib.hid (L_10.out.next hb11)
  have B_11 := Lib.hid (belowMoves B_10.out (belowMv hb11 _) (Nat.le_refl _) B_10.out.size)
  have W_11 := Lib.hid (W_10.out.moves (belowMv hb11 _) (Nat.le_refl _) (by omega))
  have XB_11 := Lib.hid (XB_10.out.moves (belowMv hb11 _) (.inr (Nat.le_refl _)))
  have XE_11 := Lib.hid (XE_10.out.moves (belowMv hb11 _) (.inr (Nat.le_refl _)))
  have X1_11 := Lib.hid (X1_10.out.moves (belowMv hb11 _) (.inr (Nat.le_refl _)))
  have X2_11 := Lib.hid (X2_10.out.moves (belowMv hb11 _) (.inr (Nat.le_refl _)))
  have G_11 := Lib.hid (G_10.out.moves (belowMv hb11 _) (Nat.le_refl _))
  have s11 := hb11.size
  clear L_10 B_10 W_10 XB_10 XE_10 X1_10 X2_10 G_10 k0 k1 d0 d1 hb11
  have k0 := L_11.out.c0
  have k1 := L_11.out.c1
  have d0 : w11.cell? ⟨w6.heap.size, 0, none⟩ = some (.int .i64 N0) := by rw [XB_11.out.cell]; rfl
  have d1 : w11.cell? ⟨w6.heap.size, 1, none⟩ = some (.slice (some ⟨g6, 0, none⟩) es0.length es0.length) := by rw [XB_11.out.cell]; rfl
  have l0 := L_11.out.lt
  have l1 := XB_11.out.lt
  have l2 := XE_11.out.lt
  go_wp2_with fail
  go_region_held3 (fun w' => w'.cell? ⟨w.heap.size, 0, none⟩ = some (.int .i64 N0) ∧ w'.cell? ⟨w.heap.size, 1, none⟩ = some (.slice A0 es0.length c0) ∧ w'.cell? ⟨w6.heap.size, 0, none⟩ = some (.int .i64 N0) ∧ w'.cell? ⟨w6.heap.size, 1, none⟩ = some (.slice (some ⟨g6, 0, none⟩) es0.length es0.length) ∧ Below w11.heap.size w11 w')
    (first
      | exact ⟨k0, k1, d0, d1, (Below.refl _ _).drew⟩
      | exact keep4 (by assumption) hb12 l0 l0 l1 l1
      | exact keep4 (by assumption) hb13 l0 l0 l1 l1)
    (first
      | (go_at_call 36; refine (toGraph_any _ _ _ _ _ hn0 (HE0.out.up_ (B_11.out.drew))).mono ?_; rintro e w12 ⟨g12, rfl, hg12, hk12, hb12⟩)
      | (go_at_call 37; refine (eqGraph_any _ _ _ _ _ _ _ _ _ hlen0 hlen0 (EdgeS.of_blk (XE_11.out.drew.below hb12 l2) (Nat.lt_of_lt_of_le l2 hb12.size)) (EdgeS.of_blk hk12 hk12.lt)).mono ?_; rintro e w13 ⟨rfl, hb13⟩))
  have hbz13 : Below w11.heap.size w11 w13 := (Below.refl _ _).drew.trans (hb12.trans (hb13.mono hb12.size))
  have hq := eqG_self N0 es0
  rw [hq]
  clear hq hb12 hb13 hk12 hg12 l0 l1 l2
  have L_13 := Lib.hid (L_11.out.next hbz13)
  have B_13 := Lib.hid (belowMoves B_11.out (belowMv hbz13 _) (Nat.le_refl _) B_11.out.size)
  have W_13 := Lib.hid (W_11.out.moves (belowMv hbz13 _) (Nat.le_refl _) (by omega))
  have XB_13 := Lib.hid (XB_11.out.moves (belowMv hbz13 _) (.inr (Nat.le_refl _)))
  have XE_13 := Lib.hid (XE_11.out.moves (belowMv hbz13 _) (.inr (Nat.le_refl _)))
  have X1_13 := Lib.hid (X1_11.out.moves (belowMv hbz13 _) (.inr (Nat.le_refl _)))
  have X2_13 := Lib.hid (X2_11.out.moves (belowMv hbz13 _) (.inr (Nat.le_refl _)))
  have G_13 := Lib.hid (G_11.out.moves (belowMv hbz13 _) (Nat.le_refl _))
  have s13 := hbz13.size
  clear L_11 B_11 W_11 XB_11 XE_11 X1_11 X2_11 G_11 k0 k1 d0 d1 hbz13
  have k0 := L_13.out.c0
  have k1 := L_13.out.c1
  have d0 : w13.cell? ⟨w6.heap.size, 0, none⟩ = some (.int .i64 N0) := by rw [XB_13.out.cell]; rfl
  have d1 : w13.cell? ⟨w6.heap.size, 1, none⟩ = some (.slice (some ⟨g6, 0, none⟩) es0.length es0.length) := by rw [XB_13.out.cell]; rfl
  go_wp2_with fail
  refine (toIntS_any _ _ _ _ hn1 (HS1.out.up_ B_13.out)).mono ?_
  rintro e w14 ⟨rfl, hk14, hb14⟩
  have L_14 := Lib.hid (L_13.out.next hb14)
  have B_14 := Lib.hid (belowMoves B_13.out (belowMv hb14 _) (Nat.le_refl _) B_13.out.size)
  have W_14 := Lib.hid (W_13.out.moves (belowMv hb14 _) (Nat.le_refl _) (by omega))
  have XB_14 := Lib.hid (XB_13.out.moves (belowMv hb14 _) (.inr (Nat.le_refl _)))
  have XE_14 := Lib.hid (XE_13.out.moves (belowMv hb14 _) (.inr (Nat.le_refl _)))
  have X1_14 := Lib.hid (X1_13.out.moves (belowMv hb14 _) (.inr (Nat.le_refl _)))
  have X2_14 := Lib.hid (X2_13.out.moves (belowMv hb14 _) (.inr (Nat.le_refl _)))
  have G_14 := Lib.hid (G_13.out.moves (belowMv hb14 _) (Nat.le_refl _))
  have s14 := hb14.size
  clear L_13 B_13 W_13 XB_13 XE_13 X1_13 X2_13 G_13 k0 k1 d0 d1 hb14
  have Y1_14 := Lib.hid hk14
  have lt14 := hk14.lt
  clear hk14
  have k0 := L_14.out.c0
  have k1 := L_14.out.c1
  have d0 : w14.cell? ⟨w6.heap.size, 0, none⟩ = some (.int .i64 N0) := by rw [XB_14.out.cell]; rfl
  have d1 : w14.cell? ⟨w6.heap.size, 1, none⟩ = some (.slice (some ⟨g6, 0, none⟩) es0.length es0.length) := by rw [XB_14.out.cell]; rfl
  go_wp2_with fail
  refine (eqIntS_any _ _ _ _ _ _ _ (by omega) (by omega) (IntS.of_blk X1_14.out X1_14.out.lt) (IntS.of_blk Y1_14.out Y1_14.out.lt)).mono ?_
  rintro e w15 ⟨rfl, hb15⟩
  have L_15 := Lib.hid (L_14.out.next hb15)
  have B_15 := Lib.hid (belowMoves B_14.out (belowMv hb15 _) (Nat.le_refl _) B_14.out.size)
  have W_15 := Lib.hid (W_14.out.moves (belowMv hb15 _) (Nat.le_refl _) (by omega))
  have XB_15 := Lib.hid (XB_14.out.moves (belowMv hb15 _) (.inr (Nat.le_refl _)))
  have XE_15 := Lib.hid (XE_14.out.moves (belowMv hb15 _) (.inr (Nat.le_refl _)))
  have X1_15 := Lib.hid (X1_14.out.moves (belowMv hb15 _) (.inr (Nat.le_refl _)))
  have X2_15 := Lib.hid (X2_14.out.moves (belowMv hb15 _) (.inr (Nat.le_refl _)))
  have G_15 := Lib.hid (G_14.out.moves (belowMv hb15 _) (Nat.le_refl _))
  have s15 := hb15.size
  clear L_14 B_14 W_14 XB_14 XE_14 X1_14 X2_14 G_14 Y1_14 k0 k1 d0 d1 hb15
  have k0 := L_15.out.c0
  have k1 := L_15.out.c1
  have d0 : w15.cell? ⟨w6.heap.size, 0, none⟩ = some (.int .i64 N0) := by rw [XB_15.out.cell]; rfl
  have d1 : w15.cell? ⟨w6.heap.size, 1, none⟩ = some (.slice (some ⟨g6, 0, none⟩) es0.length es0.length) := by rw [XB_15.out.cell]; rfl
  go_wp2_with fail
  refine (toIntS_any _ _ _ _ hn2 (HS2.out.up_ B_15.out)).mono ?_
  rintro e w16 ⟨rfl, hk16, hb16⟩
  have L_16 := Lib.hid (L_15.out.next hb16)
  have B_16 := Lib.hid (belowMoves B_15.out (belowMv hb16 _) (Nat.le_refl _) B_15.out.size)
  have W_16 := Lib.hid (W_15.out.moves (belowMv hb16 _) (Nat.le_refl _) (by omega))
  have XB_16 := Lib.hid (XB_15.out.moves (belowMv hb16 _) (.inr (Nat.le_refl _)))
  have XE_16 := Lib.hid (XE_15.out.moves (belowMv hb16 _) (.inr (Nat.le_refl _)))
  have X1_16 := Lib.hid (X1_15.out.moves (belowMv hb16 _) (.inr (Nat.le_refl _)))
  have X2_16 := Lib.hid (X2_15.out.moves (belowMv hb16 _) (.inr (Nat.le_refl _)))
  have G_16 := Lib.hid (G_15.out.moves (belowMv hb16 _) (Nat.le_refl _))
  have s16 := hb16.size
  clear L_15 B_15 W_15 XB_15 XE_15 X1_15 X2_15 G_15 k0 k1 d0 d1 hb16
  have Y2_16 := Lib.hid hk16
  have lt16 := hk16.lt
  clear hk16
  have k0 := L_16.out.c0
  have k1 := L_16.out.c1
  have d0 : w16.cell? ⟨w6.heap.size, 0, none⟩ = some (.int .i64 N0) := by rw [XB_16.out.cell]; rfl
  have d1 : w16.cell? ⟨w6.heap.size, 1, none⟩ = some (.slice (some ⟨g6, 0, none⟩) es0.length es0.length) := by rw [XB_16.out.cell]; rfl
  go_wp2_with fail
  refine (eqIntS_any _ _ _ _ _ _ _ (by omega) (by omega) (IntS.of_blk X2_16.out X2_16.out.lt) (IntS.of_blk Y2_16.out Y2_16.out.lt)).mono ?_
  rintro e w17 ⟨rfl, hb17⟩
  have L_17 := Lib.hid (L_16.out.next hb17)
  have B_17 := Lib.hid (belowMoves B_16.out (belowMv hb17 _) (Nat.le_refl _) B_16.out.size)
  have W_17 := Lib.hid (W_16.out.moves (belowMv hb17 _) (Nat.le_refl _) (by omega))
  have XB_17 := Lib.hid (XB_16.out.moves (belowMv hb17 _) (.inr (Nat.le_refl _)))
  have XE_17 := Lib.hid (XE_16.out.moves (belowMv hb17 _) (.inr (Nat.le_refl _)))
  have X1_17 := Lib.hid (X1_16.out.moves (belowMv hb17 _) (.inr (Nat.le_refl _)))
  have X2_17 := Lib.hid (X2_16.out.moves (belowMv hb17 _) (.inr (Nat.le_refl _)))
  have G_17 := Lib.hid (G_16.out.moves (belowMv hb17 _) (Nat.le_refl _))
  have s17 := hb17.size
  clear L_16 B_16 W_16 XB_16 XE_16 X1_16 X2_16 G_16 Y2_16 k0 k1 d0 d1 hb17
  have k0 := L_17.out.c0
  have k1 := L_17.out.c1
  have d0 : w17.cell? ⟨w6.heap.size, 0, none⟩ = some (.int .i64 N0) := by rw [XB_17.out.cell]; rfl
  have d1 : w17.cell? ⟨w6.heap.size, 1, none⟩ = some (.slice (some ⟨g6, 0, none⟩) es0.length es0.length) := by rw [XB_17.out.cell]; rfl
  go_wp2_with fail
  refine (markGraphB_any N0 _ g6 es0 _ hn0 (by omega) (by omega) XE_17.out).mono ?_
  rintro e w18 ⟨rfl, hgr18⟩
  have hm18 := grownMv hgr18
  clear hgr18
  have L_18 := Lib.hid (L_17.out.moves hm18 (by omega))
  have B_18 := Lib.hid (belowMoves B_17.out hm18 (by omega) B_17.out.size)
  have W_18 := Lib.hid (W_17.out.moves hm18 (by omega) (by omega))
  have X1_18 := Lib.hid (X1_17.out.moves hm18 (by omega))
  have X2_18 := Lib.hid (X2_17.out.moves hm18 (by omega))
  have G_18 := Lib.hid (G_17.out.moves hm18 (by omega))
  have s18 := hm18.size
  clear L_17 B_17 W_17 XB_17 XE_17 X1_17 X2_17 G_17 k0 k1 d0 d1 hm18
  go_wp2_with fail
  refine (markIntS_any _ _ (w7.heap.size) xs1 _ _ hn1 (by omega) (by omega) (OwnI.of_blk X1_18.out (Nat.le_refl _))).mono ?_
  rintro e w19 ⟨rfl, _, ht19, _⟩
  have hm19 := ht19.mv
  clear ht19
  have L_19 := Lib.hid (L_18.out.moves hm19 (by omega))
  have B_19 := Lib.hid (belowMoves B_18.out hm19 (by omega) B_18.out.size)
  have W_19 := Lib.hid (W_18.out.moves hm19 (by omega) (by omega))
  have X2_19 := Lib.hid (X2_18.out.moves hm19 (by omega))
  have G_19 := Lib.hid (G_18.out.moves hm19 (by omega))
  have s19 := hm19.size
  clear L_18 B_18 W_18 X1_18 X2_18 G_18 hm19
  go_wp2_with fail
  refine (markIntS_any _ _ (w8.heap.size) xs2 _ _ hn2 (by omega) (by omega) (OwnI.of_blk X2_19.out (Nat.le_refl _))).mono ?_
  rintro e w20 ⟨rfl, _, ht20, _⟩
  have hm20 := ht20.mv
  clear ht20
  have L_20 := Lib.hid (L_19.out.moves hm20 (by omega))
  have B_20 := Lib.hid (belowMoves B_19.out hm20 (by omega) B_19.out.size)
  have W_20 := Lib.hid (W_19.out.moves hm20 (by omega) (by omega))
  have G_20 := Lib.hid (G_19.out.moves hm20 (by omega))
  have s20 := hm20.size
  clear L_19 B_19 W_19 X2_19 G_19 hm20
  have tk : decide ((1 : Int) + 2 * es0.length + xs1.length + xs2.length < 0) = false := decide_eq_false (by omega)
  have k0 := L_20.out.c0
  have k1 := L_20.out.c1
  go_wp2_with fail
  refine (eqIntS_any _ _ _ _ _ _ _ (by omega) (by omega) (G_20.out.ints.wide (by omega)) (W_20.out.wide (by omega))).mono ?_
  rintro e w21 ⟨rfl, hb21⟩
  have L_21 := Lib.hid (L_20.out.next hb21)
  have B_21 := Lib.hid (belowMoves B_20.out (belowMv hb21 _) (Nat.le_refl _) B_20.out.size)
  have W_21 := Lib.hid (W_20.out.moves (belowMv hb21 _) (Nat.le_refl _) (by omega))
  have G_21 := Lib.hid (G_20.out.moves (belowMv hb21 _) (Nat.le_refl _))
  have s21 := hb21.size
  clear L_20 B_20 W_20 G_20 k0 k1 hb21
  have k0 := L_21.out.c0
  have k1 := L_21.out.c1
  go_wp2_with fail
  refine (markIntS_any _ _ (w9.heap.size) zs _ _ hzn (by omega) (by omega) G_21.out).mono ?_
  rintro e w22 ⟨rfl, ho22, _, hbl22⟩
  have hm22 := belowMvB (hbl22 (by omega))
  clear hbl22
  have L_22 := Lib.hid (L_21.out.moves hm22 (by omega))
  have B_22 := Lib.hid (belowMoves B_21.out hm22 (by omega) B_21.out.size)
  have W_22 := Lib.hid (W_21.out.moves hm22 (by omega) (by omega))
  have s22 := hm22.size
  clear L_21 B_21 W_21 G_21 k0 k1 hm22
  have G_22 := Lib.hid ho22
  clear ho22
  go_wp2_with fail
  refine (heldIntS_any _ _ _ _ _ _ hzn (by omega) (by omega) G_22.out.ints).mono ?_
  rintro e w' ⟨rfl, rfl⟩
  have tq : ((1 : Int) + zs.length != 1 + zs.length) = false := by simp
  have k0 := L_22.out.c0
  have k1 := L_22.out.c1
  go_wp2_with fail
  refine (toGraph_any _ _ _ _ _ hn0 (HE0.out.up_ B_22.out)).mono ?_
  rintro e w23 ⟨g23, rfl, hg23, hk23, hb23⟩
  have L_23 := Lib.hid (L_22.out.next hb23)
  have B_23 := Lib.hid (belowMoves B_22.out (belowMv hb23 _) (Nat.le_refl _) B_22.out.size)
  have W_23 := Lib.hid (W_22.out.moves (belowMv hb23 _) (Nat.le_refl _) (by omega))
  have G_23 := Lib.hid (G_22.out.moves (belowMv hb23 _) (Nat.le_refl _))
  have s23 := hb23.size
  clear L_22 B_22 W_22 G_22 k0 k1 hb23
  have V0E_23 := Lib.hid hk23
  have lt23 := hk23.lt
  clear hk23
  have k0 := L_23.out.c0
  have k1 := L_23.out.c1
  go_wp2_with fail
  refine (toIntS_any _ _ _ _ hn1 (HS1.out.up_ B_23.out)).mono ?_
  rintro e w24 ⟨rfl, hk24, hb24⟩
  have L_24 := Lib.hid (L_23.out.next hb24)
  have B_24 := Lib.hid (belowMoves B_23.out (belowMv hb24 _) (Nat.le_refl _) B_23.out.size)
  have W_24 := Lib.hid (W_23.out.moves (belowMv hb24 _) (Nat.le_refl _) (by omega))
  have G_24 := Lib.hid (G_23.out.moves (belowMv hb24 _) (Nat.le_refl _))
  have V0E_24 := Lib.hid (V0E_23.out.moves (belowMv hb24 _) (.inr (Nat.le_refl _)))
  have s24 := hb24.size
  clear L_23 B_23 W_23 G_23 V0E_23 k0 k1 hb24
  have V1_24 := Lib.hid hk24
  have lt24 := hk24.lt
  clear hk24
  have k0 := L_24.out.c0
  have k1 := L_24.out.c1
  go_wp2_with fail
  refine (toIntS_any _ _ _ _ hn2 (HS2.out.up_ B_24.out)).mono ?_
  rintro e w25 ⟨rfl, hk25, hb25⟩
  have L_25 := Lib.hid (L_24.out.next hb25)
  have B_25 := Lib.hid (belowMoves B_24.out (belowMv hb25 _) (Nat.le_refl _) B_24.out.size)
  have W_25 := Lib.hid (W_24.out.moves (belowMv hb25 _) (Nat.le_refl _) (by omega))
  have G_25 := Lib.hid (G_24.out.moves (belowMv hb25 _) (Nat.le_refl _))
  have V0E_25 := Lib.hid (V0E_24.out.moves (belowMv hb25 _) (.inr (Nat.le_refl _)))
  have V1_25 := Lib.hid (V1_24.out.moves (belowMv hb25 _) (.inr (Nat.le_refl _)))
  have s25 := hb25.size
  clear L_24 B_24 W_24 G_24 V0E_24 V1_24 k0 k1 hb25
  have V2_25 := Lib.hid hk25
  have lt25 := hk25.lt
  clear hk25
  have k0 := L_25.out.c0
  have k1 := L_25.out.c1
  go_wp2_with fail
  refine (HIM _ _ _ _ _ _ _ (EdgeS.of_blk V0E_25.out V0E_25.out.lt) (IntS.of_blk V1_25.out V1_25.out.lt) (IntS.of_blk V2_25.out V2_25.out.lt)).out.mono ?_
  rintro e w26 ⟨AH, cH, rfl, ho26, hb26⟩
  have L_26 := Lib.hid (L_25.out.next hb26)
  have B_26 := Lib.hid (belowMoves B_25.out (belowMv hb26 _) (Nat.le_refl _) B_25.out.size)
  have W_26 := Lib.hid (W_25.out.moves (belowMv hb26 _) (Nat.le_refl _) (by omega))
  have G_26 := Lib.hid (G_25.out.moves (belowMv hb26 _) (Nat.le_refl _))
  have s26 := hb26.size
  clear L_25 B_25 W_25 G_25 V0E_25 V1_25 V2_25 k0 k1 hb26
  have H_26 := Lib.hid ho26.ints
  clear ho26
  have k0 := L_26.out.c0
  have k1 := L_26.out.c1
  go_wp2_with fail
  refine (eqIntS_any _ _ _ _ _ _ _ (by omega) (by omega) (H_26.out.wide (by omega)) (W_26.out.wide (by omega))).mono ?_
  rintro e w27 ⟨rfl, hb27⟩
  have L_27 := Lib.hid (L_26.out.next hb27)
  have B_27 := Lib.hid (belowMoves B_26.out (belowMv hb27 _) (Nat.le_refl _) B_26.out.size)
  have G_27 := Lib.hid (G_26.out.moves (belowMv hb27 _) (Nat.le_refl _))
  have s27 := hb27.size
  clear L_26 B_26 W_26 G_26 H_26 k0 k1 hb27
  go_wp2_with fail
  refine (heldIntS_any _ _ _ _ _ _ hzn (by omega) (by omega) G_27.out.ints).mono ?_
  rintro e w' ⟨rfl, rfl⟩
  go_wp2
  go_ret
  exact ⟨rfl, B_27.out⟩
end Go.Proofs.Ytmehdngibbilaaa
