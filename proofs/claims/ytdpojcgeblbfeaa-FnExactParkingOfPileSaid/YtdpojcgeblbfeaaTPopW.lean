/- The walk of laws.FnExactParkingOfPile. -/
import Derived.Test.YtdpojcgeblbfeaaTParX
import Derived.Test.YtdpojcgeblbfeaaTBA
set_option linter.all false
namespace Go.Proofs.Ytdpojcgeblbfeaa
open Go.RowKit

set_option maxRecDepth 100000 in
set_option maxHeartbeats 2000000 in
theorem lawParkingOfPile (N0 : Int) (A0 : Option Addr) (c0 : Nat) (es0 : List (Int × Int)) (A1 : Option Addr) (c1 : Nat) (xs1 : List Int) (n2 : Int) (w : World) (hg0 : GraphArg w N0 A0 c0 es0) (hg1 : IntsArg w A1 c1 xs1) (_ : -9223372036854775808 ≤ n2) (_ : n2 ≤ 9223372036854775807) :
    Calls Try.prog 11 #[.agg #[.int .i64 N0, .slice A0 es0.length c0], .slice A1 xs1.length c1, .int .i64 n2] w fun e w' => e = .returned (.bool true) ∧ Below w.heap.size w w' := by
  have hlen1 := hg1.len
  have hlen0 := hg0.len
  by_cases hxb : 1048576 < xs1.length
  · clear hg1 hg0
    go_enter Try.func11, Try.ntmps11
    go_wp2
    go_ret
    exact ⟨rfl, (Below.refl _ _).alloc (Nat.le_refl _) _⟩
  have hn1 : xs1.length ≤ 1048576 := by omega
  clear hxb
  by_cases hbig : (1048576 : Int) < es0.length
  · clear hg1 hg0
    go_enter Try.func11, Try.ntmps11
    go_wp2_with (go_at_call 22; refine (szGraph_big _ _ _ _ _ _ hlen0 (by omega) (by omega) hbig).mono ?_; rintro e w1 ⟨rfl, hb1⟩)
    go_ret
    exact ⟨rfl, ((LawG.start w N0 A0 c0 es0).next hb1).old⟩
  have hsm : (es0.length : Int) ≤ 1048576 := by omega
  have hn0 : es0.length ≤ 1048576 := by omega
  clear hbig
  have HE0 := Lib.hid hg0.edges
  have hw0 := Lib.hid hg0.wf
  have hl0 := hg0.lo
  have hh0 := hg0.hi
  have HS1 := Lib.hid hg1.ints
  have hw1 := Lib.hid hg1.each
  clear hg1 hg0
  have HSP := fun (A0 : Option Addr) (c0 : Nat) (A1 : Option Addr) (c1 : Nat) (w : World) (E0 : EdgeS w w.heap.size A0 es0) (S1 : IntS w w.heap.size A1 xs1) => Lib.hid (specPop N0 A0 A1 c0 c1 es0 xs1 n2 w hn0 hn1 E0 S1)
  have HIM := fun (A0 : Option Addr) (c0 : Nat) (A1 : Option Addr) (c1 : Nat) (w : World) (E0 : EdgeS w w.heap.size A0 es0) (S1 : IntS w w.heap.size A1 xs1) => Lib.hid (implPop N0 A0 A1 c0 c1 es0 xs1 n2 w hn0 hn1 E0 S1)
  obtain ⟨zs, hzs⟩ : ∃ zs, zs = popX N0 es0 xs1 n2 := ⟨_, rfl⟩
  have hzn : zs.length ≤ 1048576 := by rw [hzs]; exact Nat.le_trans (popX_len N0 es0 xs1 n2) (by decide)
  rw [← hzs] at HSP HIM
  clear hzs
  obtain ⟨vb, hvb⟩ : ∃ v, v = ircB N0 es0 xs1 n2 := ⟨_, rfl⟩
  rw [← hvb] at HSP HIM
  clear hvb
  go_enter Try.func11, Try.ntmps11
  go_wp2_with fail
  refine (szGraph_ok _ _ _ _ _ _ (by omega) hsm).mono ?_
  rintro e w1 ⟨rfl, hb1⟩
  have L_1 := Lib.hid ((LawG.start w N0 A0 c0 es0).next hb1)
  have B_1 := Lib.hid L_1.out.old
  have ltL := L_1.out.lt
  clear hb1 hsm
  have k0 := L_1.out.c0
  have k1 := L_1.out.c1
  go_wp2_with fail
  refine (toGraph_any _ _ _ _ _ hn0 (HE0.out.up_ B_1.out)).mono ?_
  rintro e w2 ⟨g2, rfl, hg2, hk2, hb2⟩
  have L_2 := Lib.hid (L_1.out.next hb2)
  have B_2 := Lib.hid (belowMoves B_1.out (belowMv hb2 _) (Nat.le_refl _) B_1.out.size)
  have s2 := hb2.size
  clear L_1 B_1 k0 k1 hb2
  have T0E_2 := Lib.hid hk2
  have lt2 := hk2.lt
  clear hk2
  have k0 := L_2.out.c0
  have k1 := L_2.out.c1
  go_wp2_with fail
  refine (toIntS_any _ _ _ _ hn1 (HS1.out.up_ B_2.out)).mono ?_
  rintro e w3 ⟨rfl, hk3, hb3⟩
  have L_3 := Lib.hid (L_2.out.next hb3)
  have B_3 := Lib.hid (belowMoves B_2.out (belowMv hb3 _) (Nat.le_refl _) B_2.out.size)
  have T0E_3 := Lib.hid (T0E_2.out.moves (belowMv hb3 _) (.inr (Nat.le_refl _)))
  have s3 := hb3.size
  clear L_2 B_2 T0E_2 k0 k1 hb3
  have T1_3 := Lib.hid hk3
  have lt3 := hk3.lt
  clear hk3
  have k0 := L_3.out.c0
  have k1 := L_3.out.c1
  go_wp2_with fail
  refine (HSP _ _ _ _ _ (EdgeS.of_blk T0E_3.out T0E_3.out.lt) (IntS.of_blk T1_3.out T1_3.out.lt)).out.mono ?_
  rintro e w4 ⟨AW, cW, rfl, ho4, hb4⟩
  have L_4 := Lib.hid (L_3.out.next hb4)
  have B_4 := Lib.hid (belowMoves B_3.out (belowMv hb4 _) (Nat.le_refl _) B_3.out.size)
  have s4 := hb4.size
  clear L_3 B_3 T0E_3 T1_3 k0 k1 hb4
  have W_4 := Lib.hid ho4.ints
  clear ho4
  have k0 := L_4.out.c0
  have k1 := L_4.out.c1
  go_wp2_with fail
  refine (toGraph_any _ _ _ _ _ hn0 (HE0.out.up_ B_4.out)).mono ?_
  rintro e w5 ⟨g5, rfl, hg5, hk5, hb5⟩
  have L_5 := Lib.hid (L_4.out.next hb5)
  have B_5 := Lib.hid (belowMoves B_4.out (belowMv hb5 _) (Nat.le_refl _) B_4.out.size)
  have W_5 := Lib.hid (W_4.out.moves (belowMv hb5 _) (Nat.le_refl _) (by omega))
  have s5 := hb5.size
  clear L_4 B_4 W_4 k0 k1 hb5
  have X0E_5 := Lib.hid hk5
  have lt5 := hk5.lt
  clear hk5
  have k0 := L_5.out.c0
  have k1 := L_5.out.c1
  go_wp2_with fail
  obtain ⟨w6, hw6_⟩ : ∃ x, x = w5.alloc (.cells #[.int .i64 N0, .slice (some ⟨g5, 0, none⟩) es0.length es0.length] 25) := ⟨_, rfl⟩
  rw [← hw6_]
  have hb6 : Below w5.heap.size w5 w6 := by rw [hw6_]; exact (Below.refl _ _).alloc (Nat.le_refl _) _
  have hk6 : Blk w6 w5.heap.size 25 #[.int .i64 N0, .slice (some ⟨g5, 0, none⟩) es0.length es0.length] := by rw [hw6_]; exact Blk.new w5 _ _
  have sx6 : w5.heap.size + 1 ≤ w6.heap.size := by rw [hw6_]; simp
  clear hw6_
  have L_6 := Lib.hid (L_5.out.next hb6)
  have B_6 := Lib.hid (belowMoves B_5.out (belowMv hb6 _) (Nat.le_refl _) B_5.out.size)
  have W_6 := Lib.hid (W_5.out.moves (belowMv hb6 _) (Nat.le_refl _) (by omega))
  have X0E_6 := Lib.hid (X0E_5.out.moves (belowMv hb6 _) (.inr (Nat.le_refl _)))
  have s6 := hb6.size
  clear L_5 B_5 W_5 X0E_5 k0 k1 hb6
  have XB_6 := Lib.hid hk6
  clear hk6
  have k0 := L_6.out.c0
  have k1 := L_6.out.c1
  have d0 : w6.cell? ⟨w5.heap.size, 0, none⟩ = some (.int .i64 N0) := by rw [XB_6.out.cell]; rfl
  have d1 : w6.cell? ⟨w5.heap.size, 1, none⟩ = some (.slice (some ⟨g5, 0, none⟩) es0.length es0.length) := by rw [XB_6.out.cell]; rfl
  refine (toIntS_any _ _ _ _ hn1 (HS1.out.up_ B_6.out)).mono ?_
  rintro e w7 ⟨rfl, hk7, hb7⟩
  have L_7 := Lib.hid (L_6.out.next hb7)
  have B_7 := Lib.hid (belowMoves B_6.out (belowMv hb7 _) (Nat.le_refl _) B_6.out.size)
  have W_7 := Lib.hid (W_6.out.moves (belowMv hb7 _) (Nat.le_refl _) (by omega))
  have XB_7 := Lib.hid (XB_6.out.moves (belowMv hb7 _) (.inr (Nat.le_refl _)))
  have XE_7 := Lib.hid (X0E_6.out.moves (belowMv hb7 _) (.inr (Nat.le_refl _)))
  have s7 := hb7.size
  clear L_6 B_6 W_6 XB_6 X0E_6 k0 k1 d0 d1 hb7
  have X1_7 := Lib.hid hk7
  have lt7 := hk7.lt
  clear hk7
  have k0 := L_7.out.c0
  have k1 := L_7.out.c1
  have d0 : w7.cell? ⟨w5.heap.size, 0, none⟩ = some (.int .i64 N0) := by rw [XB_7.out.cell]; rfl
  have d1 : w7.cell? ⟨w5.heap.size, 1, none⟩ = some (.slice (some ⟨g5, 0, none⟩) es0.length es0.length) := by rw [XB_7.out.cell]; rfl
  go_wp2_with fail
  refine (HIM _ _ _ _ _ (EdgeS.of_blk XE_7.out XE_7.out.lt) (IntS.of_blk X1_7.out X1_7.out.lt)).out.mono ?_
  rintro e w8 ⟨AG, cG, rfl, ho8, hb8⟩
  have L_8 := Lib.hid (L_7.out.next hb8)
  have B_8 := Lib.hid (belowMoves B_7.out (belowMv hb8 _) (Nat.le_refl _) B_7.out.size)
  have W_8 := Lib.hid (W_7.out.moves (belowMv hb8 _) (Nat.le_refl _) (by omega))
  have XB_8 := Lib.hid (XB_7.out.moves (belowMv hb8 _) (.inr (Nat.le_refl _)))
  have XE_8 := Lib.hid (XE_7.out.moves (belowMv hb8 _) (.inr (Nat.le_refl _)))
  have X1_8 := Lib.hid (X1_7.out.moves (belowMv hb8 _) (.inr (Nat.le_refl _)))
  have s8 := hb8.size
  clear L_7 B_7 W_7 XB_7 XE_7 X1_7 k0 k1 d0 d1 hb8
  have G_8 := Lib.hid ho8
  clear ho8
  have k0 := L_8.out.c0
  have k1 := L_8.out.c1
  have d0 : w8.cell? ⟨w5.heap.size, 0, none⟩ = some (.int .i64 N0) := by rw [XB_8.out.cell]; rfl
  have d1 : w8.cell? ⟨w5.heap.size, 1, none⟩ = some (.slice (some ⟨g5, 0, none⟩) es0.length es0.length) := by rw [XB_8.out.cell]; rfl
  go_wp2_with fail
  refine (eqIntS_any _ _ _ _ _ _ _ (by omega) (by omega) (G_8.out.ints.wide (by omega)) (W_8.out.wide (by omega))).mono ?_
  rintro e w9 ⟨rfl, hb9⟩
  have L_9 := Lib.hid (L_8.out.next hb9)
  have B_9 := Lib.hid (belowMoves B_8.out (belowMv hb9 _) (Nat.le_refl _) B_8.out.size)
  have W_9 := Lib.hid (W_8.out.moves (belowMv hb9 _) (Nat.le_refl _) (by omega))
  have XB_9 := Lib.hid (XB_8.out.moves (belowMv hb9 _) (.inr (Nat.le_refl _)))
  have XE_9 := Lib.hid (XE_8.out.moves (belowMv hb9 _) (.inr (Nat.le_refl _)))
  have X1_9 := Lib.hid (X1_8.out.moves (belowMv hb9 _) (.inr (Nat.le_refl _)))
  have G_9 := Lib.hid (G_8.out.moves (belowMv hb9 _) (Nat.le_refl _))
  have s9 := hb9.size
  clear L_8 B_8 W_8 XB_8 XE_8 X1_8 G_8 k0 k1 d0 d1 hb9
  have k0 := L_9.out.c0
  have k1 := L_9.out.c1
  have d0 : w9.cell? ⟨w5.heap.size, 0, none⟩ = some (.int .i64 N0) := by rw [XB_9.out.cell]; rfl
  have d1 : w9.cell? ⟨w5.heap.size, 1, none⟩ = some (.slice (some ⟨g5, 0, none⟩) es0.length es0.length) := by rw [XB_9.out.cell]; rfl
  have l0 := L_9.out.lt
  have l1 := XB_9.out.lt
  have l2 := XE_9.out.lt
  go_wp2_with fail
  go_region_held3 (fun w' => w'.cell? ⟨w.heap.size, 0, none⟩ = some (.int .i64 N0) ∧ w'.cell? ⟨w.heap.size, 1, none⟩ = some (.slice A0 es0.length c0) ∧ w'.cell? ⟨w5.heap.size, 0, none⟩ = some (.int .i64 N0) ∧ w'.cell? ⟨w5.heap.size, 1, none⟩ = some (.slice (some ⟨g5, 0, none⟩) es0.length es0.length) ∧ Below w9.heap.size w9 w')
    (first
      | exact ⟨k0, k1, d0, d1, (Below.refl _ _).drew⟩
      | exact keep4 (by assumption) hb10 l0 l0 l1 l1
      | exact keep4 (by assumption) hb11 l0 l0 l1 l1)
    (first
      | (go_at_call 24; refine (toGraph_any _ _ _ _ _ hn0 (HE0.out.up_ (B_9.out.drew))).mono ?_; rintro e w10 ⟨g10, rfl, hg10, hk10, hb10⟩)
      | (go_at_call 27; refine (eqGraph_any _ _ _ _ _ _ _ _ _ hlen0 hlen0 (EdgeS.of_blk (XE_9.out.drew.below hb10 l2) (Nat.lt_of_lt_of_le l2 hb10.size)) (EdgeS.of_blk hk10 hk10.lt)).mono ?_; rintro e w11 ⟨rfl, hb11⟩))
  have hbz11 : Below w9.heap.size w9 w11 := (Below.refl _ _).drew.trans (hb10.trans (hb11.mono hb10.size))
  have hq := eqG_self N0 es0
  rw [hq]
  clear hq hb10 hb11 hk10 hg10 l0 l1 l2
  have L_11 := Lib.hid (L_9.out.next hbz11)
  have B_11 := Lib.hid (belowMoves B_9.out (belowMv hbz11 _) (Nat.le_refl _) B_9.out.size)
  have W_11 := Lib.hid (W_9.out.moves (belowMv hbz11 _) (Nat.le_refl _) (by omega))
  have XB_11 := Lib.hid (XB_9.out.moves (belowMv hbz11 _) (.inr (Nat.le_refl _)))
  have XE_11 := Lib.hid (XE_9.out.moves (belowMv hbz11 _) (.inr (Nat.le_refl _)))
  have X1_11 := Lib.hid (X1_9.out.moves (belowMv hbz11 _) (.inr (Nat.le_refl _)))
  have G_11 := Lib.hid (G_9.out.moves (belowMv hbz11 _) (Nat.le_refl _))
  have s11 := hbz11.size
  clear L_9 B_9 W_9 XB_9 XE_9 X1_9 G_9 k0 k1 d0 d1 hbz11
  have k0 := L_11.out.c0
  have k1 := L_11.out.c1
  have d0 : w11.cell? ⟨w5.heap.size, 0, none⟩ = some (.int .i64 N0) := by rw [XB_11.out.cell]; rfl
  have d1 : w11.cell? ⟨w5.heap.size, 1, none⟩ = some (.slice (some ⟨g5, 0, none⟩) es0.length es0.length) := by rw [XB_11.out.cell]; rfl
  go_wp2_with fail
  refine (toIntS_any _ _ _ _ hn1 (HS1.out.up_ B_11.out)).mono ?_
  rintro e w12 ⟨rfl, hk12, hb12⟩
  have L_12 := Lib.hid (L_11.out.next hb12)
  have B_12 := Lib.hid (belowMoves B_11.out (belowMv hb12 _) (Nat.le_refl _) B_11.out.size)
  have W_12 := Lib.hid (W_11.out.moves (belowMv hb12 _) (Nat.le_refl _) (by omega))
  have XB_12 := Lib.hid (XB_11.out.moves (belowMv hb12 _) (.inr (Nat.le_refl _)))
  have XE_12 := Lib.hid (XE_11.out.moves (belowMv hb12 _) (.inr (Nat.le_refl _)))
  have X1_12 := Lib.hid (X1_11.out.moves (belowMv hb12 _) (.inr (Nat.le_refl _)))
  have G_12 := Lib.hid (G_11.out.moves (belowMv hb12 _) (Nat.le_refl _))
  have s12 := hb12.size
  clear L_11 B_11 W_11 XB_11 XE_11 X1_11 G_11 k0 k1 d0 d1 hb12
  have Y1_12 := Lib.hid hk12
  have lt12 := hk12.lt
  clear hk12
  have k0 := L_12.out.c0
  have k1 := L_12.out.c1
  have d0 : w12.cell? ⟨w5.heap.size, 0, none⟩ = some (.int .i64 N0) := by rw [XB_12.out.cell]; rfl
  have d1 : w12.cell? ⟨w5.heap.size, 1, none⟩ = some (.slice (some ⟨g5, 0, none⟩) es0.length es0.length) := by rw [XB_12.out.cell]; rfl
  go_wp2_with fail
  refine (eqIntS_any _ _ _ _ _ _ _ (by omega) (by omega) (IntS.of_blk X1_12.out X1_12.out.lt) (IntS.of_blk Y1_12.out Y1_12.out.lt)).mono ?_
  rintro e w13 ⟨rfl, hb13⟩
  have L_13 := Lib.hid (L_12.out.next hb13)
  have B_13 := Lib.hid (belowMoves B_12.out (belowMv hb13 _) (Nat.le_refl _) B_12.out.size)
  have W_13 := Lib.hid (W_12.out.moves (belowMv hb13 _) (Nat.le_refl _) (by omega))
  have XB_13 := Lib.hid (XB_12.out.moves (belowMv hb13 _) (.inr (Nat.le_refl _)))
  have XE_13 := Lib.hid (XE_12.out.moves (belowMv hb13 _) (.inr (Nat.le_refl _)))
  have X1_13 := Lib.hid (X1_12.out.moves (belowMv hb13 _) (.inr (Nat.le_refl _)))
  have G_13 := Lib.hid (G_12.out.moves (belowMv hb13 _) (Nat.le_refl _))
  have s13 := hb13.size
  clear L_12 B_12 W_12 XB_12 XE_12 X1_12 G_12 Y1_12 k0 k1 d0 d1 hb13
  have k0 := L_13.out.c0
  have k1 := L_13.out.c1
  have d0 : w13.cell? ⟨w5.heap.size, 0, none⟩ = some (.int .i64 N0) := by rw [XB_13.out.cell]; rfl
  have d1 : w13.cell? ⟨w5.heap.size, 1, none⟩ = some (.slice (some ⟨g5, 0, none⟩) es0.length es0.length) := by rw [XB_13.out.cell]; rfl
  go_wp2_with fail
  refine (markGraphB_any N0 _ g5 es0 _ hn0 (by omega) (by omega) XE_13.out).mono ?_
  rintro e w14 ⟨rfl, hgr14⟩
  have hm14 := grownMv hgr14
  clear hgr14
  have L_14 := Lib.hid (L_13.out.moves hm14 (by omega))
  have B_14 := Lib.hid (belowMoves B_13.out hm14 (by omega) B_13.out.size)
  have W_14 := Lib.hid (W_13.out.moves hm14 (by omega) (by omega))
  have X1_14 := Lib.hid (X1_13.out.moves hm14 (by omega))
  have G_14 := Lib.hid (G_13.out.moves hm14 (by omega))
  have s14 := hm14.size
  clear L_13 B_13 W_13 XB_13 XE_13 X1_13 G_13 k0 k1 d0 d1 hm14
  go_wp2_with fail
  refine (markIntS_any _ _ (w6.heap.size) xs1 _ _ hn1 (by omega) (by omega) (OwnI.of_blk X1_14.out (Nat.le_refl _))).mono ?_
  rintro e w15 ⟨rfl, _, ht15, _⟩
  have hm15 := ht15.mv
  clear ht15
  have L_15 := Lib.hid (L_14.out.moves hm15 (by omega))
  have B_15 := Lib.hid (belowMoves B_14.out hm15 (by omega) B_14.out.size)
  have W_15 := Lib.hid (W_14.out.moves hm15 (by omega) (by omega))
  have G_15 := Lib.hid (G_14.out.moves hm15 (by omega))
  have s15 := hm15.size
  clear L_14 B_14 W_14 X1_14 G_14 hm15
  have tk : decide ((1 : Int) + 2 * es0.length + xs1.length < 0) = false := decide_eq_false (by omega)
  have k0 := L_15.out.c0
  have k1 := L_15.out.c1
  go_wp2_with fail
  refine (eqIntS_any _ _ _ _ _ _ _ (by omega) (by omega) (G_15.out.ints.wide (by omega)) (W_15.out.wide (by omega))).mono ?_
  rintro e w16 ⟨rfl, hb16⟩
  have L_16 := Lib.hid (L_15.out.next hb16)
  have B_16 := Lib.hid (belowMoves B_15.out (belowMv hb16 _) (Nat.le_refl _) B_15.out.size)
  have W_16 := Lib.hid (W_15.out.moves (belowMv hb16 _) (Nat.le_refl _) (by omega))
  have G_16 := Lib.hid (G_15.out.moves (belowMv hb16 _) (Nat.le_refl _))
  have s16 := hb16.size
  clear L_15 B_15 W_15 G_15 k0 k1 hb16
  have k0 := L_16.out.c0
  have k1 := L_16.out.c1
  go_wp2_with fail
  refine (markIntS_any _ _ (w7.heap.size) zs _ _ hzn (by omega) (by omega) G_16.out).mono ?_
  rintro e w17 ⟨rfl, ho17, _, hbl17⟩
  have hm17 := belowMvB (hbl17 (by omega))
  clear hbl17
  have L_17 := Lib.hid (L_16.out.moves hm17 (by omega))
  have B_17 := Lib.hid (belowMoves B_16.out hm17 (by omega) B_16.out.size)
  have W_17 := Lib.hid (W_16.out.moves hm17 (by omega) (by omega))
  have s17 := hm17.size
  clear L_16 B_16 W_16 G_16 k0 k1 hm17
  have G_17 := Lib.hid ho17
  clear ho17
  go_wp2_with fail
  refine (heldIntS_any _ _ _ _ _ _ hzn (by omega) (by omega) G_17.out.ints).mono ?_
  rintro e w' ⟨rfl, rfl⟩
  have tq : ((1 : Int) + zs.length != 1 + zs.length) = false := by simp
  have k0 := L_17.out.c0
  have k1 := L_17.out.c1
  go_wp2_with fail
  refine (toGraph_any _ _ _ _ _ hn0 (HE0.out.up_ B_17.out)).mono ?_
  rintro e w18 ⟨g18, rfl, hg18, hk18, hb18⟩
  have L_18 := Lib.hid (L_17.out.next hb18)
  have B_18 := Lib.hid (belowMoves B_17.out (belowMv hb18 _) (Nat.le_refl _) B_17.out.size)
  have W_18 := Lib.hid (W_17.out.moves (belowMv hb18 _) (Nat.le_refl _) (by omega))
  have G_18 := Lib.hid (G_17.out.moves (belowMv hb18 _) (Nat.le_refl _))
  have s18 := hb18.size
  clear L_17 B_17 W_17 G_17 k0 k1 hb18
  have V0E_18 := Lib.hid hk18
  have lt18 := hk18.lt
  clear hk18
  have k0 := L_18.out.c0
  have k1 := L_18.out.c1
  go_wp2_with fail
  refine (toIntS_any _ _ _ _ hn1 (HS1.out.up_ B_18.out)).mono ?_
  rintro e w19 ⟨rfl, hk19, hb19⟩
  have L_19 := Lib.hid (L_18.out.next hb19)
  have B_19 := Lib.hid (belowMoves B_18.out (belowMv hb19 _) (Nat.le_refl _) B_18.out.size)
  have W_19 := Lib.hid (W_18.out.moves (belowMv hb19 _) (Nat.le_refl _) (by omega))
  have G_19 := Lib.hid (G_18.out.moves (belowMv hb19 _) (Nat.le_refl _))
  have V0E_19 := Lib.hid (V0E_18.out.moves (belowMv hb19 _) (.inr (Nat.le_refl _)))
  have s19 := hb19.size
  clear L_18 B_18 W_18 G_18 V0E_18 k0 k1 hb19
  have V1_19 := Lib.hid hk19
  have lt19 := hk19.lt
  clear hk19
  have k0 := L_19.out.c0
  have k1 := L_19.out.c1
  go_wp2_with fail
  refine (HIM _ _ _ _ _ (EdgeS.of_blk V0E_19.out V0E_19.out.lt) (IntS.of_blk V1_19.out V1_19.out.lt)).out.mono ?_
  rintro e w20 ⟨AH, cH, rfl, ho20, hb20⟩
  have L_20 := Lib.hid (L_19.out.next hb20)
  have B_20 := Lib.hid (belowMoves B_19.out (belowMv hb20 _) (Nat.le_refl _) B_19.out.size)
  have W_20 := Lib.hid (W_19.out.moves (belowMv hb20 _) (Nat.le_refl _) (by omega))
  have G_20 := Lib.hid (G_19.out.moves (belowMv hb20 _) (Nat.le_refl _))
  have s20 := hb20.size
  clear L_19 B_19 W_19 G_19 V0E_19 V1_19 k0 k1 hb20
  have H_20 := Lib.hid ho20.ints
  clear ho20
  have k0 := L_20.out.c0
  have k1 := L_20.out.c1
  go_wp2_with fail
  refine (eqIntS_any _ _ _ _ _ _ _ (by omega) (by omega) (H_20.out.wide (by omega)) (W_20.out.wide (by omega))).mono ?_
  rintro e w21 ⟨rfl, hb21⟩
  have L_21 := Lib.hid (L_20.out.next hb21)
  have B_21 := Lib.hid (belowMoves B_20.out (belowMv hb21 _) (Nat.le_refl _) B_20.out.size)
  have G_21 := Lib.hid (G_20.out.moves (belowMv hb21 _) (Nat.le_refl _))
  have s21 := hb21.size
  clear L_20 B_20 W_20 G_20 H_20 k0 k1 hb21
  go_wp2_with fail
  refine (heldIntS_any _ _ _ _ _ _ hzn (by omega) (by omega) G_21.out.ints).mono ?_
  rintro e w' ⟨rfl, rfl⟩
  go_wp2
  go_ret
  exact ⟨rfl, B_21.out⟩
end Go.Proofs.Ytdpojcgeblbfeaa
