/- The walk of laws.FnExactAreEquivalent. -/
import Derived.Test.YtcfhkaefjhcglaaEqvI
import Derived.Test.YtcfhkaefjhcglaaBA
namespace Go.Proofs.Ytcfhkaefjhcglaa
open Go.RowKit

set_option maxRecDepth 100000 in
set_option maxHeartbeats 2000000 in
theorem lawAreEquivalent (N0 : Int) (A0 : Option Addr) (c0 : Nat) (es0 : List (Int × Int)) (A1 : Option Addr) (c1 : Nat) (xs1 : List Int) (A2 : Option Addr) (c2 : Nat) (xs2 : List Int) (w : World) (hg0 : GraphArg w N0 A0 c0 es0) (hg1 : IntsArg w A1 c1 xs1) (hg2 : IntsArg w A2 c2 xs2) :
    Calls Try.prog 6 #[.agg #[.int .i64 N0, .slice A0 es0.length c0], .slice A1 xs1.length c1, .slice A2 xs2.length c2] w fun e w' => e = .returned (.bool true) ∧ Below w.heap.size w w' := by
  have hlen1 := hg1.len
  have hlen2 := hg2.len
  have hlen0 := hg0.len
  by_cases hxb : 1048576 < xs1.length
  · clear hg1 hg2 hg0
    go_enter Try.func6, Try.ntmps6
    go_wp2
    go_ret
    exact ⟨rfl, (Below.refl _ _).alloc (Nat.le_refl _) _⟩
  have hn1 : xs1.length ≤ 1048576 := by omega
  clear hxb
  by_cases hxb : 1048576 < xs2.length
  · clear hg1 hg2 hg0
    go_enter Try.func6, Try.ntmps6
    go_wp2
    go_ret
    exact ⟨rfl, (Below.refl _ _).alloc (Nat.le_refl _) _⟩
  have hn2 : xs2.length ≤ 1048576 := by omega
  clear hxb
  by_cases hbig : (1048576 : Int) < es0.length
  · clear hg1 hg2 hg0
    go_enter Try.func6, Try.ntmps6
    go_wp2_with (go_at_call 37; refine (szGraph_big _ _ _ _ _ _ hlen0 (by omega) (by omega) hbig).mono ?_; rintro e w1 ⟨rfl, hb1⟩)
    go_ret
    exact ⟨rfl, ((LawG.start w N0 A0 c0 es0).next hb1).old⟩
  have hsm : (es0.length : Int) ≤ 1048576 := by omega
  have hn0 : es0.length ≤ 1048576 := by omega
  clear hbig
  have HE0 := Lib.hid hg0.edges
  have hw0 := Lib.hid hg0.wf
  have hl0 := hg0.lo
  have hh0 := hg0.hi
  have HS1 := Lib.hid hg1.ints
  have hw1 := Lib.hid hg1.each
  have HS2 := Lib.hid hg2.ints
  have hw2 := Lib.hid hg2.each
  clear hg1 hg2 hg0
  have HSP := fun (A0 : Option Addr) (c0 : Nat) (A1 : Option Addr) (c1 : Nat) (A2 : Option Addr) (c2 : Nat) (w : World) (E0 : EdgeS w w.heap.size A0 es0) (S1 : IntS w w.heap.size A1 xs1) (S2 : IntS w w.heap.size A2 xs2) => Lib.hid (specEqv N0 A0 A1 A2 c0 c1 c2 es0 xs1 xs2 w hn0 hn1 hn2 E0 S1 S2)
  have HIM := fun (A0 : Option Addr) (c0 : Nat) (A1 : Option Addr) (c1 : Nat) (A2 : Option Addr) (c2 : Nat) (w : World) (E0 : EdgeS w w.heap.size A0 es0) (S1 : IntS w w.heap.size A1 xs1) (S2 : IntS w w.heap.size A2 xs2) => Lib.hid (implEqv N0 A0 A1 A2 c0 c1 c2 es0 xs1 xs2 w hn0 hn1 hn2 E0 S1 S2)
  obtain ⟨vv, hvv⟩ : ∃ v, v = eqvB N0 es0 xs1 xs2 := ⟨_, rfl⟩
  rw [← hvv] at HSP HIM
  clear hvv
  go_enter Try.func6, Try.ntmps6
  go_wp2_with fail
  refine (szGraph_ok _ _ _ _ _ _ (by omega) hsm).mono ?_
  rintro e w1 ⟨rfl, hb1⟩
  have L_1 := Lib.hid ((LawG.start w N0 A0 c0 es0).next hb1)
  have B_1 := Lib.hid L_1.out.old
  have ltL := L_1.out.lt
  clear hb1 hsm
  have k0 := L_1.out.c0
  have k1 := L_1.out.c1
  go_wp2_with fail
  refine (toGraph_any _ _ _ _ _ hn0 (HE0.out.up_ B_1.out)).mono ?_
  rintro e w2 ⟨g2, rfl, hg2, hk2, hb2⟩
  have L_2 := Lib.hid (L_1.out.next hb2)
  have B_2 := Lib.hid (belowMoves B_1.out (belowMv hb2 _) (Nat.le_refl _) B_1.out.size)
  have s2 := hb2.size
  clear L_1 B_1 k0 k1 hb2
  have T0E_2 := Lib.hid hk2
  have lt2 := hk2.lt
  clear hk2
  have k0 := L_2.out.c0
  have k1 := L_2.out.c1
  go_wp2_with fail
  refine (toIntS_any _ _ _ _ hn1 (HS1.out.up_ B_2.out)).mono ?_
  rintro e w3 ⟨rfl, hk3, hb3⟩
  have L_3 := Lib.hid (L_2.out.next hb3)
  have B_3 := Lib.hid (belowMoves B_2.out (belowMv hb3 _) (Nat.le_refl _) B_2.out.size)
  have T0E_3 := Lib.hid (T0E_2.out.moves (belowMv hb3 _) (.inr (Nat.le_refl _)))
  have s3 := hb3.size
  clear L_2 B_2 T0E_2 k0 k1 hb3
  have T1_3 := Lib.hid hk3
  have lt3 := hk3.lt
  clear hk3
  have k0 := L_3.out.c0
  have k1 := L_3.out.c1
  go_wp2_with fail
  refine (toIntS_any _ _ _ _ hn2 (HS2.out.up_ B_3.out)).mono ?_
  rintro e w4 ⟨rfl, hk4, hb4⟩
  have L_4 := Lib.hid (L_3.out.next hb4)
  have B_4 := Lib.hid (belowMoves B_3.out (belowMv hb4 _) (Nat.le_refl _) B_3.out.size)
  have T0E_4 := Lib.hid (T0E_3.out.moves (belowMv hb4 _) (.inr (Nat.le_refl _)))
  have T1_4 := Lib.hid (T1_3.out.moves (belowMv hb4 _) (.inr (Nat.le_refl _)))
  have s4 := hb4.size
  clear L_3 B_3 T0E_3 T1_3 k0 k1 hb4
  have T2_4 := Lib.hid hk4
  have lt4 := hk4.lt
  clear hk4
  have k0 := L_4.out.c0
  have k1 := L_4.out.c1
  go_wp2_with fail
  refine (HSP _ _ _ _ _ _ _ (EdgeS.of_blk T0E_4.out T0E_4.out.lt) (IntS.of_blk T1_4.out T1_4.out.lt) (IntS.of_blk T2_4.out T2_4.out.lt)).out.mono ?_
  rintro e w5 ⟨rfl, hb5⟩
  have L_5 := Lib.hid (L_4.out.next hb5)
  have B_5 := Lib.hid (belowMoves B_4.out (belowMv hb5 _) (Nat.le_refl _) B_4.out.size)
  have s5 := hb5.size
  clear L_4 B_4 T0E_4 T1_4 T2_4 k0 k1 hb5
  have k0 := L_5.out.c0
  have k1 := L_5.out.c1
  go_wp2_with fail
  refine (toGraph_any _ _ _ _ _ hn0 (HE0.out.up_ B_5.out)).mono ?_
  rintro e w6 ⟨g6, rfl, hg6, hk6, hb6⟩
  have L_6 := Lib.hid (L_5.out.next hb6)
  have B_6 := Lib.hid (belowMoves B_5.out (belowMv hb6 _) (Nat.le_refl _) B_5.out.size)
  have s6 := hb6.size
  clear L_5 B_5 k0 k1 hb6
  have X0E_6 := Lib.hid hk6
  have lt6 := hk6.lt
  clear hk6
  have k0 := L_6.out.c0
  have k1 := L_6.out.c1
  go_wp2_with fail
  obtain ⟨w7, hw7_⟩ : ∃ x, x = w6.alloc (.cells #[.int .i64 N0, .slice (some ⟨g6, 0, none⟩) es0.length es0.length] 25) := ⟨_, rfl⟩
  rw [← hw7_]
  have hb7 : Below w6.heap.size w6 w7 := by rw [hw7_]; exact (Below.refl _ _).alloc (Nat.le_refl _) _
  have hk7 : Blk w7 w6.heap.size 25 #[.int .i64 N0, .slice (some ⟨g6, 0, none⟩) es0.length es0.length] := by rw [hw7_]; exact Blk.new w6 _ _
  have sx7 : w6.heap.size + 1 ≤ w7.heap.size := by rw [hw7_]; simp
  clear hw7_
  have L_7 := Lib.hid (L_6.out.next hb7)
  have B_7 := Lib.hid (belowMoves B_6.out (belowMv hb7 _) (Nat.le_refl _) B_6.out.size)
  have X0E_7 := Lib.hid (X0E_6.out.moves (belowMv hb7 _) (.inr (Nat.le_refl _)))
  have s7 := hb7.size
  clear L_6 B_6 X0E_6 k0 k1 hb7
  have XB_7 := Lib.hid hk7
  clear hk7
  have k0 := L_7.out.c0
  have k1 := L_7.out.c1
  have d0 : w7.cell? ⟨w6.heap.size, 0, none⟩ = some (.int .i64 N0) := by rw [XB_7.out.cell]; rfl
  have d1 : w7.cell? ⟨w6.heap.size, 1, none⟩ = some (.slice (some ⟨g6, 0, none⟩) es0.length es0.length) := by rw [XB_7.out.cell]; rfl
  refine (toIntS_any _ _ _ _ hn1 (HS1.out.up_ B_7.out)).mono ?_
  rintro e w8 ⟨rfl, hk8, hb8⟩
  have L_8 := Lib.hid (L_7.out.next hb8)
  have B_8 := Lib.hid (belowMoves B_7.out (belowMv hb8 _) (Nat.le_refl _) B_7.out.size)
  have XB_8 := Lib.hid (XB_7.out.moves (belowMv hb8 _) (.inr (Nat.le_refl _)))
  have XE_8 := Lib.hid (X0E_7.out.moves (belowMv hb8 _) (.inr (Nat.le_refl _)))
  have s8 := hb8.size
  clear L_7 B_7 XB_7 X0E_7 k0 k1 d0 d1 hb8
  have X1_8 := Lib.hid hk8
  have lt8 := hk8.lt
  clear hk8
  have k0 := L_8.out.c0
  have k1 := L_8.out.c1
  have d0 : w8.cell? ⟨w6.heap.size, 0, none⟩ = some (.int .i64 N0) := by rw [XB_8.out.cell]; rfl
  have d1 : w8.cell? ⟨w6.heap.size, 1, none⟩ = some (.slice (some ⟨g6, 0, none⟩) es0.length es0.length) := by rw [XB_8.out.cell]; rfl
  go_wp2_with fail
  refine (toIntS_any _ _ _ _ hn2 (HS2.out.up_ B_8.out)).mono ?_
  rintro e w9 ⟨rfl, hk9, hb9⟩
  have L_9 := Lib.hid (L_8.out.next hb9)
  have B_9 := Lib.hid (belowMoves B_8.out (belowMv hb9 _) (Nat.le_refl _) B_8.out.size)
  have XB_9 := Lib.hid (XB_8.out.moves (belowMv hb9 _) (.inr (Nat.le_refl _)))
  have XE_9 := Lib.hid (XE_8.out.moves (belowMv hb9 _) (.inr (Nat.le_refl _)))
  have X1_9 := Lib.hid (X1_8.out.moves (belowMv hb9 _) (.inr (Nat.le_refl _)))
  have s9 := hb9.size
  clear L_8 B_8 XB_8 XE_8 X1_8 k0 k1 d0 d1 hb9
  have X2_9 := Lib.hid hk9
  have lt9 := hk9.lt
  clear hk9
  have k0 := L_9.out.c0
  have k1 := L_9.out.c1
  have d0 : w9.cell? ⟨w6.heap.size, 0, none⟩ = some (.int .i64 N0) := by rw [XB_9.out.cell]; rfl
  have d1 : w9.cell? ⟨w6.heap.size, 1, none⟩ = some (.slice (some ⟨g6, 0, none⟩) es0.length es0.length) := by rw [XB_9.out.cell]; rfl
  go_wp2_with fail
  refine (HIM _ _ _ _ _ _ _ (EdgeS.of_blk XE_9.out XE_9.out.lt) (IntS.of_blk X1_9.out X1_9.out.lt) (IntS.of_blk X2_9.out X2_9.out.lt)).out.mono ?_
  rintro e w10 ⟨rfl, hb10⟩
  have L_10 := Lib.hid (L_9.out.next hb10)
  have B_10 := Lib.hid (belowMoves B_9.out (belowMv hb10 _) (Nat.le_refl _) B_9.out.size)
  have XB_10 := Lib.hid (XB_9.out.moves (belowMv hb10 _) (.inr (Nat.le_refl _)))
  have XE_10 := Lib.hid (XE_9.out.moves (belowMv hb10 _) (.inr (Nat.le_refl _)))
  have X1_10 := Lib.hid (X1_9.out.moves (belowMv hb10 _) (.inr (Nat.le_refl _)))
  have X2_10 := Lib.hid (X2_9.out.moves (belowMv hb10 _) (.inr (Nat.le_refl _)))
  have s10 := hb10.size
  clear L_9 B_9 XB_9 XE_9 X1_9 X2_9 k0 k1 d0 d1 hb10
  have k0 := L_10.out.c0
  have k1 := L_10.out.c1
  have d0 : w10.cell? ⟨w6.heap.size, 0, none⟩ = some (.int .i64 N0) := by rw [XB_10.out.cell]; rfl
  have d1 : w10.cell? ⟨w6.heap.size, 1, none⟩ = some (.slice (some ⟨g6, 0, none⟩) es0.length es0.length) := by rw [XB_10.out.cell]; rfl
  have l0 := L_10.out.lt
  have l1 := XB_10.out.lt
  have l2 := XE_10.out.lt
  go_wp2_with fail
  go_region_held3 (fun w' => w'.cell? ⟨w.heap.size, 0, none⟩ = some (.int .i64 N0) ∧ w'.cell? ⟨w.heap.size, 1, none⟩ = some (.slice A0 es0.length c0) ∧ w'.cell? ⟨w6.heap.size, 0, none⟩ = some (.int .i64 N0) ∧ w'.cell? ⟨w6.heap.size, 1, none⟩ = some (.slice (some ⟨g6, 0, none⟩) es0.length es0.length) ∧ Below w10.heap.size w10 w')
    (first
      | exact ⟨k0, k1, d0, d1, (Below.refl _ _).drew⟩
      | exact keep4 (by assumption) hb11 l0 l0 l1 l1
      | exact keep4 (by assumption) hb12 l0 l0 l1 l1)
    (first
      | (go_at_call 39; refine (toGraph_any _ _ _ _ _ hn0 (HE0.out.up_ (B_10.out.drew))).mono ?_; rintro e w11 ⟨g11, rfl, hg11, hk11, hb11⟩)
      | (go_at_call 41; refine (eqGraph_any _ _ _ _ _ _ _ _ _ hlen0 hlen0 (EdgeS.of_blk (XE_10.out.drew.below hb11 l2) (Nat.lt_of_lt_of_le l2 hb11.size)) (EdgeS.of_blk hk11 hk11.lt)).mono ?_; rintro e w12 ⟨rfl, hb12⟩))
  have hbz12 : Below w10.heap.size w10 w12 := (Below.refl _ _).drew.trans (hb11.trans (hb12.mono hb11.size))
  have hq := eqG_self N0 es0
  rw [hq]
  clear hq hb11 hb12 hk11 hg11 l0 l1 l2
  have L_12 := Lib.hid (L_10.out.next hbz12)
  have B_12 := Lib.hid (belowMoves B_10.out (belowMv hbz12 _) (Nat.le_refl _) B_10.out.size)
  have XB_12 := Lib.hid (XB_10.out.moves (belowMv hbz12 _) (.inr (Nat.le_refl _)))
  have XE_12 := Lib.hid (XE_10.out.moves (belowMv hbz12 _) (.inr (Nat.le_refl _)))
  have X1_12 := Lib.hid (X1_10.out.moves (belowMv hbz12 _) (.inr (Nat.le_refl _)))
  have X2_12 := Lib.hid (X2_10.out.moves (belowMv hbz12 _) (.inr (Nat.le_refl _)))
  have s12 := hbz12.size
  clear L_10 B_10 XB_10 XE_10 X1_10 X2_10 k0 k1 d0 d1 hbz12
  have k0 := L_12.out.c0
  have k1 := L_12.out.c1
  have d0 : w12.cell? ⟨w6.heap.size, 0, none⟩ = some (.int .i64 N0) := by rw [XB_12.out.cell]; rfl
  have d1 : w12.cell? ⟨w6.heap.size, 1, none⟩ = some (.slice (some ⟨g6, 0, none⟩) es0.length es0.length) := by rw [XB_12.out.cell]; rfl
  go_wp2_with fail
  refine (toIntS_any _ _ _ _ hn1 (HS1.out.up_ B_12.out)).mono ?_
  rintro e w13 ⟨rfl, hk13, hb13⟩
  have L_13 := Lib.hid (L_12.out.next hb13)
  have B_13 := Lib.hid (belowMoves B_12.out (belowMv hb13 _) (Nat.le_refl _) B_12.out.size)
  have XB_13 := Lib.hid (XB_12.out.moves (belowMv hb13 _) (.inr (Nat.le_refl _)))
  have XE_13 := Lib.hid (XE_12.out.moves (belowMv hb13 _) (.inr (Nat.le_refl _)))
  have X1_13 := Lib.hid (X1_12.out.moves (belowMv hb13 _) (.inr (Nat.le_refl _)))
  have X2_13 := Lib.hid (X2_12.out.moves (belowMv hb13 _) (.inr (Nat.le_refl _)))
  have s13 := hb13.size
  clear L_12 B_12 XB_12 XE_12 X1_12 X2_12 k0 k1 d0 d1 hb13
  have Y1_13 := Lib.hid hk13
  have lt13 := hk13.lt
  clear hk13
  have k0 := L_13.out.c0
  have k1 := L_13.out.c1
  have d0 : w13.cell? ⟨w6.heap.size, 0, none⟩ = some (.int .i64 N0) := by rw [XB_13.out.cell]; rfl
  have d1 : w13.cell? ⟨w6.heap.size, 1, none⟩ = some (.slice (some ⟨g6, 0, none⟩) es0.length es0.length) := by rw [XB_13.out.cell]; rfl
  go_wp2_with fail
  refine (eqIntS_any _ _ _ _ _ _ _ (by omega) (by omega) (IntS.of_blk X1_13.out X1_13.out.lt) (IntS.of_blk Y1_13.out Y1_13.out.lt)).mono ?_
  rintro e w14 ⟨rfl, hb14⟩
  have L_14 := Lib.hid (L_13.out.next hb14)
  have B_14 := Lib.hid (belowMoves B_13.out (belowMv hb14 _) (Nat.le_refl _) B_13.out.size)
  have XB_14 := Lib.hid (XB_13.out.moves (belowMv hb14 _) (.inr (Nat.le_refl _)))
  have XE_14 := Lib.hid (XE_13.out.moves (belowMv hb14 _) (.inr (Nat.le_refl _)))
  have X1_14 := Lib.hid (X1_13.out.moves (belowMv hb14 _) (.inr (Nat.le_refl _)))
  have X2_14 := Lib.hid (X2_13.out.moves (belowMv hb14 _) (.inr (Nat.le_refl _)))
  have s14 := hb14.size
  clear L_13 B_13 XB_13 XE_13 X1_13 X2_13 Y1_13 k0 k1 d0 d1 hb14
  have k0 := L_14.out.c0
  have k1 := L_14.out.c1
  have d0 : w14.cell? ⟨w6.heap.size, 0, none⟩ = some (.int .i64 N0) := by rw [XB_14.out.cell]; rfl
  have d1 : w14.cell? ⟨w6.heap.size, 1, none⟩ = some (.slice (some ⟨g6, 0, none⟩) es0.length es0.length) := by rw [XB_14.out.cell]; rfl
  go_wp2_with fail
  refine (toIntS_any _ _ _ _ hn2 (HS2.out.up_ B_14.out)).mono ?_
  rintro e w15 ⟨rfl, hk15, hb15⟩
  have L_15 := Lib.hid (L_14.out.next hb15)
  have B_15 := Lib.hid (belowMoves B_14.out (belowMv hb15 _) (Nat.le_refl _) B_14.out.size)
  have XB_15 := Lib.hid (XB_14.out.moves (belowMv hb15 _) (.inr (Nat.le_refl _)))
  have XE_15 := Lib.hid (XE_14.out.moves (belowMv hb15 _) (.inr (Nat.le_refl _)))
  have X1_15 := Lib.hid (X1_14.out.moves (belowMv hb15 _) (.inr (Nat.le_refl _)))
  have X2_15 := Lib.hid (X2_14.out.moves (belowMv hb15 _) (.inr (Nat.le_refl _)))
  have s15 := hb15.size
  clear L_14 B_14 XB_14 XE_14 X1_14 X2_14 k0 k1 d0 d1 hb15
  have Y2_15 := Lib.hid hk15
  have lt15 := hk15.lt
  clear hk15
  have k0 := L_15.out.c0
  have k1 := L_15.out.c1
  have d0 : w15.cell? ⟨w6.heap.size, 0, none⟩ = some (.int .i64 N0) := by rw [XB_15.out.cell]; rfl
  have d1 : w15.cell? ⟨w6.heap.size, 1, none⟩ = some (.slice (some ⟨g6, 0, none⟩) es0.length es0.length) := by rw [XB_15.out.cell]; rfl
  go_wp2_with fail
  refine (eqIntS_any _ _ _ _ _ _ _ (by omega) (by omega) (IntS.of_blk X2_15.out X2_15.out.lt) (IntS.of_blk Y2_15.out Y2_15.out.lt)).mono ?_
  rintro e w16 ⟨rfl, hb16⟩
  have L_16 := Lib.hid (L_15.out.next hb16)
  have B_16 := Lib.hid (belowMoves B_15.out (belowMv hb16 _) (Nat.le_refl _) B_15.out.size)
  have XB_16 := Lib.hid (XB_15.out.moves (belowMv hb16 _) (.inr (Nat.le_refl _)))
  have XE_16 := Lib.hid (XE_15.out.moves (belowMv hb16 _) (.inr (Nat.le_refl _)))
  have X1_16 := Lib.hid (X1_15.out.moves (belowMv hb16 _) (.inr (Nat.le_refl _)))
  have X2_16 := Lib.hid (X2_15.out.moves (belowMv hb16 _) (.inr (Nat.le_refl _)))
  have s16 := hb16.size
  clear L_15 B_15 XB_15 XE_15 X1_15 X2_15 Y2_15 k0 k1 d0 d1 hb16
  have k0 := L_16.out.c0
  have k1 := L_16.out.c1
  have d0 : w16.cell? ⟨w6.heap.size, 0, none⟩ = some (.int .i64 N0) := by rw [XB_16.out.cell]; rfl
  have d1 : w16.cell? ⟨w6.heap.size, 1, none⟩ = some (.slice (some ⟨g6, 0, none⟩) es0.length es0.length) := by rw [XB_16.out.cell]; rfl
  go_wp2
  go_ret
  exact ⟨rfl, B_16.out⟩
end Go.Proofs.Ytcfhkaefjhcglaa
