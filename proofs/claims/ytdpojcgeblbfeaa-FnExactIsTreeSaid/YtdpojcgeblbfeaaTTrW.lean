/- The walk of laws.FnExactIsTree. -/
import Derived.Test.YtdpojcgeblbfeaaTTrI
import Derived.Test.YtdpojcgeblbfeaaTBA
set_option linter.all false
namespace Go.Proofs.Ytdpojcgeblbfeaa
open Go.RowKit

set_option maxRecDepth 100000 in
set_option maxHeartbeats 2000000 in
theorem lawIsTree (N0 : Int) (A0 : Option Addr) (c0 : Nat) (es0 : List (Int × Int)) (A1 : Option Addr) (c1 : Nat) (xs1 : List Int) (w : World) (hg0 : GraphArg w N0 A0 c0 es0) (hg1 : IntsArg w A1 c1 xs1) :
    Calls Try.prog 5 #[.agg #[.int .i64 N0, .slice A0 es0.length c0], .slice A1 xs1.length c1] w fun e w' => e = .returned (.bool true) ∧ Below w.heap.size w w' := by
  have hlen1 := hg1.len
  have hlen0 := hg0.len
  by_cases hxb : 1048576 < xs1.length
  · clear hg1 hg0
    go_enter Try.func5, Try.ntmps5
    go_wp2
    go_ret
    exact ⟨rfl, (Below.refl _ _).alloc (Nat.le_refl _) _⟩
  have hn1 : xs1.length ≤ 1048576 := by omega
  clear hxb
  by_cases hbig : (1048576 : Int) < es0.length
  · clear hg1 hg0
    go_enter Try.func5, Try.ntmps5
    go_wp2_with (go_at_call 22; refine (szGraph_big _ _ _ _ _ _ hlen0 (by omega) (by omega) hbig).mono ?_; rintro e w1 ⟨rfl, hb1⟩)
    go_ret
    exact ⟨rfl, ((LawG.start w N0 A0 c0 es0).next hb1).old⟩
  have hsm : (es0.length : Int) ≤ 1048576 := by omega
  have hn0 : es0.length ≤ 1048576 := by omega
  clear hbig
  have HE0 := Lib.hid hg0.edges
  have hw0 := Lib.hid hg0.wf
  have hl0 := hg0.lo
  have hh0 := hg0.hi
  have HS1 := Lib.hid hg1.ints
  have hw1 := Lib.hid hg1.each
  clear hg1 hg0
  have HSP := fun (A0 : Option Addr) (c0 : Nat) (A1 : Option Addr) (c1 : Nat) (w : World) (E0 : EdgeS w w.heap.size A0 es0) (S1 : IntS w w.heap.size A1 xs1) => Lib.hid (specTree N0 A0 A1 c0 c1 es0 xs1 w hn0 hn1 E0 S1)
  have HIM := fun (A0 : Option Addr) (c0 : Nat) (A1 : Option Addr) (c1 : Nat) (w : World) (E0 : EdgeS w w.heap.size A0 es0) (S1 : IntS w w.heap.size A1 xs1) => Lib.hid (implTree N0 A0 A1 c0 c1 es0 xs1 w hn0 hn1 E0 S1)
  obtain ⟨vv, hvv⟩ : ∃ v, v = treeB N0 es0 xs1 := ⟨_, rfl⟩
  rw [← hvv] at HSP HIM
  clear hvv
  go_enter Try.func5, Try.ntmps5
  go_wp2_with fail
  refine (szGraph_ok _ _ _ _ _ _ (by omega) hsm).mono ?_
  rintro e w1 ⟨rfl, hb1⟩
  have L_1 := Lib.hid ((LawG.start w N0 A0 c0 es0).next hb1)
  have B_1 := Lib.hid L_1.out.old
  have ltL := L_1.out.lt
  clear hb1 hsm
  have k0 := L_1.out.c0
  have k1 := L_1.out.c1
  go_wp2_with fail
  refine (toGraph_any _ _ _ _ _ hn0 (HE0.out.up_ B_1.out)).mono ?_
  rintro e w2 ⟨g2, rfl, hg2, hk2, hb2⟩
  have L_2 := Lib.hid (L_1.out.next hb2)
  have B_2 := Lib.hid (belowMoves B_1.out (belowMv hb2 _) (Nat.le_refl _) B_1.out.size)
  have s2 := hb2.size
  clear L_1 B_1 k0 k1 hb2
  have T0E_2 := Lib.hid hk2
  have lt2 := hk2.lt
  clear hk2
  have k0 := L_2.out.c0
  have k1 := L_2.out.c1
  go_wp2_with fail
  refine (toIntS_any _ _ _ _ hn1 (HS1.out.up_ B_2.out)).mono ?_
  rintro e w3 ⟨rfl, hk3, hb3⟩
  have L_3 := Lib.hid (L_2.out.next hb3)
  have B_3 := Lib.hid (belowMoves B_2.out (belowMv hb3 _) (Nat.le_refl _) B_2.out.size)
  have T0E_3 := Lib.hid (T0E_2.out.moves (belowMv hb3 _) (.inr (Nat.le_refl _)))
  have s3 := hb3.size
  clear L_2 B_2 T0E_2 k0 k1 hb3
  have T1_3 := Lib.hid hk3
  have lt3 := hk3.lt
  clear hk3
  have k0 := L_3.out.c0
  have k1 := L_3.out.c1
  go_wp2_with fail
  refine (HSP _ _ _ _ _ (EdgeS.of_blk T0E_3.out T0E_3.out.lt) (IntS.of_blk T1_3.out T1_3.out.lt)).out.mono ?_
  rintro e w4 ⟨rfl, hb4⟩
  have L_4 := Lib.hid (L_3.out.next hb4)
  have B_4 := Lib.hid (belowMoves B_3.out (belowMv hb4 _) (Nat.le_refl _) B_3.out.size)
  have s4 := hb4.size
  clear L_3 B_3 T0E_3 T1_3 k0 k1 hb4
  have k0 := L_4.out.c0
  have k1 := L_4.out.c1
  go_wp2_with fail
  refine (toGraph_any _ _ _ _ _ hn0 (HE0.out.up_ B_4.out)).mono ?_
  rintro e w5 ⟨g5, rfl, hg5, hk5, hb5⟩
  have L_5 := Lib.hid (L_4.out.next hb5)
  have B_5 := Lib.hid (belowMoves B_4.out (belowMv hb5 _) (Nat.le_refl _) B_4.out.size)
  have s5 := hb5.size
  clear L_4 B_4 k0 k1 hb5
  have X0E_5 := Lib.hid hk5
  have lt5 := hk5.lt
  clear hk5
  have k0 := L_5.out.c0
  have k1 := L_5.out.c1
  go_wp2_with fail
  obtain ⟨w6, hw6_⟩ : ∃ x, x = w5.alloc (.cells #[.int .i64 N0, .slice (some ⟨g5, 0, none⟩) es0.length es0.length] 25) := ⟨_, rfl⟩
  rw [← hw6_]
  have hb6 : Below w5.heap.size w5 w6 := by rw [hw6_]; exact (Below.refl _ _).alloc (Nat.le_refl _) _
  have hk6 : Blk w6 w5.heap.size 25 #[.int .i64 N0, .slice (some ⟨g5, 0, none⟩) es0.length es0.length] := by rw [hw6_]; exact Blk.new w5 _ _
  have sx6 : w5.heap.size + 1 ≤ w6.heap.size := by rw [hw6_]; simp
  clear hw6_
  have L_6 := Lib.hid (L_5.out.next hb6)
  have B_6 := Lib.hid (belowMoves B_5.out (belowMv hb6 _) (Nat.le_refl _) B_5.out.size)
  have X0E_6 := Lib.hid (X0E_5.out.moves (belowMv hb6 _) (.inr (Nat.le_refl _)))
  have s6 := hb6.size
  clear L_5 B_5 X0E_5 k0 k1 hb6
  have XB_6 := Lib.hid hk6
  clear hk6
  have k0 := L_6.out.c0
  have k1 := L_6.out.c1
  have d0 : w6.cell? ⟨w5.heap.size, 0, none⟩ = some (.int .i64 N0) := by rw [XB_6.out.cell]; rfl
  have d1 : w6.cell? ⟨w5.heap.size, 1, none⟩ = some (.slice (some ⟨g5, 0, none⟩) es0.length es0.length) := by rw [XB_6.out.cell]; rfl
  refine (toIntS_any _ _ _ _ hn1 (HS1.out.up_ B_6.out)).mono ?_
  rintro e w7 ⟨rfl, hk7, hb7⟩
  have L_7 := Lib.hid (L_6.out.next hb7)
  have B_7 := Lib.hid (belowMoves B_6.out (belowMv hb7 _) (Nat.le_refl _) B_6.out.size)
  have XB_7 := Lib.hid (XB_6.out.moves (belowMv hb7 _) (.inr (Nat.le_refl _)))
  have XE_7 := Lib.hid (X0E_6.out.moves (belowMv hb7 _) (.inr (Nat.le_refl _)))
  have s7 := hb7.size
  clear L_6 B_6 XB_6 X0E_6 k0 k1 d0 d1 hb7
  have X1_7 := Lib.hid hk7
  have lt7 := hk7.lt
  clear hk7
  have k0 := L_7.out.c0
  have k1 := L_7.out.c1
  have d0 : w7.cell? ⟨w5.heap.size, 0, none⟩ = some (.int .i64 N0) := by rw [XB_7.out.cell]; rfl
  have d1 : w7.cell? ⟨w5.heap.size, 1, none⟩ = some (.slice (some ⟨g5, 0, none⟩) es0.length es0.length) := by rw [XB_7.out.cell]; rfl
  go_wp2_with fail
  refine (HIM _ _ _ _ _ (EdgeS.of_blk XE_7.out XE_7.out.lt) (IntS.of_blk X1_7.out X1_7.out.lt)).out.mono ?_
  rintro e w8 ⟨rfl, hb8⟩
  have L_8 := Lib.hid (L_7.out.next hb8)
  have B_8 := Lib.hid (belowMoves B_7.out (belowMv hb8 _) (Nat.le_refl _) B_7.out.size)
  have XB_8 := Lib.hid (XB_7.out.moves (belowMv hb8 _) (.inr (Nat.le_refl _)))
  have XE_8 := Lib.hid (XE_7.out.moves (belowMv hb8 _) (.inr (Nat.le_refl _)))
  have X1_8 := Lib.hid (X1_7.out.moves (belowMv hb8 _) (.inr (Nat.le_refl _)))
  have s8 := hb8.size
  clear L_7 B_7 XB_7 XE_7 X1_7 k0 k1 d0 d1 hb8
  have k0 := L_8.out.c0
  have k1 := L_8.out.c1
  have d0 : w8.cell? ⟨w5.heap.size, 0, none⟩ = some (.int .i64 N0) := by rw [XB_8.out.cell]; rfl
  have d1 : w8.cell? ⟨w5.heap.size, 1, none⟩ = some (.slice (some ⟨g5, 0, none⟩) es0.length es0.length) := by rw [XB_8.out.cell]; rfl
  have l0 := L_8.out.lt
  have l1 := XB_8.out.lt
  have l2 := XE_8.out.lt
  go_wp2_with fail
  go_region_held3 (fun w' => w'.cell? ⟨w.heap.size, 0, none⟩ = some (.int .i64 N0) ∧ w'.cell? ⟨w.heap.size, 1, none⟩ = some (.slice A0 es0.length c0) ∧ w'.cell? ⟨w5.heap.size, 0, none⟩ = some (.int .i64 N0) ∧ w'.cell? ⟨w5.heap.size, 1, none⟩ = some (.slice (some ⟨g5, 0, none⟩) es0.length es0.length) ∧ Below w8.heap.size w8 w')
    (first
      | exact ⟨k0, k1, d0, d1, (Below.refl _ _).drew⟩
      | exact keep4 (by assumption) hb9 l0 l0 l1 l1
      | exact keep4 (by assumption) hb10 l0 l0 l1 l1)
    (first
      | (go_at_call 24; refine (toGraph_any _ _ _ _ _ hn0 (HE0.out.up_ (B_8.out.drew))).mono ?_; rintro e w9 ⟨g9, rfl, hg9, hk9, hb9⟩)
      | (go_at_call 27; refine (eqGraph_any _ _ _ _ _ _ _ _ _ hlen0 hlen0 (EdgeS.of_blk (XE_8.out.drew.below hb9 l2) (Nat.lt_of_lt_of_le l2 hb9.size)) (EdgeS.of_blk hk9 hk9.lt)).mono ?_; rintro e w10 ⟨rfl, hb10⟩))
  have hbz10 : Below w8.heap.size w8 w10 := (Below.refl _ _).drew.trans (hb9.trans (hb10.mono hb9.size))
  have hq := eqG_self N0 es0
  rw [hq]
  clear hq hb9 hb10 hk9 hg9 l0 l1 l2
  have L_10 := Lib.hid (L_8.out.next hbz10)
  have B_10 := Lib.hid (belowMoves B_8.out (belowMv hbz10 _) (Nat.le_refl _) B_8.out.size)
  have XB_10 := Lib.hid (XB_8.out.moves (belowMv hbz10 _) (.inr (Nat.le_refl _)))
  have XE_10 := Lib.hid (XE_8.out.moves (belowMv hbz10 _) (.inr (Nat.le_refl _)))
  have X1_10 := Lib.hid (X1_8.out.moves (belowMv hbz10 _) (.inr (Nat.le_refl _)))
  have s10 := hbz10.size
  clear L_8 B_8 XB_8 XE_8 X1_8 k0 k1 d0 d1 hbz10
  have k0 := L_10.out.c0
  have k1 := L_10.out.c1
  have d0 : w10.cell? ⟨w5.heap.size, 0, none⟩ = some (.int .i64 N0) := by rw [XB_10.out.cell]; rfl
  have d1 : w10.cell? ⟨w5.heap.size, 1, none⟩ = some (.slice (some ⟨g5, 0, none⟩) es0.length es0.length) := by rw [XB_10.out.cell]; rfl
  go_wp2_with fail
  refine (toIntS_any _ _ _ _ hn1 (HS1.out.up_ B_10.out)).mono ?_
  rintro e w11 ⟨rfl, hk11, hb11⟩
  have L_11 := Lib.hid (L_10.out.next hb11)
  have B_11 := Lib.hid (belowMoves B_10.out (belowMv hb11 _) (Nat.le_refl _) B_10.out.size)
  have XB_11 := Lib.hid (XB_10.out.moves (belowMv hb11 _) (.inr (Nat.le_refl _)))
  have XE_11 := Lib.hid (XE_10.out.moves (belowMv hb11 _) (.inr (Nat.le_refl _)))
  have X1_11 := Lib.hid (X1_10.out.moves (belowMv hb11 _) (.inr (Nat.le_refl _)))
  have s11 := hb11.size
  clear L_10 B_10 XB_10 XE_10 X1_10 k0 k1 d0 d1 hb11
  have Y1_11 := Lib.hid hk11
  have lt11 := hk11.lt
  clear hk11
  have k0 := L_11.out.c0
  have k1 := L_11.out.c1
  have d0 : w11.cell? ⟨w5.heap.size, 0, none⟩ = some (.int .i64 N0) := by rw [XB_11.out.cell]; rfl
  have d1 : w11.cell? ⟨w5.heap.size, 1, none⟩ = some (.slice (some ⟨g5, 0, none⟩) es0.length es0.length) := by rw [XB_11.out.cell]; rfl
  go_wp2_with fail
  refine (eqIntS_any _ _ _ _ _ _ _ (by omega) (by omega) (IntS.of_blk X1_11.out X1_11.out.lt) (IntS.of_blk Y1_11.out Y1_11.out.lt)).mono ?_
  rintro e w12 ⟨rfl, hb12⟩
  have L_12 := Lib.hid (L_11.out.next hb12)
  have B_12 := Lib.hid (belowMoves B_11.out (belowMv hb12 _) (Nat.le_refl _) B_11.out.size)
  have XB_12 := Lib.hid (XB_11.out.moves (belowMv hb12 _) (.inr (Nat.le_refl _)))
  have XE_12 := Lib.hid (XE_11.out.moves (belowMv hb12 _) (.inr (Nat.le_refl _)))
  have X1_12 := Lib.hid (X1_11.out.moves (belowMv hb12 _) (.inr (Nat.le_refl _)))
  have s12 := hb12.size
  clear L_11 B_11 XB_11 XE_11 X1_11 Y1_11 k0 k1 d0 d1 hb12
  have k0 := L_12.out.c0
  have k1 := L_12.out.c1
  have d0 : w12.cell? ⟨w5.heap.size, 0, none⟩ = some (.int .i64 N0) := by rw [XB_12.out.cell]; rfl
  have d1 : w12.cell? ⟨w5.heap.size, 1, none⟩ = some (.slice (some ⟨g5, 0, none⟩) es0.length es0.length) := by rw [XB_12.out.cell]; rfl
  go_wp2
  go_ret
  exact ⟨rfl, B_12.out⟩
end Go.Proofs.Ytdpojcgeblbfeaa
