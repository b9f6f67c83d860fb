/- The walk of laws.FnExactAddDivisors. -/
import Derived.Test.YtkmbdclhjdbhpaaAddD
import Derived.Test.YtkmbdclhjdbhpaaKeep
import Derived.Test.YtkmbdclhjdbhpaaLawG
import Derived.Test.YtkmbdclhjdbhpaaOpenI
namespace Go.Proofs.Ytkmbdclhjdbhpaa
open Go.RowKit

set_option maxRecDepth 100000 in
set_option maxHeartbeats 2000000 in
theorem lawAddDivisors (A0 : Option Addr) (c0 : Nat) (xs0 : List Int) (A1 : Option Addr) (c1 : Nat) (xs1 : List Int) (w : World) (hg0 : IntsArg w A0 c0 xs0) (hg1 : IntsArg w A1 c1 xs1) :
    Calls Try.prog 5 #[.slice A0 xs0.length c0, .slice A1 xs1.length c1] w fun e w' => e = .returned (.bool true) ∧ Below w.heap.size w w' := by
  have hlen0 := hg0.len
  have hlen1 := hg1.len
  by_cases hxb : 1048576 < xs0.length
  · clear hg0 hg1
    go_enter Try.func5, Try.ntmps5
    go_wp2
    go_ret
    exact ⟨rfl, Below.refl _ _⟩
  have hn0 : xs0.length ≤ 1048576 := by omega
  clear hxb
  by_cases hxb : 1048576 < xs1.length
  · clear hg0 hg1
    go_enter Try.func5, Try.ntmps5
    go_wp2
    go_ret
    exact ⟨rfl, Below.refl _ _⟩
  have hn1 : xs1.length ≤ 1048576 := by omega
  clear hxb
  have HS0 := Lib.hid hg0.ints
  have hw0 := Lib.hid hg0.each
  have HS1 := Lib.hid hg1.ints
  have hw1 := Lib.hid hg1.each
  clear hg0 hg1
  have HSP := fun (A0 : Option Addr) (c0 : Nat) (A1 : Option Addr) (c1 : Nat) (w : World) (S0 : IntS w w.heap.size A0 xs0) (S1 : IntS w w.heap.size A1 xs1) => Lib.hid (specAddD A0 A1 c0 c1 xs0 xs1 w hn0 hn1 S0 S1)
  have HIM := fun (A0 : Option Addr) (c0 : Nat) (A1 : Option Addr) (c1 : Nat) (w : World) (S0 : IntS w w.heap.size A0 xs0) (S1 : IntS w w.heap.size A1 xs1) => Lib.hid (implAddD A0 A1 c0 c1 xs0 xs1 w hn0 hn1 S0 S1)
  obtain ⟨zs, hzs⟩ : ∃ zs, zs = addB xs0 xs1 := ⟨_, rfl⟩
  have hzn : zs.length ≤ 1048576 := by rw [hzs]; exact addB_len hn0
  rw [← hzs] at HSP HIM
  clear hzs
  obtain ⟨vb, hvb⟩ : ∃ v, v = sameLen xs0 xs1 := ⟨_, rfl⟩
  rw [← hvb] at HSP HIM
  clear hvb
  go_enter Try.func5, Try.ntmps5
  have B_0 := Lib.hid (Below.refl w.heap.size w)
  go_wp2_with fail
  refine (toIntS_any _ _ _ _ hn0 (HS0.out.up_ B_0.out)).mono ?_
  rintro e w1 ⟨rfl, hk1, hb1⟩
  have B_1 := Lib.hid (belowMoves B_0.out (belowMv hb1 _) (Nat.le_refl _) B_0.out.size)
  have s1 := hb1.size
  clear B_0 hb1
  have T0_1 := Lib.hid hk1
  have lt1 := hk1.lt
  clear hk1
  go_wp2_with fail
  refine (toIntS_any _ _ _ _ hn1 (HS1.out.up_ B_1.out)).mono ?_
  rintro e w2 ⟨rfl, hk2, hb2⟩
  have B_2 := Lib.hid (belowMoves B_1.out (belowMv hb2 _) (Nat.le_refl _) B_1.out.size)
  have T0_2 := Lib.hid (T0_1.out.moves (belowMv hb2 _) (.inr (Nat.le_refl _)))
  have s2 := hb2.size
  clear B_1 T0_1 hb2
  have T1_2 := Lib.hid hk2
  have lt2 := hk2.lt
  clear hk2
  go_wp2_with fail
  refine (HSP _ _ _ _ _ (IntS.of_blk T0_2.out T0_2.out.lt) (IntS.of_blk T1_2.out T1_2.out.lt)).out.mono ?_
  rintro e w3 ⟨AW, cW, rfl, ho3, hb3⟩
  have B_3 := Lib.hid (belowMoves B_2.out (belowMv hb3 _) (Nat.le_refl _) B_2.out.size)
  have s3 := hb3.size
  clear B_2 T0_2 T1_2 hb3
  have W_3 := Lib.hid ho3.ints
  clear ho3
  go_wp2_with fail
  refine (toIntS_any _ _ _ _ hn0 (HS0.out.up_ B_3.out)).mono ?_
  rintro e w4 ⟨rfl, hk4, hb4⟩
  have B_4 := Lib.hid (belowMoves B_3.out (belowMv hb4 _) (Nat.le_refl _) B_3.out.size)
  have W_4 := Lib.hid (W_3.out.moves (belowMv hb4 _) (Nat.le_refl _) (by omega))
  have s4 := hb4.size
  clear B_3 W_3 hb4
  have X0_4 := Lib.hid hk4
  have lt4 := hk4.lt
  clear hk4
  go_wp2_with fail
  refine (toIntS_any _ _ _ _ hn1 (HS1.out.up_ B_4.out)).mono ?_
  rintro e w5 ⟨rfl, hk5, hb5⟩
  have B_5 := Lib.hid (belowMoves B_4.out (belowMv hb5 _) (Nat.le_refl _) B_4.out.size)
  have W_5 := Lib.hid (W_4.out.moves (belowMv hb5 _) (Nat.le_refl _) (by omega))
  have X0_5 := Lib.hid (X0_4.out.moves (belowMv hb5 _) (.inr (Nat.le_refl _)))
  have s5 := hb5.size
  clear B_4 W_4 X0_4 hb5
  have X1_5 := Lib.hid hk5
  have lt5 := hk5.lt
  clear hk5
  go_wp2_with fail
  refine (HIM _ _ _ _ _ (IntS.of_blk X0_5.out X0_5.out.lt) (IntS.of_blk X1_5.out X1_5.out.lt)).out.mono ?_
  rintro e w6 ⟨AG, cG, rfl, ho6, hb6⟩
  have B_6 := Lib.hid (belowMoves B_5.out (belowMv hb6 _) (Nat.le_refl _) B_5.out.size)
  have W_6 := Lib.hid (W_5.out.moves (belowMv hb6 _) (Nat.le_refl _) (by omega))
  have X0_6 := Lib.hid (X0_5.out.moves (belowMv hb6 _) (.inr (Nat.le_refl _)))
  have X1_6 := Lib.hid (X1_5.out.moves (belowMv hb6 _) (.inr (Nat.le_refl _)))
  have s6 := hb6.size
  clear B_5 W_5 X0_5 X1_5 hb6
  have G_6 := Lib.hid ho6
  clear ho6
  go_wp2_with fail
  refine (eqIntS_any _ _ _ _ _ _ _ (by omega) (by omega) (G_6.out.ints.wide (by omega)) (W_6.out.wide (by omega))).mono ?_
  rintro e w7 ⟨rfl, hb7⟩
  have B_7 := Lib.hid (belowMoves B_6.out (belowMv hb7 _) (Nat.le_refl _) B_6.out.size)
  have W_7 := Lib.hid (W_6.out.moves (belowMv hb7 _) (Nat.le_refl _) (by omega))
  have X0_7 := Lib.hid (X0_6.out.moves (belowMv hb7 _) (.inr (Nat.le_refl _)))
  have X1_7 := Lib.hid (X1_6.out.moves (belowMv hb7 _) (.inr (Nat.le_refl _)))
  have G_7 := Lib.hid (G_6.out.moves (belowMv hb7 _) (Nat.le_refl _))
  have s7 := hb7.size
  clear B_6 W_6 X0_6 X1_6 G_6 hb7
  go_wp2_with fail
  refine (toIntS_any _ _ _ _ hn0 (HS0.out.up_ B_7.out)).mono ?_
  rintro e w8 ⟨rfl, hk8, hb8⟩
  have B_8 := Lib.hid (belowMoves B_7.out (belowMv hb8 _) (Nat.le_refl _) B_7.out.size)
  have W_8 := Lib.hid (W_7.out.moves (belowMv hb8 _) (Nat.le_refl _) (by omega))
  have X0_8 := Lib.hid (X0_7.out.moves (belowMv hb8 _) (.inr (Nat.le_refl _)))
  have X1_8 := Lib.hid (X1_7.out.moves (belowMv hb8 _) (.inr (Nat.le_refl _)))
  have G_8 := Lib.hid (G_7.out.moves (belowMv hb8 _) (Nat.le_refl _))
  have s8 := hb8.size
  clear B_7 W_7 X0_7 X1_7 G_7 hb8
  have Y0_8 := Lib.hid hk8
  have lt8 := hk8.lt
  clear hk8
  go_wp2_with fail
  refine (eqIntS_any _ _ _ _ _ _ _ (by omega) (by omega) (IntS.of_blk X0_8.out X0_8.out.lt) (IntS.of_blk Y0_8.out Y0_8.out.lt)).mono ?_
  rintro e w9 ⟨rfl, hb9⟩
  have B_9 := Lib.hid (belowMoves B_8.out (belowMv hb9 _) (Nat.le_refl _) B_8.out.size)
  have W_9 := Lib.hid (W_8.out.moves (belowMv hb9 _) (Nat.le_refl _) (by omega))
  have X0_9 := Lib.hid (X0_8.out.moves (belowMv hb9 _) (.inr (Nat.le_refl _)))
  have X1_9 := Lib.hid (X1_8.out.moves (belowMv hb9 _) (.inr (Nat.le_refl _)))
  have G_9 := Lib.hid (G_8.out.moves (belowMv hb9 _) (Nat.le_refl _))
  have s9 := hb9.size
  clear B_8 W_8 X0_8 X1_8 G_8 Y0_8 hb9
  go_wp2_with fail
  refine (toIntS_any _ _ _ _ hn1 (HS1.out.up_ B_9.out)).mono ?_
  rintro e w10 ⟨rfl, hk10, hb10⟩
  have B_10 := Lib.hid (belowMoves B_9.out (belowMv hb10 _) (Nat.le_refl _) B_9.out.size)
  have W_10 := Lib.hid (W_9.out.moves (belowMv hb10 _) (Nat.le_refl _) (by omega))
  have X0_10 := Lib.hid (X0_9.out.moves (belowMv hb10 _) (.inr (Nat.le_refl _)))
  have X1_10 := Lib.hid (X1_9.out.moves (belowMv hb10 _) (.inr (Nat.le_refl _)))
  have G_10 := Lib.hid (G_9.out.moves (belowMv hb10 _) (Nat.le_refl _))
  have s10 := hb10.size
  clear B_9 W_9 X0_9 X1_9 G_9 hb10
  have Y1_10 := Lib.hid hk10
  have lt10 := hk10.lt
  clear hk10
  go_wp2_with fail
  refine (eqIntS_any _ _ _ _ _ _ _ (by omega) (by omega) (IntS.of_blk X1_10.out X1_10.out.lt) (IntS.of_blk Y1_10.out Y1_10.out.lt)).mono ?_
  rintro e w11 ⟨rfl, hb11⟩
  have B_11 := Lib.hid (belowMoves B_10.out (belowMv hb11 _) (Nat.le_refl _) B_10.out.size)
  have W_11 := Lib.hid (W_10.out.moves (belowMv hb11 _) (Nat.le_refl _) (by omega))
  have X0_11 := Lib.hid (X0_10.out.moves (belowMv hb11 _) (.inr (Nat.le_refl _)))
  have X1_11 := Lib.hid (X1_10.out.moves (belowMv hb11 _) (.inr (Nat.le_refl _)))
  have G_11 := Lib.hid (G_10.out.moves (belowMv hb11 _) (Nat.le_refl _))
  have s11 := hb11.size
  clear B_10 W_10 X0_10 X1_10 G_10 Y1_10 hb11
  go_wp2_with fail
  refine (markIntS_any _ _ (w3.heap.size) xs0 _ _ hn0 (by omega) (by omega) (OwnI.of_blk X0_11.out (Nat.le_refl _))).mono ?_
  rintro e w12 ⟨rfl, _, ht12, _⟩
  have hm12 := ht12.mv
  clear ht12
  have B_12 := Lib.hid (belowMoves B_11.out hm12 (by omega) B_11.out.size)
  have W_12 := Lib.hid (W_11.out.moves hm12 (by omega) (by omega))
  have X1_12 := Lib.hid (X1_11.out.moves hm12 (by omega))
  have G_12 := Lib.hid (G_11.out.moves hm12 (by omega))
  have s12 := hm12.size
  clear B_11 W_11 X0_11 X1_11 G_11 hm12
  go_wp2_with fail
  refine (markIntS_any _ _ (w4.heap.size) xs1 _ _ hn1 (by omega) (by omega) (OwnI.of_blk X1_12.out (Nat.le_refl _))).mono ?_
  rintro e w13 ⟨rfl, _, ht13, _⟩
  have hm13 := ht13.mv
  clear ht13
  have B_13 := Lib.hid (belowMoves B_12.out hm13 (by omega) B_12.out.size)
  have W_13 := Lib.hid (W_12.out.moves hm13 (by omega) (by omega))
  have G_13 := Lib.hid (G_12.out.moves hm13 (by omega))
  have s13 := hm13.size
  clear B_12 W_12 X1_12 G_12 hm13
  have tk : decide ((1 : Int) + xs0.length + xs1.length < 0) = false := decide_eq_false (by omega)
  go_wp2_with fail
  refine (eqIntS_any _ _ _ _ _ _ _ (by omega) (by omega) (G_13.out.ints.wide (by omega)) (W_13.out.wide (by omega))).mono ?_
  rintro e w14 ⟨rfl, hb14⟩
  have B_14 := Lib.hid (belowMoves B_13.out (belowMv hb14 _) (Nat.le_refl _) B_13.out.size)
  have W_14 := Lib.hid (W_13.out.moves (belowMv hb14 _) (Nat.le_refl _) (by omega))
  have G_14 := Lib.hid (G_13.out.moves (belowMv hb14 _) (Nat.le_refl _))
  have s14 := hb14.size
  clear B_13 W_13 G_13 hb14
  go_wp2_with fail
  refine (markIntS_any _ _ (w5.heap.size) zs _ _ hzn (by omega) (by omega) G_14.out).mono ?_
  rintro e w15 ⟨rfl, ho15, _, hbl15⟩
  have hm15 := belowMvB (hbl15 (by omega))
  clear hbl15
  have B_15 := Lib.hid (belowMoves B_14.out hm15 (by omega) B_14.out.size)
  have W_15 := Lib.hid (W_14.out.moves hm15 (by omega) (by omega))
  have s15 := hm15.size
  clear B_14 W_14 G_14 hm15
  have G_15 := Lib.hid ho15
  clear ho15
  go_wp2_with fail
  refine (heldIntS_any _ _ _ _ _ _ hzn (by omega) (by omega) G_15.out.ints).mono ?_
  rintro e w' ⟨rfl, rfl⟩
  have tq : ((1 : Int) + zs.length != 1 + zs.length) = false := by simp
  go_wp2_with fail
  refine (toIntS_any _ _ _ _ hn0 (HS0.out.up_ B_15.out)).mono ?_
  rintro e w16 ⟨rfl, hk16, hb16⟩
  have B_16 := Lib.hid (belowMoves B_15.out (belowMv hb16 _) (Nat.le_refl _) B_15.out.size)
  have W_16 := Lib.hid (W_15.out.moves (belowMv hb16 _) (Nat.le_refl _) (by omega))
  have G_16 := Lib.hid (G_15.out.moves (belowMv hb16 _) (Nat.le_refl _))
  have s16 := hb16.size
  clear B_15 W_15 G_15 hb16
  have V0_16 := Lib.hid hk16
  have lt16 := hk16.lt
  clear hk16
  go_wp2_with fail
  refine (toIntS_any _ _ _ _ hn1 (HS1.out.up_ B_16.out)).mono ?_
  rintro e w17 ⟨rfl, hk17, hb17⟩
  have B_17 := Lib.hid (belowMoves B_16.out (belowMv hb17 _) (Nat.le_refl _) B_16.out.size)
  have W_17 := Lib.hid (W_16.out.moves (belowMv hb17 _) (Nat.le_refl _) (by omega))
  have G_17 := Lib.hid (G_16.out.moves (belowMv hb17 _) (Nat.le_refl _))
  have V0_17 := Lib.hid (V0_16.out.moves (belowMv hb17 _) (.inr (Nat.le_refl _)))
  have s17 := hb17.size
  clear B_16 W_16 G_16 V0_16 hb17
  have V1_17 := Lib.hid hk17
  have lt17 := hk17.lt
  clear hk17
  go_wp2_with fail
  refine (HIM _ _ _ _ _ (IntS.of_blk V0_17.out V0_17.out.lt) (IntS.of_blk V1_17.out V1_17.out.lt)).out.mono ?_
  rintro e w18 ⟨AH, cH, rfl, ho18, hb18⟩
  have B_18 := Lib.hid (belowMoves B_17.out (belowMv hb18 _) (Nat.le_refl _) B_17.out.size)
  have W_18 := Lib.hid (W_17.out.moves (belowMv hb18 _) (Nat.le_refl _) (by omega))
  have G_18 := Lib.hid (G_17.out.moves (belowMv hb18 _) (Nat.le_refl _))
  have s18 := hb18.size
  clear B_17 W_17 G_17 V0_17 V1_17 hb18
  have H_18 := Lib.hid ho18.ints
  clear ho18
  go_wp2_with fail
  refine (eqIntS_any _ _ _ _ _ _ _ (by omega) (by omega) (H_18.out.wide (by omega)) (W_18.out.wide (by omega))).mono ?_
  rintro e w19 ⟨rfl, hb19⟩
  have B_19 := Lib.hid (belowMoves B_18.out (belowMv hb19 _) (Nat.le_refl _) B_18.out.size)
  have G_19 := Lib.hid (G_18.out.moves (belowMv hb19 _) (Nat.le_refl _))
  have s19 := hb19.size
  clear B_18 W_18 G_18 H_18 hb19
  go_wp2_with fail
  refine (heldIntS_any _ _ _ _ _ _ hzn (by omega) (by omega) G_19.out.ints).mono ?_
  rintro e w' ⟨rfl, rfl⟩
  go_wp2
  go_ret
  exact ⟨rfl, B_19.out⟩
end Go.Proofs.Ytkmbdclhjdbhpaa
