/- The walk of laws.FnExactInvariantFactors. -/
import Derived.Test.YtbmihbbpdmpmpaaInvJ
import Derived.Test.YtbmihbbpdmpmpaaBA
namespace Go.Proofs.Ytbmihbbpdmpmpaa
open Go.RowKit

set_option maxRecDepth 100000 in
set_option maxHeartbeats 2000000 in
theorem lawInvariantFactors (A0 : Option Addr) (c0 : Nat) (rs0 : List (List Int)) (w : World) (hg0 : IntssArg w A0 c0 rs0) :
    Calls Try.prog 7 #[.slice A0 rs0.length c0] w fun e w' => e = .returned (.bool true) ∧ Below w.heap.size w w' := by
  have HS0 := Lib.hid hg0.rows
  by_cases hbig : (1048576 : Int) < (rs0.length : Int) + lens rs0
  · have H := Lib.hid (szIntSS_big A0 c0 rs0 1048576 w hg0.lens hg0.len (by omega) (by omega) hbig HS0.out)
    clear hg0
    go_enter Try.func7, Try.ntmps7
    go_wp2_with (go_at_call 27; refine H.out.mono ?_; rintro e w' ⟨rfl, rfl⟩)
    go_ret
    exact ⟨rfl, Below.refl _ _⟩
  have hsm0 : (rs0.length : Int) + lens rs0 ≤ 1048576 := by omega
  have hn0 : rs0.length ≤ 1048576 := by omega
  have hln0 : lens rs0 ≤ 1048576 := by omega
  have HL0 := Lib.hid (show ∀ r ∈ rs0, r.length ≤ 1048576 from fun r hr => by
    obtain ⟨k, hk⟩ := List.mem_iff_getElem?.1 hr
    have := len_le_lens hk
    omega)
  have HQ0 := Lib.hid hg0.lens
  have hw0 := Lib.hid hg0.each
  clear hbig
  clear hg0
  have HSP := fun (A0 : Option Addr) (c0 : Nat) (w : World) (S0 : IntSS w w.heap.size A0 rs0) => Lib.hid (specInv A0 c0 rs0 w hn0 HL0.out S0)
  have HIM := fun (A0 : Option Addr) (w : World) (S0 : IntSS w w.heap.size A0 rs0) => Lib.hid (implInv A0 rs0.length rs0 w (Nat.le_refl _) hn0 HL0.out S0)
  obtain ⟨zs, hzs⟩ : ∃ zs, zs = invB rs0 := ⟨_, rfl⟩
  have hzn : zs.length ≤ 1048576 := by rw [hzs]; exact invB_len hn0
  rw [← hzs] at HSP HIM
  clear hzs
  have HZ0 := Lib.hid (szIntSS_ok A0 c0 rs0 1048576 w (by omega) hsm0 HS0.out)
  go_enter Try.func7, Try.ntmps7
  have B_0 := Lib.hid (Below.refl w.heap.size w)
  go_wp2_with fail
  refine HZ0.out.mono ?_
  rintro e w' ⟨rfl, rfl⟩
  go_wp2_with fail
  refine (toIntSS_any _ _ _ _ hn0 HL0.out (HS0.out.up_ B_0.out)).mono ?_
  rintro e w1 ⟨rfl, hk1, hb1⟩
  have lt1 : w.heap.size < w1.heap.size := by obtain ⟨_, _, h, _⟩ := hk1; exact h.lt
  have B_1 := Lib.hid (belowMoves B_0.out (belowMv hb1 _) (Nat.le_refl _) B_0.out.size)
  have s1 := hb1.size
  clear B_0 hb1
  have T0_1 := Lib.hid (OwnSS.of_rows hk1 lt1 (Nat.le_refl _))
  clear hk1
  go_wp2_with fail
  refine (HSP _ _ _ (T0_1.out.ints.wide (by omega))).out.mono ?_
  rintro e w2 ⟨AW, cW, rfl, ho2, hb2⟩
  have B_2 := Lib.hid (belowMoves B_1.out (belowMv hb2 _) (Nat.le_refl _) B_1.out.size)
  have s2 := hb2.size
  clear B_1 T0_1 hb2
  have W_2 := Lib.hid ho2.ints
  clear ho2
  go_wp2_with fail
  refine (toIntSS_any _ _ _ _ hn0 HL0.out (HS0.out.up_ B_2.out)).mono ?_
  rintro e w3 ⟨rfl, hk3, hb3⟩
  have lt3 : w2.heap.size < w3.heap.size := by obtain ⟨_, _, h, _⟩ := hk3; exact h.lt
  have B_3 := Lib.hid (belowMoves B_2.out (belowMv hb3 _) (Nat.le_refl _) B_2.out.size)
  have W_3 := Lib.hid (W_2.out.moves (belowMv hb3 _) (Nat.le_refl _) (by omega))
  have s3 := hb3.size
  clear B_2 W_2 hb3
  have X0_3 := Lib.hid (OwnSS.of_rows hk3 lt3 (Nat.le_refl _))
  clear hk3
  go_wp2_with fail
  refine (HIM _ _ (X0_3.out.ints.wide (by omega))).out.mono ?_
  rintro e w4 ⟨AG, cG, rfl, ho4, hb4⟩
  have B_4 := Lib.hid (belowMoves B_3.out (belowMv hb4 _) (Nat.le_refl _) B_3.out.size)
  have W_4 := Lib.hid (W_3.out.moves (belowMv hb4 _) (Nat.le_refl _) (by omega))
  have X0_4 := Lib.hid (X0_3.out.moves (belowMv hb4 _) (.inr (Nat.le_refl _)))
  have s4 := hb4.size
  clear B_3 W_3 X0_3 hb4
  have G_4 := Lib.hid ho4
  clear ho4
  go_wp2_with fail
  refine (eqIntS_any _ _ _ _ _ _ _ (by omega) (by omega) (G_4.out.ints.wide (by omega)) (W_4.out.wide (by omega))).mono ?_
  rintro e w5 ⟨rfl, hb5⟩
  have B_5 := Lib.hid (belowMoves B_4.out (belowMv hb5 _) (Nat.le_refl _) B_4.out.size)
  have W_5 := Lib.hid (W_4.out.moves (belowMv hb5 _) (Nat.le_refl _) (by omega))
  have X0_5 := Lib.hid (X0_4.out.moves (belowMv hb5 _) (.inr (Nat.le_refl _)))
  have G_5 := Lib.hid (G_4.out.moves (belowMv hb5 _) (Nat.le_refl _))
  have s5 := hb5.size
  clear B_4 W_4 X0_4 G_4 hb5
  go_wp2_with fail
  refine (toIntSS_any _ _ _ _ hn0 HL0.out (HS0.out.up_ B_5.out)).mono ?_
  rintro e w6 ⟨rfl, hk6, hb6⟩
  have lt6 : w5.heap.size < w6.heap.size := by obtain ⟨_, _, h, _⟩ := hk6; exact h.lt
  have B_6 := Lib.hid (belowMoves B_5.out (belowMv hb6 _) (Nat.le_refl _) B_5.out.size)
  have W_6 := Lib.hid (W_5.out.moves (belowMv hb6 _) (Nat.le_refl _) (by omega))
  have X0_6 := Lib.hid (X0_5.out.moves (belowMv hb6 _) (.inr (Nat.le_refl _)))
  have G_6 := Lib.hid (G_5.out.moves (belowMv hb6 _) (Nat.le_refl _))
  have s6 := hb6.size
  clear B_5 W_5 X0_5 G_5 hb6
  have Y0_6 := Lib.hid (OwnSS.of_rows hk6 lt6 (Nat.le_refl _))
  clear hk6
  go_wp2_with fail
  refine (eqIntSS_any _ _ _ _ _ _ _ (by omega) (by omega) HQ0.out HQ0.out (X0_6.out.ints.wide (by omega)) (Y0_6.out.ints.wide (by omega))).mono ?_
  rintro e w7 ⟨rfl, hb7⟩
  have B_7 := Lib.hid (belowMoves B_6.out (belowMv hb7 _) (Nat.le_refl _) B_6.out.size)
  have W_7 := Lib.hid (W_6.out.moves (belowMv hb7 _) (Nat.le_refl _) (by omega))
  have X0_7 := Lib.hid (X0_6.out.moves (belowMv hb7 _) (.inr (Nat.le_refl _)))
  have G_7 := Lib.hid (G_6.out.moves (belowMv hb7 _) (Nat.le_refl _))
  have s7 := hb7.size
  clear B_6 W_6 X0_6 G_6 Y0_6 hb7
  go_wp2_with fail
  refine (markSS_own _ _ _ _ rs0 _ _ hn0 hln0 (by omega) (by omega) X0_7.out).mono ?_
  rintro e w8 ⟨rfl, _, hm8⟩
  have B_8 := Lib.hid (belowMoves B_7.out hm8 (by omega) B_7.out.size)
  have W_8 := Lib.hid (W_7.out.moves hm8 (by omega) (by omega))
  have G_8 := Lib.hid (G_7.out.moves hm8 (by omega))
  have s8 := hm8.size
  clear B_7 W_7 X0_7 G_7 hm8
  have tk : decide ((1 : Int) + lens rs0 < 0) = false := decide_eq_false (by omega)
  go_wp2_with fail
  refine (eqIntS_any _ _ _ _ _ _ _ (by omega) (by omega) (G_8.out.ints.wide (by omega)) (W_8.out.wide (by omega))).mono ?_
  rintro e w9 ⟨rfl, hb9⟩
  have B_9 := Lib.hid (belowMoves B_8.out (belowMv hb9 _) (Nat.le_refl _) B_8.out.size)
  have W_9 := Lib.hid (W_8.out.moves (belowMv hb9 _) (Nat.le_refl _) (by omega))
  have G_9 := Lib.hid (G_8.out.moves (belowMv hb9 _) (Nat.le_refl _))
  have s9 := hb9.size
  clear B_8 W_8 G_8 hb9
  go_wp2_with fail
  refine (markIntS_any _ _ (w3.heap.size) zs _ _ hzn (by omega) (by omega) G_9.out).mono ?_
  rintro e w10 ⟨rfl, ho10, _, hbl10⟩
  have hm10 := belowMvB (hbl10 (by omega))
  clear hbl10
  have B_10 := Lib.hid (belowMoves B_9.out hm10 (by omega) B_9.out.size)
  have W_10 := Lib.hid (W_9.out.moves hm10 (by omega) (by omega))
  have s10 := hm10.size
  clear B_9 W_9 G_9 hm10
  have G_10 := Lib.hid ho10
  clear ho10
  go_wp2_with fail
  refine (heldIntS_any _ _ _ _ _ _ hzn (by omega) (by omega) G_10.out.ints).mono ?_
  rintro e w' ⟨rfl, rfl⟩
  have tq : ((1 : Int) + zs.length != 1 + zs.length) = false := by simp
  go_wp2_with fail
  refine (toIntSS_any _ _ _ _ hn0 HL0.out (HS0.out.up_ B_10.out)).mono ?_
  rintro e w11 ⟨rfl, hk11, hb11⟩
  have lt11 : w10.heap.size < w11.heap.size := by obtain ⟨_, _, h, _⟩ := hk11; exact h.lt
  have B_11 := Lib.hid (belowMoves B_10.out (belowMv hb11 _) (Nat.le_refl _) B_10.out.size)
  have W_11 := Lib.hid (W_10.out.moves (belowMv hb11 _) (Nat.le_refl _) (by omega))
  have G_11 := Lib.hid (G_10.out.moves (belowMv hb11 _) (Nat.le_refl _))
  have s11 := hb11.size
  clear B_10 W_10 G_10 hb11
  have V0_11 := Lib.hid (OwnSS.of_rows hk11 lt11 (Nat.le_refl _))
  clear hk11
  go_wp2_with fail
  refine (HIM _ _ (V0_11.out.ints.wide (by omega))).out.mono ?_
  rintro e w12 ⟨AH, cH, rfl, ho12, hb12⟩
  have B_12 := Lib.hid (belowMoves B_11.out (belowMv hb12 _) (Nat.le_refl _) B_11.out.size)
  have W_12 := Lib.hid (W_11.out.moves (belowMv hb12 _) (Nat.le_refl _) (by omega))
  have G_12 := Lib.hid (G_11.out.moves (belowMv hb12 _) (Nat.le_refl _))
  have s12 := hb12.size
  clear B_11 W_11 G_11 V0_11 hb12
  have H_12 := Lib.hid ho12.ints
  clear ho12
  go_wp2_with fail
  refine (eqIntS_any _ _ _ _ _ _ _ (by omega) (by omega) (H_12.out.wide (by omega)) (W_12.out.wide (by omega))).mono ?_
  rintro e w13 ⟨rfl, hb13⟩
  have B_13 := Lib.hid (belowMoves B_12.out (belowMv hb13 _) (Nat.le_refl _) B_12.out.size)
  have G_13 := Lib.hid (G_12.out.moves (belowMv hb13 _) (Nat.le_refl _))
  have s13 := hb13.size
  clear B_12 W_12 G_12 H_12 hb13
  go_wp2_with fail
  refine (heldIntS_any _ _ _ _ _ _ hzn (by omega) (by omega) G_13.out.ints).mono ?_
  rintro e w' ⟨rfl, rfl⟩
  go_wp2
  go_ret
  exact ⟨rfl, B_13.out⟩
end Go.Proofs.Ytbmihbbpdmpmpaa
