/- The walk of laws.FnExactSameDivisor. -/
import Derived.Test.YtkmbdclhjdbhpaaSameD
import Derived.Test.YtkmbdclhjdbhpaaKeep
import Derived.Test.YtkmbdclhjdbhpaaLawG
import Derived.Test.YtkmbdclhjdbhpaaOpenI
namespace Go.Proofs.Ytkmbdclhjdbhpaa
open Go.RowKit

set_option maxRecDepth 100000 in
set_option maxHeartbeats 2000000 in
theorem lawSameDivisor (A0 : Option Addr) (c0 : Nat) (xs0 : List Int) (A1 : Option Addr) (c1 : Nat) (xs1 : List Int) (w : World) (hg0 : IntsArg w A0 c0 xs0) (hg1 : IntsArg w A1 c1 xs1) :
    Calls Try.prog 7 #[.slice A0 xs0.length c0, .slice A1 xs1.length c1] w fun e w' => e = .returned (.bool true) ∧ Below w.heap.size w w' := by
  have hlen0 := hg0.len
  have hlen1 := hg1.len
  by_cases hxb : 1048576 < xs0.length
  · clear hg0 hg1
    go_enter Try.func7, Try.ntmps7
    go_wp2
    go_ret
    exact ⟨rfl, Below.refl _ _⟩
  have hn0 : xs0.length ≤ 1048576 := by omega
  clear hxb
  by_cases hxb : 1048576 < xs1.length
  · clear hg0 hg1
    go_enter Try.func7, Try.ntmps7
    go_wp2
    go_ret
    exact ⟨rfl, Below.refl _ _⟩
  have hn1 : xs1.length ≤ 1048576 := by omega
  clear hxb
  have HS0 := Lib.hid hg0.ints
  have hw0 := Lib.hid hg0.each
  have HS1 := Lib.hid hg1.ints
  have hw1 := Lib.hid hg1.each
  clear hg0 hg1
  have HSP := fun (A0 : Option Addr) (c0 : Nat) (A1 : Option Addr) (c1 : Nat) (w : World) (S0 : IntS w w.heap.size A0 xs0) (S1 : IntS w w.heap.size A1 xs1) => Lib.hid (specSameD A0 A1 c0 c1 xs0 xs1 w hn0 hn1 S0 S1)
  have HIM := fun (A0 : Option Addr) (c0 : Nat) (A1 : Option Addr) (c1 : Nat) (w : World) (S0 : IntS w w.heap.size A0 xs0) (S1 : IntS w w.heap.size A1 xs1) => Lib.hid (implSameD A0 A1 c0 c1 xs0 xs1 w hn0 hn1 S0 S1)
  obtain ⟨vv, hvv⟩ : ∃ v, v = decide (xs0 = xs1) := ⟨_, rfl⟩
  rw [← hvv] at HSP HIM
  clear hvv
  go_enter Try.func7, Try.ntmps7
  have B_0 := Lib.hid (Below.refl w.heap.size w)
  go_wp2_with fail
  refine (toIntS_any _ _ _ _ hn0 (HS0.out.up_ B_0.out)).mono ?_
  rintro e w1 ⟨rfl, hk1, hb1⟩
  have B_1 := Lib.hid (belowMoves B_0.out (belowMv hb1 _) (Nat.le_refl _) B_0.out.size)
  have s1 := hb1.size
  clear B_0 hb1
  have T0_1 := Lib.hid hk1
  have lt1 := hk1.lt
  clear hk1
  go_wp2_with fail
  refine (toIntS_any _ _ _ _ hn1 (HS1.out.up_ B_1.out)).mono ?_
  rintro e w2 ⟨rfl, hk2, hb2⟩
  have B_2 := Lib.hid (belowMoves B_1.out (belowMv hb2 _) (Nat.le_refl _) B_1.out.size)
  have T0_2 := Lib.hid (T0_1.out.moves (belowMv hb2 _) (.inr (Nat.le_refl _)))
  have s2 := hb2.size
  clear B_1 T0_1 hb2
  have T1_2 := Lib.hid hk2
  have lt2 := hk2.lt
  clear hk2
  go_wp2_with fail
  refine (HSP _ _ _ _ _ (IntS.of_blk T0_2.out T0_2.out.lt) (IntS.of_blk T1_2.out T1_2.out.lt)).out.mono ?_
  rintro e w3 ⟨rfl, hb3⟩
  have B_3 := Lib.hid (belowMoves B_2.out (belowMv hb3 _) (Nat.le_refl _) B_2.out.size)
  have s3 := hb3.size
  clear B_2 T0_2 T1_2 hb3
  go_wp2_with fail
  refine (toIntS_any _ _ _ _ hn0 (HS0.out.up_ B_3.out)).mono ?_
  rintro e w4 ⟨rfl, hk4, hb4⟩
  have B_4 := Lib.hid (belowMoves B_3.out (belowMv hb4 _) (Nat.le_refl _) B_3.out.size)
  have s4 := hb4.size
  clear B_3 hb4
  have X0_4 := Lib.hid hk4
  have lt4 := hk4.lt
  clear hk4
  go_wp2_with fail
  refine (toIntS_any _ _ _ _ hn1 (HS1.out.up_ B_4.out)).mono ?_
  rintro e w5 ⟨rfl, hk5, hb5⟩
  have B_5 := Lib.hid (belowMoves B_4.out (belowMv hb5 _) (Nat.le_refl _) B_4.out.size)
  have X0_5 := Lib.hid (X0_4.out.moves (belowMv hb5 _) (.inr (Nat.le_refl _)))
  have s5 := hb5.size
  clear B_4 X0_4 hb5
  have X1_5 := Lib.hid hk5
  have lt5 := hk5.lt
  clear hk5
  go_wp2_with fail
  refine (HIM _ _ _ _ _ (IntS.of_blk X0_5.out X0_5.out.lt) (IntS.of_blk X1_5.out X1_5.out.lt)).out.mono ?_
  rintro e w6 ⟨rfl, hb6⟩
  have B_6 := Lib.hid (belowMoves B_5.out (belowMv hb6 _) (Nat.le_refl _) B_5.out.size)
  have X0_6 := Lib.hid (X0_5.out.moves (belowMv hb6 _) (.inr (Nat.le_refl _)))
  have X1_6 := Lib.hid (X1_5.out.moves (belowMv hb6 _) (.inr (Nat.le_refl _)))
  have s6 := hb6.size
  clear B_5 X0_5 X1_5 hb6
  go_wp2_with fail
  refine (toIntS_any _ _ _ _ hn0 (HS0.out.up_ B_6.out)).mono ?_
  rintro e w7 ⟨rfl, hk7, hb7⟩
  have B_7 := Lib.hid (belowMoves B_6.out (belowMv hb7 _) (Nat.le_refl _) B_6.out.size)
  have X0_7 := Lib.hid (X0_6.out.moves (belowMv hb7 _) (.inr (Nat.le_refl _)))
  have X1_7 := Lib.hid (X1_6.out.moves (belowMv hb7 _) (.inr (Nat.le_refl _)))
  have s7 := hb7.size
  clear B_6 X0_6 X1_6 hb7
  have Y0_7 := Lib.hid hk7
  have lt7 := hk7.lt
  clear hk7
  go_wp2_with fail
  refine (eqIntS_any _ _ _ _ _ _ _ (by omega) (by omega) (IntS.of_blk X0_7.out X0_7.out.lt) (IntS.of_blk Y0_7.out Y0_7.out.lt)).mono ?_
  rintro e w8 ⟨rfl, hb8⟩
  have B_8 := Lib.hid (belowMoves B_7.out (belowMv hb8 _) (Nat.le_refl _) B_7.out.size)
  have X0_8 := Lib.hid (X0_7.out.moves (belowMv hb8 _) (.inr (Nat.le_refl _)))
  have X1_8 := Lib.hid (X1_7.out.moves (belowMv hb8 _) (.inr (Nat.le_refl _)))
  have s8 := hb8.size
  clear B_7 X0_7 X1_7 Y0_7 hb8
  go_wp2_with fail
  refine (toIntS_any _ _ _ _ hn1 (HS1.out.up_ B_8.out)).mono ?_
  rintro e w9 ⟨rfl, hk9, hb9⟩
  have B_9 := Lib.hid (belowMoves B_8.out (belowMv hb9 _) (Nat.le_refl _) B_8.out.size)
  have X0_9 := Lib.hid (X0_8.out.moves (belowMv hb9 _) (.inr (Nat.le_refl _)))
  have X1_9 := Lib.hid (X1_8.out.moves (belowMv hb9 _) (.inr (Nat.le_refl _)))
  have s9 := hb9.size
  clear B_8 X0_8 X1_8 hb9
  have Y1_9 := Lib.hid hk9
  have lt9 := hk9.lt
  clear hk9
  go_wp2_with fail
  refine (eqIntS_any _ _ _ _ _ _ _ (by omega) (by omega) (IntS.of_blk X1_9.out X1_9.out.lt) (IntS.of_blk Y1_9.out Y1_9.out.lt)).mono ?_
  rintro e w10 ⟨rfl, hb10⟩
  have B_10 := Lib.hid (belowMoves B_9.out (belowMv hb10 _) (Nat.le_refl _) B_9.out.size)
  have X0_10 := Lib.hid (X0_9.out.moves (belowMv hb10 _) (.inr (Nat.le_refl _)))
  have X1_10 := Lib.hid (X1_9.out.moves (belowMv hb10 _) (.inr (Nat.le_refl _)))
  have s10 := hb10.size
  clear B_9 X0_9 X1_9 Y1_9 hb10
  go_wp2
  go_ret
  exact ⟨rfl, B_10.out⟩
end Go.Proofs.Ytkmbdclhjdbhpaa
