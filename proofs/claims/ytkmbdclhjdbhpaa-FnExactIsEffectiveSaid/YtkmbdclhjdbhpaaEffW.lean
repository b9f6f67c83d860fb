/- The walk of laws.FnExactIsEffective. -/
import Derived.Test.YtkmbdclhjdbhpaaEff
import Derived.Test.YtkmbdclhjdbhpaaKeep
import Derived.Test.YtkmbdclhjdbhpaaLawG
import Derived.Test.YtkmbdclhjdbhpaaOpenI
namespace Go.Proofs.Ytkmbdclhjdbhpaa
open Go.RowKit

set_option maxRecDepth 100000 in
set_option maxHeartbeats 2000000 in
theorem lawIsEffective (A0 : Option Addr) (c0 : Nat) (xs0 : List Int) (w : World) (hg0 : IntsArg w A0 c0 xs0) :
    Calls Try.prog 4 #[.slice A0 xs0.length c0] w fun e w' => e = .returned (.bool true) ∧ Below w.heap.size w w' := by
  have hlen0 := hg0.len
  by_cases hxb : 1048576 < xs0.length
  · clear hg0
    go_enter Try.func4, Try.ntmps4
    go_wp2
    go_ret
    exact ⟨rfl, Below.refl _ _⟩
  have hn0 : xs0.length ≤ 1048576 := by omega
  clear hxb
  have HS0 := Lib.hid hg0.ints
  have hw0 := Lib.hid hg0.each
  clear hg0
  have HSP := fun (A0 : Option Addr) (c0 : Nat) (w : World) (S0 : IntS w w.heap.size A0 xs0) => Lib.hid (specEff A0 c0 xs0 w hn0 S0)
  have HIM := fun (A0 : Option Addr) (c0 : Nat) (w : World) (S0 : IntS w w.heap.size A0 xs0) => Lib.hid (implEff A0 c0 xs0 w hn0 S0)
  obtain ⟨vv, hvv⟩ : ∃ v, v = effB xs0 := ⟨_, rfl⟩
  rw [← hvv] at HSP HIM
  clear hvv
  go_enter Try.func4, Try.ntmps4
  have B_0 := Lib.hid (Below.refl w.heap.size w)
  go_wp2_with fail
  refine (toIntS_any _ _ _ _ hn0 (HS0.out.up_ B_0.out)).mono ?_
  rintro e w1 ⟨rfl, hk1, hb1⟩
  have B_1 := Lib.hid (belowMoves B_0.out (belowMv hb1 _) (Nat.le_refl _) B_0.out.size)
  have s1 := hb1.size
  clear B_0 hb1
  have T0_1 := Lib.hid hk1
  have lt1 := hk1.lt
  clear hk1
  go_wp2_with fail
  refine (HSP _ _ _ (IntS.of_blk T0_1.out T0_1.out.lt)).out.mono ?_
  rintro e w2 ⟨rfl, hb2⟩
  have B_2 := Lib.hid (belowMoves B_1.out (belowMv hb2 _) (Nat.le_refl _) B_1.out.size)
  have s2 := hb2.size
  clear B_1 T0_1 hb2
  go_wp2_with fail
  refine (toIntS_any _ _ _ _ hn0 (HS0.out.up_ B_2.out)).mono ?_
  rintro e w3 ⟨rfl, hk3, hb3⟩
  have B_3 := Lib.hid (belowMoves B_2.out (belowMv hb3 _) (Nat.le_refl _) B_2.out.size)
  have s3 := hb3.size
  clear B_2 hb3
  have X0_3 := Lib.hid hk3
  have lt3 := hk3.lt
  clear hk3
  go_wp2_with fail
  refine (HIM _ _ _ (IntS.of_blk X0_3.out X0_3.out.lt)).out.mono ?_
  rintro e w4 ⟨rfl, hb4⟩
  have B_4 := Lib.hid (belowMoves B_3.out (belowMv hb4 _) (Nat.le_refl _) B_3.out.size)
  have X0_4 := Lib.hid (X0_3.out.moves (belowMv hb4 _) (.inr (Nat.le_refl _)))
  have s4 := hb4.size
  clear B_3 X0_3 hb4
  go_wp2_with fail
  refine (toIntS_any _ _ _ _ hn0 (HS0.out.up_ B_4.out)).mono ?_
  rintro e w5 ⟨rfl, hk5, hb5⟩
  have B_5 := Lib.hid (belowMoves B_4.out (belowMv hb5 _) (Nat.le_refl _) B_4.out.size)
  have X0_5 := Lib.hid (X0_4.out.moves (belowMv hb5 _) (.inr (Nat.le_refl _)))
  have s5 := hb5.size
  clear B_4 X0_4 hb5
  have Y0_5 := Lib.hid hk5
  have lt5 := hk5.lt
  clear hk5
  go_wp2_with fail
  refine (eqIntS_any _ _ _ _ _ _ _ (by omega) (by omega) (IntS.of_blk X0_5.out X0_5.out.lt) (IntS.of_blk Y0_5.out Y0_5.out.lt)).mono ?_
  rintro e w6 ⟨rfl, hb6⟩
  have B_6 := Lib.hid (belowMoves B_5.out (belowMv hb6 _) (Nat.le_refl _) B_5.out.size)
  have X0_6 := Lib.hid (X0_5.out.moves (belowMv hb6 _) (.inr (Nat.le_refl _)))
  have s6 := hb6.size
  clear B_5 X0_5 Y0_5 hb6
  go_wp2
  go_ret
  exact ⟨rfl, B_6.out⟩
end Go.Proofs.Ytkmbdclhjdbhpaa
