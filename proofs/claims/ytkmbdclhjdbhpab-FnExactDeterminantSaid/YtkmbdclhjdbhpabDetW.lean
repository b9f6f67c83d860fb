/- The walk of laws.FnExactDeterminant. -/
import Derived.Test.YtkmbdclhjdbhpabDetL
import Derived.Test.YtkmbdclhjdbhpabKeep
import Derived.Test.YtkmbdclhjdbhpabOwnSS
import Derived.Test.YtkmbdclhjdbhpabLawG
import Derived.Test.YtkmbdclhjdbhpabOpenI
namespace Go.Proofs.Ytkmbdclhjdbhpab
open Go.RowKit

set_option maxRecDepth 100000 in
set_option maxHeartbeats 2000000 in
theorem lawDeterminant (A0 : Option Addr) (c0 : Nat) (rs0 : List (List Int)) (w : World) (hg0 : IntssArg w A0 c0 rs0) :
    Calls Try.prog 7 #[.slice A0 rs0.length c0] w fun e w' => e = .returned (.bool true) ∧ Below w.heap.size w w' := by
  have HS0 := Lib.hid hg0.rows
  by_cases hbig : (1048576 : Int) < (rs0.length : Int) + lens rs0
  · have H := Lib.hid (szIntSS_big A0 c0 rs0 1048576 w hg0.lens hg0.len (by omega) (by omega) hbig HS0.out)
    clear hg0
    go_enter Try.func7, Try.ntmps7
    go_wp2_with (go_at_call 14; refine H.out.mono ?_; rintro e w' ⟨rfl, rfl⟩)
    go_ret
    exact ⟨rfl, Below.refl _ _⟩
  have hsm0 : (rs0.length : Int) + lens rs0 ≤ 1048576 := by omega
  have hn0 : rs0.length ≤ 1048576 := by omega
  have hln0 : lens rs0 ≤ 1048576 := by omega
  have HL0 := Lib.hid (show ∀ r ∈ rs0, r.length ≤ 1048576 from fun r hr => by
    obtain ⟨k, hk⟩ := List.mem_iff_getElem?.1 hr
    have := len_le_lens hk
    omega)
  have HQ0 := Lib.hid hg0.lens
  have hw0 := Lib.hid hg0.each
  clear hbig
  clear hg0
  have HSP := fun (A0 : Option Addr) (c0 : Nat) (w : World) (S0 : IntSS w w.heap.size A0 rs0) => Lib.hid (specDet A0 c0 rs0 w hn0 HL0.out S0)
  have HIM := fun (A0 : Option Addr) (c0 : Nat) (w : World) (S0 : IntSS w w.heap.size A0 rs0) => Lib.hid (implDet A0 c0 rs0 w hn0 HL0.out S0)
  obtain ⟨vv, hvv⟩ : ∃ v, v = detB rs0 := ⟨_, rfl⟩
  rw [← hvv] at HSP HIM
  clear hvv
  have HZ0 := Lib.hid (szIntSS_ok A0 c0 rs0 1048576 w (by omega) hsm0 HS0.out)
  go_enter Try.func7, Try.ntmps7
  have B_0 := Lib.hid (Below.refl w.heap.size w)
  go_wp2_with fail
  refine HZ0.out.mono ?_
  rintro e w' ⟨rfl, rfl⟩
  go_wp2_with fail
  refine (toIntSS_any _ _ _ _ hn0 HL0.out (HS0.out.up_ B_0.out)).mono ?_
  rintro e w1 ⟨rfl, hk1, hb1⟩
  have lt1 : w.heap.size < w1.heap.size := by obtain ⟨_, _, h, _⟩ := hk1; exact h.lt
  have B_1 := Lib.hid (belowMoves B_0.out (belowMv hb1 _) (Nat.le_refl _) B_0.out.size)
  have s1 := hb1.size
  clear B_0 hb1
  have T0_1 := Lib.hid (OwnSS.of_rows hk1 lt1 (Nat.le_refl _))
  clear hk1
  go_wp2_with fail
  refine (HSP _ _ _ (T0_1.out.ints.wide (by omega))).out.mono ?_
  rintro e w2 ⟨rfl, hb2⟩
  have B_2 := Lib.hid (belowMoves B_1.out (belowMv hb2 _) (Nat.le_refl _) B_1.out.size)
  have s2 := hb2.size
  clear B_1 T0_1 hb2
  go_wp2_with fail
  refine (toIntSS_any _ _ _ _ hn0 HL0.out (HS0.out.up_ B_2.out)).mono ?_
  rintro e w3 ⟨rfl, hk3, hb3⟩
  have lt3 : w2.heap.size < w3.heap.size := by obtain ⟨_, _, h, _⟩ := hk3; exact h.lt
  have B_3 := Lib.hid (belowMoves B_2.out (belowMv hb3 _) (Nat.le_refl _) B_2.out.size)
  have s3 := hb3.size
  clear B_2 hb3
  have X0_3 := Lib.hid (OwnSS.of_rows hk3 lt3 (Nat.le_refl _))
  clear hk3
  go_wp2_with fail
  refine (HIM _ _ _ (X0_3.out.ints.wide (by omega))).out.mono ?_
  rintro e w4 ⟨rfl, hb4⟩
  have B_4 := Lib.hid (belowMoves B_3.out (belowMv hb4 _) (Nat.le_refl _) B_3.out.size)
  have X0_4 := Lib.hid (X0_3.out.moves (belowMv hb4 _) (.inr (Nat.le_refl _)))
  have s4 := hb4.size
  clear B_3 X0_3 hb4
  go_wp2_with fail
  refine (toIntSS_any _ _ _ _ hn0 HL0.out (HS0.out.up_ B_4.out)).mono ?_
  rintro e w5 ⟨rfl, hk5, hb5⟩
  have lt5 : w4.heap.size < w5.heap.size := by obtain ⟨_, _, h, _⟩ := hk5; exact h.lt
  have B_5 := Lib.hid (belowMoves B_4.out (belowMv hb5 _) (Nat.le_refl _) B_4.out.size)
  have X0_5 := Lib.hid (X0_4.out.moves (belowMv hb5 _) (.inr (Nat.le_refl _)))
  have s5 := hb5.size
  clear B_4 X0_4 hb5
  have Y0_5 := Lib.hid (OwnSS.of_rows hk5 lt5 (Nat.le_refl _))
  clear hk5
  go_wp2_with fail
  refine (eqIntSS_any _ _ _ _ _ _ _ (by omega) (by omega) HQ0.out HQ0.out (X0_5.out.ints.wide (by omega)) (Y0_5.out.ints.wide (by omega))).mono ?_
  rintro e w6 ⟨rfl, hb6⟩
  have B_6 := Lib.hid (belowMoves B_5.out (belowMv hb6 _) (Nat.le_refl _) B_5.out.size)
  have X0_6 := Lib.hid (X0_5.out.moves (belowMv hb6 _) (.inr (Nat.le_refl _)))
  have s6 := hb6.size
  clear B_5 X0_5 Y0_5 hb6
  go_wp2
  go_ret
  exact ⟨rfl, B_6.out⟩
end Go.Proofs.Ytkmbdclhjdbhpab
