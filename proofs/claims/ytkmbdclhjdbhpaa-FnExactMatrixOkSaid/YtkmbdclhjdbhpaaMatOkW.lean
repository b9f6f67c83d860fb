/- The walk of laws.FnExactMatrixOk. -/
import Derived.Test.YtkmbdclhjdbhpaaMatOk
import Derived.Test.YtkmbdclhjdbhpaaOpenI
namespace Go.Proofs.Ytkmbdclhjdbhpaa
open Go.RowKit

set_option maxHeartbeats 1000000 in
theorem lawMatrixOk (A : Option Addr) (c : Nat) (rs : List (List Int)) (w : World) (hg : IntssArg w A c rs) :
    Calls Try.prog 14 #[.slice A rs.length c] w fun e w' => e = .returned (.bool true) ∧ Below w.heap.size w w' := by
  have HS := Lib.hid hg.rows
  by_cases hbig : (1048576 : Int) < (rs.length : Int) + lens rs
  · have H := Lib.hid (szIntSS_big A c rs 1048576 w hg.lens hg.len (by omega) (by omega) hbig HS.out)
    clear hg
    go_enter Try.func14, Try.ntmps14
    go_wp2_with (go_at_call 45; refine H.out.mono ?_; rintro e w' ⟨rfl, rfl⟩)
    go_ret
    exact ⟨rfl, Below.refl _ _⟩
  have hsm : (rs.length : Int) + lens rs ≤ 1048576 := by omega
  have hn : rs.length ≤ 1048576 := by omega
  have HL := Lib.hid (show ∀ r ∈ rs, r.length ≤ 1048576 from fun r hr => by
    obtain ⟨k, hk⟩ := List.mem_iff_getElem?.1 hr
    have := len_le_lens hk
    omega)
  have HL2 := Lib.hid hg.lens
  clear hbig hg
  have H := Lib.hid (szIntSS_ok A c rs 1048576 w (by omega) hsm HS.out)
  go_enter Try.func14, Try.ntmps14
  go_wp2_with (go_at_call 45; refine H.out.mono ?_; rintro e w' ⟨rfl, rfl⟩)
  refine (toIntSS_any _ _ _ _ hn HL.out HS.out).mono ?_
  rintro e w1 ⟨rfl, hk1, hb1⟩
  have HK1 := Lib.hid hk1
  clear hk1
  go_wp2_with fail
  refine (specMatrixOk _ _ _ _ (by omega) HL2.out HK1.out.rows).mono ?_
  rintro e w' ⟨rfl, rfl⟩
  go_wp2_with fail
  refine (toIntSS_any _ _ _ _ hn HL.out (HS.out.up_ hb1)).mono ?_
  rintro e w2 ⟨rfl, hk2, hb2⟩
  have B2 := hb1.trans (hb2.mono hb1.size)
  have HK2 := Lib.hid hk2
  clear hk2 HK1
  go_wp2_with fail
  refine (implMatrixOk _ _ _ _ (by omega) HL2.out HK2.out.rows).mono ?_
  rintro e w3 ⟨rfl, hb3⟩
  have B3 := B2.trans (hb3.mono B2.size)
  have HK3 := Lib.hid (HK2.out.below hb3)
  clear HK2
  go_wp2_with fail
  refine (toIntSS_any _ _ _ _ hn HL.out (HS.out.up_ B3)).mono ?_
  rintro e w4 ⟨rfl, hk4, hb4⟩
  have B4 := B3.trans (hb4.mono B3.size)
  have HK4 := Lib.hid hk4
  have HK5 := Lib.hid (HK3.out.below hb4)
  clear hk4 HK3
  go_wp2_with fail
  refine (eqIntSS_any _ _ _ _ _ _ _ (by omega) (by omega) HL2.out HL2.out HK5.out.rows HK4.out.rows).mono ?_
  rintro e w5 ⟨rfl, hb5⟩
  have B5 := B4.trans (hb5.mono B4.size)
  go_wp2
  go_ret
  exact ⟨rfl, B5⟩
end Go.Proofs.Ytkmbdclhjdbhpaa
