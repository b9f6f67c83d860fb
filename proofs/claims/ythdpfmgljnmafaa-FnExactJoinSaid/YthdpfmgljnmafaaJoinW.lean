/- The walk of laws.FnExactJoin. -/
import Derived.Test.YthdpfmgljnmafaaJoin
import Derived.Test.YthdpfmgljnmafaaOpenS
namespace Go.Proofs.Ythdpfmgljnmafaa
open Go.RowKit

set_option maxHeartbeats 1000000 in
theorem lawJoin (A : Option Addr) (c : Nat) (xs : List ByteArray) (sep : ByteArray) (w : World) (hg : StrsArg w A c xs) (hsep : sep.size ≤ maxLen) :
    Calls Try.prog 6 #[.slice A xs.length c, .string sep] w fun e w' => e = .returned (.bool true) ∧ Below w.heap.size w w' := by
  unfold maxLen at hsep
  by_cases hs1 : 1048576 < sep.size
  · go_enter Try.func6, Try.ntmps6
    go_wp2
    go_ret
    exact ⟨rfl, Below.refl _ _⟩
  have hs2 : sep.size ≤ 1048576 := by omega
  clear hs1
  have HS := Lib.hid hg.strs
  by_cases hbig : (1048576 : Int) < (xs.length : Int) + sizes xs
  · have H := Lib.hid (szStringS_big A c xs 1048576 w hg.each hg.len (by omega) (by omega) hbig HS.out)
    clear hg
    go_enter Try.func6, Try.ntmps6
    go_wp2_with (go_at_call 28; refine H.out.mono ?_; rintro e w' ⟨rfl, rfl⟩)
    go_ret
    exact ⟨rfl, Below.refl _ _⟩
  have hsm : (xs.length : Int) + sizes xs ≤ 1048576 := by omega
  have hsm2 : xs.length + sizes xs ≤ 1048576 := by omega
  have hn : xs.length ≤ 1048576 := by omega
  clear hbig hg
  have H := Lib.hid (szStringS_ok A c xs 1048576 w (by omega) hsm HS.out)
  go_enter Try.func6, Try.ntmps6
  go_wp2_with (go_at_call 28; refine H.out.mono ?_; rintro e w' ⟨rfl, rfl⟩)
  refine (toStringS_any _ _ _ _ hn HS.out).mono ?_
  rintro e w1 ⟨rfl, hk1, hb1⟩
  have HK1 := Lib.hid hk1
  clear hk1
  go_wp2_with fail
  refine (specJoin _ _ _ _ _ hs2 hsm2 (StrS.of_blk HK1.out HK1.out.lt)).mono ?_
  rintro e w' ⟨rfl, rfl⟩
  go_wp2_with fail
  refine (toStringS_any _ _ _ _ hn (HS.out.up_ hb1)).mono ?_
  rintro e w2 ⟨rfl, hk2, hb2⟩
  have B2 := hb1.trans (hb2.mono hb1.size)
  have HK2 := Lib.hid hk2
  clear hk2 HK1
  go_wp2_with fail
  refine (implJoin _ _ _ _ _ hs2 hsm2 (Nat.le_refl _) (StrS.of_blk HK2.out HK2.out.lt)).mono ?_
  rintro e w3 ⟨rfl, hb3⟩
  have B3 := B2.trans (hb3.mono B2.size)
  have HK3 := Lib.hid (HK2.out.below hb3 HK2.out.lt)
  clear HK2
  go_wp2_with fail
  refine (toStringS_any _ _ _ _ hn (HS.out.up_ B3)).mono ?_
  rintro e w4 ⟨rfl, hk4, hb4⟩
  have B4 := B3.trans (hb4.mono B3.size)
  have HK4 := Lib.hid hk4
  have HK5 := Lib.hid (HK3.out.below hb4 HK3.out.lt)
  clear hk4 HK3
  go_wp2_with fail
  refine (eqStringS_any _ _ _ _ _ _ _ (by omega) (by omega) (StrS.of_blk HK5.out HK5.out.lt) (StrS.of_blk HK4.out HK4.out.lt)).mono ?_
  rintro e w5 ⟨rfl, hb5⟩
  have B5 := B4.trans (hb5.mono B4.size)
  go_wp2
  go_ret
  exact ⟨rfl, B5⟩
end Go.Proofs.Ythdpfmgljnmafaa
