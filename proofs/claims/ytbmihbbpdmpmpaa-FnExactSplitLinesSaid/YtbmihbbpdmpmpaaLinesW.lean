/- The walk of laws.FnExactSplitLines. -/
import Derived.Test.YtbmihbbpdmpmpaaLines
import Derived.Test.YtbmihbbpdmpmpaaKeep
import Derived.Test.YtbmihbbpdmpmpaaHeldS
import Derived.Test.YtbmihbbpdmpmpaaEqStr
import Derived.Test.YtbmihbbpdmpmpaaLawG
import Derived.Test.YtbmihbbpdmpmpaaOpenI
namespace Go.Proofs.Ytbmihbbpdmpmpaa
open Go.RowKit

set_option maxRecDepth 100000 in
set_option maxHeartbeats 2000000 in
theorem lawSplitLines (s0 : ByteArray) (w : World) (hs0 : s0.size ≤ maxLen) :
    Calls Try.prog 9 #[.string s0] w fun e w' => e = .returned (.bool true) ∧ Below w.heap.size w w' := by
  by_cases hxb : 1048576 < s0.size
  · unfold maxLen at hs0
    go_enter Try.func9, Try.ntmps9
    go_wp2
    go_ret
    exact ⟨rfl, Below.refl _ _⟩
  have hn0 : s0.size ≤ 1048576 := by omega
  clear hxb
  clear hs0
  have HSP := fun (w : World) => Lib.hid (specLines s0 w hn0)
  have HIM := fun (w : World) => Lib.hid (implLines s0 w hn0)
  obtain ⟨zs, hzs⟩ : ∃ zs, zs = linesB s0 := ⟨_, rfl⟩
  have hzn : zs.length ≤ 2000000 := by rw [hzs]; exact linesB_len hn0
  rw [← hzs] at HSP HIM
  clear hzs
  go_enter Try.func9, Try.ntmps9
  have B_0 := Lib.hid (Below.refl w.heap.size w)
  go_wp2_with fail
  refine (HSP  _ ).out.mono ?_
  rintro e w1 ⟨AW, cW, rfl, ho1, hb1⟩
  have B_1 := Lib.hid (belowMoves B_0.out (belowMv hb1 _) (Nat.le_refl _) B_0.out.size)
  have s1 := hb1.size
  clear B_0 hb1
  have W_1 := Lib.hid ho1.strs
  clear ho1
  go_wp2_with fail
  refine (HIM  _ ).out.mono ?_
  rintro e w2 ⟨AG, cG, rfl, ho2, hb2⟩
  have B_2 := Lib.hid (belowMoves B_1.out (belowMv hb2 _) (Nat.le_refl _) B_1.out.size)
  have W_2 := Lib.hid (W_1.out.moves (belowMv hb2 _) (Nat.le_refl _) (by omega))
  have s2 := hb2.size
  clear B_1 W_1 hb2
  have G_2 := Lib.hid ho2
  clear ho2
  go_wp2_with fail
  refine (eqStringS_any _ _ _ _ _ _ _ (by omega) (by omega) (G_2.out.strs.keep (fun _ _ => rfl) (by omega)) (W_2.out.keep (fun _ _ => rfl) (by omega))).mono ?_
  rintro e w3 ⟨rfl, hb3⟩
  have B_3 := Lib.hid (belowMoves B_2.out (belowMv hb3 _) (Nat.le_refl _) B_2.out.size)
  have W_3 := Lib.hid (W_2.out.moves (belowMv hb3 _) (Nat.le_refl _) (by omega))
  have G_3 := Lib.hid (G_2.out.moves (belowMv hb3 _) (Nat.le_refl _))
  have s3 := hb3.size
  clear B_2 W_2 G_2 hb3
  go_wp2_with fail
  refine (markStringS_any _ _ (w1.heap.size) zs 1 _ hzn (by omega) (by omega) G_3.out).mono ?_
  rintro e w4 ⟨rfl, ho4, hbl4, sg4⟩
  have hm4 := belowMvB (hbl4 (by omega))
  clear hbl4
  have B_4 := Lib.hid (belowMoves B_3.out hm4 (by omega) B_3.out.size)
  have W_4 := Lib.hid (W_3.out.moves hm4 (by omega) (by omega))
  have s4 := hm4.size
  clear B_3 W_3 G_3 hm4
  have G_4 := Lib.hid ho4
  clear ho4
  go_wp2_with fail
  refine (heldStringS_any _ _ zs.length 1 _ hzn (by omega) (by omega) G_4.out.strs).mono ?_
  rintro e w5 ⟨rfl, hb5⟩
  have B_5 := Lib.hid (belowMoves B_4.out (belowMv hb5 _) (Nat.le_refl _) B_4.out.size)
  have W_5 := Lib.hid (W_4.out.moves (belowMv hb5 _) (Nat.le_refl _) (by omega))
  have G_5 := Lib.hid (G_4.out.moves (belowMv hb5 _) (Nat.le_refl _))
  have s5 := hb5.size
  clear B_4 W_4 G_4 hb5
  have tq : (((1 + zs.length : Nat) : Int) != ((1 + zs.length : Nat) : Int)) = false := by simp
  go_wp2_with fail
  refine (HIM  _ ).out.mono ?_
  rintro e w6 ⟨AH, cH, rfl, ho6, hb6⟩
  have B_6 := Lib.hid (belowMoves B_5.out (belowMv hb6 _) (Nat.le_refl _) B_5.out.size)
  have W_6 := Lib.hid (W_5.out.moves (belowMv hb6 _) (Nat.le_refl _) (by omega))
  have G_6 := Lib.hid (G_5.out.moves (belowMv hb6 _) (Nat.le_refl _))
  have s6 := hb6.size
  clear B_5 W_5 G_5 hb6
  have H_6 := Lib.hid ho6.strs
  clear ho6
  go_wp2_with fail
  refine (eqStringS_any _ _ _ _ _ _ _ (by omega) (by omega) (H_6.out.keep (fun _ _ => rfl) (by omega)) (W_6.out.keep (fun _ _ => rfl) (by omega))).mono ?_
  rintro e w7 ⟨rfl, hb7⟩
  have B_7 := Lib.hid (belowMoves B_6.out (belowMv hb7 _) (Nat.le_refl _) B_6.out.size)
  have G_7 := Lib.hid (G_6.out.moves (belowMv hb7 _) (Nat.le_refl _))
  have s7 := hb7.size
  clear B_6 W_6 G_6 H_6 hb7
  go_wp2_with fail
  refine (heldStringS_any _ _ zs.length 1 _ hzn (by omega) (by omega) G_7.out.strs).mono ?_
  rintro e w8 ⟨rfl, hb8⟩
  have B_8 := Lib.hid (belowMoves B_7.out (belowMv hb8 _) (Nat.le_refl _) B_7.out.size)
  have G_8 := Lib.hid (G_7.out.moves (belowMv hb8 _) (Nat.le_refl _))
  have s8 := hb8.size
  clear B_7 G_7 hb8
  go_wp2
  go_ret
  exact ⟨rfl, B_8.out⟩
end Go.Proofs.Ytbmihbbpdmpmpaa
