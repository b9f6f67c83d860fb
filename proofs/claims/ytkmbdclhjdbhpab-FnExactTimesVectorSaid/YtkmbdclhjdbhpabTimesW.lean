/- The walk of laws.FnExactTimesVector. -/
import Derived.Test.YtkmbdclhjdbhpabTimes
import Derived.Test.YtkmbdclhjdbhpabMarkSS
import Derived.Test.YtkmbdclhjdbhpabOpenI
namespace Go.Proofs.Ytkmbdclhjdbhpab
open Go.RowKit

/-- a slice of ints that reads as a list, all of it in blocks that no mark touches -/
theorem IntS.between {w w' : World} {B lo hi : Nat} {A : Option Addr} {zs : List Int} (h : IntS w B A zs) (hb : Between w w' lo hi) (hB : B ≤ lo) (hs : B ≤ w.heap.size) : IntS w' B A zs :=
  h.keep (fun p hp => World.cell?_of_block (hb.block p.block (by omega) (.inl (by omega)))) (Nat.le_refl _)
theorem OwnI.between {w w' : World} {base lo hi : Nat} {A : Option Addr} {zs : List Int} (h : OwnI w base A zs) (hb : Between w w' lo hi) (hB : hi ≤ base) : OwnI w' base A zs := fun hn => by
  obtain ⟨g, off, e, h1, hg, hc⟩ := h hn
  have hbl := hb.block g hg (.inr (by omega))
  exact ⟨g, off, e, h1, by rw [hb.size]; exact hg, fun i z hz => ⟨(World.cell?_of_block (a := ⟨g, off + i, none⟩) hbl).trans (hc i z hz).1, (World.frozen?_of_block (a := ⟨g, off + i, none⟩) hbl).trans (hc i z hz).2⟩⟩
theorem OwnI.turned {w w' : World} {base g' off : Nat} {A : Option Addr} {zs : List Int} (h : OwnI w base A zs) (hb : Turned w w' (some ⟨g', off, none⟩)) (hB : g' < base) : OwnI w' base A zs := fun hn => by
  obtain ⟨g, o, e, h1, hg, hc⟩ := h hn
  have hbl := hb.block g hg fun o2 e2 => by
    injection e2 with e2
    injection e2 with e2
    omega
  exact ⟨g, o, e, h1, by rw [hb.size]; exact hg, fun i z hz => ⟨(World.cell?_of_block (a := ⟨g, o + i, none⟩) hbl).trans (hc i z hz).1, (World.frozen?_of_block (a := ⟨g, o + i, none⟩) hbl).trans (hc i z hz).2⟩⟩

set_option maxRecDepth 100000 in
set_option maxHeartbeats 2000000 in
theorem lawTimesVector (A : Option Addr) (c : Nat) (rs : List (List Int)) (C : Option Addr) (d : Nat) (x : List Int) (w : World) (hg : IntssArg w A c rs) (hx : IntsArg w C d x) :
    Calls Try.prog 3 #[.slice A rs.length c, .slice C x.length d] w fun e w' => e = .returned (.bool true) ∧ Below w.heap.size w w' := by
  have HS := Lib.hid hg.rows
  have HX := Lib.hid hx.ints
  have hxl := hx.len
  by_cases hxb : 1048576 < x.length
  · clear hg hx
    go_enter Try.func3, Try.ntmps3
    go_wp2
    go_ret
    exact ⟨rfl, Below.refl _ _⟩
  have hxn : x.length ≤ 1048576 := by omega
  clear hxb
  by_cases hbig : (1048576 : Int) < (rs.length : Int) + lens rs
  · have H := Lib.hid (szIntSS_big A c rs 1048576 w hg.lens hg.len (by omega) (by omega) hbig HS.out)
    clear hg hx
    go_enter Try.func3, Try.ntmps3
    go_wp2_with (go_at_call 14; refine H.out.mono ?_; rintro e w' ⟨rfl, rfl⟩)
    go_ret
    exact ⟨rfl, Below.refl _ _⟩
  have hsm : (rs.length : Int) + lens rs ≤ 1048576 := by omega
  have hn : rs.length ≤ 1048576 := by omega
  have hln : lens rs ≤ 1048576 := by omega
  have HL := Lib.hid (show ∀ r ∈ rs, r.length ≤ 1048576 from fun r hr => by
    obtain ⟨k, hk⟩ := List.mem_iff_getElem?.1 hr
    have := len_le_lens hk
    omega)
  have HL2 := Lib.hid hg.lens
  clear hbig hg hx
  have H := Lib.hid (szIntSS_ok A c rs 1048576 w (by omega) hsm HS.out)
  obtain ⟨zs, hzs⟩ : ∃ zs, zs = timesB rs x := ⟨_, rfl⟩
  have hzn : zs.length ≤ 1048576 := by rw [hzs]; exact timesB_len hn
  have HSP := fun A ca C cc w hS hX => Lib.hid (specTimes A C ca cc rs x w hn HL.out hS hX)
  have HIM := fun A ca C cc w hS hX => Lib.hid (implTimes A C ca cc rs x w hn HL.out hS hX)
  rw [← hzs] at HSP HIM
  clear hzs
  go_enter Try.func3, Try.ntmps3
  go_wp2_with (go_at_call 14; refine H.out.mono ?_; rintro e w' ⟨rfl, rfl⟩)
  refine (toIntSS_any _ _ _ _ hn HL.out HS.out).mono ?_
  rintro e w1 ⟨rfl, hk1, hb1⟩
  go_wp2_with fail
  refine (toIntS_any _ _ _ _ hxn (HX.out.up_ hb1)).mono ?_
  rintro e w2 ⟨rfl, hk2, hb2⟩
  have B2 := hb1.trans (hb2.mono hb1.size)
  have K1 := hk1.below hb2
  go_wp2_with fail
  refine (HSP _ _ _ _ _ K1.rows (IntS.of_blk hk2 hk2.lt)).out.mono ?_
  rintro e w3 ⟨A3, c3, rfl, ho3, hb3⟩
  have B3 := B2.trans (hb3.mono B2.size)
  have W3 := ho3.ints
  have s03 := B3.size
  clear K1 hk1 hk2 ho3 hb1 hb2 hb3 B2
  go_wp2_with fail
  refine (toIntSS_any _ _ _ _ hn HL.out (HS.out.up_ B3)).mono ?_
  rintro e w4 ⟨rfl, hk4, hb4⟩
  have B4 := B3.trans (hb4.mono B3.size)
  have W4 := W3.below hb4
  have s34 := hb4.size
  clear B3 W3
  go_wp2_with fail
  refine (toIntS_any _ _ _ _ hxn (HX.out.up_ B4)).mono ?_
  rintro e w5 ⟨rfl, hx5, hb5⟩
  have B5 := B4.trans (hb5.mono B4.size)
  have W5 := W4.below (hb5.mono s34)
  have K5 := hk4.below hb5
  have s45 := hb5.size
  have s5 := hx5.lt
  clear B4 W4 hk4 hb4 hb5
  go_wp2_with fail
  refine (HIM _ _ _ _ _ K5.rows (IntS.of_blk hx5 hx5.lt)).out.mono ?_
  rintro e w6 ⟨A6, c6, rfl, ho6, hb6⟩
  have B6 := B5.trans (hb6.mono B5.size)
  have W6 := W5.below (hb6.mono (by omega))
  have K6 := K5.below hb6
  have X6 := hx5.below hb6 hx5.lt
  have s56 := hb6.size
  clear B5 W5 K5 hx5 hb6
  go_wp2_with fail
  refine (eqIntS_any _ _ _ _ _ _ _ (by omega) (by omega) ho6.ints (W6.keep (fun _ _ => rfl) (by omega))).mono ?_
  rintro e w7 ⟨rfl, hb7⟩
  have B7 := B6.trans (hb7.mono B6.size)
  have W7 := W6.below (hb7.mono (by omega))
  have K7 := K6.below hb7
  have X7 := X6.below hb7 X6.lt
  have G7 := ho6.below hb7
  have s67 := hb7.size
  clear B6 W6 K6 X6 ho6 hb7
  go_wp2_with fail
  refine (toIntSS_any _ _ _ _ hn HL.out (HS.out.up_ B7)).mono ?_
  rintro e w8 ⟨rfl, hk8, hb8⟩
  have B8 := B7.trans (hb8.mono B7.size)
  have W8 := W7.below (hb8.mono (by omega))
  have K8 := K7.below hb8
  have X8 := X7.below hb8 X7.lt
  have G8 := G7.below hb8
  have s78 := hb8.size
  clear B7 W7 K7 X7 G7 hb8
  go_wp2_with fail
  refine (eqIntSS_any _ _ _ _ _ _ _ (by omega) (by omega) HL2.out HL2.out K8.rows hk8.rows).mono ?_
  rintro e w9 ⟨rfl, hb9⟩
  have B9 := B8.trans (hb9.mono B8.size)
  have W9 := W8.below (hb9.mono (by omega))
  have K9 := K8.below hb9
  have X9 := X8.below hb9 X8.lt
  have G9 := G8.below hb9
  have s89 := hb9.size
  clear B8 W8 K8 X8 G8 hb9 hk8
  go_wp2_with fail
  refine (toIntS_any _ _ _ _ hxn (HX.out.up_ B9)).mono ?_
  rintro e w10 ⟨rfl, hx10, hb10⟩
  have B10 := B9.trans (hb10.mono B9.size)
  have W10 := W9.below (hb10.mono (by omega))
  have K10 := K9.below hb10
  have X10 := X9.below hb10 X9.lt
  have G10 := G9.below hb10
  have s910 := hb10.size
  clear B9 W9 K9 X9 G9 hb10
  go_wp2_with fail
  refine (eqIntS_any _ _ _ _ _ _ _ (by omega) (by omega) (IntS.of_blk X10 X10.lt) (IntS.of_blk hx10 hx10.lt)).mono ?_
  rintro e w11 ⟨rfl, hb11⟩
  have B11 := B10.trans (hb11.mono B10.size)
  have W11 := W10.below (hb11.mono (by omega))
  have K11 := K10.below hb11
  have X11 := X10.below hb11 X10.lt
  have G11 := G10.below hb11
  have s1011 := hb11.size
  have sw := B11.size
  clear B10 W10 K10 X10 G10 hb11 hx10
  go_wp2_with fail
  refine (markIntSS_any _ _ _ _ _ _ hn hln (by omega) (by omega) K11).mono ?_
  rintro e w12 ⟨rfl, hbt⟩
  have s12 := Nat.le_of_eq hbt.size
  have s12b := Nat.le_of_eq hbt.size.symm
  have B12 := B11.trans (hbt.below (B := w.heap.size) (by omega) sw)
  have W12 := W11.between hbt (Nat.le_refl _) (by omega)
  have X12 := X11.between hbt (.inr (Nat.le_refl _))
  have G12 := G11.between hbt s45
  clear B11 W11 K11 X11 G11 hbt
  go_wp2_with fail
  refine (markIntS_any _ _ w4.heap.size x _ _ hxn (by omega) (by omega) (OwnI.of_blk X12 (Nat.le_refl _))).mono ?_
  rintro e w13 ⟨rfl, _, ht13, hbl⟩
  have hb13 := hbl (by omega)
  have s13 := Nat.le_of_eq ht13.size
  have s13b := Nat.le_of_eq ht13.size.symm
  have B13 := B12.trans (hb13.mono (by omega))
  have W13 := W12.below (hb13.mono s34)
  have G13 := G12.turned ht13 s5
  have t13 : decide ((1 : Int) + lens rs + x.length < 0) = false := decide_eq_false (by omega)
  clear B12 W12 X12 G12 hb13 ht13 hbl
  go_wp2_with fail
  refine (eqIntS_any _ _ _ _ _ _ _ (by omega) (by omega) G13.ints (W13.keep (fun _ _ => rfl) (by omega))).mono ?_
  rintro e w14 ⟨rfl, hb14⟩
  have B14 := B13.trans (hb14.mono B13.size)
  have W14 := W13.below (hb14.mono (by omega))
  have G14 := G13.below hb14
  have s14 := hb14.size
  clear B13 W13 G13 hb14
  go_wp2_with fail
  refine (markIntS_any _ _ w5.heap.size zs _ _ hzn (by omega) (by omega) G14).mono ?_
  rintro e w15 ⟨rfl, ho15, ht15, hbl⟩
  have hb15 := hbl (by omega)
  have s15 := Nat.le_of_eq ht15.size
  have s15b := Nat.le_of_eq ht15.size.symm
  have B15 := B14.trans (hb15.mono (by omega))
  have W15 := W14.below (hb15.mono (by omega))
  clear B14 W14 G14 hb15 ht15 hbl
  go_wp2_with fail
  refine (heldIntS_any _ _ _ _ _ _ hzn (by omega) (by omega) ho15.ints).mono ?_
  rintro e w' ⟨rfl, rfl⟩
  have t15 : ((1 : Int) + zs.length != 1 + zs.length) = false := by simp
  go_wp2_with fail
  refine (toIntSS_any _ _ _ _ hn HL.out (HS.out.up_ B15)).mono ?_
  rintro e w16 ⟨rfl, hk16, hb16⟩
  have B16 := B15.trans (hb16.mono B15.size)
  have W16 := W15.below (hb16.mono (by omega))
  have G16 := ho15.below hb16
  have s16 := hb16.size
  clear B15 W15 ho15 hb16
  go_wp2_with fail
  refine (toIntS_any _ _ _ _ hxn (HX.out.up_ B16)).mono ?_
  rintro e w17 ⟨rfl, hx17, hb17⟩
  have B17 := B16.trans (hb17.mono B16.size)
  have W17 := W16.below (hb17.mono (by omega))
  have G17 := G16.below hb17
  have K17 := hk16.below hb17
  have s17 := hb17.size
  clear B16 W16 G16 hk16 hb17
  go_wp2_with fail
  refine (HIM _ _ _ _ _ K17.rows (IntS.of_blk hx17 hx17.lt)).out.mono ?_
  rintro e w18 ⟨A18, c18, rfl, ho18, hb18⟩
  have B18 := B17.trans (hb18.mono B17.size)
  have W18 := W17.below (hb18.mono (by omega))
  have G18 := G17.below hb18
  have s18 := hb18.size
  clear B17 W17 G17 K17 hx17 hb18
  go_wp2_with fail
  refine (eqIntS_any _ _ _ _ _ _ _ (by omega) (by omega) ho18.ints (W18.keep (fun _ _ => rfl) (by omega))).mono ?_
  rintro e w19 ⟨rfl, hb19⟩
  have B19 := B18.trans (hb19.mono B18.size)
  have G19 := G18.below hb19
  clear B18 W18 G18 hb19 ho18
  go_wp2_with fail
  refine (heldIntS_any _ _ _ _ _ _ hzn (by omega) (by omega) G19.ints).mono ?_
  rintro e w' ⟨rfl, rfl⟩
  go_wp2
  go_ret
  exact ⟨rfl, B19⟩
end Go.Proofs.Ytkmbdclhjdbhpab
