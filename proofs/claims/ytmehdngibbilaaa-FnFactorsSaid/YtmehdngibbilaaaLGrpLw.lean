/- laws.FnGroups: the walk. -/
import Derived.Test.YtmehdngibbilaaaLGrpX
import Derived.Test.YtmehdngibbilaaaLBM
import Derived.Test.YtmehdngibbilaaaLBQ
namespace Go.Proofs.Ytmehdngibbilaaa
open Go.RowKit

def GivesKOk (w : World) (M : Nat) (zs : List Int) (e : Ending) (w' : World) : Prop :=
  ∃ (A : Option Addr) (c : Nat), e = .returned (.tuple #[.slice A M c, .bool true]) ∧ OwnI w' w.heap.size A zs ∧ Below w.heap.size w w'
theorem GivesKOk.of {P : Program} {f : FuncId} {args : Array Value} {w : World} {M : Nat} {zs zs' : List Int} {b : Bool} (hz : zs = zs') (hl : zs'.length = M) (hb : b = true) (h : Calls P f args w (GivesIntsOk w zs b)) : Calls P f args w (GivesKOk w M zs') := by
  subst hz
  subst hb
  exact h.mono fun e w' ⟨A, c, he, ho, hb⟩ => ⟨A, c, by rw [he, hl], ho, hb⟩
def ZeroM (w : World) (M m : Nat) (e : Ending) (w' : World) : Prop :=
  ∃ (A1 : Option Addr) (c1 : Nat) (d : List Int), e = .returned (.slice A1 M c1) ∧ ZerL m d ∧ OwnI w' w.heap.size A1 d ∧ Below w.heap.size w w'
theorem cZero {m M : Nat} (hm : M = m + 1) (k : Nat) (hk : k ≤ 1000) (va : Option Addr) (vb vc : Nat) (A0 : Option Addr) (c0 : Nat) (xs : List Int) (w : World) (h5 : m ≤ 5) (hx : xs.length ≤ 1048576) (hS : CodeS w w.heap.size A0 xs) :
    Calls Try.prog 23 #[.slice A0 xs.length c0, .int .i64 k, .agg #[.int .i64 (M : Int), .slice va vb vc]] w (ZeroM w M m) := by
  subst hm
  exact makeZero_any w k m hk va vb vc A0 c0 xs h5 hx hS
section
variable {m M : Nat} {es : List (Int × Int)} {A X Y : Option Addr} {c cx cy : Nat} {x y r : List Int} {W : World}
theorem cSum (hm : M = m + 1) (hB : graphB (M : Int) es = true) (hG : GrL m es) (zx : ZerL m x) (zy : ZerL m y) (hr : rdc M es (plusL M x y) = r) (h1 : EdgeS W W.heap.size A es) (h2 : IntS W W.heap.size X x) (h3 : IntS W W.heap.size Y y) :
    Calls Try.prog 24 #[.agg #[.int .i64 (M : Int), .slice A es.length c], .slice X M cx, .slice Y M cy] W (GivesKOk W M r) := by
  subst hm
  have h6 := hG.m5
  have h12 := hG.n12
  have h := implSumC ((m + 1 : Nat) : Int) A X Y c cx cy es x y W (by omega) (by rw [zx.len]; omega) (by rw [zy.len]; omega) h1 h2 h3
  have b1 := zeroB_t hB hG zx
  have b2 := zeroB_t hB hG zy
  rw [zx.len, zy.len] at h
  exact GivesKOk.of (by rw [sumC_t b1 b2, hr]) (by rw [← hr, rdc_len]) (by rw [b1, b2]; rfl) h
theorem cInv (hm : M = m + 1) (hB : graphB (M : Int) es = true) (hG : GrL m es) (zx : ZerL m x) (hr : rdc M es (negB x) = r) (h1 : EdgeS W W.heap.size A es) (h2 : IntS W W.heap.size X x) :
    Calls Try.prog 25 #[.agg #[.int .i64 (M : Int), .slice A es.length c], .slice X M cx] W (GivesKOk W M r) := by
  subst hm
  have h6 := hG.m5
  have h12 := hG.n12
  have h := implIvC ((m + 1 : Nat) : Int) A X c cx es x W (by omega) (by rw [zx.len]; omega) h1 h2
  have b1 := zeroB_t hB hG zx
  rw [zx.len] at h
  exact GivesKOk.of (by rw [invC_t b1, hr]) (by rw [← hr, rdc_len]) b1 h
theorem zer_burn (hm : M = m + 1) (hB : graphB (M : Int) es = true) (hG : GrL m es) (zx : ZerL m x) : burnOk (M : Int) es x 0 = true := by
  subst hm
  have b1 := zeroB_t hB hG zx
  unfold zeroB at b1
  rw [Bool.and_eq_true] at b1
  rw [burnOk, b1.1, vB_t (by omega)]
  rfl
theorem cRep (hm : M = m + 1) (hB : graphB (M : Int) es = true) (hG : GrL m es) (zx : ZerL m x) (hr : rdc M es x = r) (h1 : EdgeS W W.heap.size A es) (h2 : IntS W W.heap.size X x) :
    Calls Try.prog 28 #[.agg #[.int .i64 (M : Int), .slice A es.length c], .slice X M cx] W (GivesKOk W M r) := by
  have b2 := zer_burn hm hB hG zx
  subst hm
  have h6 := hG.m5
  have h12 := hG.n12
  have h := implRep ((m + 1 : Nat) : Int) A X c cx es x W (by omega) (by rw [zx.len]; omega) h1 h2
  rw [zx.len] at h
  exact GivesKOk.of (by rw [redR_t b2]; exact hr) (by rw [← hr, rdc_len]) b2 h
theorem cDeg (hm : M = m + 1) (hG : GrL m es) (zx : ZerL m x) (h2 : IntS W W.heap.size X x) :
    Calls Try.prog 27 #[.slice X M cx] W (fun e w' => e = .returned (.int .i64 0) ∧ Below W.heap.size W w') := by
  subst hm
  have h6 := hG.m5
  have h := implDeg X cx x W (by rw [zx.len]; omega) h2
  rw [zx.len, zx.deg hG] at h
  exact h
theorem cSame (hr : r.length = M) (hM : M ≤ 6) (h1 : IntS W W.heap.size X r) (h2 : IntS W W.heap.size Y r) :
    Calls Try.prog 26 #[.slice X M cx, .slice Y M cy] W (fun e w' => e = .returned (.bool true) ∧ w' = W) := by
  have h := sameI_any X Y cx cy r r W (by omega) (by omega) h1 h2
  rw [hr, decide_eq_true rfl] at h
  exact h
end
set_option maxRecDepth 100000 in
set_option maxHeartbeats 8000000 in
theorem lawGroups (A0 : Option Addr) (c0 : Nat) (xs : List Int) (w : World) (hn : xs.length ≤ 9223372036854775807) (hS : CodeS w w.heap.size A0 xs) :
    Calls Try.prog 4 #[.slice A0 xs.length c0] w fun e w' => e = .returned (.bool true) ∧ Below w.heap.size w w' := by
  by_cases hs : xs.length ≤ 1048576
  · have hsi : (xs.length : Int) ≤ 1048576 := by omega
    have HS := Lib.hid hS
    have HG := Lib.hid (makeGraph_any w A0 c0 xs hs hS)
    clear hS
    go_enter Try.func4, Try.ntmps4
    go_wp2_with fail
    refine HG.out.mono ?_
    rintro e w1 ⟨M, A, c, es, rfl, hM2, hM5, hel, hg, ho, hb1⟩
    obtain ⟨W1, hW1⟩ : ∃ X : World, X = w1.alloc (Obj.cells #[.int .i64 (M : Int), .slice A es.length c] 25) := ⟨_, rfl⟩
    have G1 := Lib.hid (show GLaw w W1 w1.heap.size M A c es from by
      rw [hW1]
      exact ⟨hb1.alloc hb1.size _, Blk.new w1 _ _, ho.below ((Below.refl _ _).alloc (Nat.le_refl _) _)⟩)
    have HW1 := Lib.hid hW1
    have HGR := Lib.hid hg
    obtain ⟨m, hm⟩ : ∃ m, M = m + 1 := ⟨M - 1, by omega⟩
    have HMM := Lib.hid hm
    have HGL := Lib.hid (show GrL m es from by
      obtain ⟨m', e, h⟩ := grl_of hg
      obtain rfl : m' = m := by omega
      exact h)
    obtain ⟨x0, x1, x2, x3, x4⟩ := box_facts G1.out.box
    clear ho hb1 hW1 hg HG hm
    have HZ := Lib.hid (cZero HMM.out 20 (by omega) A es.length c A0 c0 xs W1 HGL.out.m5 hs ((HS.out.keep G1.out.old).up G1.out.old.size))
    go_wp2_with fail
    rw [← HW1.out]
    refine HZ.out.mono ?_
    rintro e w2 ⟨La, ca, a, rfl, hza, ho, hb⟩
    have G2 := Lib.hid (G1.out.next hb)
    have Oa2 := Lib.hid (ho.mono (base' := w.heap.size) G1.out.old.size)
    have HZa := Lib.hid hza
    clear hb ho HZ hza x0 x1 x2 x3 x4 G1  HW1
    obtain ⟨x0, x1, x2, x3, x4⟩ := box_facts G2.out.box
    have HZ := Lib.hid (cZero HMM.out 40 (by omega) A es.length c A0 c0 xs w2 HGL.out.m5 hs ((HS.out.keep G2.out.old).up G2.out.old.size))
    go_wp2_with fail
    refine HZ.out.mono ?_
    rintro e w3 ⟨Lb, cb, b, rfl, hzb, ho, hb⟩
    have G3 := Lib.hid (G2.out.next hb)
    have Oa3 := Lib.hid (Oa2.out.below hb)
    have Ob3 := Lib.hid (ho.mono (base' := w.heap.size) G2.out.old.size)
    have HZb := Lib.hid hzb
    clear hb ho HZ hzb x0 x1 x2 x3 x4 G2 Oa2
    obtain ⟨x0, x1, x2, x3, x4⟩ := box_facts G3.out.box
    have hen : es.length ≤ 1048576 := by omega
    have hM6 : M ≤ 6 := by omega
    have HGX := Lib.hid (HGL.out.gx A w3 G3.out.own.edges)
    have hm := HMM.out
    have LAW := grp_law HGX.out HZa.out HZb.out
    obtain ⟨S, I, R, zs, zi, zr, e1, e2, e3, e4, e5, e6⟩ : ∃ S I R : List Int, ZerL m S ∧ ZerL m I ∧ R.length = M ∧ rdc M es (plusL M a b) = S ∧ rdc M es (plusL M b a) = S ∧ rdc M es (negB a) = I ∧ rdc M es (plusL M S I) = R ∧ rdc M es b = R ∧ rdc M es (plusL M a I) = List.replicate M 0 := by
      rw [hm]
      exact ⟨_, _, _, LAW.zs, LAW.zi, rdc_len _ _ _, rfl, LAW.st, rfl, LAW.back, rfl, LAW.zero⟩
    have CL := Lib.hid (fun (W : World) (h1 : EdgeS W W.heap.size A es) => implClsN (M : Int) A c es HGR.out W hen h1)
    have CO := Lib.hid (fun (W : World) (h1 : EdgeS W W.heap.size A es) => implOrdG (M : Int) A c es W hen h1)
    obtain ⟨T, hT⟩ : ∃ T, T = treesB (M : Int) es := ⟨_, rfl⟩
    rw [← hT] at CL CO
    have HSL := Lib.hid (show S.length = M by rw [zs.len, hm])
    have HRL := Lib.hid zr
    have E1 := Lib.hid e1
    have E2 := Lib.hid e2
    have E3 := Lib.hid e3
    have E4 := Lib.hid e4
    have E5 := Lib.hid e5
    have E6 := Lib.hid e6
    have ZS := Lib.hid zs
    have ZI := Lib.hid zi
    have hmk := make_ints M (by omega)
    have tM : ((M : Int) != (M : Int)) = false := by simp
    clear hm LAW zs zi zr e1 e2 e3 e4 e5 e6 hT hM2 hM5 hel
    go_wp2_with fail
    refine (cSum HMM.out HGR.out HGL.out HZa.out HZb.out E1.out G3.out.own.edges Oa3.out.ints Ob3.out.ints).mono ?_
    rintro e w4 ⟨Q1, d1, rfl, ho, hb⟩
    have G4 := Lib.hid (G3.out.next hb)
    have Oa4 := Lib.hid (Oa3.out.below hb)
    have Ob4 := Lib.hid (Ob3.out.below hb)
    have O14 := Lib.hid (ho.mono (base' := w.heap.size) G3.out.old.size)
    clear hb x0 x1 x2 x3 x4 G3 Oa3 Ob3
    obtain ⟨x0, x1, x2, x3, x4⟩ := box_facts G4.out.box
    go_wp2_with fail
    refine (cSum HMM.out HGR.out HGL.out HZb.out HZa.out E2.out G4.out.own.edges Ob4.out.ints Oa4.out.ints).mono ?_
    rintro e w5 ⟨Q2, d2, rfl, ho, hb⟩
    have G5 := Lib.hid (G4.out.next hb)
    have Oa5 := Lib.hid (Oa4.out.below hb)
    have Ob5 := Lib.hid (Ob4.out.below hb)
    have O15 := Lib.hid (O14.out.below hb)
    have O25 := Lib.hid (ho.mono (base' := w.heap.size) G4.out.old.size)
    clear hb x0 x1 x2 x3 x4 G4 Oa4 Ob4 O14
    obtain ⟨x0, x1, x2, x3, x4⟩ := box_facts G5.out.box
    go_wp2_with fail
    refine (cInv HMM.out HGR.out HGL.out HZa.out E3.out G5.out.own.edges Oa5.out.ints).mono ?_
    rintro e w6 ⟨Q3, d3, rfl, ho, hb⟩
    have G6 := Lib.hid (G5.out.next hb)
    have Oa6 := Lib.hid (Oa5.out.below hb)
    have Ob6 := Lib.hid (Ob5.out.below hb)
    have O16 := Lib.hid (O15.out.below hb)
    have O26 := Lib.hid (O25.out.below hb)
    have O36 := Lib.hid (ho.mono (base' := w.heap.size) G5.out.old.size)
    clear hb x0 x1 x2 x3 x4 G5 Oa5 Ob5 O15 O25
    obtain ⟨x0, x1, x2, x3, x4⟩ := box_facts G6.out.box
    go_wp2_with fail
    refine (cSame HSL.out hM6 O16.out.ints O26.out.ints).mono ?_
    rintro e w' ⟨rfl, rfl⟩
    go_wp2_with fail
    refine (cDeg HMM.out HGL.out ZS.out O16.out.ints).mono ?_
    rintro e w7 ⟨rfl, hb⟩
    have G7 := Lib.hid (G6.out.next hb)
    have Oa7 := Lib.hid (Oa6.out.below hb)
    have Ob7 := Lib.hid (Ob6.out.below hb)
    have O17 := Lib.hid (O16.out.below hb)
    have O27 := Lib.hid (O26.out.below hb)
    have O37 := Lib.hid (O36.out.below hb)
    clear hb x0 x1 x2 x3 x4 G6 Oa6 Ob6 O16 O26 O36
    obtain ⟨x0, x1, x2, x3, x4⟩ := box_facts G7.out.box
    go_wp2_with fail
    refine (cSum HMM.out HGR.out HGL.out ZS.out ZI.out E4.out G7.out.own.edges O17.out.ints O37.out.ints).mono ?_
    rintro e w8 ⟨Q4, d4, rfl, ho, hb⟩
    have G8 := Lib.hid (G7.out.next hb)
    have Oa8 := Lib.hid (Oa7.out.below hb)
    have Ob8 := Lib.hid (Ob7.out.below hb)
    have O18 := Lib.hid (O17.out.below hb)
    have O28 := Lib.hid (O27.out.below hb)
    have O38 := Lib.hid (O37.out.below hb)
    have O48 := Lib.hid (ho.mono (base' := w.heap.size) G7.out.old.size)
    clear hb x0 x1 x2 x3 x4 G7 Oa7 Ob7 O17 O27 O37
    obtain ⟨x0, x1, x2, x3, x4⟩ := box_facts G8.out.box
    go_wp2_with fail
    refine (cRep HMM.out HGR.out HGL.out HZb.out E5.out G8.out.own.edges Ob8.out.ints).mono ?_
    rintro e w9 ⟨Q5, d5, rfl, ho, hb⟩
    have G9 := Lib.hid (G8.out.next hb)
    have Oa9 := Lib.hid (Oa8.out.below hb)
    have Ob9 := Lib.hid (Ob8.out.below hb)
    have O19 := Lib.hid (O18.out.below hb)
    have O29 := Lib.hid (O28.out.below hb)
    have O39 := Lib.hid (O38.out.below hb)
    have O49 := Lib.hid (O48.out.below hb)
    have O59 := Lib.hid (ho.mono (base' := w.heap.size) G8.out.old.size)
    clear hb x0 x1 x2 x3 x4 G8 Oa8 Ob8 O18 O28 O38 O48
    obtain ⟨x0, x1, x2, x3, x4⟩ := box_facts G9.out.box
    go_wp2_with fail
    refine (cSum HMM.out HGR.out HGL.out HZa.out ZI.out E6.out G9.out.own.edges Oa9.out.ints O39.out.ints).mono ?_
    rintro e w10 ⟨Q6, d6, rfl, ho, hb⟩
    have G10 := Lib.hid (G9.out.next hb)
    have Oa10 := Lib.hid (Oa9.out.below hb)
    have Ob10 := Lib.hid (Ob9.out.below hb)
    have O110 := Lib.hid (O19.out.below hb)
    have O210 := Lib.hid (O29.out.below hb)
    have O310 := Lib.hid (O39.out.below hb)
    have O410 := Lib.hid (O49.out.below hb)
    have O510 := Lib.hid (O59.out.below hb)
    have O610 := Lib.hid (ho.mono (base' := w.heap.size) G9.out.old.size)
    clear hb x0 x1 x2 x3 x4 G9 Oa9 Ob9 O19 O29 O39 O49 O59
    obtain ⟨x0, x1, x2, x3, x4⟩ := box_facts G10.out.box
    clear Oa10 Ob10 O110 O210 O310
    go_wp2_with fail
    refine (CL.out w10 G10.out.own.edges).mono ?_
    rintro e w11 ⟨Q7, d7, n2, rfl, hnT, hb⟩
    have G11 := Lib.hid (G10.out.next hb)
    have O411 := Lib.hid (O410.out.below hb)
    have O511 := Lib.hid (O510.out.below hb)
    have O611 := Lib.hid (O610.out.below hb)
    clear hb x0 x1 x2 x3 x4 G10 O410 O510 O610
    obtain ⟨x0, x1, x2, x3, x4⟩ := box_facts G11.out.box
    by_cases hT : T ≤ 400
    · rw [decide_eq_true hT]
      obtain rfl : (n2 : Int) = T := hnT hT
      have tT : ((n2 : Int) != (n2 : Int)) = false := by simp
      go_wp2_with fail
      refine (CO.out w11 G11.out.own.edges).mono ?_
      rintro e w12 ⟨rfl, hb⟩
      have G12 := Lib.hid (G11.out.next hb)
      have O412 := Lib.hid (O411.out.below hb)
      have O512 := Lib.hid (O511.out.below hb)
      have O612 := Lib.hid (O611.out.below hb)
      clear hb x0 x1 x2 x3 x4 G11 O411 O511 O611
      obtain ⟨x0, x1, x2, x3, x4⟩ := box_facts G12.out.box
      go_wp2_with fail
      refine (cSame HRL.out hM6 O412.out.ints O512.out.ints).mono ?_
      rintro e wz ⟨rfl, rfl⟩
      have hbz : Below wz.heap.size wz (wz.alloc (.cells (intCells (List.replicate M 0)).toArray 3)) := (Below.refl _ _).alloc (Nat.le_refl _) _
      have HIZ := Lib.hid (Chips.of_blk (Blk.new wz 3 (intCells (List.replicate M 0)).toArray)).ints
      have GZ := Lib.hid (G12.out.next hbz)
      have OZ := Lib.hid (O612.out.below hbz)
      clear hbz
      obtain ⟨y0, y1, y2, y3, y4⟩ := box_facts GZ.out.box
      go_wp2_with fail
      refine (cSame (List.length_replicate ..) hM6 OZ.out.ints HIZ.out).mono ?_
      rintro e w' ⟨rfl, rfl⟩
      go_wp2
      go_ret
      exact ⟨rfl, GZ.out.old⟩
    · rw [decide_eq_false hT]
      have hT2 : 400 < T := by omega
      go_wp2_with fail
      refine (cSame HRL.out hM6 O411.out.ints O511.out.ints).mono ?_
      rintro e wz ⟨rfl, rfl⟩
      have hbz : Below wz.heap.size wz (wz.alloc (.cells (intCells (List.replicate M 0)).toArray 3)) := (Below.refl _ _).alloc (Nat.le_refl _) _
      have HIZ := Lib.hid (Chips.of_blk (Blk.new wz 3 (intCells (List.replicate M 0)).toArray)).ints
      have GZ := Lib.hid (G11.out.next hbz)
      have OZ := Lib.hid (O611.out.below hbz)
      clear hbz
      obtain ⟨y0, y1, y2, y3, y4⟩ := box_facts GZ.out.box
      go_wp2_with fail
      refine (cSame (List.length_replicate ..) hM6 OZ.out.ints HIZ.out).mono ?_
      rintro e w' ⟨rfl, rfl⟩
      have hbq := (CO.out _ GZ.out.own.edges)
      go_wp2_with fail
      refine hbq.mono ?_
      rintro e w12 ⟨rfl, hb⟩
      have G13 := Lib.hid (GZ.out.next hb)
      clear hb x0 x1 x2 x3 x4 hbq
      go_wp2
      go_ret
      exact ⟨rfl, G13.out.old⟩
  · have hsi : ¬ ((xs.length : Int) ≤ 1048576) := by omega
    go_enter Try.func4, Try.ntmps4
    go_wp2
    go_ret
    exact ⟨rfl, Below.refl _ _⟩
end Go.Proofs.Ytmehdngibbilaaa
