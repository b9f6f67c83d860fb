/- laws.FnOrders: the walk. -/
import Derived.Test.YtmehdngibbilaaaLGrpLw
namespace Go.Proofs.Ytmehdngibbilaaa
open Go.RowKit

section
variable {m M : Nat} {es : List (Int × Int)} {A X Y : Option Addr} {c cx cy : Nat} {x y r : List Int} {W : World}
theorem cTimes (hm : M = m + 1) (hB : graphB (M : Int) es = true) (hG : GrL m es) (zx : ZerL m x) {k : Int} (hk : -1000 ≤ k ∧ k ≤ 1000) (hr : itR M es (rdc M es (signL x k)) k.natAbs = r) (hl : r.length = M) (h1 : EdgeS W W.heap.size A es) (h2 : IntS W W.heap.size X x) :
    Calls Try.prog 32 #[.agg #[.int .i64 (M : Int), .slice A es.length c], .slice X M cx, .int .i64 k] W (GivesKOk W M r) := by
  subst hm
  have h6 := hG.m5
  have h12 := hG.n12
  have h := implTimesC ((m + 1 : Nat) : Int) A X c cx es x k W (by omega) (by rw [zx.len]; omega) h1 h2
  have b1 := zeroB_t hB hG zx
  have b2 : timesOk ((m + 1 : Nat) : Int) es x k = true := by rw [timesOk, b1, inB_t hk]; rfl
  rw [zx.len] at h
  exact GivesKOk.of (by rw [timesC_t b2, hr]) hl b2 h
theorem cOrd (hm : M = m + 1) (hB : graphB (M : Int) es = true) (hG : GrL m es) (zx : ZerL m x) {n : Nat} (hr : ordN m es (gt x) = n) (h1 : EdgeS W W.heap.size A es) (h2 : IntS W W.heap.size X x) :
    Calls Try.prog 30 #[.agg #[.int .i64 (M : Int), .slice A es.length c], .slice X M cx] W (fun e w' => e = .returned (.int .i64 (n : Int)) ∧ Below W.heap.size W w') := by
  subst hm
  have h6 := hG.m5
  have h12 := hG.n12
  have h := implOrdC ((m + 1 : Nat) : Int) A X c cx es x W (by omega) (by rw [zx.len]; omega) h1 h2
  rw [zx.len, ordC_t (zeroB_t hB hG zx), hr] at h
  exact h
theorem diffL_zer (h : 1 ≤ m) : ZerL m (diffL (m + 1) 1 0) := by
  refine ⟨diffL_len _ _ _, fun u => by have := diffL_lim (m + 1) 1 0 u; omega, ?_⟩
  rw [sumN_congr (g := fun u => (if u = 1 then 1 else 0) + (if u = 0 then -1 else 0)) _ fun u hu => by rw [diffL_gt hu]; split <;> split <;> omega]
  rw [sumN_add, sumN_one (f := fun u => if u = 1 then (1 : Int) else 0) (a := 1) (m + 1) (by omega) (fun i _ hi => by simp [hi]), sumN_one (f := fun u => if u = 0 then (-1 : Int) else 0) (a := 0) (m + 1) (by omega) (fun i _ hi => by simp [hi])]
  simp
theorem cDiff (hm : M = m + 1) (hM : 2 ≤ M) (hB : graphB (M : Int) es = true) (hG : GrL m es) (hr : rdc M es (diffL M 1 0) = r) (h1 : EdgeS W W.heap.size A es) :
    Calls Try.prog 33 #[.agg #[.int .i64 (M : Int), .slice A es.length c], .int .i64 1, .int .i64 0] W (GivesKOk W M r) := by
  subst hm
  have h12 := hG.n12
  have h := implDiffC ((m + 1 : Nat) : Int) A c es 1 0 W (by omega) h1
  have b2 : diffOk ((m + 1 : Nat) : Int) es 1 0 = true := by rw [diffOk, hB, vB_t (by omega), vB_t (by omega)]; rfl
  exact GivesKOk.of (by rw [diffC_t b2]; exact hr) (by rw [← hr, rdc_len]) b2 h
theorem cFac (hm : M = m + 1) (hB : graphB (M : Int) es = true) (hG : GrL m es) {F : List Nat} (hF : F = (facB 1 ((List.range m).map fun k => gSets m (redA 0 es) (k + 1))).filter fun x => decide (1 < x)) (h1 : EdgeS W W.heap.size A es) :
    Calls Try.prog 16 #[.agg #[.int .i64 (M : Int), .slice A es.length c]] W (fun e w' => ∃ (A2 : Option Addr) (c2 : Nat), e = .returned (.slice A2 F.length c2) ∧ OwnI w' W.heap.size A2 (natI F) ∧ Below W.heap.size W w') := by
  subst hm
  have h12 := hG.n12
  have h := implFac ((m + 1 : Nat) : Int) A c es W (by omega) h1
  rw [facC_nat hB hG, ← hF] at h
  refine h.mono ?_
  rintro e w' ⟨A2, c2, rfl, ho, hb⟩
  exact ⟨A2, c2, by rw [natI_len], ho, hb⟩
theorem trees_nat (hm : M = m + 1) (hB : graphB (M : Int) es = true) (hG : GrL m es) : treesB (M : Int) es = (gSets m (redA 0 es) m : Int) := by
  subst hm
  rw [trees_det hB hG.m5 hG.n12, (red_det hG.m5 (Nat.zero_le m) hG.cut hG.ed).1]
end
set_option maxRecDepth 100000 in
set_option maxHeartbeats 8000000 in
theorem lawOrders (A0 : Option Addr) (c0 : Nat) (xs : List Int) (w : World) (hn : xs.length ≤ 9223372036854775807) (hS : CodeS w w.heap.size A0 xs) :
    Calls Try.prog 5 #[.slice A0 xs.length c0] w fun e w' => e = .returned (.bool true) ∧ Below w.heap.size w w' := by
  by_cases hs : xs.length ≤ 1048576
  · have hsi : (xs.length : Int) ≤ 1048576 := by omega
    have HS := Lib.hid hS
    have HG := Lib.hid (makeGraph_any w A0 c0 xs hs hS)
    clear hS
    go_enter Try.func5, Try.ntmps5
    go_wp2_with fail
    refine HG.out.mono ?_
    rintro e w1 ⟨M, A, c, es, rfl, hM2, hM5, hel, hg, ho, hb1⟩
    obtain ⟨W1, hW1⟩ : ∃ X : World, X = w1.alloc (Obj.cells #[.int .i64 (M : Int), .slice A es.length c] 25) := ⟨_, rfl⟩
    have G1 := Lib.hid (show GLaw w W1 w1.heap.size M A c es from by
      rw [hW1]
      exact ⟨hb1.alloc hb1.size _, Blk.new w1 _ _, ho.below ((Below.refl _ _).alloc (Nat.le_refl _) _)⟩)
    have HW1 := Lib.hid hW1
    have HGR := Lib.hid hg
    obtain ⟨m, hm⟩ : ∃ m, M = m + 1 := ⟨M - 1, by omega⟩
    have HMM := Lib.hid hm
    have HGL := Lib.hid (show GrL m es from by
      obtain ⟨m', e, h⟩ := grl_of hg
      obtain rfl : m' = m := by omega
      exact h)
    obtain ⟨x0, x1, x2, x3, x4⟩ := box_facts G1.out.box
    clear ho hb1 hW1 hg HG hm
    have HZ := Lib.hid (cZero HMM.out 20 (by omega) A es.length c A0 c0 xs W1 HGL.out.m5 hs ((HS.out.keep G1.out.old).up G1.out.old.size))
    go_wp2_with fail
    rw [← HW1.out]
    refine HZ.out.mono ?_
    rintro e w2 ⟨La, ca, a, rfl, hza, ho, hb⟩
    have G2 := Lib.hid (G1.out.next hb)
    have Oa2 := Lib.hid (ho.mono (base' := w.heap.size) G1.out.old.size)
    have HZa := Lib.hid hza
    clear hb ho HZ hza x0 x1 x2 x3 x4 G1  HW1
    obtain ⟨x0, x1, x2, x3, x4⟩ := box_facts G2.out.box
    have hen : es.length ≤ 1048576 := by omega
    have hM6 : M ≤ 6 := by omega
    have HGX := Lib.hid (HGL.out.gx A w2 G2.out.own.edges)
    have CO := Lib.hid (fun (W : World) (h1 : EdgeS W W.heap.size A es) => implOrdG (M : Int) A c es W hen h1)
    rw [trees_nat HMM.out HGR.out HGL.out] at CO
    have OI := ord_is HGL.out HZa.out
    have LL := last_law HGL.out (by have := HMM.out; omega) HZa.out _ rfl
    have hds := det_small HGL.out
    have HOL := Lib.hid (fun k => ord_law HGL.out HGX.out HZa.out k)
    obtain ⟨n, hnn⟩ : ∃ n, ordN m es (gt a) = n := ⟨_, rfl⟩
    rw [hnn] at OI LL HOL
    obtain ⟨T, hT⟩ : ∃ T, T = gSets m (redA 0 es) m := ⟨_, rfl⟩
    rw [← hT] at CO OI hds
    obtain ⟨o1, o2, o3⟩ := OI
    have hn0 : 0 < n := o1.1
    obtain ⟨F, hF⟩ : ∃ F, F = (facB 1 ((List.range m).map fun k => gSets m (redA 0 es) (k + 1))).filter fun x => decide (1 < x) := ⟨_, rfl⟩
    rw [← hF] at LL
    have HFF := Lib.hid hF
    have HNN := Lib.hid hnn
    have HLL := Lib.hid LL
    have t1 : ¬ ((n : Int) < 1) := by omega
    have t2 : ¬ ((T : Int) < (n : Int)) := by omega
    have t3 : (T : Int).tmod (n : Int) = 0 := by
      obtain ⟨q, rfl⟩ := o3
      rw [Int.natCast_mul, Int.mul_tmod_right]
    have t4 : ((n : Int) == 0) = false := by simp; omega
    have t5 : (n : Int) ≠ 0 := by omega
    have hn9 : (n : Int) ≤ 7500000000000000000 := by omega
    clear hF hnn hT LL o1 o2 o3 hds hM5 hel
    go_wp2_with fail
    refine (cOrd HMM.out HGR.out HGL.out HZa.out HNN.out G2.out.own.edges Oa2.out.ints).mono ?_
    rintro e w3 ⟨rfl, hb⟩
    have G3 := Lib.hid (G2.out.next hb)
    have Oa3 := Lib.hid (Oa2.out.below hb)
    clear hb x0 x1 x2 x3 x4 G2 Oa2
    obtain ⟨x0, x1, x2, x3, x4⟩ := box_facts G3.out.box
    go_wp2_with fail
    refine (CO.out w3 G3.out.own.edges).mono ?_
    rintro e w4 ⟨rfl, hb⟩
    have G4 := Lib.hid (G3.out.next hb)
    have Oa4 := Lib.hid (Oa3.out.below hb)
    clear hb x0 x1 x2 x3 x4 G3 Oa3
    obtain ⟨x0, x1, x2, x3, x4⟩ := box_facts G4.out.box
    go_wp2_with fail
    refine (CO.out w4 G4.out.own.edges).mono ?_
    rintro e w5 ⟨rfl, hb⟩
    have G5 := Lib.hid (G4.out.next hb)
    have Oa5 := Lib.hid (Oa4.out.below hb)
    clear hb x0 x1 x2 x3 x4 G4 Oa4
    obtain ⟨x0, x1, x2, x3, x4⟩ := box_facts G5.out.box
    have HN := Lib.hid (makeNum_any 60 (by omega) w5 A0 c0 xs hs ((HS.out.keep G5.out.old).up G5.out.old.size))
    go_wp2_with fail
    refine HN.out.mono ?_
    rintro e w6 ⟨y, rfl, hy0, hy1, hb⟩
    have G6 := Lib.hid (G5.out.next hb)
    have Oa6 := Lib.hid (Oa5.out.below hb)
    clear hb x0 x1 x2 x3 x4 G5 Oa5 HN
    obtain ⟨x0, x1, x2, x3, x4⟩ := box_facts G6.out.box
    obtain ⟨k, hky, hk⟩ : ∃ k : Nat, y.tmod 20 = (k : Int) ∧ k < 20 := by
      rw [Int.tmod_eq_emod_of_nonneg hy0]
      exact ⟨(y % 20).toNat, by omega, by omega⟩
    have hk20 : (k : Int) < 20 := by omega
    have hk0 : (0 : Int) ≤ (k : Int) := Int.natCast_nonneg _
    obtain ⟨j, hkj, hjn⟩ : ∃ j : Nat, (k : Int).tmod (n : Int) = (j : Int) ∧ j = k % n := ⟨k % n, by rw [Int.tmod_eq_emod_of_nonneg hk0]; omega, rfl⟩
    have hj20 : j < 20 := by rw [hjn]; exact Nat.lt_of_le_of_lt (Nat.mod_le _ _) hk
    obtain ⟨X, Z, R, hX, hY, hZ, hI, zX, zZ, hRl⟩ : ∃ X Z R : List Int, itR M es (rdc M es (signL a (k : Int))) ((k : Int).natAbs) = X ∧ itR M es (rdc M es (signL a (j : Int))) ((j : Int).natAbs) = X ∧ itR M es (rdc M es (signL a (-(k : Int)))) ((-(k : Int)).natAbs) = Z ∧ rdc M es (negB X) = Z ∧ ZerL m X ∧ ZerL m Z ∧ R = rdc M es (diffL M 1 0) := by
      have h := HOL.out k
      rw [← hjn, ← HMM.out] at h
      rw [sign_pos (by omega), sign_pos (by omega), Int.natAbs_natCast, Int.natAbs_natCast, Int.natAbs_neg, Int.natAbs_natCast]
      exact ⟨_, _, _, rfl, h.xy.symm, h.zin, rfl, h.zx, h.zi, rfl⟩
    have HX := Lib.hid hX
    have HY := Lib.hid hY
    have HZ := Lib.hid hZ
    have HI := Lib.hid hI
    have ZX := Lib.hid zX
    have ZZ := Lib.hid zZ
    have HR := Lib.hid hRl.symm
    have HXL := Lib.hid (show X.length = M by rw [zX.len, HMM.out])
    have HZL := Lib.hid (show Z.length = M by rw [zZ.len, HMM.out])
    have ZR := Lib.hid (show ZerL m R from by
      have hm := HMM.out
      have hx := HGX.out
      rw [hRl, hm]
      exact (diffL_zer (by omega)).redZ hx)
    have hkn : IntKind.i64.wrap (-(k : Int)) = -(k : Int) := by rw [IntKind.wrap_i64]; omega
    have HK := Lib.hid hk
    have HJ := Lib.hid hj20
    clear hX hY hZ hI zX zZ hRl hjn HOL hk hj20
    go_wp2_with fail
    refine (cTimes HMM.out HGR.out HGL.out HZa.out (by have := HK.out; omega) HX.out HXL.out G6.out.own.edges Oa6.out.ints).mono ?_
    rintro e w7 ⟨Q1, d1, rfl, ho, hb⟩
    have G7 := Lib.hid (G6.out.next hb)
    have Oa7 := Lib.hid (Oa6.out.below hb)
    have O17 := Lib.hid (ho.mono (base' := w.heap.size) G6.out.old.size)
    clear hb x0 x1 x2 x3 x4 G6 Oa6
    obtain ⟨x0, x1, x2, x3, x4⟩ := box_facts G7.out.box
    have HP0 := Lib.hid (show w7.drew.cell? ⟨w1.heap.size, 0, none⟩ = some (.int .i64 (M : Int)) ∧ w7.drew.cell? ⟨w1.heap.size, 1, none⟩ = some (.slice A es.length c) ∧ Below w7.heap.size w7 w7.drew from ⟨x0, x1, (Below.refl _ _).drew⟩)
    have PT := fun (W : World) (h : Below w7.heap.size w7 W) => Lib.hid (cTimes (A := A) (c := c) (X := La) (cx := ca) HMM.out HGR.out HGL.out HZa.out (k := (j : Int)) (by have := HJ.out; omega) HY.out HXL.out (G7.out.next h).own.edges (Oa7.out.below h).ints)
    go_wp2_with fail
    go_region_held3 (fun w' => w'.cell? ⟨w1.heap.size, 0, none⟩ = some (.int .i64 (M : Int)) ∧ w'.cell? ⟨w1.heap.size, 1, none⟩ = some (.slice A es.length c) ∧ Below w7.heap.size w7 w')
      (first
        | with_reducible exact HP0.out
        | with_reducible exact keepG (by assumption) hb)
      (first
        | (go_at_call 32; refine (PT _ (And.right (And.right (by assumption)))).out.mono ?_; rintro e w8 ⟨Q2, d2, rfl, ho, hb⟩))
    have hb78 : Below w7.heap.size w7 w8 := And.right (And.right (by assumption))
    have G8 := Lib.hid (G7.out.next hb78)
    have Oa8 := Lib.hid (Oa7.out.below hb78)
    have O18 := Lib.hid (O17.out.below hb78)
    have O28 := Lib.hid (ho.mono (base' := w.heap.size) (by have := G7.out.old.size; first | exact this | exact Nat.le_trans this (And.right (And.right (by assumption))).size))
    clear hb hb78 ho HP0 PT x0 x1 x2 x3 x4 G7 Oa7 O17
    obtain ⟨x0, x1, x2, x3, x4⟩ := box_facts G8.out.box
    go_wp2_with fail
    refine (cTimes HMM.out HGR.out HGL.out HZa.out (by have := HK.out; omega) HZ.out HZL.out G8.out.own.edges Oa8.out.ints).mono ?_
    rintro e w9 ⟨Q3, d3, rfl, ho, hb⟩
    have G9 := Lib.hid (G8.out.next hb)
    have Oa9 := Lib.hid (Oa8.out.below hb)
    have O19 := Lib.hid (O18.out.below hb)
    have O29 := Lib.hid (O28.out.below hb)
    have O39 := Lib.hid (ho.mono (base' := w.heap.size) G8.out.old.size)
    clear hb x0 x1 x2 x3 x4 G8 Oa8 O18 O28
    obtain ⟨x0, x1, x2, x3, x4⟩ := box_facts G9.out.box
    go_wp2_with fail
    refine (cInv HMM.out HGR.out HGL.out ZX.out HI.out G9.out.own.edges O19.out.ints).mono ?_
    rintro e w10 ⟨Q4, d4, rfl, ho, hb⟩
    have G10 := Lib.hid (G9.out.next hb)
    have Oa10 := Lib.hid (Oa9.out.below hb)
    have O110 := Lib.hid (O19.out.below hb)
    have O210 := Lib.hid (O29.out.below hb)
    have O310 := Lib.hid (O39.out.below hb)
    have O410 := Lib.hid (ho.mono (base' := w.heap.size) G9.out.old.size)
    clear hb x0 x1 x2 x3 x4 G9 Oa9 O19 O29 O39
    obtain ⟨x0, x1, x2, x3, x4⟩ := box_facts G10.out.box
    go_wp2_with fail
    refine (cFac HMM.out HGR.out HGL.out HFF.out G10.out.own.edges).mono ?_
    rintro e w11 ⟨Q5, d5, rfl, ho, hb⟩
    have G11 := Lib.hid (G10.out.next hb)
    have Oa11 := Lib.hid (Oa10.out.below hb)
    have O111 := Lib.hid (O110.out.below hb)
    have O211 := Lib.hid (O210.out.below hb)
    have O311 := Lib.hid (O310.out.below hb)
    have O411 := Lib.hid (O410.out.below hb)
    have O511 := Lib.hid (ho.mono (base' := w.heap.size) G10.out.old.size)
    clear hb x0 x1 x2 x3 x4 G10 Oa10 O110 O210 O310 O410
    obtain ⟨x0, x1, x2, x3, x4⟩ := box_facts G11.out.box
    go_wp2_with fail
    refine (cDiff HMM.out hM2 HGR.out HGL.out HR.out G11.out.own.edges).mono ?_
    rintro e w12 ⟨Q6, d6, rfl, ho, hb⟩
    have G12 := Lib.hid (G11.out.next hb)
    have Oa12 := Lib.hid (Oa11.out.below hb)
    have O112 := Lib.hid (O111.out.below hb)
    have O212 := Lib.hid (O211.out.below hb)
    have O312 := Lib.hid (O311.out.below hb)
    have O412 := Lib.hid (O411.out.below hb)
    have O512 := Lib.hid (O511.out.below hb)
    have O612 := Lib.hid (ho.mono (base' := w.heap.size) G11.out.old.size)
    clear hb x0 x1 x2 x3 x4 G11 Oa11 O111 O211 O311 O411 O511
    obtain ⟨x0, x1, x2, x3, x4⟩ := box_facts G12.out.box
    go_wp2_with fail
    refine (cSame HXL.out hM6 O112.out.ints O212.out.ints).mono ?_
    rintro e wz ⟨rfl, rfl⟩
    go_wp2_with fail
    refine (cSame HZL.out hM6 O312.out.ints O412.out.ints).mono ?_
    rintro e wz ⟨rfl, rfl⟩
    by_cases hF0 : F = []
    · have hn1 : n = 1 := HLL.out.1 hF0
      subst hF0
      subst hn1
      go_wp2_with fail
      refine (cDeg HMM.out HGL.out ZR.out O612.out.ints).mono ?_
      rintro e w13 ⟨rfl, hb⟩
      have G13 := Lib.hid (G12.out.next hb)
      clear hb
      go_wp2
      go_ret
      exact ⟨rfl, G13.out.old⟩
    · obtain ⟨z, hz⟩ : ∃ z, F.getLast? = some z := ⟨_, List.getLast?_eq_some_getLast hF0⟩
      obtain ⟨q, hq⟩ := HLL.out.2 z hz
      have hFl : 0 < F.length := List.length_pos_iff.2 hF0
      rw [List.getLast?_eq_getElem?] at hz
      have hzi := natI_at hz
      obtain ⟨b5, o5, hQ5, hb5, hl5, hc5⟩ := O512.out (by rw [natI_len]; exact hFl)
      subst hQ5
      go_wp2_with fail
      refine (cDeg HMM.out HGL.out ZR.out O612.out.ints).mono ?_
      rintro e w13 ⟨rfl, hb⟩
      have G13 := Lib.hid (G12.out.next hb)
      have hcz : w13.cell? ⟨b5, o5 + (F.length - 1), none⟩ = some (.int .i64 (z : Int)) := (hb.cell (p := ⟨b5, o5 + (F.length - 1), none⟩) hl5).trans (hc5 _ _ hzi).1
      have hFX : F.length ≤ 6 := by
        have hF := HFF.out
        rw [hF]
        have hm5 := HGL.out.m5
        refine Nat.le_trans (List.length_filter_le _ _) ?_
        rw [facB_len]
        simp
        omega
      have z0 : ((F.length : Int) == 0) = false := by simp; omega
      have z1 : (0 : Int) < (F.length : Int) := by omega
      have z2 : IntKind.i64.wrap ((F.length : Int) - 1) = ((F.length - 1 : Nat) : Int) := by rw [IntKind.wrap_i64]; omega
      have z3 : (0 : Int) ≤ ((F.length - 1 : Nat) : Int) := Int.natCast_nonneg _
      have z4 : ((F.length - 1 : Nat) : Int) < (F.length : Int) := by omega
      have z5 : (z : Int).tmod (n : Int) = 0 := by rw [hq, Int.natCast_mul, Int.mul_tmod_right]
      clear hb hc5 hz hzi hq
      go_wp2
      go_ret
      exact ⟨rfl, G13.out.old⟩
  · have hsi : ¬ ((xs.length : Int) ≤ 1048576) := by omega
    go_enter Try.func5, Try.ntmps5
    go_wp2
    go_ret
    exact ⟨rfl, Below.refl _ _⟩
end Go.Proofs.Ytmehdngibbilaaa
