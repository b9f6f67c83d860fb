/- laws.FnScripts: the walk. -/
import Derived.Test.YtcfhkaefjhcglaaScqF
import Derived.Test.YtcfhkaefjhcglaaBM
import Derived.Test.YtcfhkaefjhcglaaPrinI
namespace Go.Proofs.Ytcfhkaefjhcglaa
open Go.RowKit

set_option maxRecDepth 100000 in
set_option maxHeartbeats 8000000 in
theorem lawScripts (A0 : Option Addr) (c0 : Nat) (xs : List Int) (w : World) (hn : xs.length ≤ 9223372036854775807) (hS : CodeS w w.heap.size A0 xs) :
    Calls Try.prog 4 #[.slice A0 xs.length c0] w fun e w' => e = .returned (.bool true) ∧ Below w.heap.size w w' := by
  by_cases hs : xs.length ≤ 1048576
  · have hsi : (xs.length : Int) ≤ 1048576 := by omega
    have HS := Lib.hid hS
    have HG := Lib.hid (makeGraph_any w A0 c0 xs hs hS)
    clear hS
    go_enter Try.func4, Try.ntmps4
    go_wp2_with fail
    refine HG.out.mono ?_
    rintro e w1 ⟨M, A, c, es, rfl, hM2, hM5, hel, hg, ho, hb1⟩
    obtain ⟨W1, hW1⟩ : ∃ X : World, X = w1.alloc (Obj.cells #[.int .i64 (M : Int), .slice A es.length c] 25) := ⟨_, rfl⟩
    have G1 := Lib.hid (show GLaw w W1 w1.heap.size M A c es from by
      rw [hW1]
      exact ⟨hb1.alloc hb1.size _, Blk.new w1 _ _, ho.below ((Below.refl _ _).alloc (Nat.le_refl _) _)⟩)
    have HW1 := Lib.hid hW1
    have HGR := Lib.hid hg
    obtain ⟨x0, x1, x2, x3, x4⟩ := box_facts G1.out.box
    clear ho hb1 hW1 hg HG
    have HD := Lib.hid (makeDivisor_any W1 20 M (by omega) A es.length c A0 c0 xs (by omega) hs ((HS.out.keep G1.out.old).up G1.out.old.size))
    go_wp2_with fail
    rw [← HW1.out]
    refine HD.out.mono ?_
    rintro e w2 ⟨D, cd, d, rfl, HDL, hbd, hod, hb2⟩
    have hdl := HDL.out
    have G2 := Lib.hid (G1.out.next hb2)
    have HOD := Lib.hid (hod.mono (base' := w.heap.size) G1.out.old.size)
    have HBD := Lib.hid hbd
    clear hod hb2 hbd HD G1 x0 x1 x2 x3 x4 HW1
    obtain ⟨x0, x1, x2, x3, x4⟩ := box_facts G2.out.box
    have hM6 : M ≤ 6 := by omega
    have hen : es.length ≤ 1048576 := by omega
    have hM0 : 0 < M := by omega
    have FI := fun (W : World) (S : Option Addr) (cs : Nat) (t x : List Int) (h1 : EdgeS W W.heap.size A es) (h2 : IntS W W.heap.size D d) (h3 : IntS W W.heap.size S t) (h4 : t.length = M) (h5 : fireOk (M : Int) es d t = true) (h6 : fireB (M : Int) es d t = x) (h7 : x.length = M) => Lib.hid (show Calls Try.prog 17 #[.agg #[.int .i64 (M : Int), .slice A es.length c], .slice D M cd, .slice S M cs] W (fun e w' => ∃ (A1 : Option Addr) (c1 : Nat), e = .returned (.tuple #[.slice A1 M c1, .bool true]) ∧ OwnI w' W.heap.size A1 x ∧ Below W.heap.size W w') from by
      have h := implFire (M : Int) A D S c cd cs es d t W hen (by omega) (by omega) h1 h2 h3
      rw [hdl, h4, h5, h6] at h
      refine h.mono ?_
      rintro e w' ⟨A1, c1, rfl, ho, hb⟩
      exact ⟨A1, c1, by rw [h7], ho, hb⟩)
    have BT := fun (W : World) (X Y : Option Addr) (cx cy : Nat) (a b z : List Int) (h1 : EdgeS W W.heap.size A es) (h2 : IntS W W.heap.size X a) (h3 : IntS W W.heap.size Y b) (ha : a.length = M) (hb : b.length = M) (h5 : eqvB (M : Int) es a b = true) (h6 : betB (M : Int) es a b = z) (h7 : z.length = M) => Lib.hid (show Calls Try.prog 27 #[.agg #[.int .i64 (M : Int), .slice A es.length c], .slice X M cx, .slice Y M cy] W (fun e w' => ∃ (A1 : Option Addr) (c1 : Nat), e = .returned (.tuple #[.slice A1 M c1, .bool true]) ∧ OwnI w' W.heap.size A1 z ∧ Below W.heap.size W w') from by
      have h := implBet (M : Int) A X Y c cx cy es a b W hen (by omega) (by omega) h1 h2 h3
      rw [ha, hb, h5, h6] at h
      refine h.mono ?_
      rintro e w' ⟨A1, c1, rfl, ho, hb⟩
      exact ⟨A1, c1, by rw [h7], ho, hb⟩)
    have SA := fun (W : World) (r : List Int) (E F : Option Addr) (ce cf : Nat) (hr : r.length = M) (h1 : IntS W W.heap.size E r) (h2 : IntS W W.heap.size F r) => Lib.hid (show Calls Try.prog 24 #[.slice E M ce, .slice F M cf] W (fun e w' => e = .returned (.bool true) ∧ w' = W) from by
      have h := sameI_any E F ce cf r r W (by omega) (by omega) h1 h2
      rw [hr, show decide (r = r) = true from decide_eq_true rfl] at h
      exact h)
    have MS := fun (W : World) (hb : Below w.heap.size w W) => Lib.hid (show Calls Try.prog 16 #[.slice A0 xs.length c0, .int .i64 40, .agg #[.int .i64 (M : Int), .slice A es.length c]] W (fun e w' => ∃ (A1 : Option Addr) (c1 : Nat) (t : List Int), e = .returned (.slice A1 M c1) ∧ Hid (t.length = M) ∧ (∀ x ∈ t, -3 ≤ x ∧ x ≤ 3) ∧ OwnI w' W.heap.size A1 t ∧ Below W.heap.size W w') from by
      refine (makeScript_any W 40 M (by omega) A es.length c A0 c0 xs (by omega) hs ((HS.out.keep hb).up hb.size)).mono ?_
      rintro e w' ⟨A1, c1, t, rfl, hl, hbt, ho, hb⟩
      exact ⟨A1, c1, t, by rw [hl.out], hl, hbt, ho, hb⟩)
    have HEX := Lib.hid (red_ex A D M es d w2 (divB_ofC HGR.out hdl (fun x hx => by have := HBD.out x hx; omega)) G2.out.own.edges HOD.out.ints)
    have HEZ := Lib.hid (red_ex A (some ⟨w2.heap.size, 0, none⟩) M es (List.replicate M 0) (w2.alloc (.cells (intCells (List.replicate M 0)).toArray 3)) (divB_ofC HGR.out (by simp) (fun x hx => by rw [List.eq_of_mem_replicate hx]; omega)) (G2.out.own.edges.up_ ((Below.refl _ _).alloc (Nat.le_refl _) _)) (IntS.of_blk (Blk.new w2 _ _) (Blk.new w2 _ _).lt))
    have F1 := fun (t : List Int) (h1 : t.length = M) (h2 : ∀ x ∈ t, -3 ≤ x ∧ x ≤ 3) => Lib.hid (scqF HGR.out hM0 hM5 hel hdl HBD.out h1 h2 HEX.out HEZ.out)
    have HM5 := Lib.hid hM5
    have HM0 := Lib.hid hM0
    have HEN := Lib.hid hen
    clear hel hM5 hM6 hen HEZ HEX
    rw [hdl]
    -- the drawn script, fired
    go_wp2_with fail
    go_region_held3 (fun w' => w'.cell? ⟨w1.heap.size, 0, none⟩ = some (.int .i64 (M : Int)) ∧ w'.cell? ⟨w1.heap.size, 1, none⟩ = some (.slice A es.length c) ∧ Below w2.heap.size w2 w')
      (first
        | exact ⟨x0, x1, (Below.refl _ _).drew⟩
        | exact keepX (by assumption) hb3 x4 (Nat.le_refl _)
        | exact keepX (by assumption) hb4 (Nat.lt_of_lt_of_le x4 hb3.size) hb3.size)
      (first
        | (go_at_call 16; refine (MS _ G2.out.old.drew).out.mono ?_; rintro e w3 ⟨T, ct, t, rfl, HTL, hbt, hot, hb3⟩; have G3 := Lib.hid (G2.out.next ((Below.refl _ _).drew.trans hb3)); have D3 := Lib.hid (HOD.out.below ((Below.refl _ _).drew.trans hb3)))
        | (go_at_call 17; refine (FI w3 T ct t (firedB M es d t) G3.out.own.edges D3.out.ints hot.ints HTL.out (F1 t HTL.out hbt).out.tok (F1 t HTL.out hbt).out.tb (F1 t HTL.out hbt).out.el).out.mono ?_; rintro e w4 ⟨E, ce, rfl, hoe, hb4⟩))
    have FT := Lib.hid (F1 t HTL.out hbt)
    have HLT := Lib.hid hbt
    obtain ⟨z, hz⟩ : ∃ z, z = firedB M es d t := ⟨_, rfl⟩
    obtain ⟨s, hsr⟩ : ∃ s, s = betB (M : Int) es d z := ⟨_, rfl⟩
    obtain ⟨u, hur⟩ : ∃ u, u = betB (M : Int) es z d := ⟨_, rfl⟩
    obtain ⟨x, hxr⟩ : ∃ x, x = addB d (negB z) := ⟨_, rfl⟩
    rw [← hz] at FT hoe
    rw [← hsr, ← hur, ← hxr] at FT
    have HXR := Lib.hid hxr
    have hb4' : Below w2.heap.size w2 w4 := ((Below.refl _ _).drew.trans hb3).trans (hb4.mono hb3.size)
    have G4 := Lib.hid (G3.out.next hb4)
    have D4 := Lib.hid (D3.out.below hb4)
    have E4 := Lib.hid (hoe.mono (base' := w.heap.size) G3.out.old.size)
    clear hoe hb4 hb4' hb3 hot G2 HOD G3 D3 x0 x1 x2 x3 x4 F1 MS hbt hz hsr hur hxr
    obtain ⟨x0, x1, x2, x3, x4⟩ := box_facts G4.out.box
    -- ScriptBetween, there and back
    go_wp2_with fail
    refine (BT w4 D E cd ce d z s G4.out.own.edges D4.out.ints E4.out.ints HDL.out FT.out.el FT.out.eqv FT.out.s1 FT.out.sl).out.mono ?_
    rintro e w5 ⟨S, cs, rfl, hos, hb5⟩
    have G5 := Lib.hid (G4.out.next hb5)
    have D5 := Lib.hid (D4.out.below hb5)
    have E5 := Lib.hid (E4.out.below hb5)
    have S5 := Lib.hid (hos.mono (base' := w.heap.size) G4.out.old.size)
    clear hos hb5 G4 D4 E4 x0 x1 x2 x3 x4
    obtain ⟨x0, x1, x2, x3, x4⟩ := box_facts G5.out.box
    go_wp2_with fail
    refine (BT w5 E D ce cd z d u G5.out.own.edges E5.out.ints D5.out.ints FT.out.el HDL.out FT.out.qve FT.out.u1 FT.out.ul).out.mono ?_
    rintro e w6 ⟨U, cu, rfl, hou, hb6⟩
    have G6 := Lib.hid (G5.out.next hb6)
    have D6 := Lib.hid (D5.out.below hb6)
    have E6 := Lib.hid (E5.out.below hb6)
    have S6 := Lib.hid (S5.out.below hb6)
    have U6 := Lib.hid (hou.mono (base' := w.heap.size) G5.out.old.size)
    clear hou hb6 G5 D5 E5 S5 x0 x1 x2 x3 x4
    obtain ⟨x0, x1, x2, x3, x4⟩ := box_facts G6.out.box
    -- FireScript by the script between
    go_wp2_with fail
    refine (FI w6 S cs s z G6.out.own.edges D6.out.ints S6.out.ints FT.out.sl FT.out.sok FT.out.sb FT.out.el).out.mono ?_
    rintro e w7 ⟨X, cx, rfl, hox, hb7⟩
    have G7 := Lib.hid (G6.out.next hb7)
    have D7 := Lib.hid (D6.out.below hb7)
    have E7 := Lib.hid (E6.out.below hb7)
    have S7 := Lib.hid (S6.out.below hb7)
    have U7 := Lib.hid (U6.out.below hb7)
    have X7 := Lib.hid (hox.mono (base' := w.heap.size) G6.out.old.size)
    clear hox hb7 G6 D6 E6 S6 U6 x0 x1 x2 x3 x4
    obtain ⟨x0, x1, x2, x3, x4⟩ := box_facts G7.out.box
    go_wp2_with fail
    refine (SA w7 z X E cx ce FT.out.el X7.out.ints E7.out.ints).out.mono ?_
    rintro e w8 ⟨rfl, rfl⟩
    -- s[0]
    obtain ⟨bs, os, rfl, hbs0, hbs1, hsc⟩ := S7.out (by rw [FT.out.sl]; exact HM0.out)
    obtain ⟨bu, ou, rfl, hbu0, hbu1, huc⟩ := U7.out (by rw [FT.out.ul]; exact HM0.out)
    have HSC := Lib.hid hsc
    have HUC := Lib.hid huc
    obtain ⟨y0, hy0⟩ : ∃ y, s[0]? = some y := ⟨_, List.getElem?_eq_getElem (by rw [FT.out.sl]; exact HM0.out)⟩
    obtain ⟨z0, hz0⟩ : ∃ y, u[0]? = some y := ⟨_, List.getElem?_eq_getElem (by rw [FT.out.ul]; exact HM0.out)⟩
    have p0 := (hsc 0 y0 hy0).1
    rw [Nat.add_zero] at p0
    have HY0 := Lib.hid hy0
    have HZ0 := Lib.hid hz0
    have hM0i : (0 : Int) < (M : Int) := by have := HM0.out; omega
    clear hsc huc hy0 hz0 S7 U7 X7
    go_wp2_with fail
    have HB0 := Lib.hid (Below.refl w8.heap.size w8)
    go_loopw [13, 94] (fun m i wr => ∃ k : Nat, k ≤ M ∧ i = .int .i64 k ∧ m = .int .i64 (leastK y0 s k) ∧ Below w8.heap.size w8 wr) (fun _ i _ => M - (intOf i).toNat)
    case atStart => exact ⟨0, Nat.zero_le _, rfl, rfl, HB0.out⟩
    case round =>
      obtain ⟨k, hk, rfl, rfl, hb⟩ := hrel
      have HB := Lib.hid hb
      clear hb p0 x0 x1 x2 x3 x4
      have hi0 : (0 : Int) ≤ (k : Int) := Int.natCast_nonneg _
      by_cases hlt : k < M
      · obtain ⟨y, hy⟩ : ∃ y, s[k]? = some y := ⟨_, List.getElem?_eq_getElem (by rw [FT.out.sl]; exact hlt)⟩
        obtain ⟨v, hv⟩ : ∃ y, u[k]? = some y := ⟨_, List.getElem?_eq_getElem (by rw [FT.out.ul]; exact hlt)⟩
        have q1 : wr.cell? ⟨bs, os + k, none⟩ = some (.int .i64 y) := (HB.out.cell (p := ⟨bs, os + k, none⟩) hbs1).trans (HSC.out k y hy).1
        have q2 : wr.cell? ⟨bu, ou + k, none⟩ = some (.int .i64 v) := (HB.out.cell (p := ⟨bu, ou + k, none⟩) hbu1).trans (HUC.out k v hv).1
        have q3 : wr.cell? ⟨bs, os, none⟩ = some (.int .i64 y0) := (HB.out.cell (p := ⟨bs, os, none⟩) hbs1).trans (by have := (HSC.out 0 y0 HY0.out).1; rwa [Nat.add_zero] at this)
        have q4 : wr.cell? ⟨bu, ou, none⟩ = some (.int .i64 z0) := (HB.out.cell (p := ⟨bu, ou, none⟩) hbu1).trans (by have := (HUC.out 0 z0 HZ0.out).1; rwa [Nat.add_zero] at this)
        have hi1 : (k : Int) < (M : Int) := by omega
        have hi2 : (M : Int) ≤ 5 := by have := HM5.out; omega
        obtain ⟨f1, f2, f3, f4, f5⟩ := FT.out.sum k y v hy hv
        obtain ⟨g1, g2, g3, g4, g5⟩ := FT.out.sum 0 y0 z0 HY0.out HZ0.out
        have HST := Lib.hid (show leastK y0 s (k + 1) = min (leastK y0 s k) y by
          unfold leastK
          rw [List.take_add_one, hy]
          exact leastF_snoc (s.take k) y0 y)
        have t1 : (IntKind.i64.wrap (y + v) != IntKind.i64.wrap (y0 + z0)) = false := by
          rw [IntKind.wrap_i64, IntKind.wrap_i64]
          simp only [bne_eq_false_iff_eq]
          omega
        have t2 : IntKind.i64.wrap (y + v) = y + v := by rw [IntKind.wrap_i64]; omega
        have t3 : IntKind.i64.wrap (y0 + z0) = y0 + z0 := by rw [IntKind.wrap_i64]; omega
        have t4 : (y + v != y0 + z0) = false := by simp only [bne_eq_false_iff_eq]; omega
        clear hy hv f1 f2 f3 f4 f5 g1 g2 g3 g4 g5
        go_wp2_with fail
        go_quiet (fail)
        go_wp2
        exact ⟨⟨k + 1, by omega, by go_num, by rw [HST.out], below_drewN HB.out _⟩, by simp [intOf]; omega⟩
      · have hlk := leastK_all HY0.out (k := k) (by rw [FT.out.sl]; omega)
        rw [hlk, FT.out.least]
        have G9 := Lib.hid (G7.out.next HB.out)
        have D9 := Lib.hid (D7.out.below HB.out)
        have E9 := Lib.hid (E7.out.below HB.out)
        have NG := Lib.hid (show Calls Try.prog 19 #[.slice E M ce] wr (fun e w' => ∃ (A1 : Option Addr) (c1 : Nat), e = .returned (.slice A1 M c1) ∧ OwnI w' wr.heap.size A1 (negB z) ∧ Below wr.heap.size wr w') by
          have h := implNeg E ce z wr (by rw [FT.out.el]; have := HM5.out; omega) E9.out.ints
          rw [FT.out.el] at h
          refine h.mono ?_
          rintro e w' ⟨A1, c1, rfl, ho, hb⟩
          exact ⟨A1, c1, by rw [negB_length, FT.out.el], ho, hb⟩)
        have AD := fun (W : World) (A1 : Option Addr) (c1 : Nat) (h1 : IntS W W.heap.size D d) (h2 : IntS W W.heap.size A1 (negB z)) => Lib.hid (show Calls Try.prog 23 #[.slice D M cd, .slice A1 M c1] W (fun e w' => ∃ (A2 : Option Addr) (c2 : Nat), e = .returned (.tuple #[.slice A2 M c2, .bool true]) ∧ OwnI w' W.heap.size A2 x ∧ Below W.heap.size W w') by
          have hnl : (negB z).length = M := by rw [negB_length, FT.out.el]
          have h := implAddD D A1 cd c1 d (negB z) W (by rw [HDL.out]; have := HM5.out; omega) (by rw [hnl]; have := HM5.out; omega) h1 h2
          rw [show sameLen d (negB z) = true by unfold sameLen; rw [hnl, HDL.out]; simp, ← HXR.out, HDL.out, hnl] at h
          refine h.mono ?_
          rintro e w' ⟨A2, c2, rfl, ho, hb⟩
          exact ⟨A2, c2, by rw [FT.out.xl], ho, hb⟩)
        have PR := fun (W : World) (A2 : Option Addr) (c2 : Nat) (h1 : EdgeS W W.heap.size A es) (h2 : IntS W W.heap.size A2 x) => Lib.hid (show Calls Try.prog 28 #[.agg #[.int .i64 (M : Int), .slice A es.length c], .slice A2 M c2] W (fun e w' => e = .returned (.bool true) ∧ Below W.heap.size W w') by
          have h := implPrin (M : Int) A A2 c c2 es x W HEN.out (by rw [FT.out.xl]; have := HM5.out; omega) h1 h2
          rw [FT.out.prin, FT.out.xl] at h
          exact h)
        clear hlk HSC HUC HY0 HZ0 G7 D7 E7
        go_wp2_with fail
        refine NG.out.mono ?_
        rintro e w10 ⟨A1, c1, rfl, ho1, hb10⟩
        have G10 := Lib.hid (G9.out.next hb10)
        have D10 := Lib.hid (D9.out.below hb10)
        have O1 := Lib.hid ho1
        clear ho1 hb10 G9 D9 NG E9
        go_wp2_with fail
        refine (AD w10 A1 c1 D10.out.ints O1.out.ints).out.mono ?_
        rintro e w11 ⟨A2, c2, rfl, ho2, hb11⟩
        have G11 := Lib.hid (G10.out.next hb11)
        have O2 := Lib.hid ho2
        obtain ⟨x0, x1, x2, x3, x4⟩ := box_facts G11.out.box
        clear ho2 hb11 G10 D10 AD O1
        go_wp2_with fail
        refine (PR w11 A2 c2 G11.out.own.edges O2.out.ints).out.mono ?_
        rintro e w12 ⟨rfl, hb12⟩
        have HB12 := Lib.hid (show Below w.heap.size w w12 from (G11.out.next hb12).old)
        clear hb12
        go_wp2
        go_ret
        exact ⟨rfl, HB12.out⟩
  · have hsi : (1048576 : Int) < (xs.length : Int) := by omega
    have hsj : (xs.length : Int) ≤ 9223372036854775807 := by omega
    clear hS
    go_enter Try.func4, Try.ntmps4
    go_wp2
    go_ret
    exact ⟨rfl, Below.refl _ _⟩
end Go.Proofs.Ytcfhkaefjhcglaa
