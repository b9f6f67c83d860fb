/- laws.FnLegal: the walk. -/
import Derived.Test.YtbojbifpaecbcaaLegF
import Derived.Test.YtbojbifpaecbcaaRedLw
namespace Go.Proofs.Ytbojbifpaecbcaa
open Go.RowKit

set_option maxRecDepth 100000 in
set_option maxHeartbeats 8000000 in
theorem lawLegal (A0 : Option Addr) (c0 : Nat) (xs : List Int) (w : World) (hn : xs.length ≤ 9223372036854775807) (hS : CodeS w w.heap.size A0 xs) :
    Calls Try.prog 5 #[.slice A0 xs.length c0] w fun e w' => e = .returned (.bool true) ∧ Below w.heap.size w w' := by
  by_cases hs : xs.length ≤ 1048576
  · have hsi : (xs.length : Int) ≤ 1048576 := by omega
    obtain ⟨i0, hi, hz0, hz1, hz2⟩ := info_parts intInfo
    have HS := Lib.hid hS
    have HG := Lib.hid (makeGraph_any w A0 c0 xs hs hS)
    clear hS
    go_enter Try.func5, Try.ntmps5
    go_wp2_with fail
    refine HG.out.mono ?_
    rintro e w1 ⟨M, A, c, es, rfl, hM2, hM5, hel, hg, ho, hb1⟩
    obtain ⟨w2, hW1⟩ : ∃ X : World, X = w1.alloc (Obj.cells #[.int .i64 (M : Int), .slice A es.length c] 25) := ⟨_, rfl⟩
    have G2 := Lib.hid (show GLaw w w2 w1.heap.size M A c es from by
      rw [hW1]
      exact ⟨hb1.alloc hb1.size _, Blk.new w1 _ _, ho.below ((Below.refl _ _).alloc (Nat.le_refl _) _)⟩)
    have HGR := Lib.hid hg
    obtain ⟨x0, x1, x2, x3, x4⟩ := box_facts G2.out.box
    -- q
    have hrm := fun (y : Int) (hy0 : 0 ≤ y) => Lib.hid (show 0 ≤ y % (M : Int) ∧ y % (M : Int) < (M : Int) ∧ IntKind.i64.wrap (y % (M : Int)) = y % (M : Int) from by
      have h1 := Int.emod_nonneg y (show (M : Int) ≠ 0 by omega)
      have h2 := Int.emod_lt_of_pos y (show (0 : Int) < (M : Int) by omega)
      refine ⟨h1, h2, ?_⟩
      rw [IntKind.wrap_i64]
      omega)
    have hN0 : ((M : Int) == 0) = false := by simp; omega
    have hN7 : (M : Int) ≠ 0 := by omega
    have hN9 : ¬ M = 0 := by omega
    have MN := fun (W : World) (hb : Below w2.heap.size w2 W) => Lib.hid (makeNum_any 60 (by omega) W A0 c0 xs hs ((HS.out.keep (G2.out.old.trans (hb.mono G2.out.old.size))).up (Nat.le_trans G2.out.old.size hb.size)))
    have HW1 := Lib.hid hW1
    clear ho hb1 hg HG hW1
    go_wp2_with fail
    rw [← HW1.out]
    go_region_held3 (fun w' => w'.cell? ⟨w1.heap.size, 0, none⟩ = some (.int .i64 (M : Int)) ∧ w'.cell? ⟨w1.heap.size, 1, none⟩ = some (.slice A es.length c) ∧ Below w2.heap.size w2 w')
      (first
        | exact ⟨x0, x1, (Below.refl _ _).drew⟩
        | exact keepX (by assumption) hb3 x4 (Nat.le_refl _))
      ((go_at_call 23; refine (MN _ (Below.refl _ _).drew).out.mono ?_; rintro e w3 ⟨y, rfl, hy0, hy1, hb3⟩; obtain ⟨hr0, hr1, hr2⟩ := (hrm y hy0).out))
    obtain ⟨q, hqe, hq⟩ : ∃ q : Nat, (q : Int) = y.tmod (M : Int) ∧ q < M := by
      rw [Int.tmod_eq_emod_of_nonneg hy0]
      exact ⟨(y % (M : Int)).toNat, by omega, by omega⟩
    rw [← hqe]
    have hb3' : Below w2.heap.size w2 w3 := (Below.refl _ _).drew.trans hb3
    have G3 := Lib.hid (G2.out.next hb3')
    clear hrm hN0 hN7 hN9 MN hr0 hr1 hr2 hy0 hy1 hqe hb3 hb3' G2 x0 x1 x2 x3 x4 HW1
    obtain ⟨x0, x1, x2, x3, x4⟩ := box_facts G3.out.box
    -- the configuration
    have HP := Lib.hid (makePile_any w3 20 M q (by omega) A es.length c A0 c0 xs (by omega) hq hs ((HS.out.keep G3.out.old).up G3.out.old.size))
    go_wp2_with fail
    refine HP.out.mono ?_
    rintro e w4 ⟨D, cd, d, rfl, HDL, hbd, hod, hb4⟩
    have hdl := HDL.out
    have G4 := Lib.hid (G3.out.next hb4)
    have D4 := Lib.hid (hod.mono (base' := w.heap.size) G3.out.old.size)
    have F := Lib.hid (legLaw HGR.out hel hdl hbd hq)
    have hen : es.length ≤ 1048576 := by omega
    have hdn : d.length ≤ 1048576 := by omega
    obtain ⟨b, hb⟩ : ∃ b, b = burnR (M : Int) es d (q : Int) := ⟨_, rfl⟩
    obtain ⟨t, ht⟩ : ∃ t, t = mostB (M : Int) es d (q : Int) := ⟨_, rfl⟩
    have HB := Lib.hid hb
    have HT := Lib.hid ht
    have hbt : Hid (b.length + t.length = M) := Lib.hid (by rw [hb, ht]; exact F.out.len)
    have hbl : b.length ≤ 6 := by have := hbt.out; omega
    have htl : t.length ≤ 6 := by have := hbt.out; omega
    have BF := fun (W : World) (h1 : EdgeS W W.heap.size A es) (h2 : IntS W W.heap.size D d) => Lib.hid (show Calls Try.prog 33 #[.agg #[.int .i64 (M : Int), .slice A es.length c], .slice D M cd, .int .i64 (q : Int)] W (fun e w' => ∃ (A1 : Option Addr) (c1 : Nat), e = .returned (.tuple #[.slice A1 b.length c1, .bool true]) ∧ Below W.heap.size W w') from by
      have h := implBurnFrom (M : Int) A D c cd es d (q : Int) W hen hdn h1 h2
      rw [hdl, F.out.ok, ← hb] at h
      refine h.mono ?_
      rintro e w' ⟨A1, c1, rfl, ho, hb⟩
      exact ⟨A1, c1, rfl, hb⟩)
    have MO := fun (W : World) (h1 : EdgeS W W.heap.size A es) (h2 : IntS W W.heap.size D d) => Lib.hid (show Calls Try.prog 31 #[.agg #[.int .i64 (M : Int), .slice A es.length c], .slice D M cd, .int .i64 (q : Int)] W (fun e w' => ∃ (A1 : Option Addr) (c1 : Nat), e = .returned (.slice A1 t.length c1) ∧ OwnI w' W.heap.size A1 t ∧ Below W.heap.size W w') from by
      have h := implMost (M : Int) A D c cd es d (q : Int) W hen hdn h1 h2
      rw [hdl, ← ht] at h
      exact h)
    have LG := fun (W : World) (S : Option Addr) (cs : Nat) (l : List Int) (hl : l.length ≤ 1048576) (h1 : EdgeS W W.heap.size A es) (h2 : IntS W W.heap.size D d) (h3 : IntS W W.heap.size S l) => Lib.hid (show Calls Try.prog 34 #[.agg #[.int .i64 (M : Int), .slice A es.length c], .slice D M cd, .slice S l.length cs] W (fun e w' => e = .returned (.bool (legalB (M : Int) es d l)) ∧ Below W.heap.size W w') from by
      have h := implLeg (M : Int) A D S c cd cs es d l W hen hdn hl h1 h2 h3
      rw [hdl] at h
      exact h)
    have HA := fun (W : World) (S : Option Addr) (cs : Nat) (l : List Int) (v : Int) (hl : l.length ≤ 1048576) (h3 : IntS W W.heap.size S l) => Lib.hid (hasI_any S cs l v W hl h3)
    have LT : Hid (legalB (M : Int) es d t = true) := Lib.hid (by rw [ht]; exact F.out.leg)
    have QT : Hid (decide ((q : Int) ∈ t) = false) := Lib.hid (by rw [ht]; exact F.out.noq)
    have MT := Lib.hid (show ∀ l : List Int, setOk (M : Int) l = true → decide ((q : Int) ∈ l) = false → legalB (M : Int) es d l = true → ∀ x ∈ l, decide (x ∈ t) = true from by rw [ht]; exact F.out.most)
    have hqM : (q : Int) < (M : Int) := by omega
    have hq0 : (0 : Int) ≤ (q : Int) := Int.natCast_nonneg _
    rw [hdl]
    clear hod hb4 hbd HP G3 x0 x1 x2 x3 x4 hb ht hen hdn hdl hel
    obtain ⟨x0, x1, x2, x3, x4⟩ := box_facts G4.out.box
    go_wp2_with fail
    refine (BF w4 G4.out.own.edges D4.out.ints).out.mono ?_
    rintro e w5 ⟨Bb, cb, rfl, hb5⟩
    have G5 := Lib.hid (G4.out.next hb5)
    have D5 := Lib.hid (D4.out.below hb5)
    clear hb5 G4 D4 x0 x1 x2 x3 x4
    obtain ⟨x0, x1, x2, x3, x4⟩ := box_facts G5.out.box
    go_wp2_with fail
    refine (MO w5 G5.out.own.edges D5.out.ints).out.mono ?_
    rintro e w6 ⟨T, ct, rfl, hot, hb6⟩
    have G6 := Lib.hid (G5.out.next hb6)
    have D6 := Lib.hid (D5.out.below hb6)
    have T6 := Lib.hid (hot.mono (base' := w.heap.size) G5.out.old.size)
    clear hot hb6 G5 D5 x0 x1 x2 x3 x4
    obtain ⟨x0, x1, x2, x3, x4⟩ := box_facts G6.out.box
    have hsum : (b.length : Int) + (t.length : Int) = (M : Int) := by have := hbt.out; omega
    go_wp2_with fail
    have L6 := (LG w6 T ct t (by omega) G6.out.own.edges D6.out.ints T6.out.ints).out
    rw [LT.out] at L6
    refine L6.mono ?_
    rintro e w7 ⟨rfl, hb7⟩
    have G7 := Lib.hid (G6.out.next hb7)
    have D7 := Lib.hid (D6.out.below hb7)
    have T7 := Lib.hid (T6.out.below hb7)
    clear hb7 G6 D6 T6 L6 x0 x1 x2 x3 x4
    obtain ⟨x0, x1, x2, x3, x4⟩ := box_facts G7.out.box
    have L7 := (HA w7 T ct t (q : Int) (by omega) T7.out.ints).out
    rw [QT.out] at L7
    go_wp2_with fail
    refine L7.mono ?_
    rintro e w8 ⟨rfl, rfl⟩
    clear L7 hsum
    obtain ⟨P, hpow, hP⟩ : ∃ P : Nat, (2 : Int) ^ M = (P : Int) ∧ P ≤ 32 := by
      have : M = 2 ∨ M = 3 ∨ M = 4 ∨ M = 5 := by omega
      rcases this with rfl | rfl | rfl | rfl
      · exact ⟨4, rfl, by omega⟩
      · exact ⟨8, rfl, by omega⟩
      · exact ⟨16, rfl, by omega⟩
      · exact ⟨32, rfl, by omega⟩
    have hMi : (M : Int) ≤ 5 := by omega
    have hMj : (2 : Int) ≤ (M : Int) := by omega
    clear x0 x1 x2 x3 x4
    go_wp2_with fail
    go_loopw [9, 10, 11, 13] (fun kk _ _ _ wr => ∃ k : Nat, kk = .int .i64 k ∧ k ≤ P ∧ GLaw w wr w1.heap.size M A c es ∧ OwnI wr w.heap.size D d ∧ OwnI wr w.heap.size T t) (fun kk _ _ _ _ => P - (intOf kk).toNat)
    case atStart => exact ⟨0, rfl, Nat.zero_le _, G7.out, D7.out, T7.out⟩
    case round =>
      clear G7 D7 T7
      obtain ⟨k, rfl, hk, hgl, hdo, hto⟩ := hrel
      have GK := Lib.hid hgl
      have DK := Lib.hid hdo
      have TK := Lib.hid hto
      obtain ⟨x0, x1, x2, x3, x4⟩ := box_facts hgl.box
      clear hgl hdo hto
      have hk0 : (0 : Int) ≤ (k : Int) := Int.natCast_nonneg _
      have hk32 : (k : Int) ≤ 32 := by omega
      by_cases hlt : k < P
      · obtain ⟨wo, rfl⟩ : ∃ x : World, x = wr := ⟨_, rfl⟩
        have hk1 : (k : Int) < (P : Int) := by omega
        obtain ⟨W0, hW0⟩ : ∃ X : World, X = wo.alloc (Obj.cells #[] 3) := ⟨_, rfl⟩
        have hb0 : Below wo.heap.size wo W0 := by rw [hW0]; exact (Below.refl _ _).alloc (Nat.le_refl _) _
        have GK0 := Lib.hid (GK.out.next hb0)
        have DK0 := Lib.hid (DK.out.below hb0)
        have TK0 := Lib.hid (TK.out.below hb0)
        have HO0 := Lib.hid (show W0.ownsRow wo.heap.size 3 1 (.slice (some ⟨wo.heap.size, 0, none⟩) 0 0) 0 (intCells []) from ⟨rfl, .inr ⟨wo.heap.size, 0, #[], rfl, Nat.le_refl _, by rw [hW0]; exact heap_alloc_new wo _, Nat.le_refl _, Nat.zero_le _, rfl, rfl⟩⟩)
        have HB0 := Lib.hid hb0
        have HW0 := Lib.hid hW0
        clear hW0 hb0
        go_wp2_with fail
        go_loopw [10, 11] (fun s i wq => ∃ (v : Nat) (l : List Int) (S : Option Addr) (cs : Nat), i = .int .i64 v ∧ v ≤ M ∧ s = .slice S l.length cs ∧ setOk (v : Int) l = true ∧ wq.ownsRow wo.heap.size 3 1 (.slice S l.length cs) l.length (intCells l) ∧ Below wo.heap.size wo wq) (fun _ i _ => M - (intOf i).toNat)
        case atStart =>
          rw [← HW0.out]
          exact ⟨0, [], _, _, rfl, Nat.zero_le _, rfl, by simp [setOk], HO0.out, HB0.out⟩
        case round =>
          clear HW0 HO0 HB0 x0 x1 x2 x3 x4
          obtain ⟨v, l, S, cs, rfl, hv, rfl, hso, hown, hbq⟩ := hrel
          obtain ⟨wq, rfl⟩ : ∃ x : World, x = wr := ⟨_, rfl⟩
          have HO := Lib.hid hown
          have HSO := Lib.hid hso
          have GQ := Lib.hid (GK.out.next hbq)
          obtain ⟨x0, x1, x2, x3, x4⟩ := box_facts GQ.out.box
          clear hown hso
          have hv0 : (0 : Int) ≤ (v : Int) := Int.natCast_nonneg _
          by_cases hvl : v < M
          · have hv1 : (v : Int) < (M : Int) := by omega
            have hll : l.length ≤ 6 := by
              have h := setOk_all HSO.out
              have h2 := nodup_lenB l ((List.range v).map (Int.ofNat)) h.2 (fun x hx => mem_rangeI.2 (h.1 x hx))
              simp at h2
              omega
            have HSU := Lib.hid (show setOk ((v : Int) + 1) l = true from by
              have h := setOk_all HSO.out
              unfold setOk
              rw [decide_eq_true_eq]
              exact ⟨fun x hx => by have := h.1 x hx; omega, h.2⟩)
            have hnv : ¬ (v : Int) ∈ l := fun hm => by have := (setOk_all HSO.out).1 _ hm; omega
            have HSV := Lib.hid (setOk_snoc (v := (v : Int)) HSU.out (vB_t (by omega)) hnv)
            have hqs := hbq.size
            cases hbit : (bits BinOp.and IntKind.i64 ((k : Int) / 2 ^ v) 1 == 1) with
            | true =>
              have OW := Lib.hid (own_below HO.out ((Below.refl _ _).alloc (Nat.le_refl _) (.cells #[.int .i64 (v : Int)] 3)))
              have HBQ := Lib.hid hbq
              clear hbq
              go_wp2_with (at_builtin; refine wpList_append_own _ rfl _ _ 29 rfl wo.heap.size 3 i0 (.int .i64 0) 1 8 Try.underlying29 hi hz0 hz1 hz2 rfl (by decide) _ _ _ rfl OW.out ⟨_, 0, none⟩ 1 1 [.int .i64 (v : Int)] rfl rfl ?c1 ?c2 ?c3 ?c4 ?c5 ?_)
              case c1 => exact one_cellI _ _ (by simp) _ _
              case c2 => simp [Value.oneCell']
              case c3 => unfold maxLen; omega
              case c4 => omega
              case c5 => simp; omega
              intro v' w9 hown' hgrow _
              have hown2 : w9.ownsRow wo.heap.size 3 1 v' (l.length + 1) (intCells (l ++ [(v : Int)])) := by rw [← cells_snoc]; exact hown'
              obtain ⟨A8, c8, hv8, hlen⟩ := own_slice hown2
              rw [hlen] at hown2
              have HO9 := Lib.hid hown2
              have HB9 := Lib.hid ((HBQ.out.alloc hqs (.cells #[.int .i64 (v : Int)] 3)).grown hgrow (by simp; omega) (fun q hq => (OW.out.lt q hq).1))
              subst hv8
              obtain ⟨y0, y1, y2, y3, y4⟩ := box_facts (GK.out.next HB9.out).box
              clear hown' hown2 hgrow hlen hnv
              go_wp2
              exact ⟨⟨v + 1, l ++ [(v : Int)], A8, c8, by go_num, by omega, rfl, HSV.out, HO9.out, HB9.out⟩, by simp [intOf]; omega⟩
            | false =>
              have HBQ := Lib.hid hbq
              clear hnv
              go_wp2
              exact ⟨⟨v + 1, l, S, cs, by go_num, by omega, rfl, HSU.out, HO.out, HBQ.out⟩, by simp [intOf]; omega⟩
          · have hvM : v = M := by omega
            have hvn : ¬ ((v : Int) < (M : Int)) := by omega
            have HSM := Lib.hid (show setOk (M : Int) l = true from by rw [← hvM]; exact HSO.out)
            have hll : l.length ≤ 6 := by
              have h := setOk_all HSM.out
              have h2 := nodup_lenB l ((List.range M).map (Int.ofNat)) h.2 (fun x hx => mem_rangeI.2 (h.1 x hx))
              simp at h2
              omega
            have HL := Lib.hid (OwnI.of_own HO.out)
            have GQ2 := Lib.hid (GK.out.next hbq)
            have DQ := Lib.hid (DK.out.below hbq)
            have TQ := Lib.hid (TK.out.below hbq)
            clear hbq GQ GK GK0 DK DK0 TK TK0 HO HSO
            have LA := (HA wq S cs l (q : Int) (by omega) HL.out.ints).out
            go_wp2_with fail
            cases hqm : decide ((q : Int) ∈ l) with
            | true =>
              rw [hqm] at LA
              refine LA.mono ?_
              rintro e w9 ⟨rfl, rfl⟩
              clear LA
              obtain ⟨y0, y1, y2, y3, y4⟩ := box_facts GQ2.out.box
              go_wp2
              exact ⟨⟨k + 1, by go_num, by omega, GQ2.out, DQ.out, TQ.out⟩, by simp [intOf]; omega⟩
            | false =>
              rw [hqm] at LA
              refine LA.mono ?_
              rintro e w9 ⟨rfl, rfl⟩
              have LB := (LG w9 S cs l (by omega) GQ2.out.own.edges DQ.out.ints HL.out.ints).out
              clear LA
              go_wp2_with fail
              cases hlg : legalB (M : Int) es d l with
              | false =>
                rw [hlg] at LB
                refine LB.mono ?_
                rintro e w10 ⟨rfl, hb10⟩
                have GX := Lib.hid (GQ2.out.next hb10)
                have DX := Lib.hid (DQ.out.below hb10)
                have TX := Lib.hid (TQ.out.below hb10)
                clear LB hb10 x0 x1 x2 x3 x4
                obtain ⟨y0, y1, y2, y3, y4⟩ := box_facts GX.out.box
                go_wp2
                exact ⟨⟨k + 1, by go_num, by omega, GX.out, DX.out, TX.out⟩, by simp [intOf]; omega⟩
              | true =>
                rw [hlg] at LB
                refine LB.mono ?_
                rintro e w10 ⟨rfl, hb10⟩
                have GX := Lib.hid (GQ2.out.next hb10)
                have DX := Lib.hid (DQ.out.below hb10)
                have TX := Lib.hid (TQ.out.below hb10)
                have LX := Lib.hid (HL.out.below hb10)
                have MX := Lib.hid (MT.out l HSM.out hqm hlg)
                clear LB hb10 x0 x1 x2 x3 x4 hqm hlg
                go_wp2
                go_loopw [13, 98] (fun _ i wr => ∃ j : Nat, i = .int .i64 j ∧ j ≤ l.length ∧ wr = w10) (fun _ i _ => l.length - (intOf i).toNat)
                case atStart => exact ⟨0, rfl, Nat.zero_le _, rfl⟩
                case round =>
                  obtain ⟨j, rfl, hj, hwr⟩ := hrel
                  subst hwr
                  have hj0 : (0 : Int) ≤ (j : Int) := Int.natCast_nonneg _
                  by_cases hjl : j < l.length
                  · obtain ⟨b9, o9, x, rfl, hb9, he, hc9⟩ := LX.out.ints.at_ hjl
                    have hj1 : (j : Int) < (l.length : Int) := by omega
                    have HX := (HA _ T ct t x (by omega) TX.out.ints).out
                    rw [MX.out x (List.mem_of_getElem? he)] at HX
                    clear he
                    go_wp2_with fail
                    refine HX.mono ?_
                    rintro e w11 ⟨rfl, rfl⟩
                    go_wp2
                    exact ⟨⟨j + 1, by go_num, by omega, by trivial⟩, by simp [intOf]; omega⟩
                  · have hjn : ¬ ((j : Int) < (l.length : Int)) := by omega
                    obtain ⟨y0, y1, y2, y3, y4⟩ := box_facts GX.out.box
                    go_wp2
                    exact ⟨⟨k + 1, by go_num, by omega, GX.out, DX.out, TX.out⟩, by simp [intOf]; omega⟩
      · have hkP : ¬ ((k : Int) < (P : Int)) := by omega
        go_wp2
        go_ret
        exact ⟨rfl, GK.out.old⟩
  · have hsi : (1048576 : Int) < (xs.length : Int) := by omega
    have hsj : (xs.length : Int) ≤ 9223372036854775807 := by omega
    clear hS
    go_enter Try.func5, Try.ntmps5
    go_wp2
    go_ret
    exact ⟨rfl, Below.refl _ _⟩
end Go.Proofs.Ytbojbifpaecbcaa
