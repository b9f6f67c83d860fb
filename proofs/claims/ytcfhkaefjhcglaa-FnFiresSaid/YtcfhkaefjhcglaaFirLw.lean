/- laws.FnFires: the walk. -/
import Derived.Test.YtcfhkaefjhcglaaFirF
import Derived.Test.YtcfhkaefjhcglaaBM
import Derived.Test.YtcfhkaefjhcglaaEqvI
namespace Go.Proofs.Ytcfhkaefjhcglaa
open Go.RowKit

set_option maxRecDepth 100000 in
set_option maxHeartbeats 8000000 in
theorem lawFires (A0 : Option Addr) (c0 : Nat) (xs : List Int) (w : World) (hn : xs.length ≤ 9223372036854775807) (hS : CodeS w w.heap.size A0 xs) :
    Calls Try.prog 3 #[.slice A0 xs.length c0] w fun e w' => e = .returned (.bool true) ∧ Below w.heap.size w w' := by
  by_cases hs : xs.length ≤ 1048576
  · have hsi : (xs.length : Int) ≤ 1048576 := by omega
    have HS := Lib.hid hS
    have HG := Lib.hid (makeGraph_any w A0 c0 xs hs hS)
    clear hS
    go_enter Try.func3, Try.ntmps3
    go_wp2_with fail
    refine HG.out.mono ?_
    rintro e w1 ⟨M, A, c, es, rfl, hM2, hM5, hel, hg, ho, hb1⟩
    obtain ⟨W1, hW1⟩ : ∃ X : World, X = w1.alloc (Obj.cells #[.int .i64 (M : Int), .slice A es.length c] 25) := ⟨_, rfl⟩
    have G1 := Lib.hid (show GLaw w W1 w1.heap.size M A c es from by
      rw [hW1]
      exact ⟨hb1.alloc hb1.size _, Blk.new w1 _ _, ho.below ((Below.refl _ _).alloc (Nat.le_refl _) _)⟩)
    have HW1 := Lib.hid hW1
    have HGR := Lib.hid hg
    obtain ⟨x0, x1, x2, x3, x4⟩ := box_facts G1.out.box
    clear ho hb1 hW1 hg HG
    have HD := Lib.hid (makeDivisor_any W1 20 M (by omega) A es.length c A0 c0 xs (by omega) hs ((HS.out.keep G1.out.old).up G1.out.old.size))
    go_wp2_with fail
    rw [← HW1.out]
    refine HD.out.mono ?_
    rintro e w2 ⟨D, cd, d, rfl, HDL, hbd, hod, hb2⟩
    have hdl := HDL.out
    have G2 := Lib.hid (G1.out.next hb2)
    have HOD := Lib.hid (hod.mono (base' := w.heap.size) G1.out.old.size)
    have HBD := Lib.hid hbd
    clear hod hb2 hbd HD G1 x0 x1 x2 x3 x4 HW1
    obtain ⟨x0, x1, x2, x3, x4⟩ := box_facts G2.out.box
    have hM6 : M ≤ 6 := by omega
    have hen : es.length ≤ 1048576 := by omega
    have hM0 : 0 < M := by omega
    have FI := fun (W : World) (X S : Option Addr) (cx cs : Nat) (a t x : List Int) (h1 : EdgeS W W.heap.size A es) (h2 : IntS W W.heap.size X a) (h3 : IntS W W.heap.size S t) (ha : a.length = M) (h4 : t.length = M) (h5 : fireOk (M : Int) es a t = true) (h6 : fireB (M : Int) es a t = x) (h7 : x.length = M) => Lib.hid (show Calls Try.prog 17 #[.agg #[.int .i64 (M : Int), .slice A es.length c], .slice X M cx, .slice S M cs] W (fun e w' => ∃ (A1 : Option Addr) (c1 : Nat), e = .returned (.tuple #[.slice A1 M c1, .bool true]) ∧ OwnI w' W.heap.size A1 x ∧ Below W.heap.size W w') from by
      have h := implFire (M : Int) A X S c cx cs es a t W hen (by omega) (by omega) h1 h2 h3
      rw [ha, h4, h5, h6] at h
      refine h.mono ?_
      rintro e w' ⟨A1, c1, rfl, ho, hb⟩
      exact ⟨A1, c1, by rw [h7], ho, hb⟩)
    have SO := fun (W : World) (S : Option Addr) (cs : Nat) (t : List Int) (h4 : t.length = M) (h5 : divB 100000 (M : Int) es t = true) (h1 : EdgeS W W.heap.size A es) (h3 : IntS W W.heap.size S t) => Lib.hid (show Calls Try.prog 18 #[.agg #[.int .i64 (M : Int), .slice A es.length c], .slice S M cs] W (fun e w' => e = .returned (.bool true) ∧ Below W.heap.size W w') from by
      have h := implScr (M : Int) A S c cs es t W hen (by omega) h1 h3
      rw [h4, h5] at h
      exact h)
    have NG := fun (W : World) (S : Option Addr) (cs : Nat) (t : List Int) (h4 : t.length = M) (h3 : IntS W W.heap.size S t) => Lib.hid (show Calls Try.prog 19 #[.slice S M cs] W (fun e w' => ∃ (A1 : Option Addr) (c1 : Nat), e = .returned (.slice A1 M c1) ∧ OwnI w' W.heap.size A1 (negB t) ∧ Below W.heap.size W w') from by
      have h := implNeg S cs t W (by omega) h3
      rw [h4] at h
      refine h.mono ?_
      rintro e w' ⟨A1, c1, rfl, ho, hb⟩
      exact ⟨A1, c1, by rw [negB_length, h4], ho, hb⟩)
    have FS := fun (W : World) (S : Option Addr) (cs : Nat) (l : List Int) (h4 : l.length = M) (h5 : fsetOk (M : Int) es d l = true) (h6 : fsetB (M : Int) es d l = d) (h1 : EdgeS W W.heap.size A es) (h2 : IntS W W.heap.size D d) (h3 : IntS W W.heap.size S l) => Lib.hid (show Calls Try.prog 20 #[.agg #[.int .i64 (M : Int), .slice A es.length c], .slice D M cd, .slice S M cs] W (fun e w' => ∃ (A1 : Option Addr) (c1 : Nat), e = .returned (.tuple #[.slice A1 M c1, .bool true]) ∧ OwnI w' W.heap.size A1 d ∧ Below W.heap.size W w') from by
      have h := implFSet (M : Int) A D S c cd cs es d l W hen (by omega) (by omega) h1 h2 h3
      rw [hdl, h4, h5, h6] at h
      refine h.mono ?_
      rintro e w' ⟨A1, c1, rfl, ho, hb⟩
      exact ⟨A1, c1, by rw [hdl], ho, hb⟩)
    have hlpl : (lapB (M : Int) es).length = M := by rw [lapB_t HGR.out, Int.toNat_natCast, lapM_len]
    have LP := fun (W : World) (h1 : EdgeS W W.heap.size A es) => Lib.hid (show Calls Try.prog 22 #[.agg #[.int .i64 (M : Int), .slice A es.length c]] W (fun e w' => ∃ (A1 : Option Addr) (c1 : Nat), e = .returned (.slice A1 M c1) ∧ IntSS w' w'.heap.size A1 (lapB (M : Int) es) ∧ Below W.heap.size W w') from by
      refine (implLap (M : Int) A c es W hen h1).mono ?_
      rintro e w' ⟨A1, c1, rfl, ho, hb⟩
      exact ⟨A1, c1, by rw [hlpl], ho.ints, hb⟩)
    have TV := fun (W : World) (B S : Option Addr) (cB cs : Nat) (t p : List Int) (h4 : t.length = M) (h5 : timesB (lapB (M : Int) es) t = p) (h6 : p.length = M) (h1 : IntSS W W.heap.size B (lapB (M : Int) es)) (h3 : IntS W W.heap.size S t) => Lib.hid (show Calls Try.prog 21 #[.slice B M cB, .slice S M cs] W (fun e w' => ∃ (A1 : Option Addr) (c1 : Nat), e = .returned (.slice A1 M c1) ∧ OwnI w' W.heap.size A1 p ∧ Below W.heap.size W w') from by
      have h := implTimes B S cB cs (lapB (M : Int) es) t W (by omega) (fun r hr => by
        rw [lapB_t HGR.out, Int.toNat_natCast] at hr
        unfold lapM at hr
        obtain ⟨u, _, rfl⟩ := List.mem_map.1 hr
        rw [lapR_len]
        omega) h1 h3
      rw [hlpl, h4, h5] at h
      refine h.mono ?_
      rintro e w' ⟨A1, c1, rfl, ho, hb⟩
      exact ⟨A1, c1, by rw [h6], ho, hb⟩)
    have AD := fun (W : World) (X Y : Option Addr) (cx cy : Nat) (a b s : List Int) (ha : a.length = M) (hb : b.length = M) (h5 : sameLen a b = true) (h6 : addB a b = s) (h7 : s.length = M) (h1 : IntS W W.heap.size X a) (h2 : IntS W W.heap.size Y b) => Lib.hid (show Calls Try.prog 23 #[.slice X M cx, .slice Y M cy] W (fun e w' => ∃ (A2 : Option Addr) (c2 : Nat), e = .returned (.tuple #[.slice A2 M c2, .bool true]) ∧ OwnI w' W.heap.size A2 s ∧ Below W.heap.size W w') by
      have h := implAddD X Y cx cy a b W (by omega) (by omega) h1 h2
      rw [h5, h6, ha, hb] at h
      refine h.mono ?_
      rintro e w' ⟨A2, c2, rfl, ho, hb⟩
      exact ⟨A2, c2, by rw [h7], ho, hb⟩)
    have SA := fun (W : World) (r : List Int) (E F : Option Addr) (ce cf : Nat) (hr : r.length = M) (h1 : IntS W W.heap.size E r) (h2 : IntS W W.heap.size F r) => Lib.hid (show Calls Try.prog 24 #[.slice E M ce, .slice F M cf] W (fun e w' => e = .returned (.bool true) ∧ w' = W) from by
      have h := sameI_any E F ce cf r r W (by omega) (by omega) h1 h2
      rw [hr, show decide (r = r) = true from decide_eq_true rfl] at h
      exact h)
    have DG := fun (W : World) (E : Option Addr) (ce : Nat) (r : List Int) (k : Int) (hr : r.length = M) (hk : degB r r.length = k) (h1 : IntS W W.heap.size E r) => Lib.hid (show Calls Try.prog 25 #[.slice E M ce] W (fun e w' => e = .returned (.int .i64 k) ∧ Below W.heap.size W w') from by
      have h := implDeg E ce r W (by omega) h1
      rw [hk, hr] at h
      exact h)
    have EQ := fun (W : World) (E : Option Addr) (ce : Nat) (e : List Int) (he : e.length = M) (hv : eqvB (M : Int) es d e = true) (h1 : EdgeS W W.heap.size A es) (h2 : IntS W W.heap.size D d) (h3 : IntS W W.heap.size E e) => Lib.hid (show Calls Try.prog 26 #[.agg #[.int .i64 (M : Int), .slice A es.length c], .slice D M cd, .slice E M ce] W (fun e' w' => e' = .returned (.bool true) ∧ Below W.heap.size W w') by
      have h := implEqv (M : Int) A D E c cd ce es d e W hen (by omega) (by omega) h1 h2 h3
      rw [hdl, he, hv] at h
      exact h)
    have MS := fun (W : World) (hb : Below w.heap.size w W) => Lib.hid (show Calls Try.prog 16 #[.slice A0 xs.length c0, .int .i64 40, .agg #[.int .i64 (M : Int), .slice A es.length c]] W (fun e w' => ∃ (A1 : Option Addr) (c1 : Nat) (t : List Int), e = .returned (.slice A1 M c1) ∧ Hid (t.length = M) ∧ (∀ x ∈ t, -3 ≤ x ∧ x ≤ 3) ∧ OwnI w' W.heap.size A1 t ∧ Below W.heap.size W w') from by
      refine (makeScript_any W 40 M (by omega) A es.length c A0 c0 xs (by omega) hs ((HS.out.keep hb).up hb.size)).mono ?_
      rintro e w' ⟨A1, c1, t, rfl, hl, hbt, ho, hb⟩
      exact ⟨A1, c1, t, by rw [hl.out], hl, hbt, ho, hb⟩)
    have HEX := Lib.hid (red_ex A D M es d w2 (divB_ofC HGR.out hdl (fun x hx => by have := HBD.out x hx; omega)) G2.out.own.edges HOD.out.ints)
    have F1 := fun (t : List Int) (h1 : t.length = M) (h2 : ∀ x ∈ t, -3 ≤ x ∧ x ≤ 3) => Lib.hid (firF HGR.out hM0 hM5 hel hdl HBD.out h1 h2 HEX.out)
    have HM5 := Lib.hid hM5
    have HM0 := Lib.hid hM0
    obtain ⟨i0, hi, hz0, hz1, hz2⟩ := info_parts intInfo
    clear hel hM5 hM6 hen HEX hlpl
    rw [hdl]
    -- the drawn script
    go_wp2_with fail
    refine (MS w2 G2.out.old).out.mono ?_
    rintro e w3 ⟨T, ct, t, rfl, HTL, hbt, hot, hb3⟩
    have FT := Lib.hid (F1 t HTL.out hbt)
    obtain ⟨z, hz⟩ : ∃ z, z = firedB M es d t := ⟨_, rfl⟩
    obtain ⟨p, hp⟩ : ∃ p, p = timesB (lapB (M : Int) es) t := ⟨_, rfl⟩
    rw [← hz, ← hp] at FT
    have HPT := Lib.hid hp.symm
    have G3 := Lib.hid (G2.out.next hb3)
    have D3 := Lib.hid (HOD.out.below hb3)
    have T3 := Lib.hid (hot.mono (base' := w.heap.size) G2.out.old.size)
    clear hot hb3 hbt hz hp G2 HOD F1 MS x0 x1 x2 x3 x4
    obtain ⟨x0, x1, x2, x3, x4⟩ := box_facts G3.out.box
    -- FireScript
    go_wp2_with fail
    refine (FI w3 D T cd ct d t z G3.out.own.edges D3.out.ints T3.out.ints HDL.out HTL.out FT.out.tok FT.out.tb FT.out.el).out.mono ?_
    rintro e w4 ⟨E, ce, rfl, hoe, hb4⟩
    have G4 := Lib.hid (G3.out.next hb4)
    have D4 := Lib.hid (D3.out.below hb4)
    have T4 := Lib.hid (T3.out.below hb4)
    have E4 := Lib.hid (hoe.mono (base' := w.heap.size) G3.out.old.size)
    clear hoe hb4 G3 D3 T3 x0 x1 x2 x3 x4
    obtain ⟨x0, x1, x2, x3, x4⟩ := box_facts G4.out.box
    have tM : ((M : Int) != (M : Int)) = false := by simp
    go_wp2_with fail
    refine (SO w4 T ct t HTL.out FT.out.sok G4.out.own.edges T4.out.ints).out.mono ?_
    rintro e w5 ⟨rfl, hb5⟩
    have G5 := Lib.hid (G4.out.next hb5)
    have D5 := Lib.hid (D4.out.below hb5)
    have T5 := Lib.hid (T4.out.below hb5)
    have E5 := Lib.hid (E4.out.below hb5)
    clear hb5 G4 D4 T4 E4 x0 x1 x2 x3 x4 SO
    obtain ⟨x0, x1, x2, x3, x4⟩ := box_facts G5.out.box
    -- and back
    go_wp2_with fail
    go_region_held3 (fun w' => w'.cell? ⟨w1.heap.size, 0, none⟩ = some (.int .i64 (M : Int)) ∧ w'.cell? ⟨w1.heap.size, 1, none⟩ = some (.slice A es.length c) ∧ Below w5.heap.size w5 w')
      (first
        | exact ⟨x0, x1, (Below.refl _ _).drew⟩
        | exact keepX (by assumption) hb6 x4 (Nat.le_refl _)
        | exact keepX (by assumption) hb7 (Nat.lt_of_lt_of_le x4 hb6.size) hb6.size)
      (first
        | (go_at_call 19; refine (NG _ T ct t HTL.out (T5.out.below ((Below.refl _ _).drew)).ints).out.mono ?_; rintro e w6 ⟨N, cn, rfl, hon, hb6⟩; have G6 := Lib.hid (G5.out.next ((Below.refl _ _).drew.trans hb6)); have E6 := Lib.hid (E5.out.below ((Below.refl _ _).drew.trans hb6)))
        | (go_at_call 17; refine (FI w6 E N ce cn z (negB t) d G6.out.own.edges E6.out.ints hon.ints FT.out.el FT.out.nl FT.out.bok FT.out.bb HDL.out).out.mono ?_; rintro e w7 ⟨Y, cy, rfl, hoy, hb7⟩))
    have hb7' : Below w5.heap.size w5 w7 := ((Below.refl _ _).drew.trans hb6).trans (hb7.mono hb6.size)
    have G7 := Lib.hid (G6.out.next hb7)
    have D7 := Lib.hid (D5.out.below hb7')
    have T7 := Lib.hid (T5.out.below hb7')
    have E7 := Lib.hid (E6.out.below hb7)
    have Y7 := Lib.hid (hoy.mono (base' := w.heap.size) G6.out.old.size)
    clear hon hoy hb6 hb7 hb7' G5 D5 T5 E5 G6 E6 x0 x1 x2 x3 x4 NG FI
    -- every vertex
    have HAL := Lib.hid (allV_len M)
    have HA := Lib.hid (fun k (h : k < M) => allV_at h)
    go_wp2_with fail
    go_loopw [10, 11] (fun v i wr => ∃ k : Nat, k ≤ M ∧ i = .int .i64 k ∧ wr.ownsRow w7.heap.size 3 1 v k (intCells ((allV M).take k)) ∧ Below w7.heap.size w7 wr) (fun _ i _ => M - (intOf i).toNat)
    case atStart =>
      refine ⟨0, Nat.zero_le _, rfl, ?_, (Below.refl _ _).alloc (Nat.le_refl _) _⟩
      exact ⟨rfl, .inr ⟨w7.heap.size, 0, #[], rfl, Nat.le_refl _, heap_alloc_new w7 _, Nat.le_refl _, Nat.zero_le _, rfl, rfl⟩⟩
    case round =>
      obtain ⟨k, hk, rfl, hown, hb⟩ := hrel
      have HO := Lib.hid hown
      have hbn := hb.size
      have G8 := Lib.hid (G7.out.next hb)
      obtain ⟨x0, x1, x2, x3, x4⟩ := box_facts G8.out.box
      clear hown
      have hi0 : (0 : Int) ≤ (k : Int) := Int.natCast_nonneg _
      by_cases hlt : k < M
      · have hi1 : (k : Int) < (M : Int) := by omega
        have hi2 : (M : Int) ≤ 5 := by have := HM5.out; omega
        have HMT := Lib.hid (show (allV M).take (k + 1) = (allV M).take k ++ [(k : Int)] by rw [List.take_add_one, HA.out k hlt]; rfl)
        go_wp2_with (at_builtin; refine wpList_append_own _ rfl _ _ 27 rfl w7.heap.size 3 i0 (.int .i64 0) 1 8 Try.underlying27 hi hz0 hz1 hz2 rfl (by decide) _ _ _ rfl (HO.out.alloc _) ⟨wr.heap.size, 0, none⟩ 1 1 [.int .i64 (k : Int)] rfl rfl ?c1 ?c2 ?c3 ?c4 ?c5 ?_)
        case c1 => exact one_cellI _ _ (by simp) _ _
        case c2 => simp [Value.oneCell']
        case c3 => unfold maxLen; omega
        case c4 => omega
        case c5 => simp; omega
        intro v' w8 hown' hgrow _
        have HO2 := Lib.hid hown'
        clear hown'
        go_wp2
        refine ⟨⟨k + 1, by omega, by go_num, ?_, (hb.alloc hb.size _).grown hgrow (by simp; omega) (fun q hq => (HO.out.lt q hq).1)⟩, by simp [intOf]; omega⟩
        have h3 := HO2.out
        rw [HMT.out]
        simpa [intCells] using h3
      · have HO3 := HO.out
        rw [show k = M by omega, List.take_of_length_le (by rw [HAL.out]; exact Nat.le_refl _)] at HO3
        obtain ⟨Ar, cr, rfl⟩ : ∃ Ar cr, u10 = .slice Ar M cr := by
          rcases HO3.2 with ⟨h1, h2⟩ | ⟨g, cap, cur, h1, _⟩
          · exact ⟨none, 0, by rw [h1, h2]⟩
          · exact ⟨_, _, h1⟩
        have HF := Lib.hid (OwnI.of_own HO3)
        have D8 := Lib.hid (D7.out.below hb)
        have T8 := Lib.hid (T7.out.below hb)
        have E8 := Lib.hid (E7.out.below hb)
        have Y8 := Lib.hid (Y7.out.below hb)
        clear HO3 HO hb hbn
        go_wp2_with fail
        refine (FS wr Ar cr (allV M) HAL.out FT.out.aok FT.out.ab G8.out.own.edges D8.out.ints HF.out.ints).out.mono ?_
        rintro e w9 ⟨Z, cz, rfl, hoz, hb9⟩
        have G9 := Lib.hid (G8.out.next hb9)
        have D9 := Lib.hid (D8.out.below hb9)
        have T9 := Lib.hid (T8.out.below hb9)
        have E9 := Lib.hid (E8.out.below hb9)
        have Y9 := Lib.hid (Y8.out.below hb9)
        have Z9 := Lib.hid (hoz.mono (base' := w.heap.size) G8.out.old.size)
        clear hoz hb9 G8 D8 T8 E8 Y8 HF FS x0 x1 x2 x3 x4
        obtain ⟨x0, x1, x2, x3, x4⟩ := box_facts G9.out.box
        go_wp2_with fail
        refine (LP w9 G9.out.own.edges).out.mono ?_
        rintro e w10 ⟨B, cB, rfl, hol, hb10⟩
        have G10 := Lib.hid (G9.out.next hb10)
        have D10 := Lib.hid (D9.out.below hb10)
        have T10 := Lib.hid (T9.out.below hb10)
        have E10 := Lib.hid (E9.out.below hb10)
        have Y10 := Lib.hid (Y9.out.below hb10)
        have Z10 := Lib.hid (Z9.out.below hb10)
        have B10 := Lib.hid hol
        clear hol hb10 G9 D9 T9 E9 Y9 Z9 LP x0 x1 x2 x3 x4
        go_wp2_with fail
        refine (TV w10 B T cB ct t p HTL.out HPT.out FT.out.pl B10.out T10.out.ints).out.mono ?_
        rintro e w11 ⟨P, cp, rfl, hop, hb11⟩
        have G11 := Lib.hid (G10.out.next hb11)
        have D11 := Lib.hid (D10.out.below hb11)
        have E11 := Lib.hid (E10.out.below hb11)
        have Y11 := Lib.hid (Y10.out.below hb11)
        have Z11 := Lib.hid (Z10.out.below hb11)
        have P11 := Lib.hid (hop.mono (base' := w.heap.size) G10.out.old.size)
        clear hop hb11 G10 D10 T10 E10 Y10 Z10 B10 TV
        go_wp2_with fail
        refine (AD w11 E P ce cp z p d FT.out.el FT.out.pl FT.out.sl FT.out.sum HDL.out E11.out.ints P11.out.ints).out.mono ?_
        rintro e w12 ⟨Q, cq, rfl, hoq, hb12⟩
        have G12 := Lib.hid (G11.out.next hb12)
        have D12 := Lib.hid (D11.out.below hb12)
        have E12 := Lib.hid (E11.out.below hb12)
        have Y12 := Lib.hid (Y11.out.below hb12)
        have Z12 := Lib.hid (Z11.out.below hb12)
        have Q12 := Lib.hid (hoq.mono (base' := w.heap.size) G11.out.old.size)
        clear hoq hb12 G11 D11 E11 Y11 Z11 P11 AD
        go_wp2_with fail
        refine (SA w12 d Y D cy cd HDL.out Y12.out.ints D12.out.ints).out.mono ?_
        rintro e v1 ⟨rfl, rfl⟩
        go_wp2_with fail
        refine (SA v1 d Z D cz cd HDL.out Z12.out.ints D12.out.ints).out.mono ?_
        rintro e v2 ⟨rfl, rfl⟩
        go_wp2_with fail
        refine (SA v2 d Q D cq cd HDL.out Q12.out.ints D12.out.ints).out.mono ?_
        rintro e v3 ⟨rfl, rfl⟩
        obtain ⟨dk, hdk⟩ : ∃ k, k = degB d d.length := ⟨_, rfl⟩
        have HDK := Lib.hid hdk.symm
        have HDZ := Lib.hid (show degB z z.length = dk by rw [FT.out.deg, HDK.out])
        clear hdk
        have tk : (dk == dk) = true := by simp
        go_wp2_with fail
        refine (DG v3 E ce z dk FT.out.el HDZ.out E12.out.ints).out.mono ?_
        rintro e w13 ⟨rfl, hb13⟩
        have G13 := Lib.hid (G12.out.next hb13)
        have D13 := Lib.hid (D12.out.below hb13)
        have E13 := Lib.hid (E12.out.below hb13)
        clear hb13 G12 D12 E12 Y12 Z12 Q12 SA
        go_wp2_with fail
        refine (DG w13 D cd d dk HDL.out HDK.out D13.out.ints).out.mono ?_
        rintro e w14 ⟨rfl, hb14⟩
        have G14 := Lib.hid (G13.out.next hb14)
        have D14 := Lib.hid (D13.out.below hb14)
        have E14 := Lib.hid (E13.out.below hb14)
        obtain ⟨x0, x1, x2, x3, x4⟩ := box_facts G14.out.box
        clear hb14 G13 D13 E13 DG
        go_wp2_with fail
        refine (EQ w14 E ce z FT.out.el FT.out.eqv G14.out.own.edges D14.out.ints E14.out.ints).out.mono ?_
        rintro e w15 ⟨rfl, hb15⟩
        have HB15 := Lib.hid (show Below w.heap.size w w15 from (G14.out.next hb15).old)
        clear hb15
        go_wp2
        go_ret
        exact ⟨rfl, HB15.out⟩
  · have hsi : (1048576 : Int) < (xs.length : Int) := by omega
    have hsj : (xs.length : Int) ≤ 9223372036854775807 := by omega
    clear hS
    go_enter Try.func3, Try.ntmps3
    go_wp2
    go_ret
    exact ⟨rfl, Below.refl _ _⟩
end Go.Proofs.Ytcfhkaefjhcglaa
