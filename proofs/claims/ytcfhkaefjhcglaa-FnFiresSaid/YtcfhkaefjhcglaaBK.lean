/- One text out of several: Cls Lift EqvS BetS PrinS WinS RepS. -/
import Derived.Test.YtcfhkaefjhcglaaBG
import Derived.Test.YtcfhkaefjhcglaaBJ
import Derived.Test.YtcfhkaefjhcglaaBA
import Derived.Deep.RegionHeld3
/- Equivalence: the plain functions. -/
namespace Go.Proofs.Ytcfhkaefjhcglaa
open Go.RowKit

noncomputable def eqvB (N : Int) (es : List (Int × Int)) (a b : List Int) : Bool := divB 60 N es a && (divB 60 N es b && (decide (degB a a.length = degB b b.length) && decide (redR N es a 0 = redR N es b 0)))
noncomputable def betB (N : Int) (es : List (Int × Int)) (a b : List Int) : List Int := if eqvB N es a b = true then liftB (subB (scrR N es a 0) (scrR N es b 0)) else []
noncomputable def prinB (N : Int) (es : List (Int × Int)) (d : List Int) : Bool := divB 60 N es d && eqvB N es d (List.replicate N.toNat 0)
noncomputable def winB (N : Int) (es : List (Int × Int)) (d : List Int) : Bool := burnOk N es d 0 && decide (0 ≤ chipR N es d 0)
noncomputable def winS (N : Int) (es : List (Int × Int)) (d : List Int) : List Int := if winB N es d = true then liftB (scrR N es d 0) else []
theorem eqv_no1 {N : Int} {es : List (Int × Int)} {a b : List Int} (h : divB 60 N es a = false) : eqvB N es a b = false := by simp [eqvB, h]
theorem eqv_no2 {N : Int} {es : List (Int × Int)} {a b : List Int} (h : divB 60 N es b = false) : eqvB N es a b = false := by simp [eqvB, h]
theorem eqv_no3 {N : Int} {es : List (Int × Int)} {a b : List Int} (h : degB a a.length ≠ degB b b.length) : eqvB N es a b = false := by simp [eqvB, h]
theorem eqv_t {N : Int} {es : List (Int × Int)} {a b : List Int} (h1 : divB 60 N es a = true) (h2 : divB 60 N es b = true) (h3 : degB a a.length = degB b b.length) : eqvB N es a b = decide (redR N es a 0 = redR N es b 0) := by simp [eqvB, h1, h2, h3]
theorem bet_f {N : Int} {es : List (Int × Int)} {a b : List Int} (h : eqvB N es a b = false) : betB N es a b = [] := by rw [betB, if_neg (by rw [h]; decide)]
theorem bet_t {N : Int} {es : List (Int × Int)} {a b : List Int} (h : eqvB N es a b = true) : betB N es a b = liftB (subB (scrR N es a 0) (scrR N es b 0)) := by rw [betB, if_pos h]
theorem winS_f {N : Int} {es : List (Int × Int)} {d : List Int} (h : winB N es d = false) : winS N es d = [] := by rw [winS, if_neg (by rw [h]; decide)]
theorem winS_t {N : Int} {es : List (Int × Int)} {d : List Int} (h : winB N es d = true) : winS N es d = liftB (scrR N es d 0) := by rw [winS, if_pos h]
theorem eqv_div {N : Int} {es : List (Int × Int)} {a b : List Int} (h : eqvB N es a b = true) : divB 60 N es a = true ∧ divB 60 N es b = true ∧ redR N es a 0 = redR N es b 0 := by
  simp only [eqvB, Bool.and_eq_true, decide_eq_true_eq] at h
  exact ⟨h.1, h.2.1, h.2.2.2⟩
theorem div_burn {N : Int} {es : List (Int × Int)} {d : List Int} (h : divB 60 N es d = true) : burnOk N es d 0 = true := by
  obtain ⟨M, rfl, h0, _⟩ := div_limsB h
  unfold burnOk
  rw [h, vB_t (by omega)]
  rfl
theorem win_div {N : Int} {es : List (Int × Int)} {d : List Int} (h : winB N es d = true) : divB 60 N es d = true := by
  simp only [winB, burnOk, Bool.and_eq_true] at h
  exact h.1.1
/-- the specification's reducing, as lists -/
theorem specRd2 (A D : Option Addr) (c cd M : Nat) (es : List (Int × Int)) (d : List Int) (w : World) (hd : divB 60 (M : Int) es d = true) (hE : EdgeS w w.heap.size A es) (hS : IntS w w.heap.size D d) :
    Calls Try.prog 83 #[.agg #[.int .i64 (M : Int), .slice A es.length c], .slice D d.length cd, .int .i64 0] w (fun e w' => ∃ (A1 A2 : Option Addr) (c1 c2 : Nat), e = .returned (.tuple #[.slice A1 M c1, .slice A2 M c2]) ∧ OwnI w' w.heap.size A1 (redR (M : Int) es d 0) ∧ OwnI w' w.heap.size A2 (scrR (M : Int) es d 0) ∧ Below w.heap.size w w') := by
  obtain ⟨M', hM, h0, h6, hn, hl, hes, hdb, hc⟩ := div_limsB hd
  obtain rfl : M' = M := by omega
  refine (l05Reduce_any A D c cd M' 0 es d w h0 h6 h0 hl hn hes hdb hc.cut hE hS).mono ?_
  rintro e w' ⟨A1, A2, c1, c2, f, rfl, hf, o1, o2, hb⟩
  have h1 := red_same hf h0 hn hdb hes
  have hb0 := div_burn hd
  refine ⟨A1, A2, c1, c2, rfl, ?_, ?_, hb⟩
  · rw [redR_t hb0, Int.toNat_natCast]
    rw [h1.2] at o1
    exact o1
  · rw [scrR_t hb0, Int.toNat_natCast]
    rw [h1.1] at o2
    exact o2
theorem red_len {M : Nat} {es : List (Int × Int)} {d : List Int} (h : divB 60 (M : Int) es d = true) : (redR (M : Int) es d 0).length = M ∧ (scrR (M : Int) es d 0).length = M := by
  rw [redR_t (div_burn h), scrR_t (div_burn h), chipsOf_len, chipsOf_len, Int.toNat_natCast]
  exact ⟨rfl, rfl⟩
theorem betB_len (N : Int) (es : List (Int × Int)) (a b : List Int) : (betB N es a b).length ≤ 1048576 := by
  cases h : eqvB N es a b with
  | false => rw [bet_f h]; simp
  | true =>
    have := (redR_len N es a 0).2
    rw [bet_t h, liftB_len, subB_len]
    omega
theorem winS_len (N : Int) (es : List (Int × Int)) (d : List Int) : (winS N es d).length ≤ 1048576 := by
  cases h : winB N es d with
  | false => rw [winS_f h]; simp
  | true =>
    have := (redR_len N es d 0).2
    rw [winS_t h, liftB_len]
    omega
end Go.Proofs.Ytcfhkaefjhcglaa

/- l06Lift: the specification's script lifted so that its least element is 0. -/
namespace Go.Proofs.Ytcfhkaefjhcglaa
open Go.RowKit

def leastK (x : Int) (l : List Int) (k : Nat) : Int := leastF x (l.take k)
theorem leastK_zero (x : Int) (l : List Int) : leastK x l 0 = x := rfl
theorem leastK_step {y : Int} {l : List Int} {k : Nat} {x : Int} (h : l[k]? = some x) : leastK y l (k + 1) = if x < leastK y l k then x else leastK y l k := by
  have h2 : leastK y l (k + 1) = min (leastK y l k) x := by
    unfold leastK
    rw [List.take_add_one, h]
    exact leastF_snoc (l.take k) y x
  rw [h2]
  split <;> omega
theorem leastK_all {y : Int} {l : List Int} {k : Nat} (h : l[0]? = some y) (hk : l.length ≤ k) : leastK y l k = leastB l := by
  unfold leastK
  rw [List.take_of_length_le hk]
  cases l with
  | nil => simp at h
  | cons z m =>
    simp at h
    subst h
    rw [leastF, leastB, Int.min_self]
theorem take_snocL {l : List Int} {k : Nat} {x : Int} (h : l[k]? = some x) : l.take (k + 1) = l.take k ++ [x] := by rw [List.take_add_one, h]; rfl

set_option maxRecDepth 100000 in
set_option maxHeartbeats 2000000 in
theorem specLift (A : Option Addr) (c : Nat) (xs : List Int) (w : World) (h0 : 0 < xs.length) (hn : xs.length ≤ 1048576) (hS : IntS w w.heap.size A xs) :
    Calls Try.prog 87 #[.slice A xs.length c] w (GivesInts w (liftB xs)) := by
  obtain ⟨i0, hi, hz0, hz1, hz2⟩ := info_parts intInfo
  have HS := Lib.hid hS
  obtain ⟨b1, o1, y, rfl, hb1, hey, hc0⟩ := hS.at_ h0
  have HY := Lib.hid hey
  have hx0 : (0 : Int) < (xs.length : Int) := by omega
  replace hc0 : w.cell? ⟨b1, o1, none⟩ = some (.int .i64 y) := hc0
  clear hS hey
  go_enter Try.func87, Try.ntmps87
  go_wp2
  go_loop [3, 5, 14] (fun m _ i => ∃ k : Nat, k ≤ xs.length ∧ i = .int .i64 k ∧ m = .int .i64 (leastK y xs k)) (fun _ _ i => xs.length - (intOf i).toNat)
  case atStart => exact ⟨0, Nat.zero_le _, rfl, rfl⟩
  case round =>
    obtain ⟨k, hk, rfl, rfl⟩ := hrel
    by_cases hlt : k < xs.length
    · obtain ⟨b2, o2, x, hq, hb2, he, hd0⟩ := HS.out.at_ hlt
      obtain ⟨rfl, rfl⟩ : b1 = b2 ∧ o1 = o2 := by simpa using hq
      have hj0 : (0 : Int) ≤ (k : Int) := Int.natCast_nonneg _
      have hj1 : (k : Int) < (xs.length : Int) := by omega
      have HD := Lib.hid (leastK_step (y := y) he)
      clear he hq
      go_wp2
      exact ⟨⟨k + 1, by omega, by go_num, by first | (rw [HD.out]; done) | (rw [HD.out]; congr 1; split <;> omega)⟩, by simp [intOf]; omega⟩
    · have HJ := Lib.hid (leastK_all HY.out (show xs.length ≤ k by omega))
      rw [HJ.out]
      clear HJ
      go_wp2
      go_loopw [6, 8, 25] (fun v _ i wr => ∃ k : Nat, k ≤ xs.length ∧ i = .int .i64 k ∧ wr.ownsRow w.heap.size 3 1 v k (intCells ((liftB xs).take k)) ∧ Below w.heap.size w wr) (fun _ _ i _ => xs.length - (intOf i).toNat)
      case atStart =>
        refine ⟨0, Nat.zero_le _, rfl, ?_, (Below.refl _ _).alloc (Nat.le_refl _) _⟩
        exact ⟨rfl, .inr ⟨w.heap.size, 0, #[], rfl, Nat.le_refl _, heap_alloc_new w _, Nat.le_refl _, Nat.zero_le _, rfl, rfl⟩⟩
      case round =>
        obtain ⟨k, hk, rfl, hown, hb⟩ := hrel
        have HO := Lib.hid hown
        have hbn := hb.size
        clear hown
        by_cases hlt : k < xs.length
        · obtain ⟨b2, o2, x, hq, hb2, he, hd0⟩ := (HS.out.below hb).at_ hlt
          obtain ⟨rfl, rfl⟩ : b1 = b2 ∧ o1 = o2 := by simpa using hq
          have hi0 : (0 : Int) ≤ (k : Int) := Int.natCast_nonneg _
          have hi1 : (k : Int) < (xs.length : Int) := by omega
          have HMT := Lib.hid (take_snocL (liftB_at he))
          clear he hq
          go_wp2_with (at_builtin; refine wpList_append_own _ rfl _ _ 27 rfl w.heap.size 3 i0 (.int .i64 0) 1 8 Try.underlying27 hi hz0 hz1 hz2 rfl (by decide) _ _ _ rfl (HO.out.alloc _) ⟨wr.heap.size, 0, none⟩ 1 1 [.int .i64 (wrap64 (x - leastB xs))] rfl rfl ?c1 ?c2 ?c3 ?c4 ?c5 ?_)
          case c1 => exact one_cellI _ _ (by simp) _ _
          case c2 => simp [Value.oneCell']
          case c3 => unfold maxLen; omega
          case c4 => omega
          case c5 => simp; omega
          intro v' w1 hown' hgrow _
          have HO2 := Lib.hid hown'
          clear hown'
          go_wp2
          refine ⟨⟨k + 1, by omega, by go_num, ?_, (hb.alloc hb.size _).grown hgrow (by simp; omega) (fun q hq => (HO.out.lt q hq).1)⟩, by simp [intOf]; omega⟩
          have h3 := HO2.out
          rw [HMT.out]
          simpa [intCells] using h3
        · have HO3 := HO.out
          rw [show k = xs.length by omega, List.take_of_length_le (by rw [liftB_len]; exact Nat.le_refl _)] at HO3
          obtain ⟨Ar, cr, rfl⟩ : ∃ Ar cr, u6 = .slice Ar xs.length cr := by
            rcases HO3.2 with ⟨h1, h2⟩ | ⟨g, cap, cur, h1, _⟩
            · exact ⟨none, 0, by rw [h1, h2]⟩
            · exact ⟨_, _, h1⟩
          have HF := Lib.hid (OwnI.of_own HO3)
          have HLM := Lib.hid (liftB_len xs)
          clear HO3
          go_wp2
          go_ret
          exact ⟨Ar, cr, by rw [HLM.out]; rfl, HF.out, hb⟩
end Go.Proofs.Ytcfhkaefjhcglaa

/- AreEquivalent: the specification's side. -/
namespace Go.Proofs.Ytcfhkaefjhcglaa
open Go.RowKit

set_option maxRecDepth 100000 in
set_option maxHeartbeats 2000000 in
theorem specEqv (N : Int) (A D F : Option Addr) (c cd cf : Nat) (es : List (Int × Int)) (a b : List Int) (w : World) (hn : es.length ≤ 1048576) (ha : a.length ≤ 1048576) (hb : b.length ≤ 1048576) (hE : EdgeS w w.heap.size A es) (hS : IntS w w.heap.size D a) (hT : IntS w w.heap.size F b) :
    Calls Try.prog 38 #[.agg #[.int .i64 N, .slice A es.length c], .slice D a.length cd, .slice F b.length cf] w fun e w' => e = .returned (.bool (eqvB N es a b)) ∧ Below w.heap.size w w' := by
  have HE := Lib.hid hE
  have HS := Lib.hid hS
  have HT := Lib.hid hT
  clear hE hS hT
  have G0 := GB.start w N A c es
  have HD := fun w h1 h2 => Lib.hid (specDiv N A D c cd es a w hn ha h1 h2)
  have HF := fun w h1 h2 => Lib.hid (specDiv N A F c cf es b w hn hb h1 h2)
  have HX := fun w h1 => Lib.hid (specDeg D cd a w ha h1)
  have HY := fun w h1 => Lib.hid (specDeg F cf b w hb h1)
  cases h1 : divB 60 N es a with
  | false =>
    rw [h1] at HD
    rw [eqv_no1 h1]
    clear h1
    go_enter Try.func38, Try.ntmps38
    go_wp2_with fail
    refine (HD _ (HE.out.up_ G0.old) (HS.out.up_ G0.old)).out.mono ?_
    rintro e w1 ⟨rfl, hb1⟩
    have G1 := Lib.hid (G0.next hb1)
    clear G0 hb1
    go_wp2
    go_ret
    exact ⟨ret_boolE rfl, G1.out.old⟩
  | true =>
    rw [h1] at HD
    cases h2 : divB 60 N es b with
    | false =>
      rw [h2] at HF
      rw [eqv_no2 h2]
      clear h1 h2
      go_enter Try.func38, Try.ntmps38
      go_wp2_with fail
      refine (HD _ (HE.out.up_ G0.old) (HS.out.up_ G0.old)).out.mono ?_
      rintro e w1 ⟨rfl, hb1⟩
      have G1 := Lib.hid (G0.next hb1)
      have c0 := G1.out.c0
      have c1 := G1.out.c1
      clear G0 hb1
      go_wp2_with fail
      refine (HF _ (HE.out.up_ G1.out.old) (HT.out.up_ G1.out.old)).out.mono ?_
      rintro e w2 ⟨rfl, hb2⟩
      have G2 := Lib.hid (G1.out.next hb2)
      clear hb2 c0 c1
      go_wp2
      go_ret
      exact ⟨ret_boolE rfl, G2.out.old⟩
    | true =>
      rw [h2] at HF
      by_cases h3 : degB a a.length = degB b b.length
      · have t3 : (degB a a.length != degB b b.length) = false := by simp [h3]
        rw [eqv_t h1 h2 h3]
        obtain ⟨M, rfl, -⟩ := div_limsB h1
        have hl1 := Lib.hid (red_len h1).1
        have hl2 := Lib.hid (red_len h2).1
        have HP := fun w h3 h4 => Lib.hid (specRd2 A D c cd M es a w h1 h3 h4)
        have HQ := fun w h3 h4 => Lib.hid (specRd2 A F c cf M es b w h2 h3 h4)
        have hM6 : M ≤ 1048576 := by
          obtain ⟨M', hM, h0, h6, _⟩ := div_limsB h1
          omega
        obtain ⟨p, hp⟩ : ∃ x, x = degB a a.length := ⟨_, rfl⟩
        obtain ⟨q, hq⟩ : ∃ x, x = degB b b.length := ⟨_, rfl⟩
        rw [← hp] at HX t3
        rw [← hq] at HY t3
        obtain ⟨xs, hxs⟩ : ∃ x, x = redR (M : Int) es a 0 := ⟨_, rfl⟩
        obtain ⟨ys, hys⟩ : ∃ x, x = redR (M : Int) es b 0 := ⟨_, rfl⟩
        rw [← hxs] at HP hl1 ⊢
        rw [← hys] at HQ hl2 ⊢
        clear h1 h2 h3 hp hq hxs hys
        go_enter Try.func38, Try.ntmps38
        go_wp2_with fail
        refine (HD _ (HE.out.up_ G0.old) (HS.out.up_ G0.old)).out.mono ?_
        rintro e w1 ⟨rfl, hb1⟩
        have G1 := Lib.hid (G0.next hb1)
        have c0 := G1.out.c0
        have c1 := G1.out.c1
        clear G0 hb1
        go_wp2_with fail
        refine (HF _ (HE.out.up_ G1.out.old) (HT.out.up_ G1.out.old)).out.mono ?_
        rintro e w2 ⟨rfl, hb2⟩
        have G2 := Lib.hid (G1.out.next hb2)
        clear hb2 c0 c1
        have c0 := G2.out.c0
        have c1 := G2.out.c1
        go_wp2_with fail
        refine (HX _ (HS.out.up_ G2.out.old)).out.mono ?_
        rintro e w3 ⟨rfl, hb3⟩
        have G3 := Lib.hid (G2.out.next hb3)
        clear hb3 c0 c1
        have c0 := G3.out.c0
        have c1 := G3.out.c1
        go_wp2_with fail
        refine (HY _ (HT.out.up_ G3.out.old)).out.mono ?_
        rintro e w4 ⟨rfl, hb4⟩
        have G4 := Lib.hid (G3.out.next hb4)
        clear hb4 c0 c1
        have c0 := G4.out.c0
        have c1 := G4.out.c1
        go_wp2_with fail
        refine (HP _ (HE.out.up_ G4.out.old) (HS.out.up_ G4.out.old)).out.mono ?_
        rintro e w5 ⟨A1, A2, c1', c2', rfl, ho, -, hb5⟩
        have G5 := Lib.hid (G4.out.next hb5)
        have HO := Lib.hid ho.ints
        clear hb5 c0 c1 ho
        have c0 := G5.out.c0
        have c1 := G5.out.c1
        go_wp2_with fail
        refine (HQ _ (HE.out.up_ G5.out.old) (HT.out.up_ G5.out.old)).out.mono ?_
        rintro e w6 ⟨A3, A4, c3', c4', rfl, ho, -, hb6⟩
        have G6 := Lib.hid (G5.out.next hb6)
        have HO1 := Lib.hid (HO.out.up_ hb6)
        have HO2 := Lib.hid ho.ints
        clear hb6 c0 c1 ho
        have HZ := Lib.hid (show Calls Try.prog 84 #[.slice A1 M c1', .slice A3 M c3'] w6 fun e w' => e = .returned (.bool (decide (xs = ys))) ∧ Below w6.heap.size w6 w' by
          have h := specSameD A1 A3 c1' c3' xs ys w6 (by rw [hl1.out]; exact hM6) (by rw [hl2.out]; exact hM6) HO1.out HO2.out
          rw [hl1.out, hl2.out] at h
          exact h)
        go_wp2_with fail
        refine HZ.out.mono ?_
        rintro e w7 ⟨rfl, hb7⟩
        have G7 := Lib.hid (G6.out.next hb7)
        clear hb7 HZ
        go_wp2
        go_ret
        exact ⟨ret_boolE rfl, G7.out.old⟩
      · have t3 : (degB a a.length != degB b b.length) = true := by simp [h3]
        rw [eqv_no3 h3]
        obtain ⟨p, hp⟩ : ∃ x, x = degB a a.length := ⟨_, rfl⟩
        obtain ⟨q, hq⟩ : ∃ x, x = degB b b.length := ⟨_, rfl⟩
        rw [← hp] at HX t3
        rw [← hq] at HY t3
        clear h1 h2 h3 hp hq
        go_enter Try.func38, Try.ntmps38
        go_wp2_with fail
        refine (HD _ (HE.out.up_ G0.old) (HS.out.up_ G0.old)).out.mono ?_
        rintro e w1 ⟨rfl, hb1⟩
        have G1 := Lib.hid (G0.next hb1)
        have c0 := G1.out.c0
        have c1 := G1.out.c1
        clear G0 hb1
        go_wp2_with fail
        refine (HF _ (HE.out.up_ G1.out.old) (HT.out.up_ G1.out.old)).out.mono ?_
        rintro e w2 ⟨rfl, hb2⟩
        have G2 := Lib.hid (G1.out.next hb2)
        clear hb2 c0 c1
        go_wp2_with fail
        refine (HX _ (HS.out.up_ G2.out.old)).out.mono ?_
        rintro e w3 ⟨rfl, hb3⟩
        have G3 := Lib.hid (G2.out.next hb3)
        clear hb3
        go_wp2_with fail
        refine (HY _ (HT.out.up_ G3.out.old)).out.mono ?_
        rintro e w4 ⟨rfl, hb4⟩
        have G4 := Lib.hid (G3.out.next hb4)
        clear hb4
        go_wp2
        go_ret
        exact ⟨ret_boolE rfl, G4.out.old⟩
end Go.Proofs.Ytcfhkaefjhcglaa

/- ScriptBetween: the specification's side. -/
namespace Go.Proofs.Ytcfhkaefjhcglaa
open Go.RowKit

set_option maxRecDepth 100000 in
set_option maxHeartbeats 2000000 in
theorem specBet (N : Int) (A D F : Option Addr) (c cd cf : Nat) (es : List (Int × Int)) (a b : List Int) (w : World) (hn : es.length ≤ 1048576) (ha : a.length ≤ 1048576) (hb : b.length ≤ 1048576) (hE : EdgeS w w.heap.size A es) (hS : IntS w w.heap.size D a) (hT : IntS w w.heap.size F b) :
    Calls Try.prog 43 #[.agg #[.int .i64 N, .slice A es.length c], .slice D a.length cd, .slice F b.length cf] w (GivesIntsOk w (betB N es a b) (eqvB N es a b)) := by
  obtain ⟨i0, hi, hz0, hz1, hz2⟩ := info_parts intInfo
  have HE := Lib.hid hE
  have HS := Lib.hid hS
  have HT := Lib.hid hT
  clear hE hS hT
  have G0 := GB.start w N A c es
  have HD := fun w h1 h2 h3 => Lib.hid (specEqv N A D F c cd cf es a b w hn ha hb h1 h2 h3)
  cases h1 : eqvB N es a b with
  | false =>
    rw [h1] at HD
    rw [bet_f h1]
    clear h1
    go_enter Try.func43, Try.ntmps43
    go_wp2_with fail
    refine (HD _ (HE.out.up_ G0.old) (HS.out.up_ G0.old) (HT.out.up_ G0.old)).out.mono ?_
    rintro e w1 ⟨rfl, hb1⟩
    have G1 := Lib.hid (G0.next hb1)
    clear G0 hb1
    go_wp2
    go_ret2
    exact ⟨none, 0, rfl, OwnI.nil _ _ _, G1.out.old⟩
  | true =>
    rw [h1] at HD
    rw [bet_t h1]
    obtain ⟨h2, h3, -⟩ := eqv_div h1
    obtain ⟨M, rfl, hM0, hM6, -⟩ := div_limsB h2
    have hl1 := Lib.hid (red_len h2).2
    have hl2 := Lib.hid (red_len h3).2
    have HP := fun w h4 h5 => Lib.hid (specRd2 A D c cd M es a w h2 h4 h5)
    have HQ := fun w h4 h5 => Lib.hid (specRd2 A F c cf M es b w h3 h4 h5)
    obtain ⟨xs, hxs⟩ : ∃ x, x = scrR (M : Int) es a 0 := ⟨_, rfl⟩
    obtain ⟨ys, hys⟩ : ∃ x, x = scrR (M : Int) es b 0 := ⟨_, rfl⟩
    rw [← hxs] at HP hl1 ⊢
    rw [← hys] at HQ hl2 ⊢
    have hl3 := Lib.hid (show (subB xs ys).length = M by rw [subB_len, hl1.out])
    have HL := fun (A2 : Option Addr) (c2 : Nat) (w : World) (h : IntS w w.heap.size A2 (subB xs ys)) => Lib.hid (show Calls Try.prog 87 #[.slice A2 M c2] w (GivesInts w (liftB (subB xs ys))) by
      have h9 := specLift A2 c2 (subB xs ys) w (by rw [hl3.out]; exact hM0) (by rw [hl3.out]; omega) h
      rw [hl3.out] at h9
      exact h9)
    clear h1 h2 h3 hxs hys
    go_enter Try.func43, Try.ntmps43
    go_wp2_with fail
    refine (HD _ (HE.out.up_ G0.old) (HS.out.up_ G0.old) (HT.out.up_ G0.old)).out.mono ?_
    rintro e w1 ⟨rfl, hb1⟩
    have G1 := Lib.hid (G0.next hb1)
    have c0 := G1.out.c0
    have c1 := G1.out.c1
    clear G0 hb1
    go_wp2_with fail
    refine (HP _ (HE.out.up_ G1.out.old) (HS.out.up_ G1.out.old)).out.mono ?_
    rintro e w2 ⟨A1, A2, c1', c2', rfl, -, ho, hb2⟩
    have G2 := Lib.hid (G1.out.next hb2)
    have HO := Lib.hid ho.ints
    clear hb2 c0 c1 ho
    have c0 := G2.out.c0
    have c1 := G2.out.c1
    go_wp2_with fail
    refine (HQ _ (HE.out.up_ G2.out.old) (HT.out.up_ G2.out.old)).out.mono ?_
    rintro e w3 ⟨A3, A4, c3', c4', rfl, -, ho, hb3⟩
    have G3 := Lib.hid (G2.out.next hb3)
    have HO1 := Lib.hid (HO.out.up_ hb3)
    have HO2 := Lib.hid ho.ints
    have hg3 := G3.out.old.size
    clear hb3 c0 c1 ho
    go_wp2
    go_loopw [12, 13, 14, 35] (fun v _ _ i wr => ∃ k : Nat, k ≤ M ∧ i = .int .i64 k ∧ wr.ownsRow w3.heap.size 3 1 v k (intCells ((subB xs ys).take k)) ∧ Below w3.heap.size w3 wr) (fun _ _ _ i _ => M - (intOf i).toNat)
    case atStart =>
      refine ⟨0, Nat.zero_le _, rfl, ?_, (Below.refl _ _).alloc (Nat.le_refl _) _⟩
      exact ⟨rfl, .inr ⟨w3.heap.size, 0, #[], rfl, Nat.le_refl _, heap_alloc_new w3 _, Nat.le_refl _, Nat.zero_le _, rfl, rfl⟩⟩
    case round =>
      obtain ⟨k, hk, rfl, hown, hb⟩ := hrel
      have HW := Lib.hid hown
      have hbn := hb.size
      clear hown
      by_cases hlt : k < M
      · obtain ⟨b1, o1, x, rfl, hb1, he, hc0⟩ := (HO1.out.below hb).at_ (k := k) (by rw [hl1.out]; exact hlt)
        obtain ⟨b2, o2, y, rfl, hb2, hf, hc1⟩ := (HO2.out.below hb).at_ (k := k) (by rw [hl2.out]; exact hlt)
        have hi0 : (0 : Int) ≤ (k : Int) := Int.natCast_nonneg _
        have hi1 : (k : Int) < (M : Int) := by omega
        have HMT := Lib.hid (take_snocL (subB_at he hf))
        clear he hf
        go_wp2_with (at_builtin; refine wpList_append_own _ rfl _ _ 27 rfl w3.heap.size 3 i0 (.int .i64 0) 1 8 Try.underlying27 hi hz0 hz1 hz2 rfl (by decide) _ _ _ rfl (HW.out.alloc _) ⟨wr.heap.size, 0, none⟩ 1 1 [.int .i64 (wrap64 (x - y))] rfl rfl ?c1 ?c2 ?c3 ?c4 ?c5 ?_)
        case c1 => exact one_cellI _ _ (by simp) _ _
        case c2 => simp [Value.oneCell']
        case c3 => unfold maxLen; omega
        case c4 => omega
        case c5 => simp; omega
        intro v' w4 hown' hgrow _
        have HW2 := Lib.hid hown'
        clear hown'
        go_wp2
        refine ⟨⟨k + 1, by omega, by go_num, ?_, (hb.alloc hb.size _).grown hgrow (by simp; omega) (fun q hq => (HW.out.lt q hq).1)⟩, by simp [intOf]; omega⟩
        have h3 := HW2.out
        rw [HMT.out]
        simpa [intCells] using h3
      · have HW3 := HW.out
        rw [show k = M by omega, List.take_of_length_le (by rw [hl3.out]; exact Nat.le_refl _)] at HW3
        obtain ⟨Ar, cr, rfl⟩ : ∃ Ar cr, u12 = .slice Ar M cr := by
          rcases HW3.2 with ⟨h1, h2⟩ | ⟨g, cap, cur, h1, _⟩
          · exact ⟨none, 0, by rw [h1, h2]⟩
          · exact ⟨_, _, h1⟩
        have HF := Lib.hid (OwnI.of_own HW3).ints
        have G4 := Lib.hid (G3.out.next hb)
        clear HW3
        go_wp2_with fail
        refine (HL _ _ _ HF.out).out.mono ?_
        rintro e w5 ⟨A5, c5', rfl, ho, hb5⟩
        have G5 := Lib.hid (G4.out.next hb5)
        have HR := Lib.hid (ho.mono G4.out.old.size)
        clear hb5 ho
        go_wp2
        go_ret2
        exact ⟨A5, c5', rfl, HR.out, G5.out.old⟩
end Go.Proofs.Ytcfhkaefjhcglaa

/- IsPrincipal: the specification's side. -/
namespace Go.Proofs.Ytcfhkaefjhcglaa
open Go.RowKit

theorem keepB2 {w0 W W' : World} {X : Nat} {a b : Value} (h : W.cell? ⟨X, 0, none⟩ = some a ∧ W.cell? ⟨X, 1, none⟩ = some b ∧ Below w0.heap.size w0 W) (hb : Below W.heap.size W W') :
    W'.cell? ⟨X, 0, none⟩ = some a ∧ W'.cell? ⟨X, 1, none⟩ = some b ∧ Below w0.heap.size w0 W' :=
  ⟨(hb.cell (World.block_lt_of_cell? W _ h.1)).trans h.1, (hb.cell (World.block_lt_of_cell? W _ h.2.1)).trans h.2.1, h.2.2.trans (hb.mono h.2.2.size)⟩
section
variable {P : Program} {ops : Array Oper} {Q : Exit → Act → World → Prop} {md : Region.Mode} {S : World → Prop} {oi : Oper} {fuel : Nat} {listed : Array Bool} {a : Act} {w : World}
/-- an operation that yields v is taken -/
theorem wpAnyH_on (i : Nat) (s : Option Tmp) (v : Value) (hi : ops[i]? = some oi)
    (hs : Region.noSelect ops = true) (hf : Region.free md ops listed i = true) (hr : (Region.ready md ops listed).contains i = true)
    (hQ : ∀ c a w, Q (.panic c) (a.put oi.dst v) w → Q (.panic c) a w) (hd : oi.dst = s) (hS : S w) (hw : Region.wanted oi (yielded ops a.tmps) = true) (hy : ∀ w, S w → (execOp a.eval oi).run P w = .ok (.value v) w)
    (h : wpAnyH P md ops Q S fuel (listed.setIfInBounds i true) (a.put s v) w) : wpAnyH P md ops Q S (fuel + 1) listed a w :=
  wpAnyH_take hi hs hf hr hQ (Or.inl ⟨hw, hy⟩) hS (hd ▸ h)
/-- an operation whose guard says no is passed over -/
theorem wpAnyH_off (i : Nat) (s : Option Tmp) (hi : ops[i]? = some oi)
    (hs : Region.noSelect ops = true) (hf : Region.free md ops listed i = true) (hr : (Region.ready md ops listed).contains i = true)
    (hQ : ∀ c a w, Q (.panic c) (a.put oi.dst undef) w → Q (.panic c) a w) (hd : oi.dst = s) (hS : S w) (hw : Region.wanted oi (yielded ops a.tmps) = false)
    (h : wpAnyH P md ops Q S fuel (listed.setIfInBounds i true) (a.put s undef) w) : wpAnyH P md ops Q S (fuel + 1) listed a w :=
  wpAnyH_take hi hs hf hr hQ (Or.inr ⟨hw, rfl⟩) hS (hd ▸ h)
end
set_option maxRecDepth 100000 in
set_option maxHeartbeats 4000000 in
set_option linter.unusedSimpArgs false in
theorem specPrin (N : Int) (A D : Option Addr) (c cd : Nat) (es : List (Int × Int)) (d : List Int) (w : World) (hn : es.length ≤ 1048576) (hd : d.length ≤ 1048576) (hE : EdgeS w w.heap.size A es) (hS : IntS w w.heap.size D d) :
    Calls Try.prog 47 #[.agg #[.int .i64 N, .slice A es.length c], .slice D d.length cd] w fun e w' => e = .returned (.bool (prinB N es d)) ∧ Below w.heap.size w w' := by
  have HE := Lib.hid hE
  have HS := Lib.hid hS
  clear hE hS
  have G0 := GB.start w N A c es
  rw [prinB]
  cases h1 : divB 60 N es d with
  | false =>
    have DO := fun (W : World) (h : Below (w.alloc (.cells #[.int .i64 N, .slice A es.length c] 25)).heap.size (w.alloc (.cells #[.int .i64 N, .slice A es.length c] 25)) W) => Lib.hid (show Calls Try.prog 82 #[.agg #[.int .i64 N, .slice A es.length c], .slice D d.length cd] W (fun e w' => e = .returned (.bool false) ∧ Below W.heap.size W w') by
      have h9 := specDiv N A D c cd es d W hn hd (HE.out.up_ (G0.next h).old) (HS.out.up_ (G0.next h).old)
      rw [h1] at h9
      exact h9)
    obtain ⟨W0, hW0⟩ : ∃ X : World, X = w.alloc (.cells #[.int .i64 N, .slice A es.length c] 25) := ⟨_, rfl⟩
    rw [← hW0] at G0 DO
    have HW0 := Lib.hid hW0
    have c0 := G0.c0
    have c1 := G0.c1
    have HP0 := Lib.hid (show W0.drew.cell? ⟨w.heap.size, 0, none⟩ = some (.int .i64 N) ∧ W0.drew.cell? ⟨w.heap.size, 1, none⟩ = some (.slice A es.length c) ∧ Below W0.heap.size W0 W0.drew from ⟨c0, c1, (Below.refl _ _).drew⟩)
    have HG := Lib.hid G0
    clear h1 hW0 G0
    go_enter Try.func47, Try.ntmps47
    go_wp2_with fail
    rw [← HW0.out]
    refine wp_region_held_drew (S := fun w' => w'.cell? ⟨w.heap.size, 0, none⟩ = some (.int .i64 N) ∧ w'.cell? ⟨w.heap.size, 1, none⟩ = some (.slice A es.length c) ∧ Below W0.heap.size W0 w') (by kernel_rfl) HP0.out (fun hH => ?_)
    refine wpAnyH_on 0 (some 5) (.agg #[.int .i64 N, .slice A es.length c]) rfl (by kernel_rfl) (by kernel_rfl) (by kernel_rfl) (fun _ _ _ h => h) rfl hH (by rfl) ?_ ?_
    · intro w hSw
      try dsimp only at hSw
      go_simp
    try simp only [Act.put, List.setIfInBounds_toArray, List.set_cons_zero, List.set_cons_succ]
    refine wpAnyH_on 1 (some 6) (.slice D d.length cd) rfl (by kernel_rfl) (by kernel_rfl) (by kernel_rfl) (fun _ _ _ h => h) rfl hH (by rfl) ?_ ?_
    · intro w hSw
      try dsimp only at hSw
      go_simp
    try simp only [Act.put, List.setIfInBounds_toArray, List.set_cons_zero, List.set_cons_succ]
    refine wpAnyH_ready (rs := [2]) (by kernel_rfl) (by simp) ?_
    refine AllReadyH.cons rfl (fun K hK => ?_) AllReadyH.nil
    go_simp
    refine (DO _ (And.right (And.right hH))).out.mono ?_
    rintro e w1 ⟨rfl, hb1⟩
    refine hK.out _ _ (keepB2 hH hb1) (fun hH2 => ?_)
    clear hK K
    try simp only [Act.put, List.setIfInBounds_toArray, List.set_cons_zero, List.set_cons_succ]
    refine wpAnyH_on 3 (some 8) (.bool false) rfl (by kernel_rfl) (by kernel_rfl) (by kernel_rfl) (fun _ _ _ h => h) rfl hH2 (by rfl) ?_ ?_
    · intro w hSw
      try dsimp only at hSw
      go_simp
    try simp only [Act.put, List.setIfInBounds_toArray, List.set_cons_zero, List.set_cons_succ]
    refine wpAnyH_off 4 (some 9) rfl (by kernel_rfl) (by kernel_rfl) (by kernel_rfl) (fun _ _ _ h => h) rfl hH2 (by rfl) ?_
    try simp only [Act.put, List.setIfInBounds_toArray, List.set_cons_zero, List.set_cons_succ]
    refine wpAnyH_off 5 (some 10) rfl (by kernel_rfl) (by kernel_rfl) (by kernel_rfl) (fun _ _ _ h => h) rfl hH2 (by rfl) ?_
    try simp only [Act.put, List.setIfInBounds_toArray, List.set_cons_zero, List.set_cons_succ]
    refine wpAnyH_off 6 (some 11) rfl (by kernel_rfl) (by kernel_rfl) (by kernel_rfl) (fun _ _ _ h => h) rfl hH2 (by rfl) ?_
    try simp only [Act.put, List.setIfInBounds_toArray, List.set_cons_zero, List.set_cons_succ]
    refine wpAnyH_off 7 (some 12) rfl (by kernel_rfl) (by kernel_rfl) (by kernel_rfl) (fun _ _ _ h => h) rfl hH2 (by rfl) ?_
    try simp only [Act.put, List.setIfInBounds_toArray, List.set_cons_zero, List.set_cons_succ]
    refine wpAnyH_off 8 (some 13) rfl (by kernel_rfl) (by kernel_rfl) (by kernel_rfl) (fun _ _ _ h => h) rfl hH2 (by rfl) ?_
    try simp only [Act.put, List.setIfInBounds_toArray, List.set_cons_zero, List.set_cons_succ]
    refine wpAnyH_off 9 (some 14) rfl (by kernel_rfl) (by kernel_rfl) (by kernel_rfl) (fun _ _ _ h => h) rfl hH2 (by rfl) ?_
    try simp only [Act.put, List.setIfInBounds_toArray, List.set_cons_zero, List.set_cons_succ]
    refine wpAnyH_on 10 (some 15) (.bool false) rfl (by kernel_rfl) (by kernel_rfl) (by kernel_rfl) (fun _ _ _ h => h) rfl hH2 (by rfl) ?_ ?_
    · intro w hSw
      try dsimp only at hSw
      go_simp
    try simp only [Act.put, List.setIfInBounds_toArray, List.set_cons_zero, List.set_cons_succ]
    refine wpAnyH_on 11 (some 4) (.bool false) rfl (by kernel_rfl) (by kernel_rfl) (by kernel_rfl) (fun _ _ _ h => h) rfl hH2 (by rfl) ?_ ?_
    · intro w hSw
      try dsimp only at hSw
      go_simp
    try simp only [Act.put, List.setIfInBounds_toArray, List.set_cons_zero, List.set_cons_succ]
    refine wpAnyH_done (by kernel_rfl) ?_ _
    have hbz : Below W0.heap.size W0 w1 := And.right (And.right hH2)
    go_wp2
    go_ret
    exact ⟨rfl, (HG.out.next hbz).old⟩
  | true =>
    obtain ⟨M, rfl, hM0, hM6, -⟩ := div_limsB h1
    have hmk := make_ints M (by omega)
    rw [Int.toNat_natCast]
    have DO := fun (W : World) (h : Below (w.alloc (.cells #[.int .i64 (M : Int), .slice A es.length c] 25)).heap.size (w.alloc (.cells #[.int .i64 (M : Int), .slice A es.length c] 25)) W) => Lib.hid (show Calls Try.prog 82 #[.agg #[.int .i64 (M : Int), .slice A es.length c], .slice D d.length cd] W (fun e w' => e = .returned (.bool true) ∧ Below W.heap.size W w') by
      have h9 := specDiv (M : Int) A D c cd es d W hn hd (HE.out.up_ (G0.next h).old) (HS.out.up_ (G0.next h).old)
      rw [h1] at h9
      exact h9)
    obtain ⟨b, hb⟩ : ∃ x, x = eqvB (M : Int) es d (List.replicate M 0) := ⟨_, rfl⟩
    rw [← hb]
    have EO := fun (W : World) (h : Below (w.alloc (.cells #[.int .i64 (M : Int), .slice A es.length c] 25)).heap.size (w.alloc (.cells #[.int .i64 (M : Int), .slice A es.length c] 25)) W) => Lib.hid (show Calls Try.prog 38 #[.agg #[.int .i64 (M : Int), .slice A es.length c], .slice D d.length cd, .slice (some ⟨W.heap.size, 0, none⟩) M M] (W.alloc (.cells (intCells (List.replicate M 0)).toArray 3)) (fun e w' => e = .returned (.bool b) ∧ Below (W.alloc (.cells (intCells (List.replicate M 0)).toArray 3)).heap.size (W.alloc (.cells (intCells (List.replicate M 0)).toArray 3)) w') by
      have hz : Below W.heap.size W (W.alloc (.cells (intCells (List.replicate M 0)).toArray 3)) := (Below.refl _ _).alloc (Nat.le_refl _) _
      have ho := ((G0.next h).next hz).old
      have h9 := specEqv (M : Int) A D (some ⟨W.heap.size, 0, none⟩) c cd M es d (List.replicate M 0) (W.alloc (.cells (intCells (List.replicate M 0)).toArray 3)) hn hd (by simp; omega) (HE.out.up_ ho) (HS.out.up_ ho) (IntS.of_blk (Blk.new W _ _) (Blk.new W _ _).lt)
      rw [← hb, List.length_replicate] at h9
      exact h9)
    obtain ⟨W0, hW0⟩ : ∃ X : World, X = w.alloc (.cells #[.int .i64 (M : Int), .slice A es.length c] 25) := ⟨_, rfl⟩
    rw [← hW0] at G0 DO EO
    have HW0 := Lib.hid hW0
    have c0 := G0.c0
    have c1 := G0.c1
    have HP0 := Lib.hid (show W0.drew.cell? ⟨w.heap.size, 0, none⟩ = some (.int .i64 (M : Int)) ∧ W0.drew.cell? ⟨w.heap.size, 1, none⟩ = some (.slice A es.length c) ∧ Below W0.heap.size W0 W0.drew from ⟨c0, c1, (Below.refl _ _).drew⟩)
    have HG := Lib.hid G0
    clear h1 hW0 G0 hb
    go_enter Try.func47, Try.ntmps47
    go_wp2_with fail
    rw [← HW0.out]
    go_region_held3 (fun w' => w'.cell? ⟨w.heap.size, 0, none⟩ = some (.int .i64 (M : Int)) ∧ w'.cell? ⟨w.heap.size, 1, none⟩ = some (.slice A es.length c) ∧ Below W0.heap.size W0 w')
      (first
        | with_reducible exact HP0.out
        | with_reducible exact keepB2 (by assumption) hb1
        | with_reducible exact keepB2 (by assumption) hb2
        | with_reducible exact keepB2 (by assumption) ((Below.refl _ _).alloc (Nat.le_refl _) _))
      (first
        | (go_at_call 82; refine (DO _ (And.right (And.right (by assumption)))).out.mono ?_; rintro e w1 ⟨rfl, hb1⟩)
        | (go_at_call 38; refine (EO w1 ((Below.refl _ _).drew.trans hb1)).out.mono ?_; rintro e w2 ⟨rfl, hb2⟩))
    have hbz : Below W0.heap.size W0 w2 := And.right (And.right (by assumption))
    go_wp2
    go_ret
    exact ⟨rfl, (HG.out.next hbz).old⟩
end Go.Proofs.Ytcfhkaefjhcglaa

/- IsWinnable and WinningScript: the specification's side. -/
namespace Go.Proofs.Ytcfhkaefjhcglaa
open Go.RowKit

set_option maxRecDepth 100000 in
set_option maxHeartbeats 2000000 in
theorem specWin (N : Int) (A D : Option Addr) (c cd : Nat) (es : List (Int × Int)) (d : List Int) (w : World) (hn : es.length ≤ 1048576) (hd : d.length ≤ 1048576) (hE : EdgeS w w.heap.size A es) (hS : IntS w w.heap.size D d) :
    Calls Try.prog 48 #[.agg #[.int .i64 N, .slice A es.length c], .slice D d.length cd] w fun e w' => e = .returned (.bool (winB N es d)) ∧ Below w.heap.size w w' := by
  have HE := Lib.hid hE
  have HS := Lib.hid hS
  clear hE hS
  have G0 := GB.start w N A c es
  have HD := fun w h1 h2 => Lib.hid (specChip N A D c cd es d 0 w hn hd h1 h2)
  rw [winB]
  obtain ⟨z, hz⟩ : ∃ x, x = chipR N es d 0 := ⟨_, rfl⟩
  rw [← hz] at HD ⊢
  cases h1 : burnOk N es d 0 with
  | false =>
    rw [h1] at HD
    clear h1 hz
    go_enter Try.func48, Try.ntmps48
    go_wp2_with fail
    refine (HD _ (HE.out.up_ G0.old) (HS.out.up_ G0.old)).out.mono ?_
    rintro e w1 ⟨rfl, hb1⟩
    have G1 := Lib.hid (G0.next hb1)
    clear G0 hb1
    go_wp2
    go_ret
    exact ⟨ret_boolE (by simp), G1.out.old⟩
  | true =>
    rw [h1] at HD
    clear h1 hz
    go_enter Try.func48, Try.ntmps48
    go_wp2_with fail
    refine (HD _ (HE.out.up_ G0.old) (HS.out.up_ G0.old)).out.mono ?_
    rintro e w1 ⟨rfl, hb1⟩
    have G1 := Lib.hid (G0.next hb1)
    clear G0 hb1
    go_wp2
    go_ret
    exact ⟨ret_boolE (by simp), G1.out.old⟩
set_option maxRecDepth 100000 in
set_option maxHeartbeats 2000000 in
theorem specWinS (N : Int) (A D : Option Addr) (c cd : Nat) (es : List (Int × Int)) (d : List Int) (w : World) (hn : es.length ≤ 1048576) (hd : d.length ≤ 1048576) (hE : EdgeS w w.heap.size A es) (hS : IntS w w.heap.size D d) :
    Calls Try.prog 49 #[.agg #[.int .i64 N, .slice A es.length c], .slice D d.length cd] w (GivesIntsOk w (winS N es d) (winB N es d)) := by
  have HE := Lib.hid hE
  have HS := Lib.hid hS
  clear hE hS
  have G0 := GB.start w N A c es
  have HD := fun w h1 h2 => Lib.hid (specWin N A D c cd es d w hn hd h1 h2)
  cases h1 : winB N es d with
  | false =>
    rw [h1] at HD
    rw [winS_f h1]
    clear h1
    go_enter Try.func49, Try.ntmps49
    go_wp2_with fail
    refine (HD _ (HE.out.up_ G0.old) (HS.out.up_ G0.old)).out.mono ?_
    rintro e w1 ⟨rfl, hb1⟩
    have G1 := Lib.hid (G0.next hb1)
    clear G0 hb1
    go_wp2
    go_ret2
    exact ⟨none, 0, rfl, OwnI.nil _ _ _, G1.out.old⟩
  | true =>
    rw [h1] at HD
    rw [winS_t h1]
    have h2 := win_div h1
    obtain ⟨M, rfl, hM0, hM6, -⟩ := div_limsB h2
    have hl1 := Lib.hid (red_len h2).2
    have HP := fun w h3 h4 => Lib.hid (specRd2 A D c cd M es d w h2 h3 h4)
    obtain ⟨ss, hss⟩ : ∃ x, x = scrR (M : Int) es d 0 := ⟨_, rfl⟩
    rw [← hss] at HP hl1 ⊢
    have HL := fun (A2 : Option Addr) (c2 : Nat) (w : World) (h : IntS w w.heap.size A2 ss) => Lib.hid (show Calls Try.prog 87 #[.slice A2 M c2] w (GivesInts w (liftB ss)) by
      have h9 := specLift A2 c2 ss w (by rw [hl1.out]; exact hM0) (by rw [hl1.out]; omega) h
      rw [hl1.out] at h9
      exact h9)
    clear h1 h2 hss hM0 hM6
    go_enter Try.func49, Try.ntmps49
    go_wp2_with fail
    refine (HD _ (HE.out.up_ G0.old) (HS.out.up_ G0.old)).out.mono ?_
    rintro e w1 ⟨rfl, hb1⟩
    have G1 := Lib.hid (G0.next hb1)
    have c0 := G1.out.c0
    have c1 := G1.out.c1
    clear G0 hb1
    go_wp2_with fail
    refine (HP _ (HE.out.up_ G1.out.old) (HS.out.up_ G1.out.old)).out.mono ?_
    rintro e w2 ⟨A1, A2, c1', c2', rfl, -, ho, hb2⟩
    have G2 := Lib.hid (G1.out.next hb2)
    have HO := Lib.hid ho.ints
    clear hb2 c0 c1 ho
    go_wp2_with fail
    refine (HL _ _ _ HO.out).out.mono ?_
    rintro e w3 ⟨A3, c3', rfl, ho, hb3⟩
    have G3 := Lib.hid (G2.out.next hb3)
    have HR := Lib.hid (ho.mono G2.out.old.size)
    clear hb3 ho
    go_wp2
    go_ret2
    exact ⟨A3, c3', rfl, HR.out, G3.out.old⟩
end Go.Proofs.Ytcfhkaefjhcglaa

/- RepresentativeOf: the specification's side. -/
namespace Go.Proofs.Ytcfhkaefjhcglaa
open Go.RowKit

set_option maxRecDepth 100000 in
set_option maxHeartbeats 2000000 in
theorem specRep (N : Int) (A D : Option Addr) (c cd : Nat) (es : List (Int × Int)) (d : List Int) (w : World) (hn : es.length ≤ 1048576) (hd : d.length ≤ 1048576) (hE : EdgeS w w.heap.size A es) (hS : IntS w w.heap.size D d) :
    Calls Try.prog 56 #[.agg #[.int .i64 N, .slice A es.length c], .slice D d.length cd] w (GivesIntsOk w (redR N es d 0) (burnOk N es d 0)) := by
  have HE := Lib.hid hE
  have HS := Lib.hid hS
  clear hE hS
  have G0 := GB.start w N A c es
  have HD := fun w h1 h2 => Lib.hid (specRed N A D c cd es d 0 w hn hd h1 h2)
  obtain ⟨xs, hxs⟩ : ∃ x, x = redR N es d 0 := ⟨_, rfl⟩
  obtain ⟨b, hb⟩ : ∃ x, x = burnOk N es d 0 := ⟨_, rfl⟩
  rw [← hxs, ← hb] at HD ⊢
  clear hxs hb
  go_enter Try.func56, Try.ntmps56
  go_wp2_with fail
  refine (HD _ (HE.out.up_ G0.old) (HS.out.up_ G0.old)).out.mono ?_
  rintro e w1 ⟨A1, c1, rfl, ho, hb1⟩
  have G1 := Lib.hid (G0.next hb1)
  have HR := Lib.hid (ho.mono G0.old.size)
  clear G0 hb1 ho
  go_wp2
  go_ret2
  exact ⟨A1, c1, rfl, HR.out, G1.out.old⟩
end Go.Proofs.Ytcfhkaefjhcglaa
