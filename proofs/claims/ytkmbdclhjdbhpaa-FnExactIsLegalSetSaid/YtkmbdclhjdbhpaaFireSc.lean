/- FireScript: both sides. -/
import Derived.Test.YtkmbdclhjdbhpaaFireS
import Derived.Test.YtkmbdclhjdbhpaaDiv
import Derived.Test.YtkmbdclhjdbhpaaScr
namespace Go.Proofs.Ytkmbdclhjdbhpaa
open Go.RowKit

noncomputable def fireOk (N : Int) (es : List (Int × Int)) (d s : List Int) : Bool := divB 60 N es d && divB 100000 N es s
noncomputable def fireB (N : Int) (es : List (Int × Int)) (d s : List Int) : List Int := if fireOk N es d s = true then firedB N.toNat es d s else []
theorem fireB_f {N : Int} {es : List (Int × Int)} {d s : List Int} (h : fireOk N es d s = false) : fireB N es d s = [] := by rw [fireB, if_neg (by rw [h]; decide)]
theorem fireB_t {N : Int} {es : List (Int × Int)} {d s : List Int} (h : fireOk N es d s = true) : fireB N es d s = firedB N.toNat es d s := by rw [fireB, if_pos h]
theorem div_lims {m N : Int} {es : List (Int × Int)} {d : List Int} (h : divB m N es d = true) : 1 ≤ N ∧ N ≤ 6 ∧ es.length ≤ 12 ∧ (d.length : Int) = N ∧ ∀ e ∈ es, 0 ≤ e.1 ∧ e.1 < e.2 ∧ e.2 < N := by
  obtain ⟨h1, h2, _⟩ := divB_all h
  obtain ⟨h3, h4, h5⟩ := edgesB_lims (graphB_all h1).1
  exact ⟨h3, h4, h5, h2, fun e he => all_edge (graphB_all h1).1 he⟩
theorem div_wide {m N : Int} {es : List (Int × Int)} {d : List Int} (h : divB m N es d = true) (hm : m ≤ 1000000) : ∀ x ∈ d, -9223372036854775808 ≤ x ∧ x ≤ 9223372036854775807 := fun x hx => by
  have := (divB_all h).2.2 x hx
  omega
theorem fireB_len {N : Int} {es : List (Int × Int)} {d s : List Int} : (fireB N es d s).length ≤ 1048576 := by
  cases h : fireOk N es d s with
  | false => rw [fireB_f h]; simp
  | true =>
    rw [fireB_t h, firedB_len]
    simp only [fireOk, Bool.and_eq_true] at h
    have := div_lims h.1
    omega

set_option maxHeartbeats 2000000 in
theorem specFire (N : Int) (A D S : Option Addr) (c cd cs : Nat) (es : List (Int × Int)) (d s : List Int) (w : World) (hn : es.length ≤ 1048576) (hd : d.length ≤ 1048576) (hs : s.length ≤ 1048576) (hE : EdgeS w w.heap.size A es) (hD : IntS w w.heap.size D d) (hS : IntS w w.heap.size S s) :
    Calls Try.prog 39 #[.agg #[.int .i64 N, .slice A es.length c], .slice D d.length cd, .slice S s.length cs] w (GivesIntsOk w (fireB N es d s) (fireOk N es d s)) := by
  have HE := Lib.hid hE
  have HSD := Lib.hid hD
  have HSS := Lib.hid hS
  clear hE hD hS
  have hb0 : Below w.heap.size w (w.alloc (Obj.cells #[.int .i64 N, .slice A es.length c] 37)) := (Below.refl _ _).alloc (Nat.le_refl _) _
  have HD := fun w h1 h2 => Lib.hid (specDiv N A D c cd es d w hn hd h1 h2)
  have HQ := fun w h1 h2 => Lib.hid (specScr N A S c cs es s w hn hs h1 h2)
  cases h1 : divB 60 N es d with
  | false =>
    rw [h1] at HD
    have h0 : fireOk N es d s = false := by simp [fireOk, h1]
    rw [fireB_f h0, h0]
    clear h0 h1 HQ
    go_enter Try.func39, Try.ntmps39
    go_wp2_with fail
    refine (HD _ (HE.out.up_ hb0) (HSD.out.up_ hb0)).out.mono ?_
    rintro e w1 ⟨rfl, hb1⟩
    have hbb : Below w.heap.size w w1 := hb0.trans (hb1.mono hb0.size)
    have hx1 := (Blk.new w 37 #[.int .i64 N, .slice A es.length c]).below hb1 (by simp)
    have c0 : w1.cell? ⟨w.heap.size, 0, none⟩ = some (.int .i64 N) := by rw [hx1.cell]; rfl
    have c1 : w1.cell? ⟨w.heap.size, 1, none⟩ = some (.slice A es.length c) := by rw [hx1.cell]; rfl
    have HX1 := Lib.hid hx1
    clear hb0 hb1 hx1
    go_wp2
    go_ret2
    exact ⟨none, 0, rfl, OwnI.nil _ _ _, hbb⟩
  | true =>
    rw [h1] at HD
    cases h2 : divB 100000 N es s with
    | false =>
      rw [h2] at HQ
      have h0 : fireOk N es d s = false := by simp [fireOk, h2]
      rw [fireB_f h0, h0]
      clear h0 h1 h2
      go_enter Try.func39, Try.ntmps39
      go_wp2_with fail
      refine (HD _ (HE.out.up_ hb0) (HSD.out.up_ hb0)).out.mono ?_
      rintro e w1 ⟨rfl, hb1⟩
      have hbb : Below w.heap.size w w1 := hb0.trans (hb1.mono hb0.size)
      have hx1 := (Blk.new w 37 #[.int .i64 N, .slice A es.length c]).below hb1 (by simp)
      have c0 : w1.cell? ⟨w.heap.size, 0, none⟩ = some (.int .i64 N) := by rw [hx1.cell]; rfl
      have c1 : w1.cell? ⟨w.heap.size, 1, none⟩ = some (.slice A es.length c) := by rw [hx1.cell]; rfl
      have HX1 := Lib.hid hx1
      clear hb0 hb1 hx1
      go_wp2_with fail
      refine (HQ _ (HE.out.up_ hbb) (HSS.out.up_ hbb)).out.mono ?_
      rintro e w2 ⟨rfl, hb2⟩
      have hbc : Below w.heap.size w w2 := hbb.trans (hb2.mono hbb.size)
      have hx2 := HX1.out.below hb2 HX1.out.lt
      clear c0 c1
      have c0 : w2.cell? ⟨w.heap.size, 0, none⟩ = some (.int .i64 N) := by rw [hx2.cell]; rfl
      have c1 : w2.cell? ⟨w.heap.size, 1, none⟩ = some (.slice A es.length c) := by rw [hx2.cell]; rfl
      clear hx2 hb2 HX1
      go_wp2
      go_ret2
      exact ⟨none, 0, rfl, OwnI.nil _ _ _, hbc⟩
    | true =>
      rw [h2] at HQ
      have h0 : fireOk N es d s = true := by simp [fireOk, h1, h2]
      rw [fireB_t h0, h0]
      obtain ⟨hN1, hN6, hn12, hdl, hes⟩ := div_lims h1
      obtain ⟨_, _, _, hsl, _⟩ := div_lims h2
      obtain ⟨M, rfl⟩ : ∃ M : Nat, N = (M : Int) := ⟨N.toNat, by omega⟩
      rw [Int.toNat_natCast]
      have HDW := Lib.hid (div_wide h1 (by omega))
      have HES := Lib.hid hes
      have HDL := Lib.hid (show d.length = M by omega)
      have HSL := Lib.hid (show s.length = M by omega)
      have HST := Lib.hid (chips_start HDL.out HDW.out)
      have hM0 : 0 < M := by omega
      have hM6 : M ≤ 6 := by omega
      have hd0 : 0 < d.length := by omega
      clear h0 h1 h2 hdl hsl hes
      go_enter Try.func39, Try.ntmps39
      go_wp2_with fail
      refine (HD _ (HE.out.up_ hb0) (HSD.out.up_ hb0)).out.mono ?_
      rintro e w1 ⟨rfl, hb1⟩
      have hbb : Below w.heap.size w w1 := hb0.trans (hb1.mono hb0.size)
      have hx1 := (Blk.new w 37 #[.int .i64 (M : Int), .slice A es.length c]).below hb1 (by simp)
      have c0 : w1.cell? ⟨w.heap.size, 0, none⟩ = some (.int .i64 (M : Int)) := by rw [hx1.cell]; rfl
      have c1 : w1.cell? ⟨w.heap.size, 1, none⟩ = some (.slice A es.length c) := by rw [hx1.cell]; rfl
      have HX1 := Lib.hid hx1
      clear hb0 hb1 hx1
      go_wp2_with fail
      refine (HQ _ (HE.out.up_ hbb) (HSS.out.up_ hbb)).out.mono ?_
      rintro e w2 ⟨rfl, hb2⟩
      have hbc : Below w.heap.size w w2 := hbb.trans (hb2.mono hbb.size)
      have hx2 := HX1.out.below hb2 HX1.out.lt
      clear c0 c1
      have c0 : w2.cell? ⟨w.heap.size, 0, none⟩ = some (.int .i64 (M : Int)) := by rw [hx2.cell]; rfl
      have c1 : w2.cell? ⟨w.heap.size, 1, none⟩ = some (.slice A es.length c) := by rw [hx2.cell]; rfl
      clear hx2 hb2 HX1
      have hs2 := hbc.size
      go_wp2_with fail
      refine (l04Fire_any _ M _ _ _ _ _ _ _ _ _ _ hM0 hM6 hn12 HDL.out HSL.out HDW.out HES.out (HE.out.up_ hbc) (HSD.out.up_ hbc) (HSS.out.up_ hbc)).mono ?_
      rintro e w3 ⟨A3, c3, rfl, ho3, hb3⟩
      have HO3 := Lib.hid ho3
      have hbd : Below w.heap.size w w3 := hbc.trans (hb3.mono hbc.size)
      clear ho3 hb3
      go_wp2
      go_ret2
      exact ⟨A3, c3, rfl, HO3.out.mono hs2, hbd⟩

set_option maxHeartbeats 2000000 in
theorem implFire (N : Int) (A D S : Option Addr) (c cd cs : Nat) (es : List (Int × Int)) (d s : List Int) (w : World) (hn : es.length ≤ 1048576) (hd : d.length ≤ 1048576) (hs : s.length ≤ 1048576) (hE : EdgeS w w.heap.size A es) (hD : IntS w w.heap.size D d) (hS : IntS w w.heap.size S s) :
    Calls Try.prog 40 #[.agg #[.int .i64 N, .slice A es.length c], .slice D d.length cd, .slice S s.length cs] w (GivesIntsOk w (fireB N es d s) (fireOk N es d s)) := by
  have HE := Lib.hid hE
  have HSD := Lib.hid hD
  have HSS := Lib.hid hS
  clear hE hD hS
  have hb0 : Below w.heap.size w (w.alloc (Obj.cells #[.int .i64 N, .slice A es.length c] 37)) := (Below.refl _ _).alloc (Nat.le_refl _) _
  have HD := fun w h1 h2 => Lib.hid (implDiv N A D c cd es d w hn hd h1 h2)
  have HQ := fun w h1 h2 => Lib.hid (implScr N A S c cs es s w hn hs h1 h2)
  cases h1 : divB 60 N es d with
  | false =>
    rw [h1] at HD
    have h0 : fireOk N es d s = false := by simp [fireOk, h1]
    rw [fireB_f h0, h0]
    clear h0 h1 HQ
    go_enter Try.func40, Try.ntmps40
    go_wp2_with fail
    refine (HD _ (HE.out.up_ hb0) (HSD.out.up_ hb0)).out.mono ?_
    rintro e w1 ⟨rfl, hb1⟩
    have hbb : Below w.heap.size w w1 := hb0.trans (hb1.mono hb0.size)
    have hx1 := (Blk.new w 37 #[.int .i64 N, .slice A es.length c]).below hb1 (by simp)
    have c0 : w1.cell? ⟨w.heap.size, 0, none⟩ = some (.int .i64 N) := by rw [hx1.cell]; rfl
    have c1 : w1.cell? ⟨w.heap.size, 1, none⟩ = some (.slice A es.length c) := by rw [hx1.cell]; rfl
    have HX1 := Lib.hid hx1
    clear hb0 hb1 hx1
    go_wp2
    go_ret2
    exact ⟨none, 0, rfl, OwnI.nil _ _ _, hbb⟩
  | true =>
    rw [h1] at HD
    cases h2 : divB 100000 N es s with
    | false =>
      rw [h2] at HQ
      have h0 : fireOk N es d s = false := by simp [fireOk, h2]
      rw [fireB_f h0, h0]
      clear h0 h1 h2
      go_enter Try.func40, Try.ntmps40
      go_wp2_with fail
      refine (HD _ (HE.out.up_ hb0) (HSD.out.up_ hb0)).out.mono ?_
      rintro e w1 ⟨rfl, hb1⟩
      have hbb : Below w.heap.size w w1 := hb0.trans (hb1.mono hb0.size)
      have hx1 := (Blk.new w 37 #[.int .i64 N, .slice A es.length c]).below hb1 (by simp)
      have c0 : w1.cell? ⟨w.heap.size, 0, none⟩ = some (.int .i64 N) := by rw [hx1.cell]; rfl
      have c1 : w1.cell? ⟨w.heap.size, 1, none⟩ = some (.slice A es.length c) := by rw [hx1.cell]; rfl
      have HX1 := Lib.hid hx1
      clear hb0 hb1 hx1
      go_wp2_with fail
      refine (HQ _ (HE.out.up_ hbb) (HSS.out.up_ hbb)).out.mono ?_
      rintro e w2 ⟨rfl, hb2⟩
      have hbc : Below w.heap.size w w2 := hbb.trans (hb2.mono hbb.size)
      have hx2 := HX1.out.below hb2 HX1.out.lt
      clear c0 c1
      have c0 : w2.cell? ⟨w.heap.size, 0, none⟩ = some (.int .i64 N) := by rw [hx2.cell]; rfl
      have c1 : w2.cell? ⟨w.heap.size, 1, none⟩ = some (.slice A es.length c) := by rw [hx2.cell]; rfl
      clear hx2 hb2 HX1
      go_wp2
      go_ret2
      exact ⟨none, 0, rfl, OwnI.nil _ _ _, hbc⟩
    | true =>
      rw [h2] at HQ
      have h0 : fireOk N es d s = true := by simp [fireOk, h1, h2]
      rw [fireB_t h0, h0]
      obtain ⟨hN1, hN6, hn12, hdl, hes⟩ := div_lims h1
      obtain ⟨_, _, _, hsl, _⟩ := div_lims h2
      obtain ⟨M, rfl⟩ : ∃ M : Nat, N = (M : Int) := ⟨N.toNat, by omega⟩
      rw [Int.toNat_natCast]
      have HDW := Lib.hid (div_wide h1 (by omega))
      have HES := Lib.hid hes
      have HDL := Lib.hid (show d.length = M by omega)
      have HSL := Lib.hid (show s.length = M by omega)
      have HST := Lib.hid (chips_start HDL.out HDW.out)
      have hM0 : 0 < M := by omega
      have hM6 : M ≤ 6 := by omega
      have hd0 : 0 < d.length := by omega
      clear h0 h1 h2 hdl hsl hes
      go_enter Try.func40, Try.ntmps40
      go_wp2_with fail
      refine (HD _ (HE.out.up_ hb0) (HSD.out.up_ hb0)).out.mono ?_
      rintro e w1 ⟨rfl, hb1⟩
      have hbb : Below w.heap.size w w1 := hb0.trans (hb1.mono hb0.size)
      have hx1 := (Blk.new w 37 #[.int .i64 (M : Int), .slice A es.length c]).below hb1 (by simp)
      have c0 : w1.cell? ⟨w.heap.size, 0, none⟩ = some (.int .i64 (M : Int)) := by rw [hx1.cell]; rfl
      have c1 : w1.cell? ⟨w.heap.size, 1, none⟩ = some (.slice A es.length c) := by rw [hx1.cell]; rfl
      have HX1 := Lib.hid hx1
      clear hb0 hb1 hx1
      go_wp2_with fail
      refine (HQ _ (HE.out.up_ hbb) (HSS.out.up_ hbb)).out.mono ?_
      rintro e w2 ⟨rfl, hb2⟩
      have hbc : Below w.heap.size w w2 := hbb.trans (hb2.mono hbb.size)
      have hx2 := HX1.out.below hb2 HX1.out.lt
      clear c0 c1
      have c0 : w2.cell? ⟨w.heap.size, 0, none⟩ = some (.int .i64 (M : Int)) := by rw [hx2.cell]; rfl
      have c1 : w2.cell? ⟨w.heap.size, 1, none⟩ = some (.slice A es.length c) := by rw [hx2.cell]; rfl
      clear hx2 hb2 HX1
      have hs2 := hbc.size
      go_wp2_with fail
      refine (boardOf_any _ _ _ _ _ _ d _ hd0 hd (HSD.out.up_ hbc)).mono ?_
      rintro e w3 ⟨p, g, cg, rfl, hbrd, hch, hg, hpg, hb3⟩
      have hbd : Below w.heap.size w w3 := hbc.trans (hb3.mono hbc.size)
      have hs3 := hb3.size
      have hp3 := hbrd.lt
      have hch0 := hch
      rw [← HST.out] at hch0
      rw [HDL.out] at hbrd
      have HBR := Lib.hid hbrd
      have HCH := Lib.hid hch0
      have HB3 := Lib.hid hbd
      have e3 := Lib.hid (HE.out.up_ hbc)
      clear hbrd hch hch0 hb3 c0 c1
      go_wp2_with fail
      go_loopw [26] (fun i wr => ∃ k : Nat, k ≤ s.length ∧ i = .int .i64 k ∧ Chips wr g (chipsOf M (scriptF (fun u => d.getD u 0) s es k)) ∧ Moves g (g + 1) w3 wr) (fun i _ => s.length - (intOf i).toNat)
      case atStart => exact ⟨0, Nat.zero_le _, rfl, HCH.out, Moves.refl _ _ _⟩
      case round =>
        obtain ⟨k, hk, rfl, hcr, hmv⟩ := hrel
        have HK := Lib.hid hcr
        have HM := Lib.hid hmv
        have HBW := Lib.hid (HBR.out.moves hmv (.inr (by omega)))
        have hbel : Below w3.heap.size w3 w3 := Below.refl _ _
        have hbw : Below w.heap.size w wr := belowMoves HB3.out hmv (by omega) (by omega)
        have hsr := hmv.size
        clear hcr hmv hbel
        by_cases hlt : k < s.length
        · obtain ⟨b1, o1, x, rfl, hb1, he, hc0⟩ := (HSS.out.below hbw).at_ hlt
          have hi0 : (0 : Int) ≤ (k : Int) := Int.natCast_nonneg _
          have hi1 : (k : Int) < (s.length : Int) := by omega
          have HF : Hid (chipsOf M (fireF (scriptF (fun u => d.getD u 0) s es k) (k : Int) x es) = chipsOf M (scriptF (fun u => d.getD u 0) s es (k + 1))) := Lib.hid (chipsOf_eq fun u _ => by rw [scriptF]; simp [List.getD, he])
          clear he
          go_wp2_with fail
          refine (fire_any p g M cg _ w.heap.size A es _ (k : Int) x _ (by omega) (by omega) (by omega) hn12 HES.out HBW.out HK.out (HE.out.below hbw)).mono ?_
          rintro e w4 ⟨rfl, hc4, hm4⟩
          rw [HF.out] at hc4
          have HC4 := Lib.hid hc4
          have HM4 := Lib.hid (HM.out.trans hm4)
          clear hc4 hm4
          go_wp2
          exact ⟨⟨k + 1, by omega, by go_num, HC4.out, HM4.out⟩, by simp [intOf]; omega⟩
        · have hK2 := HK.out
          rw [show k = M by have := HSL.out; omega, scriptF_all d s HES.out] at hK2
          have HK2 := Lib.hid (hK2.own (base := w.heap.size) (by omega))
          have HFL := Lib.hid (firedB_len M es d s)
          have b1 : wr.cell? ⟨p, 1, none⟩ = some (.slice (some ⟨g, 0, none⟩) M cg) := by rw [HBW.out.cell]; rfl
          clear hK2
          go_wp2
          go_ret2
          exact ⟨some ⟨g, 0, none⟩, cg, by rw [HFL.out]; rfl, HK2.out, hbw⟩
end Go.Proofs.Ytkmbdclhjdbhpaa
