/- FireSet: both sides. -/
import Derived.Test.YtkmbdclhjdbhpaaFireSc
import Derived.Test.YtkmbdclhjdbhpaaSetV
namespace Go.Proofs.Ytkmbdclhjdbhpaa
open Go.RowKit

noncomputable def fsetOk (N : Int) (es : List (Int × Int)) (d l : List Int) : Bool := divB 60 N es d && setOk N l
noncomputable def fsetB (N : Int) (es : List (Int × Int)) (d l : List Int) : List Int := if fsetOk N es d l = true then firedB N.toNat es d (setL N.toNat l) else []
theorem fsetB_f {N : Int} {es : List (Int × Int)} {d l : List Int} (h : fsetOk N es d l = false) : fsetB N es d l = [] := by rw [fsetB, if_neg (by rw [h]; decide)]
theorem fsetB_t {N : Int} {es : List (Int × Int)} {d l : List Int} (h : fsetOk N es d l = true) : fsetB N es d l = firedB N.toNat es d (setL N.toNat l) := by rw [fsetB, if_pos h]
theorem fsetB_len {N : Int} {es : List (Int × Int)} {d l : List Int} : (fsetB N es d l).length ≤ 1048576 := by
  cases h : fsetOk N es d l with
  | false => rw [fsetB_f h]; simp
  | true =>
    rw [fsetB_t h, firedB_len]
    simp only [fsetOk, Bool.and_eq_true] at h
    have := div_lims h.1
    omega
theorem l04Set_no (M : Nat) (A : Option Addr) (c : Nat) (l : List Int) (w : World) (hM0 : 0 < M) (hM6 : M ≤ 6) (hn : l.length ≤ 1048576) (h : setOk (M : Int) l = false) (hS : IntS w w.heap.size A l) :
    Calls Try.prog 66 #[.int .i64 (M : Int), .slice A l.length c] w (GivesIntsOk w [] false) := by
  have := l04Set_any M A c l w hM0 hM6 hn hS
  rwa [setsB_f h, h] at this
theorem l04Set_yes (M : Nat) (A : Option Addr) (c : Nat) (l : List Int) (w : World) (hM0 : 0 < M) (hM6 : M ≤ 6) (hn : l.length ≤ 1048576) (h : setOk (M : Int) l = true) (hS : IntS w w.heap.size A l) :
    Calls Try.prog 66 #[.int .i64 (M : Int), .slice A l.length c] w (GivesIntsOk w (setL M l) true) := by
  have := l04Set_any M A c l w hM0 hM6 hn hS
  rwa [setsB_t h, h] at this

set_option maxHeartbeats 2000000 in
theorem specFSet (N : Int) (A D S : Option Addr) (c cd cs : Nat) (es : List (Int × Int)) (d s : List Int) (w : World) (hn : es.length ≤ 1048576) (hd : d.length ≤ 1048576) (hs : s.length ≤ 1048576) (hE : EdgeS w w.heap.size A es) (hD : IntS w w.heap.size D d) (hS : IntS w w.heap.size S s) :
    Calls Try.prog 41 #[.agg #[.int .i64 N, .slice A es.length c], .slice D d.length cd, .slice S s.length cs] w (GivesIntsOk w (fsetB N es d s) (fsetOk N es d s)) := by
  have HE := Lib.hid hE
  have HSD := Lib.hid hD
  have HSS := Lib.hid hS
  clear hE hD hS
  have hb0 : Below w.heap.size w (w.alloc (Obj.cells #[.int .i64 N, .slice A es.length c] 37)) := (Below.refl _ _).alloc (Nat.le_refl _) _
  have HD := fun w h1 h2 => Lib.hid (specDiv N A D c cd es d w hn hd h1 h2)
  cases h1 : divB 60 N es d with
  | false =>
    rw [h1] at HD
    have h0 : fsetOk N es d s = false := by simp [fsetOk, h1]
    rw [fsetB_f h0, h0]
    clear h0 h1
    go_enter Try.func41, Try.ntmps41
    go_wp2_with fail
    refine (HD _ (HE.out.up_ hb0) (HSD.out.up_ hb0)).out.mono ?_
    rintro e w1 ⟨rfl, hb1⟩
    have hbb : Below w.heap.size w w1 := hb0.trans (hb1.mono hb0.size)
    have hx1 := (Blk.new w 37 #[.int .i64 N, .slice A es.length c]).below hb1 (by simp)
    have c0 : w1.cell? ⟨w.heap.size, 0, none⟩ = some (.int .i64 N) := by rw [hx1.cell]; rfl
    have c1 : w1.cell? ⟨w.heap.size, 1, none⟩ = some (.slice A es.length c) := by rw [hx1.cell]; rfl
    have HX1 := Lib.hid hx1
    clear hb0 hb1 hx1
    go_wp2
    go_ret2
    exact ⟨none, 0, rfl, OwnI.nil _ _ _, hbb⟩
  | true =>
    rw [h1] at HD
    obtain ⟨hN1, hN6, hn12, hdl, hes⟩ := div_lims h1
    obtain ⟨M, rfl⟩ : ∃ M : Nat, N = (M : Int) := ⟨N.toNat, by omega⟩
    have hM0 : 0 < M := by omega
    have hM6 : M ≤ 6 := by omega
    cases h2 : setOk (M : Int) s with
    | false =>
      have HQ := fun w h => Lib.hid (l04Set_no M S cs s w hM0 hM6 hs h2 h)
      have h0 : fsetOk (M : Int) es d s = false := by simp [fsetOk, h2]
      rw [fsetB_f h0, h0]
      clear h0 h1 h2 hes hdl
      go_enter Try.func41, Try.ntmps41
      go_wp2_with fail
      refine (HD _ (HE.out.up_ hb0) (HSD.out.up_ hb0)).out.mono ?_
      rintro e w1 ⟨rfl, hb1⟩
      have hbb : Below w.heap.size w w1 := hb0.trans (hb1.mono hb0.size)
      have hx1 := (Blk.new w 37 #[.int .i64 (M : Int), .slice A es.length c]).below hb1 (by simp)
      have c0 : w1.cell? ⟨w.heap.size, 0, none⟩ = some (.int .i64 (M : Int)) := by rw [hx1.cell]; rfl
      have c1 : w1.cell? ⟨w.heap.size, 1, none⟩ = some (.slice A es.length c) := by rw [hx1.cell]; rfl
      have HX1 := Lib.hid hx1
      clear hb0 hb1 hx1
      go_wp2_with fail
      refine (HQ _ (HSS.out.up_ hbb)).out.mono ?_
      rintro e w2 ⟨As, cas, rfl, hos, hb2⟩
      have hbc : Below w.heap.size w w2 := hbb.trans (hb2.mono hbb.size)
      have hx2 := HX1.out.below hb2 HX1.out.lt
      clear c0 c1
      have c0 : w2.cell? ⟨w.heap.size, 0, none⟩ = some (.int .i64 (M : Int)) := by rw [hx2.cell]; rfl
      have c1 : w2.cell? ⟨w.heap.size, 1, none⟩ = some (.slice A es.length c) := by rw [hx2.cell]; rfl
      clear hx2 hb2 HX1
      clear hos
      go_wp2
      go_ret2
      exact ⟨none, 0, rfl, OwnI.nil _ _ _, hbc⟩
    | true =>
      have HQ := fun w h => Lib.hid (l04Set_yes M S cs s w hM0 hM6 hs h2 h)
      have h0 : fsetOk (M : Int) es d s = true := by simp [fsetOk, h1, h2]
      rw [fsetB_t h0, h0]
      rw [Int.toNat_natCast]
      have HDW := Lib.hid (div_wide h1 (by omega))
      have HES := Lib.hid hes
      have HDL := Lib.hid (show d.length = M by omega)
      have HST := Lib.hid (chips_start HDL.out HDW.out)
      have HSO := Lib.hid h2
      have hd0 : 0 < d.length := by omega
      clear h0 h1 h2 hdl hes
      go_enter Try.func41, Try.ntmps41
      go_wp2_with fail
      refine (HD _ (HE.out.up_ hb0) (HSD.out.up_ hb0)).out.mono ?_
      rintro e w1 ⟨rfl, hb1⟩
      have hbb : Below w.heap.size w w1 := hb0.trans (hb1.mono hb0.size)
      have hx1 := (Blk.new w 37 #[.int .i64 (M : Int), .slice A es.length c]).below hb1 (by simp)
      have c0 : w1.cell? ⟨w.heap.size, 0, none⟩ = some (.int .i64 (M : Int)) := by rw [hx1.cell]; rfl
      have c1 : w1.cell? ⟨w.heap.size, 1, none⟩ = some (.slice A es.length c) := by rw [hx1.cell]; rfl
      have HX1 := Lib.hid hx1
      clear hb0 hb1 hx1
      go_wp2_with fail
      refine (HQ _ (HSS.out.up_ hbb)).out.mono ?_
      rintro e w2 ⟨As, cas, rfl, hos, hb2⟩
      have hbc : Below w.heap.size w w2 := hbb.trans (hb2.mono hbb.size)
      have hx2 := HX1.out.below hb2 HX1.out.lt
      clear c0 c1
      have c0 : w2.cell? ⟨w.heap.size, 0, none⟩ = some (.int .i64 (M : Int)) := by rw [hx2.cell]; rfl
      have c1 : w2.cell? ⟨w.heap.size, 1, none⟩ = some (.slice A es.length c) := by rw [hx2.cell]; rfl
      clear hx2 hb2 HX1
      have hs2 := hbc.size
      have HOS := Lib.hid hos.ints
      clear hos
      go_wp2_with fail
      refine (l04Fire_any _ M _ _ _ _ _ _ _ _ _ _ hM0 hM6 hn12 HDL.out (setL_len M s) HDW.out HES.out (HE.out.up_ hbc) (HSD.out.up_ hbc) HOS.out).mono ?_
      rintro e w3 ⟨A3, c3, rfl, ho3, hb3⟩
      have HO3 := Lib.hid ho3
      have hbd : Below w.heap.size w w3 := hbc.trans (hb3.mono hbc.size)
      clear ho3 hb3
      go_wp2
      go_ret2
      exact ⟨A3, c3, rfl, HO3.out.mono hs2, hbd⟩

set_option maxHeartbeats 2000000 in
theorem implFSet (N : Int) (A D S : Option Addr) (c cd cs : Nat) (es : List (Int × Int)) (d s : List Int) (w : World) (hn : es.length ≤ 1048576) (hd : d.length ≤ 1048576) (hs : s.length ≤ 1048576) (hE : EdgeS w w.heap.size A es) (hD : IntS w w.heap.size D d) (hS : IntS w w.heap.size S s) :
    Calls Try.prog 42 #[.agg #[.int .i64 N, .slice A es.length c], .slice D d.length cd, .slice S s.length cs] w (GivesIntsOk w (fsetB N es d s) (fsetOk N es d s)) := by
  have HE := Lib.hid hE
  have HSD := Lib.hid hD
  have HSS := Lib.hid hS
  clear hE hD hS
  have hb0 : Below w.heap.size w (w.alloc (Obj.cells #[.int .i64 N, .slice A es.length c] 37)) := (Below.refl _ _).alloc (Nat.le_refl _) _
  have HD := fun w h1 h2 => Lib.hid (implDiv N A D c cd es d w hn hd h1 h2)
  cases h1 : divB 60 N es d with
  | false =>
    rw [h1] at HD
    have h0 : fsetOk N es d s = false := by simp [fsetOk, h1]
    rw [fsetB_f h0, h0]
    clear h0 h1
    go_enter Try.func42, Try.ntmps42
    go_wp2_with fail
    refine (HD _ (HE.out.up_ hb0) (HSD.out.up_ hb0)).out.mono ?_
    rintro e w1 ⟨rfl, hb1⟩
    have hbb : Below w.heap.size w w1 := hb0.trans (hb1.mono hb0.size)
    have hx1 := (Blk.new w 37 #[.int .i64 N, .slice A es.length c]).below hb1 (by simp)
    have c0 : w1.cell? ⟨w.heap.size, 0, none⟩ = some (.int .i64 N) := by rw [hx1.cell]; rfl
    have c1 : w1.cell? ⟨w.heap.size, 1, none⟩ = some (.slice A es.length c) := by rw [hx1.cell]; rfl
    have HX1 := Lib.hid hx1
    clear hb0 hb1 hx1
    go_wp2
    go_ret2
    exact ⟨none, 0, rfl, OwnI.nil _ _ _, hbb⟩
  | true =>
    rw [h1] at HD
    obtain ⟨hN1, hN6, hn12, hdl, hes⟩ := div_lims h1
    obtain ⟨M, rfl⟩ : ∃ M : Nat, N = (M : Int) := ⟨N.toNat, by omega⟩
    have hM0 : 0 < M := by omega
    have hM6 : M ≤ 6 := by omega
    cases h2 : setOk (M : Int) s with
    | false =>
      have HQ := fun w h => Lib.hid (isVertexSet_any M es.length c A S cs s w hM6 hs h)
      rw [h2] at HQ
      have h0 : fsetOk (M : Int) es d s = false := by simp [fsetOk, h2]
      rw [fsetB_f h0, h0]
      clear h0 h1 h2 hes hdl
      go_enter Try.func42, Try.ntmps42
      go_wp2_with fail
      refine (HD _ (HE.out.up_ hb0) (HSD.out.up_ hb0)).out.mono ?_
      rintro e w1 ⟨rfl, hb1⟩
      have hbb : Below w.heap.size w w1 := hb0.trans (hb1.mono hb0.size)
      have hx1 := (Blk.new w 37 #[.int .i64 (M : Int), .slice A es.length c]).below hb1 (by simp)
      have c0 : w1.cell? ⟨w.heap.size, 0, none⟩ = some (.int .i64 (M : Int)) := by rw [hx1.cell]; rfl
      have c1 : w1.cell? ⟨w.heap.size, 1, none⟩ = some (.slice A es.length c) := by rw [hx1.cell]; rfl
      have HX1 := Lib.hid hx1
      clear hb0 hb1 hx1
      go_wp2_with fail
      refine (HQ _ (HSS.out.up_ hbb)).out.mono ?_
      rintro e w2 ⟨rfl, hb2⟩
      have hbc : Below w.heap.size w w2 := hbb.trans (hb2.mono hbb.size)
      have hx2 := HX1.out.below hb2 HX1.out.lt
      clear c0 c1
      have c0 : w2.cell? ⟨w.heap.size, 0, none⟩ = some (.int .i64 (M : Int)) := by rw [hx2.cell]; rfl
      have c1 : w2.cell? ⟨w.heap.size, 1, none⟩ = some (.slice A es.length c) := by rw [hx2.cell]; rfl
      clear hx2 hb2 HX1
      go_wp2
      go_ret2
      exact ⟨none, 0, rfl, OwnI.nil _ _ _, hbc⟩
    | true =>
      have HQ := fun w h => Lib.hid (isVertexSet_any M es.length c A S cs s w hM6 hs h)
      rw [h2] at HQ
      have h0 : fsetOk (M : Int) es d s = true := by simp [fsetOk, h1, h2]
      rw [fsetB_t h0, h0]
      rw [Int.toNat_natCast]
      have HDW := Lib.hid (div_wide h1 (by omega))
      have HES := Lib.hid hes
      have HDL := Lib.hid (show d.length = M by omega)
      have HST := Lib.hid (chips_start HDL.out HDW.out)
      have HSO := Lib.hid h2
      have hd0 : 0 < d.length := by omega
      clear h0 h1 h2 hdl hes
      go_enter Try.func42, Try.ntmps42
      go_wp2_with fail
      refine (HD _ (HE.out.up_ hb0) (HSD.out.up_ hb0)).out.mono ?_
      rintro e w1 ⟨rfl, hb1⟩
      have hbb : Below w.heap.size w w1 := hb0.trans (hb1.mono hb0.size)
      have hx1 := (Blk.new w 37 #[.int .i64 (M : Int), .slice A es.length c]).below hb1 (by simp)
      have c0 : w1.cell? ⟨w.heap.size, 0, none⟩ = some (.int .i64 (M : Int)) := by rw [hx1.cell]; rfl
      have c1 : w1.cell? ⟨w.heap.size, 1, none⟩ = some (.slice A es.length c) := by rw [hx1.cell]; rfl
      have HX1 := Lib.hid hx1
      clear hb0 hb1 hx1
      go_wp2_with fail
      refine (HQ _ (HSS.out.up_ hbb)).out.mono ?_
      rintro e w2 ⟨rfl, hb2⟩
      have hbc : Below w.heap.size w w2 := hbb.trans (hb2.mono hbb.size)
      have hx2 := HX1.out.below hb2 HX1.out.lt
      clear c0 c1
      have c0 : w2.cell? ⟨w.heap.size, 0, none⟩ = some (.int .i64 (M : Int)) := by rw [hx2.cell]; rfl
      have c1 : w2.cell? ⟨w.heap.size, 1, none⟩ = some (.slice A es.length c) := by rw [hx2.cell]; rfl
      clear hx2 hb2 HX1
      have hs2 := hbc.size
      go_wp2_with fail
      refine (boardOf_any _ _ _ _ _ _ d _ hd0 hd (HSD.out.up_ hbc)).mono ?_
      rintro e w3 ⟨p, g, cg, rfl, hbrd, hch, hg, hpg, hb3⟩
      have hbd : Below w.heap.size w w3 := hbc.trans (hb3.mono hbc.size)
      have hs3 := hb3.size
      have hp3 := hbrd.lt
      have hch0 := hch
      rw [← HST.out] at hch0
      rw [HDL.out] at hbrd
      have HBR := Lib.hid hbrd
      have HCH := Lib.hid hch0
      have HB3 := Lib.hid hbd
      clear hbrd hch hch0 hb3 c0 c1
      go_wp2_with fail
      go_loopw [26] (fun i wr => ∃ k : Nat, k ≤ s.length ∧ i = .int .i64 k ∧ Chips wr g (chipsOf M (setF (fun u => d.getD u 0) M es (s.take k))) ∧ Moves g (g + 1) w3 wr) (fun i _ => s.length - (intOf i).toNat)
      case atStart => exact ⟨0, Nat.zero_le _, rfl, by rw [List.take_zero, setF_nil]; exact HCH.out, Moves.refl _ _ _⟩
      case round =>
        obtain ⟨k, hk, rfl, hcr, hmv⟩ := hrel
        have HK := Lib.hid hcr
        have HM := Lib.hid hmv
        have HBW := Lib.hid (HBR.out.moves hmv (.inr (by omega)))
        have hbw : Below w.heap.size w wr := belowMoves HB3.out hmv (by omega) (by omega)
        have hsr := hmv.size
        clear hcr hmv
        by_cases hlt : k < s.length
        · obtain ⟨b1, o1, x, rfl, hb1, he, hc0⟩ := (HSS.out.below hbw).at_ hlt
          have hi0 : (0 : Int) ≤ (k : Int) := Int.natCast_nonneg _
          have hi1 : (k : Int) < (s.length : Int) := by omega
          obtain ⟨hx0, hx1⟩ := (setOk_all HSO.out).1 x (List.mem_of_getElem? he)
          obtain ⟨u, rfl⟩ : ∃ u : Nat, x = (u : Int) := ⟨x.toNat, by omega⟩
          have hnm : ¬ (u : Int) ∈ s.take k := fun hm => by
            have := setOk_dup (N := (M : Int)) he hm
            rw [HSO.out] at this
            cases this
          have HF : Hid (chipsOf M (fireF (setF (fun u => d.getD u 0) M es (s.take k)) (u : Int) 1 es) = chipsOf M (setF (fun u => d.getD u 0) M es (s.take (k + 1)))) := Lib.hid (by rw [take_snocV he, setF_snoc _ _ _ _ _ (by omega) hnm])
          clear he hnm
          go_wp2_with fail
          refine (fire_any p g M cg _ w.heap.size A es _ (u : Int) 1 _ (by omega) (by omega) (by omega) hn12 HES.out HBW.out HK.out (HE.out.below hbw)).mono ?_
          rintro e w4 ⟨rfl, hc4, hm4⟩
          rw [HF.out] at hc4
          have HC4 := Lib.hid hc4
          have HM4 := Lib.hid (HM.out.trans hm4)
          clear hc4 hm4
          go_wp2
          exact ⟨⟨k + 1, by omega, by go_num, HC4.out, HM4.out⟩, by simp [intOf]; omega⟩
        · have hK2 := HK.out
          rw [List.take_of_length_le (by omega), setF_all d s HES.out] at hK2
          have HK2 := Lib.hid (hK2.own (base := w.heap.size) (by omega))
          have HFL := Lib.hid (firedB_len M es d (setL M s))
          have b1 : wr.cell? ⟨p, 1, none⟩ = some (.slice (some ⟨g, 0, none⟩) M cg) := by rw [HBW.out.cell]; rfl
          clear hK2
          go_wp2
          go_ret2
          exact ⟨some ⟨g, 0, none⟩, cg, by rw [HFL.out]; rfl, HK2.out, hbw⟩
end Go.Proofs.Ytkmbdclhjdbhpaa
