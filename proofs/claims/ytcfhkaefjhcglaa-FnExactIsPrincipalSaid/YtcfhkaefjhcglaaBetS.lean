/- ScriptBetween: the specification's side. -/
import Derived.Test.YtcfhkaefjhcglaaEqvS
import Derived.Test.YtcfhkaefjhcglaaLift
namespace Go.Proofs.Ytcfhkaefjhcglaa
open Go.RowKit

set_option maxRecDepth 100000 in
set_option maxHeartbeats 2000000 in
theorem specBet (N : Int) (A D F : Option Addr) (c cd cf : Nat) (es : List (Int × Int)) (a b : List Int) (w : World) (hn : es.length ≤ 1048576) (ha : a.length ≤ 1048576) (hb : b.length ≤ 1048576) (hE : EdgeS w w.heap.size A es) (hS : IntS w w.heap.size D a) (hT : IntS w w.heap.size F b) :
    Calls Try.prog 43 #[.agg #[.int .i64 N, .slice A es.length c], .slice D a.length cd, .slice F b.length cf] w (GivesIntsOk w (betB N es a b) (eqvB N es a b)) := by
  obtain ⟨i0, hi, hz0, hz1, hz2⟩ := info_parts intInfo
  have HE := Lib.hid hE
  have HS := Lib.hid hS
  have HT := Lib.hid hT
  clear hE hS hT
  have G0 := GB.start w N A c es
  have HD := fun w h1 h2 h3 => Lib.hid (specEqv N A D F c cd cf es a b w hn ha hb h1 h2 h3)
  cases h1 : eqvB N es a b with
  | false =>
    rw [h1] at HD
    rw [bet_f h1]
    clear h1
    go_enter Try.func43, Try.ntmps43
    go_wp2_with fail
    refine (HD _ (HE.out.up_ G0.old) (HS.out.up_ G0.old) (HT.out.up_ G0.old)).out.mono ?_
    rintro e w1 ⟨rfl, hb1⟩
    have G1 := Lib.hid (G0.next hb1)
    clear G0 hb1
    go_wp2
    go_ret2
    exact ⟨none, 0, rfl, OwnI.nil _ _ _, G1.out.old⟩
  | true =>
    rw [h1] at HD
    rw [bet_t h1]
    obtain ⟨h2, h3, -⟩ := eqv_div h1
    obtain ⟨M, rfl, hM0, hM6, -⟩ := div_limsB h2
    have hl1 := Lib.hid (red_len h2).2
    have hl2 := Lib.hid (red_len h3).2
    have HP := fun w h4 h5 => Lib.hid (specRd2 A D c cd M es a w h2 h4 h5)
    have HQ := fun w h4 h5 => Lib.hid (specRd2 A F c cf M es b w h3 h4 h5)
    obtain ⟨xs, hxs⟩ : ∃ x, x = scrR (M : Int) es a 0 := ⟨_, rfl⟩
    obtain ⟨ys, hys⟩ : ∃ x, x = scrR (M : Int) es b 0 := ⟨_, rfl⟩
    rw [← hxs] at HP hl1 ⊢
    rw [← hys] at HQ hl2 ⊢
    have hl3 := Lib.hid (show (subB xs ys).length = M by rw [subB_len, hl1.out])
    have HL := fun (A2 : Option Addr) (c2 : Nat) (w : World) (h : IntS w w.heap.size A2 (subB xs ys)) => Lib.hid (show Calls Try.prog 87 #[.slice A2 M c2] w (GivesInts w (liftB (subB xs ys))) by
      have h9 := specLift A2 c2 (subB xs ys) w (by rw [hl3.out]; exact hM0) (by rw [hl3.out]; omega) h
      rw [hl3.out] at h9
      exact h9)
    clear h1 h2 h3 hxs hys
    go_enter Try.func43, Try.ntmps43
    go_wp2_with fail
    refine (HD _ (HE.out.up_ G0.old) (HS.out.up_ G0.old) (HT.out.up_ G0.old)).out.mono ?_
    rintro e w1 ⟨rfl, hb1⟩
    have G1 := Lib.hid (G0.next hb1)
    have c0 := G1.out.c0
    have c1 := G1.out.c1
    clear G0 hb1
    go_wp2_with fail
    refine (HP _ (HE.out.up_ G1.out.old) (HS.out.up_ G1.out.old)).out.mono ?_
    rintro e w2 ⟨A1, A2, c1', c2', rfl, -, ho, hb2⟩
    have G2 := Lib.hid (G1.out.next hb2)
    have HO := Lib.hid ho.ints
    clear hb2 c0 c1 ho
    have c0 := G2.out.c0
    have c1 := G2.out.c1
    go_wp2_with fail
    refine (HQ _ (HE.out.up_ G2.out.old) (HT.out.up_ G2.out.old)).out.mono ?_
    rintro e w3 ⟨A3, A4, c3', c4', rfl, -, ho, hb3⟩
    have G3 := Lib.hid (G2.out.next hb3)
    have HO1 := Lib.hid (HO.out.up_ hb3)
    have HO2 := Lib.hid ho.ints
    have hg3 := G3.out.old.size
    clear hb3 c0 c1 ho
    go_wp2
    go_loopw [12, 13, 14, 35] (fun v _ _ i wr => ∃ k : Nat, k ≤ M ∧ i = .int .i64 k ∧ wr.ownsRow w3.heap.size 3 1 v k (intCells ((subB xs ys).take k)) ∧ Below w3.heap.size w3 wr) (fun _ _ _ i _ => M - (intOf i).toNat)
    case atStart =>
      refine ⟨0, Nat.zero_le _, rfl, ?_, (Below.refl _ _).alloc (Nat.le_refl _) _⟩
      exact ⟨rfl, .inr ⟨w3.heap.size, 0, #[], rfl, Nat.le_refl _, heap_alloc_new w3 _, Nat.le_refl _, Nat.zero_le _, rfl, rfl⟩⟩
    case round =>
      obtain ⟨k, hk, rfl, hown, hb⟩ := hrel
      have HW := Lib.hid hown
      have hbn := hb.size
      clear hown
      by_cases hlt : k < M
      · obtain ⟨b1, o1, x, rfl, hb1, he, hc0⟩ := (HO1.out.below hb).at_ (k := k) (by rw [hl1.out]; exact hlt)
        obtain ⟨b2, o2, y, rfl, hb2, hf, hc1⟩ := (HO2.out.below hb).at_ (k := k) (by rw [hl2.out]; exact hlt)
        have hi0 : (0 : Int) ≤ (k : Int) := Int.natCast_nonneg _
        have hi1 : (k : Int) < (M : Int) := by omega
        have HMT := Lib.hid (take_snocL (subB_at he hf))
        clear he hf
        go_wp2_with (at_builtin; refine wpList_append_own _ rfl _ _ 27 rfl w3.heap.size 3 i0 (.int .i64 0) 1 8 Try.underlying27 hi hz0 hz1 hz2 rfl (by decide) _ _ _ rfl (HW.out.alloc _) ⟨wr.heap.size, 0, none⟩ 1 1 [.int .i64 (wrap64 (x - y))] rfl rfl ?c1 ?c2 ?c3 ?c4 ?c5 ?_)
        case c1 => exact one_cellI _ _ (by simp) _ _
        case c2 => simp [Value.oneCell']
        case c3 => unfold maxLen; omega
        case c4 => omega
        case c5 => simp; omega
        intro v' w4 hown' hgrow _
        have HW2 := Lib.hid hown'
        clear hown'
        go_wp2
        refine ⟨⟨k + 1, by omega, by go_num, ?_, (hb.alloc hb.size _).grown hgrow (by simp; omega) (fun q hq => (HW.out.lt q hq).1)⟩, by simp [intOf]; omega⟩
        have h3 := HW2.out
        rw [HMT.out]
        simpa [intCells] using h3
      · have HW3 := HW.out
        rw [show k = M by omega, List.take_of_length_le (by rw [hl3.out]; exact Nat.le_refl _)] at HW3
        obtain ⟨Ar, cr, rfl⟩ : ∃ Ar cr, u12 = .slice Ar M cr := by
          rcases HW3.2 with ⟨h1, h2⟩ | ⟨g, cap, cur, h1, _⟩
          · exact ⟨none, 0, by rw [h1, h2]⟩
          · exact ⟨_, _, h1⟩
        have HF := Lib.hid (OwnI.of_own HW3).ints
        have G4 := Lib.hid (G3.out.next hb)
        clear HW3
        go_wp2_with fail
        refine (HL _ _ _ HF.out).out.mono ?_
        rintro e w5 ⟨A5, c5', rfl, ho, hb5⟩
        have G5 := Lib.hid (G4.out.next hb5)
        have HR := Lib.hid (ho.mono G4.out.old.size)
        clear hb5 ho
        go_wp2
        go_ret2
        exact ⟨A5, c5', rfl, HR.out, G5.out.old⟩
end Go.Proofs.Ytcfhkaefjhcglaa
