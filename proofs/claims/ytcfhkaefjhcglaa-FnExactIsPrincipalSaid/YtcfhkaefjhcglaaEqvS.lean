/- AreEquivalent: the specification's side. -/
import Derived.Test.YtcfhkaefjhcglaaCls
import Derived.Test.YtcfhkaefjhcglaaSameD
namespace Go.Proofs.Ytcfhkaefjhcglaa
open Go.RowKit

set_option maxRecDepth 100000 in
set_option maxHeartbeats 2000000 in
theorem specEqv (N : Int) (A D F : Option Addr) (c cd cf : Nat) (es : List (Int × Int)) (a b : List Int) (w : World) (hn : es.length ≤ 1048576) (ha : a.length ≤ 1048576) (hb : b.length ≤ 1048576) (hE : EdgeS w w.heap.size A es) (hS : IntS w w.heap.size D a) (hT : IntS w w.heap.size F b) :
    Calls Try.prog 38 #[.agg #[.int .i64 N, .slice A es.length c], .slice D a.length cd, .slice F b.length cf] w fun e w' => e = .returned (.bool (eqvB N es a b)) ∧ Below w.heap.size w w' := by
  have HE := Lib.hid hE
  have HS := Lib.hid hS
  have HT := Lib.hid hT
  clear hE hS hT
  have G0 := GB.start w N A c es
  have HD := fun w h1 h2 => Lib.hid (specDiv N A D c cd es a w hn ha h1 h2)
  have HF := fun w h1 h2 => Lib.hid (specDiv N A F c cf es b w hn hb h1 h2)
  have HX := fun w h1 => Lib.hid (specDeg D cd a w ha h1)
  have HY := fun w h1 => Lib.hid (specDeg F cf b w hb h1)
  cases h1 : divB 60 N es a with
  | false =>
    rw [h1] at HD
    rw [eqv_no1 h1]
    clear h1
    go_enter Try.func38, Try.ntmps38
    go_wp2_with fail
    refine (HD _ (HE.out.up_ G0.old) (HS.out.up_ G0.old)).out.mono ?_
    rintro e w1 ⟨rfl, hb1⟩
    have G1 := Lib.hid (G0.next hb1)
    clear G0 hb1
    go_wp2
    go_ret
    exact ⟨ret_boolE rfl, G1.out.old⟩
  | true =>
    rw [h1] at HD
    cases h2 : divB 60 N es b with
    | false =>
      rw [h2] at HF
      rw [eqv_no2 h2]
      clear h1 h2
      go_enter Try.func38, Try.ntmps38
      go_wp2_with fail
      refine (HD _ (HE.out.up_ G0.old) (HS.out.up_ G0.old)).out.mono ?_
      rintro e w1 ⟨rfl, hb1⟩
      have G1 := Lib.hid (G0.next hb1)
      have c0 := G1.out.c0
      have c1 := G1.out.c1
      clear G0 hb1
      go_wp2_with fail
      refine (HF _ (HE.out.up_ G1.out.old) (HT.out.up_ G1.out.old)).out.mono ?_
      rintro e w2 ⟨rfl, hb2⟩
      have G2 := Lib.hid (G1.out.next hb2)
      clear hb2 c0 c1
      go_wp2
      go_ret
      exact ⟨ret_boolE rfl, G2.out.old⟩
    | true =>
      rw [h2] at HF
      by_cases h3 : degB a a.length = degB b b.length
      · have t3 : (degB a a.length != degB b b.length) = false := by simp [h3]
        rw [eqv_t h1 h2 h3]
        obtain ⟨M, rfl, -⟩ := div_limsB h1
        have hl1 := Lib.hid (red_len h1).1
        have hl2 := Lib.hid (red_len h2).1
        have HP := fun w h3 h4 => Lib.hid (specRd2 A D c cd M es a w h1 h3 h4)
        have HQ := fun w h3 h4 => Lib.hid (specRd2 A F c cf M es b w h2 h3 h4)
        have hM6 : M ≤ 1048576 := by
          obtain ⟨M', hM, h0, h6, _⟩ := div_limsB h1
          omega
        obtain ⟨p, hp⟩ : ∃ x, x = degB a a.length := ⟨_, rfl⟩
        obtain ⟨q, hq⟩ : ∃ x, x = degB b b.length := ⟨_, rfl⟩
        rw [← hp] at HX t3
        rw [← hq] at HY t3
        obtain ⟨xs, hxs⟩ : ∃ x, x = redR (M : Int) es a 0 := ⟨_, rfl⟩
        obtain ⟨ys, hys⟩ : ∃ x, x = redR (M : Int) es b 0 := ⟨_, rfl⟩
        rw [← hxs] at HP hl1 ⊢
        rw [← hys] at HQ hl2 ⊢
        clear h1 h2 h3 hp hq hxs hys
        go_enter Try.func38, Try.ntmps38
        go_wp2_with fail
        refine (HD _ (HE.out.up_ G0.old) (HS.out.up_ G0.old)).out.mono ?_
        rintro e w1 ⟨rfl, hb1⟩
        have G1 := Lib.hid (G0.next hb1)
        have c0 := G1.out.c0
        have c1 := G1.out.c1
        clear G0 hb1
        go_wp2_with fail
        refine (HF _ (HE.out.up_ G1.out.old) (HT.out.up_ G1.out.old)).out.mono ?_
        rintro e w2 ⟨rfl, hb2⟩
        have G2 := Lib.hid (G1.out.next hb2)
        clear hb2 c0 c1
        have c0 := G2.out.c0
        have c1 := G2.out.c1
        go_wp2_with fail
        refine (HX _ (HS.out.up_ G2.out.old)).out.mono ?_
        rintro e w3 ⟨rfl, hb3⟩
        have G3 := Lib.hid (G2.out.next hb3)
        clear hb3 c0 c1
        have c0 := G3.out.c0
        have c1 := G3.out.c1
        go_wp2_with fail
        refine (HY _ (HT.out.up_ G3.out.old)).out.mono ?_
        rintro e w4 ⟨rfl, hb4⟩
        have G4 := Lib.hid (G3.out.next hb4)
        clear hb4 c0 c1
        have c0 := G4.out.c0
        have c1 := G4.out.c1
        go_wp2_with fail
        refine (HP _ (HE.out.up_ G4.out.old) (HS.out.up_ G4.out.old)).out.mono ?_
        rintro e w5 ⟨A1, A2, c1', c2', rfl, ho, -, hb5⟩
        have G5 := Lib.hid (G4.out.next hb5)
        have HO := Lib.hid ho.ints
        clear hb5 c0 c1 ho
        have c0 := G5.out.c0
        have c1 := G5.out.c1
        go_wp2_with fail
        refine (HQ _ (HE.out.up_ G5.out.old) (HT.out.up_ G5.out.old)).out.mono ?_
        rintro e w6 ⟨A3, A4, c3', c4', rfl, ho, -, hb6⟩
        have G6 := Lib.hid (G5.out.next hb6)
        have HO1 := Lib.hid (HO.out.up_ hb6)
        have HO2 := Lib.hid ho.ints
        clear hb6 c0 c1 ho
        have HZ := Lib.hid (show Calls Try.prog 84 #[.slice A1 M c1', .slice A3 M c3'] w6 fun e w' => e = .returned (.bool (decide (xs = ys))) ∧ Below w6.heap.size w6 w' by
          have h := specSameD A1 A3 c1' c3' xs ys w6 (by rw [hl1.out]; exact hM6) (by rw [hl2.out]; exact hM6) HO1.out HO2.out
          rw [hl1.out, hl2.out] at h
          exact h)
        go_wp2_with fail
        refine HZ.out.mono ?_
        rintro e w7 ⟨rfl, hb7⟩
        have G7 := Lib.hid (G6.out.next hb7)
        clear hb7 HZ
        go_wp2
        go_ret
        exact ⟨ret_boolE rfl, G7.out.old⟩
      · have t3 : (degB a a.length != degB b b.length) = true := by simp [h3]
        rw [eqv_no3 h3]
        obtain ⟨p, hp⟩ : ∃ x, x = degB a a.length := ⟨_, rfl⟩
        obtain ⟨q, hq⟩ : ∃ x, x = degB b b.length := ⟨_, rfl⟩
        rw [← hp] at HX t3
        rw [← hq] at HY t3
        clear h1 h2 h3 hp hq
        go_enter Try.func38, Try.ntmps38
        go_wp2_with fail
        refine (HD _ (HE.out.up_ G0.old) (HS.out.up_ G0.old)).out.mono ?_
        rintro e w1 ⟨rfl, hb1⟩
        have G1 := Lib.hid (G0.next hb1)
        have c0 := G1.out.c0
        have c1 := G1.out.c1
        clear G0 hb1
        go_wp2_with fail
        refine (HF _ (HE.out.up_ G1.out.old) (HT.out.up_ G1.out.old)).out.mono ?_
        rintro e w2 ⟨rfl, hb2⟩
        have G2 := Lib.hid (G1.out.next hb2)
        clear hb2 c0 c1
        go_wp2_with fail
        refine (HX _ (HS.out.up_ G2.out.old)).out.mono ?_
        rintro e w3 ⟨rfl, hb3⟩
        have G3 := Lib.hid (G2.out.next hb3)
        clear hb3
        go_wp2_with fail
        refine (HY _ (HT.out.up_ G3.out.old)).out.mono ?_
        rintro e w4 ⟨rfl, hb4⟩
        have G4 := Lib.hid (G3.out.next hb4)
        clear hb4
        go_wp2
        go_ret
        exact ⟨ret_boolE rfl, G4.out.old⟩
end Go.Proofs.Ytcfhkaefjhcglaa
