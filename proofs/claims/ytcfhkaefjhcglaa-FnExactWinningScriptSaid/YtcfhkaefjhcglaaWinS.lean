/- IsWinnable and WinningScript: the specification's side. -/
import Derived.Test.YtcfhkaefjhcglaaCls
import Derived.Test.YtcfhkaefjhcglaaLift
namespace Go.Proofs.Ytcfhkaefjhcglaa
open Go.RowKit

set_option maxRecDepth 100000 in
set_option maxHeartbeats 2000000 in
theorem specWin (N : Int) (A D : Option Addr) (c cd : Nat) (es : List (Int × Int)) (d : List Int) (w : World) (hn : es.length ≤ 1048576) (hd : d.length ≤ 1048576) (hE : EdgeS w w.heap.size A es) (hS : IntS w w.heap.size D d) :
    Calls Try.prog 48 #[.agg #[.int .i64 N, .slice A es.length c], .slice D d.length cd] w fun e w' => e = .returned (.bool (winB N es d)) ∧ Below w.heap.size w w' := by
  have HE := Lib.hid hE
  have HS := Lib.hid hS
  clear hE hS
  have G0 := GB.start w N A c es
  have HD := fun w h1 h2 => Lib.hid (specChip N A D c cd es d 0 w hn hd h1 h2)
  rw [winB]
  obtain ⟨z, hz⟩ : ∃ x, x = chipR N es d 0 := ⟨_, rfl⟩
  rw [← hz] at HD ⊢
  cases h1 : burnOk N es d 0 with
  | false =>
    rw [h1] at HD
    clear h1 hz
    go_enter Try.func48, Try.ntmps48
    go_wp2_with fail
    refine (HD _ (HE.out.up_ G0.old) (HS.out.up_ G0.old)).out.mono ?_
    rintro e w1 ⟨rfl, hb1⟩
    have G1 := Lib.hid (G0.next hb1)
    clear G0 hb1
    go_wp2
    go_ret
    exact ⟨ret_boolE (by simp), G1.out.old⟩
  | true =>
    rw [h1] at HD
    clear h1 hz
    go_enter Try.func48, Try.ntmps48
    go_wp2_with fail
    refine (HD _ (HE.out.up_ G0.old) (HS.out.up_ G0.old)).out.mono ?_
    rintro e w1 ⟨rfl, hb1⟩
    have G1 := Lib.hid (G0.next hb1)
    clear G0 hb1
    go_wp2
    go_ret
    exact ⟨ret_boolE (by simp), G1.out.old⟩
set_option maxRecDepth 100000 in
set_option maxHeartbeats 2000000 in
theorem specWinS (N : Int) (A D : Option Addr) (c cd : Nat) (es : List (Int × Int)) (d : List Int) (w : World) (hn : es.length ≤ 1048576) (hd : d.length ≤ 1048576) (hE : EdgeS w w.heap.size A es) (hS : IntS w w.heap.size D d) :
    Calls Try.prog 49 #[.agg #[.int .i64 N, .slice A es.length c], .slice D d.length cd] w (GivesIntsOk w (winS N es d) (winB N es d)) := by
  have HE := Lib.hid hE
  have HS := Lib.hid hS
  clear hE hS
  have G0 := GB.start w N A c es
  have HD := fun w h1 h2 => Lib.hid (specWin N A D c cd es d w hn hd h1 h2)
  cases h1 : winB N es d with
  | false =>
    rw [h1] at HD
    rw [winS_f h1]
    clear h1
    go_enter Try.func49, Try.ntmps49
    go_wp2_with fail
    refine (HD _ (HE.out.up_ G0.old) (HS.out.up_ G0.old)).out.mono ?_
    rintro e w1 ⟨rfl, hb1⟩
    have G1 := Lib.hid (G0.next hb1)
    clear G0 hb1
    go_wp2
    go_ret2
    exact ⟨none, 0, rfl, OwnI.nil _ _ _, G1.out.old⟩
  | true =>
    rw [h1] at HD
    rw [winS_t h1]
    have h2 := win_div h1
    obtain ⟨M, rfl, hM0, hM6, -⟩ := div_limsB h2
    have hl1 := Lib.hid (red_len h2).2
    have HP := fun w h3 h4 => Lib.hid (specRd2 A D c cd M es d w h2 h3 h4)
    obtain ⟨ss, hss⟩ : ∃ x, x = scrR (M : Int) es d 0 := ⟨_, rfl⟩
    rw [← hss] at HP hl1 ⊢
    have HL := fun (A2 : Option Addr) (c2 : Nat) (w : World) (h : IntS w w.heap.size A2 ss) => Lib.hid (show Calls Try.prog 87 #[.slice A2 M c2] w (GivesInts w (liftB ss)) by
      have h9 := specLift A2 c2 ss w (by rw [hl1.out]; exact hM0) (by rw [hl1.out]; omega) h
      rw [hl1.out] at h9
      exact h9)
    clear h1 h2 hss hM0 hM6
    go_enter Try.func49, Try.ntmps49
    go_wp2_with fail
    refine (HD _ (HE.out.up_ G0.old) (HS.out.up_ G0.old)).out.mono ?_
    rintro e w1 ⟨rfl, hb1⟩
    have G1 := Lib.hid (G0.next hb1)
    have c0 := G1.out.c0
    have c1 := G1.out.c1
    clear G0 hb1
    go_wp2_with fail
    refine (HP _ (HE.out.up_ G1.out.old) (HS.out.up_ G1.out.old)).out.mono ?_
    rintro e w2 ⟨A1, A2, c1', c2', rfl, -, ho, hb2⟩
    have G2 := Lib.hid (G1.out.next hb2)
    have HO := Lib.hid ho.ints
    clear hb2 c0 c1 ho
    go_wp2_with fail
    refine (HL _ _ _ HO.out).out.mono ?_
    rintro e w3 ⟨A3, c3', rfl, ho, hb3⟩
    have G3 := Lib.hid (G2.out.next hb3)
    have HR := Lib.hid (ho.mono G2.out.old.size)
    clear hb3 ho
    go_wp2
    go_ret2
    exact ⟨A3, c3', rfl, HR.out, G3.out.old⟩
end Go.Proofs.Ytcfhkaefjhcglaa
