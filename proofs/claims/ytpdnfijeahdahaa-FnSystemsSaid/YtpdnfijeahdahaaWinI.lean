/- IsWinnable and WinningScript: the program's side. -/
import Derived.Test.YtpdnfijeahdahaaBL
import Derived.Test.YtpdnfijeahdahaaBK
namespace Go.Proofs.Ytpdnfijeahdahaa
open Go.RowKit

theorem win_no {N : Int} {es : List (Int × Int)} {d : List Int} (h : divB 60 N es d = false) : winB N es d = false := by simp [winB, burnOk, h]
set_option maxRecDepth 100000 in
set_option maxHeartbeats 2000000 in
theorem implWin (N : Int) (A D : Option Addr) (c cd : Nat) (es : List (Int × Int)) (d : List Int) (w : World) (hn : es.length ≤ 1048576) (hd : d.length ≤ 1048576) (hE : EdgeS w w.heap.size A es) (hS : IntS w w.heap.size D d) :
    Calls Try.prog 10 #[.agg #[.int .i64 N, .slice A es.length c], .slice D d.length cd] w fun e w' => e = .returned (.bool (winB N es d)) ∧ Below w.heap.size w w' := by
  have HE := Lib.hid hE
  have HS := Lib.hid hS
  clear hE hS
  have G0 := GB.start w N A c es
  have HD := fun w h1 h2 => Lib.hid (implDiv N A D c cd es d w hn hd h1 h2)
  cases h1 : divB 60 N es d with
  | false =>
    rw [h1] at HD
    rw [win_no h1]
    clear h1
    go_enter Try.func10, Try.ntmps10
    go_wp2_with fail
    refine (HD _ (HE.out.up_ G0.old) (HS.out.up_ G0.old)).out.mono ?_
    rintro e w1 ⟨rfl, hb1⟩
    have G1 := Lib.hid (G0.next hb1)
    clear G0 hb1
    go_wp2
    go_ret
    exact ⟨ret_boolE rfl, G1.out.old⟩
  | true =>
    rw [h1] at HD
    obtain ⟨M, rfl, hM0, hM6, -⟩ := div_limsB h1
    have HQV := win_red h1 (red_ex A D M es d w h1 HE.out HS.out)
    have hl1 := Lib.hid (red_len h1).1
    have HP := fun (W : World) (h : Below w.heap.size w W) => Lib.hid (implRd2 A D c cd M es d W h1 (HE.out.up_ h) (HS.out.up_ h))
    rw [HQV]
    obtain ⟨xa, hxa⟩ : ∃ x, x = redR (M : Int) es d 0 := ⟨_, rfl⟩
    rw [← hxa] at HP hl1 ⊢
    have HM6 := Lib.hid hM6
    clear h1 hxa hM0 hM6 HQV
    go_enter Try.func10, Try.ntmps10
    go_wp2_with fail
    refine (HD _ (HE.out.up_ G0.old) (HS.out.up_ G0.old)).out.mono ?_
    rintro e w1 ⟨rfl, hb1⟩
    have G1 := Lib.hid (G0.next hb1)
    have c0 := G1.out.c0
    have c1 := G1.out.c1
    clear G0 hb1
    go_wp2_with fail
    refine (HP _ G1.out.old).out.mono ?_
    rintro e w2 ⟨pr, pb, g, cg, gs, rfl, hr, hb2⟩
    have G2 := Lib.hid (G1.out.next hb2)
    have HW := Lib.hid (isWon_any _ pr pb g cg gs M xa _ w2 hl1.out (by have := HM6.out; omega) hr)
    clear hb2 c0 c1 hr
    go_wp2_with fail
    refine HW.out.mono ?_
    rintro e w3 ⟨rfl, hb3⟩
    have G3 := Lib.hid (G2.out.next hb3)
    clear hb3
    go_wp2
    go_ret
    exact ⟨ret_boolE rfl, G3.out.old⟩
end Go.Proofs.Ytpdnfijeahdahaa
