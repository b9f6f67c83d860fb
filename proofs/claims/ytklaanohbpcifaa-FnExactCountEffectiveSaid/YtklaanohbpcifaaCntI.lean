/- CountEffective: the program's side. -/
import Derived.Test.YtklaanohbpcifaaEinI
namespace Go.Proofs.Ytklaanohbpcifaa
open Go.RowKit

set_option maxRecDepth 100000 in
set_option maxHeartbeats 2000000 in
theorem implCnt (N : Int) (A D : Option Addr) (c cd : Nat) (es : List (Int × Int)) (d : List Int) (w : World) (hn : es.length ≤ 1048576) (hd : d.length ≤ 1048576) (hE : EdgeS w w.heap.size A es) (hS : IntS w w.heap.size D d) :
    Calls Try.prog 8 #[.agg #[.int .i64 N, .slice A es.length c], .slice D d.length cd] w fun e w' => e = .returned (.int .i64 (cntB N es d)) ∧ Below w.heap.size w w' := by
  have G0 := GB.start w N A c es
  have HB := implEin N A D c cd es d _ hn hd (hE.up_ G0.old) (hS.up_ G0.old)
  clear hE hS
  unfold cntB
  obtain ⟨L, hL⟩ : ∃ L, L = einB N es d := ⟨_, rfl⟩
  rw [← hL] at HB ⊢
  cases h : einOk N es d with
  | false =>
    rw [h] at HB
    have HC := Lib.hid HB
    clear HB h hL
    go_enter Try.func8, Try.ntmps8
    go_wp2_with fail
    refine HC.out.mono ?_
    rintro e w1 ⟨A1, c1, rfl, -, hb1⟩
    have G1 := Lib.hid (G0.next hb1)
    clear G0 hb1 HC
    go_wp2
    go_ret
    exact ⟨rfl, G1.out.old⟩
  | true =>
    rw [h] at HB
    have HC := Lib.hid HB
    clear HB h hL
    go_enter Try.func8, Try.ntmps8
    go_wp2_with fail
    refine HC.out.mono ?_
    rintro e w1 ⟨A1, c1, rfl, -, hb1⟩
    have G1 := Lib.hid (G0.next hb1)
    clear G0 hb1 HC
    go_wp2
    go_ret
    exact ⟨rfl, G1.out.old⟩
end Go.Proofs.Ytklaanohbpcifaa
