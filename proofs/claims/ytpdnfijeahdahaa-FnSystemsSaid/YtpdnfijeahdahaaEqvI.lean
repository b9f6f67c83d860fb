/- AreEquivalent: the program's side. -/
import Derived.Test.YtpdnfijeahdahaaBetI
namespace Go.Proofs.Ytpdnfijeahdahaa
open Go.RowKit

set_option maxRecDepth 100000 in
set_option maxHeartbeats 2000000 in
theorem implEqv (N : Int) (A D F : Option Addr) (c cd cf : Nat) (es : List (Int × Int)) (a b : List Int) (w : World) (hn : es.length ≤ 1048576) (ha : a.length ≤ 1048576) (hb : b.length ≤ 1048576) (hE : EdgeS w w.heap.size A es) (hS : IntS w w.heap.size D a) (hT : IntS w w.heap.size F b) :
    Calls Try.prog 12 #[.agg #[.int .i64 N, .slice A es.length c], .slice D a.length cd, .slice F b.length cf] w fun e w' => e = .returned (.bool (eqvB N es a b)) ∧ Below w.heap.size w w' := by
  have G0 := GB.start w N A c es
  have HB := Lib.hid (implBet N A D F c cd cf es a b _ hn ha hb (hE.up_ G0.old) (hS.up_ G0.old) (hT.up_ G0.old))
  obtain ⟨ok, hok⟩ : ∃ x, x = eqvB N es a b := ⟨_, rfl⟩
  obtain ⟨zs, hzs⟩ : ∃ x, x = betB N es a b := ⟨_, rfl⟩
  rw [← hok, ← hzs] at HB
  rw [← hok]
  clear hok hzs hE hS hT
  go_enter Try.func12, Try.ntmps12
  go_wp2_with fail
  refine HB.out.mono ?_
  rintro e w1 ⟨A1, c1, rfl, -, hb1⟩
  have G1 := Lib.hid (G0.next hb1)
  clear G0 hb1 HB
  go_wp2
  go_ret
  exact ⟨rfl, G1.out.old⟩
end Go.Proofs.Ytpdnfijeahdahaa
