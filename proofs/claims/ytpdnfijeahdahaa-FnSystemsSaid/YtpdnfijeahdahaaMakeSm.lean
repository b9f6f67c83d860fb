/- MakeSmall: a drawn graph of 2 to 4 vertices and at most 7 edges. -/
import Derived.Test.YtpdnfijeahdahaaBM
namespace Go.Proofs.Ytpdnfijeahdahaa
open Go.RowKit

/-- a small graph, new memory -/
def SmGraph (w : World) (e : Ending) (w' : World) : Prop :=
  ∃ (M : Nat) (A : Option Addr) (c : Nat) (es : List (Int × Int)), e = .returned (.agg #[.int .i64 (M : Int), .slice A es.length c]) ∧ 2 ≤ M ∧ M ≤ 4 ∧ es.length ≤ 7 ∧ graphB (M : Int) es = true ∧ OwnE w' w.heap.size A es ∧ Below w.heap.size w w'
set_option maxRecDepth 100000 in
set_option maxHeartbeats 1000000 in
theorem makeSmall_any (w : World) (A0 : Option Addr) (c0 : Nat) (xs : List Int) (hx : xs.length ≤ 1048576) (hS : CodeS w w.heap.size A0 xs) :
    Calls Try.prog 6 #[.slice A0 xs.length c0] w (SmGraph w) := by
  have hb0 : Below w.heap.size w (w.alloc (Obj.cells #[.int .i64 0, .slice none 0 0] 25)) := (Below.refl _ _).alloc (Nat.le_refl _) _
  have HB := Lib.hid (Blk.new w 25 #[.int .i64 0, .slice none 0 0])
  have HN := Lib.hid (l01New_any _ A0 c0 xs hx ((hS.keep hb0).up hb0.size))
  have HB0 := Lib.hid hb0
  have HS := Lib.hid hS
  clear hS hb0
  go_enter Try.func6, Try.ntmps6
  go_wp2_with fail
  refine HN.out.mono ?_
  rintro e w1 ⟨gc, rfl, hN, hC, hb⟩
  have hN2 : w.heap.size + 1 ≤ gc := by simpa using hN
  have HB1 := Lib.hid (show Below w.heap.size w w1 from HB0.out.trans (hb.mono (by simp)))
  have HR := Lib.hid (show Blk w1 w.heap.size 25 #[.int .i64 0, .slice none 0 0] from HB.out.below hb HB.out.lt)
  have HG := Lib.hid (l02Draw_any w1 gc 4 (by omega) (by omega) A0 c0 xs hx hC ((HS.out.keep HB1.out).up (by omega)))
  have hgl := hC.lt
  clear hN hC hb HB HN HB0
  go_wp2_with fail
  refine HG.out.mono ?_
  rintro e w2 ⟨M, A, c, es, rfl, hM2, hM5, hel, hg, ho, hcur, hb, hkep⟩
  have HR2 := Lib.hid (show Blk w2 w.heap.size 25 #[.int .i64 0, .slice none 0 0] from (hkep _ (by omega) HR.out.lt).trans HR.out)
  obtain ⟨x0, x1, x2, x3, x4⟩ := box_facts HR2.out
  have HO := Lib.hid (ho.mono (base' := w.heap.size + 1) (by omega))
  have HBL := Lib.hid (HB1.out.trans (hb.mono (show w.heap.size ≤ gc by omega)))
  clear hkep ho hcur hb HB1 HR HG
  go_wp2
  obtain ⟨W6, hW6⟩ : ∃ W6 : World, W6 = ((w2.setCell ⟨w.heap.size, 0, none⟩ (.int .i64 (M : Int))).setCell ⟨w.heap.size, 1, none⟩ (.slice A es.length c)) := ⟨_, rfl⟩
  rw [← hW6]
  have hb9 : Blk W6 w.heap.size 25 #[.int .i64 (M : Int), .slice A es.length c] := by rw [hW6]; exact (HR2.out.set_ 0 _).set_ 1 _
  obtain ⟨s0, s1, s2, s3, s4⟩ := box_facts hb9
  refine bodyPost_ret (v := .agg #[.int .i64 (M : Int), .slice A es.length c]) (by simp [results, Try.results6, go_sem, s0, s1]) rfl ⟨M, A, c, es, rfl, hM2, hM5, hel, hg, ?_, ?_⟩
  · rw [hW6]; exact (ownE_far HO.out (by omega) _ _).mono (by omega)
  · rw [hW6]; exact (HBL.out.setCell (p := ⟨w.heap.size, 0, none⟩) (Nat.le_refl _) _).setCell (p := ⟨w.heap.size, 1, none⟩) (Nat.le_refl _) _
end Go.Proofs.Ytpdnfijeahdahaa
