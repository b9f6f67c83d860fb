/- Sandpiles: the program topples a vertex. -/
import Derived.Test.YtndncmjhpbjcoaaGPilZ
set_option linter.all false
namespace Go.Proofs.Ytndncmjhpbjcoaa
open Go.RowKit

set_option maxRecDepth 100000 in
set_option maxHeartbeats 2000000 in
theorem topple_any (sp pb g M cg cA q v B : Nat) (A : Option Addr) (es : List (Int × Int)) (f : Nat → Int) (w : World) (hBw : B ≤ w.heap.size) (hBg : B ≤ g) (hn : es.length ≤ 12) (hes : ∀ e ∈ es, 0 ≤ e.1 ∧ e.1 < e.2 ∧ e.2 < (M : Int)) (hq : q < M) (hgp : g < pb) (hps : pb < sp) (hS : Pile w sp pb g M cg cA q A es (chipsOf M f)) (hE : EdgeS w B A es) :
    Calls Try.prog 65 #[.pointer (some ⟨sp, 0, none⟩), .int .i64 (v : Int)] w fun e w' => e = .returned (.tuple #[]) ∧ Chips w' g ((chipsOf M (fireF f v 1 es)).set q 0) ∧ Moves g (g + 1) w w' := by
  have c0 : w.cell? ⟨sp, 0, none⟩ = some (.pointer (some ⟨pb, 0, none⟩)) := by rw [hS.sand.cell]; rfl
  have HF := Lib.hid (fire_any pb g M cg cA B A es f (v : Int) 1 w (by omega) hBg hBw hn hes hS.board hS.chips hE)
  have HP := Lib.hid hS
  have hq0 : (0 : Int) ≤ (q : Int) := Int.natCast_nonneg _
  have hq1 : (q : Int) < (M : Int) := by omega
  clear hS hE hes hn hBw hBg
  go_enter Try.func65, Try.ntmps65
  go_wp2_with fail
  refine HF.out.mono ?_
  rintro e w1 ⟨rfl, hc1, hm1⟩
  have c0 : w1.cell? ⟨sp, 0, none⟩ = some (.pointer (some ⟨pb, 0, none⟩)) := by rw [(HP.out.sand.moves hm1 (by omega)).cell]; rfl
  have c1 : w1.cell? ⟨sp, 1, none⟩ = some (.int .i64 (q : Int)) := by rw [(HP.out.sand.moves hm1 (by omega)).cell]; rfl
  have c2 : w1.cell? ⟨pb, 1, none⟩ = some (.slice (some ⟨g, 0, none⟩) M cg) := by rw [(HP.out.board.moves hm1 (by omega)).cell]; rfl
  obtain ⟨x, hx⟩ : ∃ x, (chipsOf M (fireF f v 1 es))[q]? = some x := ⟨_, List.getElem?_eq_getElem (by rw [chipsOf_len]; exact hq)⟩
  obtain ⟨d0, f0⟩ := hc1.cell q x hx
  have hC1 := Lib.hid (hc1.set_ (a := q) (by rw [chipsOf_len]; exact hq) 0)
  have HM1 := Lib.hid (hm1.set_ q (.int .i64 0))
  have d1 := hC1.out.cell q 0 (by rw [List.getElem?_set_self (by rw [chipsOf_len]; exact hq)])
  have e0 : (w1.setCell ⟨g, q, none⟩ (.int .i64 0)).cell? ⟨sp, 0, none⟩ = some (.pointer (some ⟨pb, 0, none⟩)) := by rw [(HP.out.sand.moves HM1.out (by omega)).cell]; rfl
  have e1 : (w1.setCell ⟨g, q, none⟩ (.int .i64 0)).cell? ⟨sp, 1, none⟩ = some (.int .i64 (q : Int)) := by rw [(HP.out.sand.moves HM1.out (by omega)).cell]; rfl
  have e2 : (w1.setCell ⟨g, q, none⟩ (.int .i64 0)).cell? ⟨pb, 1, none⟩ = some (.slice (some ⟨g, 0, none⟩) M cg) := by rw [(HP.out.board.moves HM1.out (by omega)).cell]; rfl
  have D := Lib.hid d1
  have E := Lib.hid (And.intro e0 (And.intro e1 e2))
  clear hx hc1 hm1 HF HP d1 e0 e1 e2
  go_wp2_with fail
  go_region_held3 (fun w' => w'.cell? ⟨sp, 0, none⟩ = some (.pointer (some ⟨pb, 0, none⟩)) ∧ w'.cell? ⟨sp, 1, none⟩ = some (.int .i64 (q : Int)) ∧ w'.cell? ⟨pb, 1, none⟩ = some (.slice (some ⟨g, 0, none⟩) M cg) ∧ (∃ y, w'.cell? ⟨g, q, none⟩ = some y) ∧ w'.frozen? ⟨g, q, none⟩ = false)
    (first | exact ⟨c0, c1, c2, ⟨_, d0⟩, f0⟩ | exact ⟨E.out.1, E.out.2.1, E.out.2.2, ⟨_, D.out.1⟩, D.out.2⟩) (fail)
  go_wp2
  go_end0
  exact ⟨rfl, ⟨hC1.out.lt, hC1.out.cell⟩, ⟨HM1.out.os, HM1.out.tape, HM1.out.output, HM1.out.size, HM1.out.block⟩⟩
end Go.Proofs.Ytndncmjhpbjcoaa
