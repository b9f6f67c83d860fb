/- Stabilize, beside goroutines that only leave: its goroutine, its receiver, its answer. -/
import Derived.Test.YtndncmjhpbjcoaaGSetE
import Derived.Test.YtndncmjhpbjcoaaGPilV
import Derived.Test.YtndncmjhpbjcoaaGPA
import Derived.Test.YtndncmjhpbjcoaaGPilE
set_option linter.all false
namespace Go.Proofs.Ytndncmjhpbjcoaa
open Go Go.Conc Go.ConcN Go.RowKit

section
variable {P : Program} {fr fr' : Frame} {cs : List Frame} {w : World} {G : Frame → List Frame → World → Prop}
theorem toD_clean (h : CleanS cs → ToD P fr cs w G) : ToD P fr cs w G := fun w' hl gs sl t q hH => h hH.clean.2 w' hl gs sl t q hH
theorem ToD.regionL (hb : Bodied P) (hr : Ready P) {b : Frame} {a : Act} {k : List Item} {ops : Array Oper} {id : Nat} {l : List Nat} (hl : List.range ops.size = l) (h : ToD P (b.at a (.inRegion ops l :: k)) cs w G) : ToD P (b.at a (.code (.region id ops false) :: k)) cs w G := ToD.ctl hb hr (fun _ _ => step_region) (by rw [hl]; exact h)
end
theorem givesTwo_easy (w : World) (xs ys : List Int) (b : Bool) : Easy fun v w' => GivesTwoOk w xs ys b (.returned v) w' := by
  rintro v w1 w2 hl ⟨A1, A2, c1, c2, h1, h2, h3, h4, h5⟩
  have hc : ∀ a, w2.cell? a = w1.cell? a := fun a => by unfold World.cell?; rw [hl.heap]
  have hf : ∀ a, w2.frozen? a = w1.frozen? a := fun a => by unfold World.frozen?; rw [hl.heap]
  have hO : ∀ A zs, OwnI w1 w.heap.size A zs → OwnI w2 w.heap.size A zs := fun A zs h hp => by
    obtain ⟨g, off, e, k1, k2, k3⟩ := h hp
    exact ⟨g, off, e, k1, by rw [hl.heap]; exact k2, fun i z hz => by rw [hc, hf]; exact k3 i z hz⟩
  exact ⟨A1, A2, c1, c2, h1, hO _ _ h2, hO _ _ h3, h4, ⟨hl.drew.os.trans h5.os, hl.drew.tape.trans h5.tape, hl.drew.out.trans h5.output, by rw [hl.heap]; exact h5.size, fun b hb => by rw [hl.heap]; exact h5.block b hb⟩⟩
theorem CI.outc {S : Nat → Prop} {sp pb g M cg cA q B : Nat} {A : Option Addr} {es : List (Int × Int)} {P : List Int} {O : Nat → Prop} {W : World} (h : CI S sp pb g M cg cA q B A es P O W) :
    W.cell? ⟨sp, 0, none⟩ = some (.pointer (some ⟨pb, 0, none⟩)) ∧ W.cell? ⟨pb, 1, none⟩ = some (.slice (some ⟨g, 0, none⟩) M cg) ∧ ∀ base, base ≤ g → OwnI W base (some ⟨g, 0, none⟩) P := by
  obtain ⟨d1, e1, x1, -⟩ := h.sand
  obtain ⟨d2, e2, -, y2⟩ := h.board
  obtain ⟨d3, t3, e3, x3⟩ := h.chips
  exact ⟨by rw [cell_at e1]; exact x1, by rw [cell_at e2]; exact y2, fun base hb _ => ⟨g, 0, rfl, hb, heap_lt e3, fun i z hz => by rw [Nat.zero_add]; exact ⟨by rw [cell_at e3]; exact x3 i z hz, frozen_of_row _ _ _ _ _ e3⟩⟩⟩
theorem st8_op1 : (stOps8[1]?).map (fun o => (o.op, o.guard)) = some (.extract (.tmp 29) 1, none) := by kernel_rfl
set_option maxRecDepth 100000 in
set_option maxHeartbeats 1000000 in
/-- behind the last receive -/
theorem st_rest {sp pb g M cg tb cc : Nat} {cs : List Frame} {R : Value → World → Prop} (hR : Easy R) (w : World) (c0 : w.cell? ⟨sp, 0, none⟩ = some (.pointer (some ⟨pb, 0, none⟩))) (c1 : w.cell? ⟨pb, 1, none⟩ = some (.slice (some ⟨g, 0, none⟩) M cg)) (hw : R (.tuple #[.slice (some ⟨g, 0, none⟩) M cg, .slice (some ⟨tb, 0, none⟩) M M, .bool true]) w)
    (y0 y1 y2 y3 y4 y5 y6 y7 y8 y12 y13 y14 y15 y16 y17 y18 y19 y20 y21 y22 y23 y24 y25 y26 y27 y30 y31 y32 y33 y34 y35 y36 y37 y38 y39 y40 y41 y42 y43 y44 y45 : Value) : ToD Try.prog (stF.at ⟨List.toArray (y0 :: y1 :: y2 :: y3 :: y4 :: y5 :: y6 :: y7 :: y8 :: .pointer (some ⟨sp, 0, none⟩) :: .chan (some cc) :: .slice (some ⟨tb, 0, none⟩) M M :: y12 :: y13 :: y14 :: y15 :: y16 :: y17 :: y18 :: y19 :: y20 :: y21 :: y22 :: y23 :: y24 :: y25 :: y26 :: y27 :: .chan (some cc) :: .tuple #[.int .i64 0, .bool false] :: y30 :: y31 :: y32 :: y33 :: y34 :: y35 :: y36 :: y37 :: y38 :: y39 :: y40 :: y41 :: y42 :: y43 :: y44 :: y45 :: []), []⟩ [.inRegion stOps8 [1], .code stTail8, .inLoop stLoop, .inBlock 0, .code stEnd]) cs w (Last Try.prog 18 cs R) := by
  obtain ⟨o, ho, hop⟩ := Option.map_eq_some_iff.1 st8_op1
  simp only [Prod.mk.injEq] at hop
  refine ToD.value prog_bodied prog_ready (o := o) (v := .bool false) (t := 30) ho rfl (by simp [Region.wanted, hop.2]) (fun _ _ _ _ => by simp [execOp, hop.1, go_sem, Act.eval]) ?_
  simp only [List.setIfInBounds_toArray, List.set_cons_zero, List.set_cons_succ]
  refine ToD.ctl prog_bodied prog_ready (fun _ _ => step_region_end) ?_
  refine ToD.ctl prog_bodied prog_ready (fun _ _ => step_seq) ?_
  refine ToD.ctl prog_bodied prog_ready (fun _ _ => step_cond (t := false) rfl) ?_
  refine ToD.ctl prog_bodied prog_ready (fun _ _ => step_exit (k' := [.code stEnd]) rfl) ?_
  have hwp : ∀ oB T, oB.env = w.os.env → stEnd.wp Try.prog (fun e a y => e = .ret ∧ a.defers = [] ∧ a.tmps.getD 6 undef = .slice (some ⟨g, 0, none⟩) M cg ∧ a.tmps.getD 7 undef = .slice (some ⟨tb, 0, none⟩) M M ∧ a.tmps.getD 8 undef = .bool true ∧ y.heap = w.heap) ⟨List.toArray (y0 :: y1 :: y2 :: y3 :: y4 :: y5 :: y6 :: y7 :: y8 :: .pointer (some ⟨sp, 0, none⟩) :: .chan (some cc) :: .slice (some ⟨tb, 0, none⟩) M M :: y12 :: y13 :: y14 :: y15 :: y16 :: y17 :: y18 :: y19 :: y20 :: y21 :: y22 :: y23 :: y24 :: y25 :: y26 :: y27 :: .chan (some cc) :: .tuple #[.int .i64 0, .bool false] :: .bool false :: y31 :: y32 :: y33 :: y34 :: y35 :: y36 :: y37 :: y38 :: y39 :: y40 :: y41 :: y42 :: y43 :: y44 :: y45 :: []), []⟩ (w.wi T 0 oB #[]) := by
    intro oB T _
    obtain ⟨z, hz⟩ : ∃ z, z = w.wi T 0 oB #[] := ⟨_, rfl⟩
    have d0 : z.cell? ⟨sp, 0, none⟩ = some (.pointer (some ⟨pb, 0, none⟩)) := by rw [hz]; exact c0
    have d1 : z.cell? ⟨pb, 1, none⟩ = some (.slice (some ⟨g, 0, none⟩) M cg) := by rw [hz]; exact c1
    have hzh : Hid (z.heap = w.heap) := Lib.hid (by rw [hz]; rfl)
    rw [← hz]
    clear hz c0 c1 hw hR
    refine wp_seq_k fun K hK => ?_
    go_wp2
    exact hzh.out
  refine wpT_of_wp prog_bodied prog_ready (Q0 := fun _ e a y => e = .ret ∧ a.defers = [] ∧ a.tmps.getD 6 undef = .slice (some ⟨g, 0, none⟩) M cg ∧ a.tmps.getD 7 undef = .slice (some ⟨tb, 0, none⟩) M M ∧ a.tmps.getD 8 undef = .bool true ∧ y.heap = w.heap) (fun x a w h => by cases h.1) hwp stF [] cs _ ?_
  rintro e a' w' ⟨⟨oB, T, t, d, o, u, rfl, h1, h2, h3, h4, h5⟩, h6⟩
  refine goesT_last prog_bodied prog_ready hR Try.func18 ⟨h1, .tuple #[.slice (some ⟨g, 0, none⟩) M cg, .slice (some ⟨tb, 0, none⟩) M M, .bool true], fun t d o u => ?_, hR _ _ _ ⟨h5, h6⟩ hw⟩
  rw [results_tmp3 rfl, h2, h3, h4]
end Go.Proofs.Ytndncmjhpbjcoaa
