/- AvalancheSize, beside goroutines that only leave. -/
import Derived.Test.YtndncmjhpbjcoaaGCrs
set_option linter.all false
namespace Go.Proofs.Ytndncmjhpbjcoaa
open Go Go.Conc Go.ConcN Go.RowKit

def AvaR (w : World) (z : Int) (v : Value) (w' : World) : Prop := v = .int .i64 z ∧ Below w.heap.size w w'
theorem AvaR.easy (w : World) (z : Int) : Easy (AvaR w z) := fun _ _ _ hl ⟨h1, h2⟩ => ⟨h1, ⟨hl.drew.os.trans h2.os, hl.drew.tape.trans h2.tape, hl.drew.out.trans h2.output, by rw [hl.heap]; exact h2.size, fun b hb => by rw [hl.heap]; exact h2.block b hb⟩⟩
set_option maxRecDepth 100000 in
set_option maxHeartbeats 2000000 in
theorem implAvalL (N : Int) (A D : Option Addr) (c cd : Nat) (es : List (Int × Int)) (p : List Int) (q : Int) (w : World) (hn : es.length ≤ 1048576) (hd : p.length ≤ 1048576) (hE : EdgeS w w.heap.size A es) (hK : EdgeK w A es) (hS : IntS w w.heap.size D p) :
    LastT Try.prog 20 #[.agg #[.int .i64 N, .slice A es.length c], .slice D p.length cd, .int .i64 q] w (AvaR w (avalC N es p q)) := fun cs => by
  rw [enter_at _ Try.func20 rfl]
  simp only [Try.ntmps20, List.size_toArray, List.length_cons, List.length_nil, Nat.reduceAdd, Nat.reduceSub, Array.replicate_succ, Array.replicate_zero, List.push_toArray, List.append_toArray, List.nil_append, List.cons_append]
  refine toD_pre0 prog_bodied prog_ready (l := [_]) (rest := .seq _ _) ?_
  intro oB T _
  refine preWp_one fun K hK2 => ?_
  go_wp2
  refine preWp_nil ?_
  intro w' hw' hd'
  rw [show (w.wi T 0 oB #[]).heap.size = w.heap.size from rfl]
  have G1 := GB.real (GB.start (w.wi T 0 oB #[]) N A c es) hw' hd'
  clear hw' hd'
  have c0 : ∀ t d o u, (w'.wi t d o u).cell? ⟨w.heap.size, 0, none⟩ = some (.int .i64 N) := fun _ _ _ _ => G1.c0
  have c1 : ∀ t d o u, (w'.wi t d o u).cell? ⟨w.heap.size, 1, none⟩ = some (.slice A es.length c) := fun _ _ _ _ => G1.c1
  refine ToD.ctl prog_bodied prog_ready (fun _ _ => step_seq) ?_
  refine ToD.regionL prog_bodied prog_ready (l := [0, 1, 2, 3, 4, 5, 6, 7, 8, 9, 10]) rfl ?_
  refine ToD.value prog_bodied prog_ready (v := .agg #[.int .i64 N, .slice A es.length c]) rfl rfl rfl (fun t d o u => by
    have d0 := c0 t d o u
    have d1 := c1 t d o u
    simp [execOp, go_sem, Act.eval, d0, d1]) ?_
  refine ToD.value prog_bodied prog_ready (v := .slice D p.length cd) rfl rfl rfl (fun _ _ _ _ => by simp [execOp, go_sem, Act.eval]) ?_
  refine ToD.value prog_bodied prog_ready (v := .int .i64 q) rfl rfl rfl (fun _ _ _ _ => by simp [execOp, go_sem, Act.eval]) ?_
  simp only [List.setIfInBounds_toArray, List.set_cons_zero, List.set_cons_succ]
  refine ToD.call prog_bodied prog_ready (f := 18) (args := #[.agg #[.int .i64 N, .slice A es.length c], .slice D p.length cd, .int .i64 q]) rfl rfl rfl (fun t d o u => by simp [execOp, go_sem, Act.eval, resolve]) (implStabT N A D c cd es p q w' hn hd (hE.up_ G1.old) (hK.up G1.old) (hS.up_ G1.old)) ?_
  rintro v w2 ⟨A1, A2, c1', c2', hv, -, ho2, -, hb2⟩
  cases hv
  have G2 := G1.next hb2
  simp only [List.setIfInBounds_toArray, List.set_cons_zero, List.set_cons_succ]
  have hb : ∀ z, HB w2 z → HB w z := fun z h => ⟨Nat.le_trans G2.old.size h.1, fun b hb => (h.2 b (Nat.lt_of_lt_of_le hb G2.old.size)).trans (G2.old.block b hb)⟩
  have ho := ho2.ints
  have hdr : Drew w w2 := ⟨G2.old.tape, G2.old.os, G2.old.output⟩
  clear c0 c1 ho2 hb2 G1 G2 hE hK hS
  refine toD_tail prog_bodied prog_ready (k0 := 4) (Q0 := fun _ => bodyPost Try.prog Try.f20 (fun e y => e = .returned (.int .i64 (avalC N es p q)) ∧ HB w y)) (fun _ _ _ h => by cases h.1) rfl ?_ (fun e a' w3 h hd3 => ?_)
  · intro oB2 T2 _
    obtain ⟨z, hz⟩ : ∃ z, z = w2.wi T2 0 oB2 #[] := ⟨_, rfl⟩
    have HO := Lib.hid (show IntS z z.heap.size A2 (stabC N es p q) by rw [hz]; exact ho)
    have HW := Lib.hid (show ∀ y, Below z.heap.size z y → HB w y from fun y h => hb y (by rw [hz] at h; exact ⟨h.size, h.block⟩))
    rw [← hz]
    clear hz ho hb
    simp only [List.drop_succ_cons, List.drop_zero]
    cases h1 : pileB N es p q with
    | false =>
      rw [avalC_f h1]
      have t1 : (pileB N es p q) = false := h1
      clear h1
      go_wp2
      go_ret
      exact ⟨rfl, HW.out _ (Below.refl _ _)⟩
    | true =>
      obtain ⟨M, k, rfl, rfl, hP, -⟩ := pile_parts h1
      rw [avalC_t h1, ← deg_cnt (n := settN M es p k) (hP.ex.tops.lims hP) hP.m6]
      rw [stabC_t h1] at HO ⊢
      have HC := cntL_len M (settN M es p k)
      have hm6 := hP.m6
      obtain ⟨ys, hys⟩ : ∃ z, z = cntL M (settN M es p k) := ⟨_, rfl⟩
      rw [← hys] at HO HC ⊢
      rw [show degB ys M = degB ys ys.length by rw [HC]]
      have HDG := Lib.hid (fun (X : Option Addr) (cx : Nat) (W : World) (h : IntS W W.heap.size X ys) => implCnt X cx ys W (by omega) h)
      obtain ⟨dz, hdz⟩ : ∃ z, z = degB ys ys.length := ⟨_, rfl⟩
      rw [← hdz] at HDG ⊢
      clear h1 hP hys HC hdz hm6
      go_wp2_with fail
      refine (HDG.out A2 _ _ HO.out).mono ?_
      rintro e w4 ⟨rfl, hb4⟩
      have HB4 := Lib.hid (HW.out _ hb4)
      clear hb4
      go_wp2
      go_ret
      exact ⟨rfl, HB4.out⟩
  · exact goesT_body prog_bodied prog_ready (AvaR.easy w _) Try.func20 (by kernel_rfl) hd3 (fun _ _ _ h => ⟨_, h.1⟩) (fun _ _ v z h w' hh hd => ⟨by have := h.1; cases this; rfl, h.2.below hh (hdr.trans hd)⟩) h
theorem implAvalT (N : Int) (A D : Option Addr) (c cd : Nat) (es : List (Int × Int)) (p : List Int) (q : Int) (w : World) (hn : es.length ≤ 1048576) (hd : p.length ≤ 1048576) (hE : EdgeS w w.heap.size A es) (hK : EdgeK w A es) (hS : IntS w w.heap.size D p) :
    CallsT Try.prog 20 #[.agg #[.int .i64 N, .slice A es.length c], .slice D p.length cd, .int .i64 q] w fun v w' => v = .int .i64 (avalC N es p q) ∧ Below w.heap.size w w' :=
  callsT_of_last prog_bodied prog_ready (AvaR.easy w _) (implAvalL N A D c cd es p q w hn hd hE hK hS)
end Go.Proofs.Ytndncmjhpbjcoaa
