/- laws.FnAbelian: the walk, beside goroutines that only leave. Its middle: gen_abet.py out of AbeLw. -/
import Derived.Test.YtndncmjhpbjcoaaGCrsL
import Derived.Test.YtndncmjhpbjcoaaGDroT
import Derived.Test.YtndncmjhpbjcoaaGAvaT
import Derived.Test.YtndncmjhpbjcoaaGPilX
import Derived.Test.YtndncmjhpbjcoaaGAbeM
import Derived.Test.YtndncmjhpbjcoaaGOwnK2
import Derived.Test.YtndncmjhpbjcoaaGBM
set_option linter.all false
namespace Go.Proofs.Ytndncmjhpbjcoaa
open Go Go.Conc Go.ConcN Go.RowKit

section
variable {P : Program} {a : Act} {w w' : World} {b : Frame} {k : List Item} {cs : List Frame} {G : Frame → List Frame → World → Prop}
theorem toD_tail2 (hb : Bodied P) (hr : Ready P) {ops : Array Oper} {k0 : Nat} {l : List Nat} {c1 c2 : Code} {Q0 : World → Exit → Act → World → Prop} (hno : ∀ x a w, ¬ Q0 x .outgrown a w) (hl : l = List.range' k0 (ops.toList.drop k0).length)
    (h : ∀ oB T, oB.env = w.os.env → wpList P ops (Exit.then (c1.wp P (Exit.then (c2.wp P (Q0 (w.wi T 0 oB #[]))) (Q0 (w.wi T 0 oB #[])))) (Q0 (w.wi T 0 oB #[]))) (ops.toList.drop k0) a (w.wi T 0 oB #[]))
    (hQ : ∀ e a' w', Sees w (fun x y => Q0 x e a' y) w' → Drew w w' → GoesT P b k cs G e a' w') : ToD P (b.at a (.inRegion ops l :: .code c1 :: .code c2 :: k)) cs w G := by
  refine alone_arrives hb hr hno (b := b) (k := k) (fun oB T he => ?_) fun e a' w' h => hQ e a' w' h.1 h.2
  have h0 := h oB T he
  rw [← wpOps_eq_wpList (ops.toList.drop k0) k0 (fun j => by simp), ← hl] at h0
  obtain ⟨e, a1, w2, hq, harr⟩ := wp_ops l a _ h0 b (.code c1 :: .code c2 :: k) (cs ++ [base1 P])
  cases e with
  | normal =>
    obtain ⟨e2, a2, w3, q2, r2⟩ := hq b (.code c2 :: k) (cs ++ [base1 P])
    cases e2 with
    | normal =>
      obtain ⟨e3, a3, w4, q3, r3⟩ := q2 b k (cs ++ [base1 P])
      exact ⟨e3, a3, w4, q3, .of_steps harr (.of_steps r2 r3)⟩
    | exit id => exact ⟨.exit id, a2, w3, q2, .of_steps harr (.pass (x := .code _) rfl (fun _ _ => .inl (by simp)) r2)⟩
    | goto l2 => exact ⟨.goto l2, a2, w3, q2, .of_steps harr (.pass (x := .code _) rfl (fun _ _ => .inl (by simp)) r2)⟩
    | ret => exact ⟨.ret, a2, w3, q2, .of_steps harr (.pass (x := .code _) rfl (fun _ _ => .inl (by simp)) r2)⟩
    | panic ch => exact ⟨.panic ch, a2, w3, q2, .of_steps harr (.pass (x := .code _) rfl (fun _ _ => .inl (by simp)) r2)⟩
    | outgrown => exact ⟨.outgrown, a2, w3, q2, .of_steps harr (.pass (x := .code _) rfl (fun _ _ => .inl (by simp)) r2)⟩
  | exit id => exact ⟨.exit id, a1, w2, hq, .pass (x := .code _) rfl (fun _ _ => .inl (by simp)) (.pass (x := .code _) rfl (fun _ _ => .inl (by simp)) harr)⟩
  | goto l2 => exact ⟨.goto l2, a1, w2, hq, .pass (x := .code _) rfl (fun _ _ => .inl (by simp)) (.pass (x := .code _) rfl (fun _ _ => .inl (by simp)) harr)⟩
  | ret => exact ⟨.ret, a1, w2, hq, .pass (x := .code _) rfl (fun _ _ => .inl (by simp)) (.pass (x := .code _) rfl (fun _ _ => .inl (by simp)) harr)⟩
  | panic ch => exact ⟨.panic ch, a1, w2, hq, .pass (x := .code _) rfl (fun _ _ => .inl (by simp)) (.pass (x := .code _) rfl (fun _ _ => .inl (by simp)) harr)⟩
  | outgrown => exact ⟨.outgrown, a1, w2, hq, .pass (x := .code _) rfl (fun _ _ => .inl (by simp)) (.pass (x := .code _) rfl (fun _ _ => .inl (by simp)) harr)⟩
end
theorem K.OwnEK.heap {w w' : World} {base : Nat} {A : Option Addr} {es : List (Int × Int)} (h : K.OwnEK w base A es) (hh : w'.heap = w.heap) : K.OwnEK w' base A es := h.keep2 (by rw [hh]; exact Nat.le_refl _) fun _ _ _ => by rw [hh]
section
variable {w0 w w' y : World} {oB : Os} {T : TpL} {X M c : Nat} {A : Option Addr} {es : List (Int × Int)}
theorem K.GLaw.re (hw : w = w0.wi T 0 oB #[]) (h : K.GLaw w y X M A c es) (hh : w'.heap = y.heap) (hd : Drew w0 w') : K.GLaw w0 w' X M A c es := by
  refine ⟨below_re1 hw h.old hh hd, Blk.heap h.box hh, ?_⟩
  have ho := h.own
  subst hw
  exact ho.heap hh
theorem K.GLaw.lo (hw : w = w0.wi T 0 oB #[]) (hy : y = w'.wi T 0 oB #[]) (h : K.GLaw w0 w' X M A c es) : K.GLaw w y X M A c es := by
  refine ⟨below_lo hw hy h.old, blk_lo hy h.box, ?_⟩
  have ho := h.own
  subst hw hy
  exact ho.heap rfl
end
section
variable {M q : Nat} {es : List (Int × Int)} {p : List Int} {A D Y : Option Addr} {c cd cy : Nat} {n : Nat → Int} {W : World}
theorem aStable (h : AbeL M q es p) (h1 : EdgeS W W.heap.size A es) (h2 : IntS W W.heap.size Y (pileL M es p q (settN M es p q))) :
    Calls Try.prog 19 #[.agg #[.int .i64 (M : Int), .slice A es.length c], .slice Y M cy, .int .i64 (q : Int)] W (fun e w' => e = .returned (.bool true) ∧ Below W.heap.size W w') := by
  have h12 := h.pl.n12
  have h6 := h.m5
  have k := implStable (M : Int) A Y c cy es _ (q : Int) W (by omega) (by rw [pileL_len]; omega) h1 h2
  rw [h.stable, pileL_len] at k
  exact k
theorem aStableT (h : AbeL M q es p) (h1 : EdgeS W W.heap.size A es) (h2 : IntS W W.heap.size Y (pileL M es p q (settN M es p q))) :
    CallsT Try.prog 19 #[.agg #[.int .i64 (M : Int), .slice A es.length c], .slice Y M cy, .int .i64 (q : Int)] W fun v w' => v = .bool true ∧ Below W.heap.size W w' := fun c0 cs => by
  refine (callsT_of_calls prog_bodied prog_ready (R := fun x v y => v = .bool true ∧ Below x.heap.size x y) (fun oB T _ => (aStable h (wi_edges h1 _ _ _ _) (wi_ints h2 _ _ _ _)).mono fun e y h => ?_) c0 cs).mono ?_
  · obtain ⟨rfl, h⟩ := h
    exact ⟨_, rfl, rfl, h⟩
  · rintro fr cs w' ⟨h1, v, h2, ⟨oB, T, t, d, o, u, h3, h4⟩, hd⟩
    exact ⟨h1, v, h2, h3, below_real h4 hd⟩
theorem aDeg (h : AbeL M q es p) (h2 : IntS W W.heap.size Y (cntL M (settN M es p q))) :
    Calls Try.prog 21 #[.slice Y M cy] W (fun e w' => e = .returned (.int .i64 (sumV (settN M es p q) M)) ∧ Below W.heap.size W w') := by
  have h6 := h.m5
  have k := implDeg Y cy _ W (by rw [cntL_len]; omega) h2
  rw [cntL_len, deg_cnt (h.pl.ex.tops.lims h.pl) (by omega)] at k
  exact k
theorem aTop (h : AbeL M q es p) (ht : Tops M es p q n) {v : Nat} (hv : v < M) (h1 : EdgeS W W.heap.size A es) (h2 : IntS W W.heap.size Y (pileL M es p q n)) :
    Calls Try.prog 22 #[.agg #[.int .i64 (M : Int), .slice A es.length c], .slice Y M cy, .int .i64 (q : Int), .int .i64 (v : Int)] W (fun e w' => ∃ (A1 : Option Addr) (c1 m1 : Nat), e = .returned (.tuple #[.slice A1 m1 c1, .bool (canT M q es p n v)]) ∧ Below W.heap.size W w') := by
  have h12 := h.pl.n12
  have h6 := h.m5
  have k := implTop (M : Int) A Y c cy es _ (q : Int) (v : Int) W (by omega) (by rw [pileL_len]; omega) h1 h2
  rw [pileL_len, ht.can h hv] at k
  refine k.mono ?_
  rintro e w' ⟨A1, c1, rfl, -, hb⟩
  exact ⟨A1, c1, _, rfl, hb⟩
theorem aTopY (h : AbeL M q es p) (ht : Tops M es p q n) {v : Nat} (hv : v < M) (hc : canT M q es p n v = true) (h1 : EdgeS W W.heap.size A es) (h2 : IntS W W.heap.size Y (pileL M es p q n)) :
    Calls Try.prog 22 #[.agg #[.int .i64 (M : Int), .slice A es.length c], .slice Y M cy, .int .i64 (q : Int), .int .i64 (v : Int)] W (fun e w' => ∃ (A1 : Option Addr) (c1 : Nat), e = .returned (.tuple #[.slice A1 M c1, .bool true]) ∧ OwnI w' W.heap.size A1 (pileL M es p q (addAt n v 1)) ∧ Below W.heap.size W w') := by
  have h12 := h.pl.n12
  have h6 := h.m5
  have k := implTop (M : Int) A Y c cy es _ (q : Int) (v : Int) W (by omega) (by rw [pileL_len]; omega) h1 h2
  rw [(ht.topped h hv hc).1, pileL_len, ht.can h hv, hc] at k
  refine k.mono ?_
  rintro e w' ⟨A1, c1, rfl, ho, hb⟩
  exact ⟨A1, c1, by rw [pileL_len], ho, hb⟩
end
theorem aSame {M : Nat} {r : List Int} {X Y : Option Addr} {cx cy : Nat} {W : World} (hr : r.length = M) (hM : M ≤ 6) (h1 : IntS W W.heap.size X r) (h2 : IntS W W.heap.size Y r) :
    Calls Try.prog 23 #[.slice X M cx, .slice Y M cy] W (fun e w' => e = .returned (.bool true) ∧ w' = W) := by
  have h := sameI_any X Y cx cy r r W (by omega) (by omega) h1 h2
  rw [hr, decide_eq_true rfl] at h
  exact h
theorem met {M u : Nat} (hu : u < M) (K : Nat) : ∃ i, i < M ∧ (i + K) % M = u := by
  have h0 : 0 < M := by omega
  have h1 := Nat.mod_lt K h0
  refine ⟨(u + (M - K % M)) % M, Nat.mod_lt _ h0, ?_⟩
  rw [Nat.add_mod, Nat.mod_mod, ← Nat.add_mod, Nat.add_assoc]
  have h2 : M - K % M + K = M * (K / M + 1) := by
    have := Nat.div_add_mod K M
    rw [Nat.mul_add]
    omega
  rw [h2, Nat.add_mul_mod_self_left, Nat.mod_eq_of_lt hu]
set_option maxRecDepth 100000 in
set_option maxHeartbeats 8000000 in
theorem lawTAbelian (A0 : Option Addr) (c0 : Nat) (xs : List Int) (w0 : World) (hn : xs.length ≤ 9223372036854775807) (hS0 : CodeS w0 w0.heap.size A0 xs) :
    LastT Try.prog 3 #[.slice A0 xs.length c0] w0 (LawEnd w0) := by
  obtain ⟨i0, hi, hz0, hz1, hz2⟩ := info_parts intInfo
  by_cases hs : xs.length ≤ 1048576
  · have hsi : (xs.length : Int) ≤ 1048576 := by omega
    intro cs
    rw [enter_at _ Try.func3 rfl]
    simp only [Try.ntmps3, List.size_toArray, List.length_cons, List.length_nil, Nat.reduceAdd, Nat.reduceSub, Array.replicate_succ, Array.replicate_zero, List.push_toArray, List.append_toArray, List.nil_append, List.cons_append]
    refine toD_preC prog_bodied prog_ready (l := [_, _, _, _, _]) (rest := .seq _ _) (Q0 := fun _ => bodyPost Try.prog Try.f3 (fun e y => e = .returned (.bool true) ∧ HB w0 y)) (fun _ _ _ h => by cases h.1) ?seg1 (fun e a w h0 h1 h2 => law_quit prog_bodied prog_ready Try.func3 (by kernel_rfl) h2 (.refl _) h1)
    intro oB T _
    obtain ⟨w, hw_⟩ : ∃ x, x = w0.wi T 0 oB #[] := ⟨_, rfl⟩
    have HWX := Lib.hid (hb_of hw_)
    have HW_ := Lib.hid hw_
    have hS : CodeS w w.heap.size A0 xs := by rw [hw_]; exact hS0
    have HS := Lib.hid hS
    have HG := Lib.hid (K.makeGraph_any w A0 c0 xs hs hS)
    rw [← hw_]
    clear hS hw_
    go_wp2_with (refine preWp_one fun _ _ => ?_)
    refine HG.out.mono ?_
    rintro e w1 ⟨M, A, c, es, rfl, hM2, hM5, hel, hg, ho, hb1⟩
    obtain ⟨W1, hW1⟩ : ∃ X : World, X = w1.alloc (Obj.cells #[.int .i64 (M : Int), .slice A es.length c] 25) := ⟨_, rfl⟩
    have G1 := Lib.hid (show K.GLaw w W1 w1.heap.size M A c es from by
      rw [hW1]
      exact ⟨hb1.alloc hb1.size _, Blk.new w1 _ _, ho.below ((Below.refl _ _).alloc (Nat.le_refl _) _)⟩)
    have HW1 := Lib.hid hW1
    have HGR := Lib.hid hg
    obtain ⟨x0, x1, x2, x3, x4⟩ := box_facts G1.out.box
    clear ho hb1 hW1 hg HG
    have hrm := fun (y : Int) (hy0 : 0 ≤ y) => Lib.hid (show 0 ≤ y % (M : Int) ∧ y % (M : Int) < (M : Int) ∧ IntKind.i64.wrap (y % (M : Int)) = y % (M : Int) from by
      have h1 := Int.emod_nonneg y (show (M : Int) ≠ 0 by omega)
      have h2 := Int.emod_lt_of_pos y (show (0 : Int) < (M : Int) by omega)
      refine ⟨h1, h2, ?_⟩
      rw [IntKind.wrap_i64]
      omega)
    have hN0 : ((M : Int) == 0) = false := by simp; omega
    have hN7 : (M : Int) ≠ 0 := by omega
    have hN9 : ¬ M = 0 := by omega
    have MN := fun (W : World) (hb : Below W1.heap.size W1 W) => Lib.hid (makeNum_any 60 (by omega) W A0 c0 xs hs ((HS.out.keep (G1.out.old.trans (hb.mono G1.out.old.size))).up (Nat.le_trans G1.out.old.size hb.size)))
    go_wp2_with (refine preWp_one fun _ _ => ?_)
    rw [← HW1.out]
    go_region_held3 (fun w' => w'.cell? ⟨w1.heap.size, 0, none⟩ = some (.int .i64 (M : Int)) ∧ w'.cell? ⟨w1.heap.size, 1, none⟩ = some (.slice A es.length c) ∧ Below W1.heap.size W1 w')
      (first
        | exact ⟨x0, x1, (Below.refl _ _).drew⟩
        | exact keepX (by assumption) hb3 x4 (Nat.le_refl _))
      ((go_at_call 16; refine (MN _ (Below.refl _ _).drew).out.mono ?_; rintro e w3 ⟨y, rfl, hy0, hy1, hb3⟩; obtain ⟨hr0, hr1, hr2⟩ := (hrm y hy0).out))
    obtain ⟨q, hqe, hq⟩ : ∃ q : Nat, (q : Int) = y.tmod (M : Int) ∧ q < M := by
      rw [Int.tmod_eq_emod_of_nonneg hy0]
      exact ⟨(y % (M : Int)).toNat, by omega, by omega⟩
    rw [← hqe]
    have hb3' : Below W1.heap.size W1 w3 := (Below.refl _ _).drew.trans hb3
    have G3 := Lib.hid (G1.out.next hb3')
    clear hrm hr0 hr1 hr2 hy0 hy1 hqe hb3 hb3' G1 x0 x1 x2 x3 x4 MN HW1
    obtain ⟨x0, x1, x2, x3, x4⟩ := box_facts G3.out.box
    have hqi : (q : Int) < (M : Int) := by omega
    have hq0 : (0 : Int) ≤ (q : Int) := Int.natCast_nonneg _
    have HP := Lib.hid (makePile_any w3 20 M q (by omega) A es.length c A0 c0 xs (by omega) hq hs ((HS.out.keep G3.out.old).up G3.out.old.size))
    go_wp2_with (refine preWp_one fun _ _ => ?_)
    refine HP.out.mono ?_
    rintro e w4 ⟨D, cd, d, rfl, HDL, hbd, hz, hod, hb4⟩
    have hdl := HDL.out
    rw [hdl]
    have G4 := Lib.hid (G3.out.next hb4)
    have HD4 := Lib.hid (hod.mono (base' := w.heap.size) G3.out.old.size)
    obtain ⟨hAb, hpb⟩ := AbeL.of HGR.out hM5 hdl hq hbd hz.out
    have HAB := Lib.hid hAb
    have HPB := Lib.hid hpb
    clear hod hb4 hbd hz hAb hpb HP G3 x0 x1 x2 x3 x4
    obtain ⟨x0, x1, x2, x3, x4⟩ := box_facts G4.out.box
    go_wp2_with (refine preWp_one fun _ _ => ?_)
    refine preWp_nil ?_
    intro w5 hw5 hd5
    have GA := K.GLaw.re HW_.out G4.out hw5 hd5
    have HDA : OwnI w5 w0.heap.size D d := (by
      have h := HD4.out.heap hw5
      rw [HW_.out] at h
      exact h)
    have HST := implStabT (M : Int) A D c cd es d (q : Int) w5 (by have := HAB.out.pl.n12; omega) (by rw [hdl]; omega) GA.own.edges GA.own.edgeK HDA.ints
    rw [hdl, HPB.out, stabX_t HPB.out, stabC_t HPB.out] at HST
    have z0 : ∀ t d o u, (w5.wi t d o u).cell? ⟨w1.heap.size, 0, none⟩ = some (.int .i64 (M : Int)) := fun _ _ _ _ => (box_facts GA.box).1
    have z1 : ∀ t d o u, (w5.wi t d o u).cell? ⟨w1.heap.size, 1, none⟩ = some (.slice A es.length c) := fun _ _ _ _ => (box_facts GA.box).2.1
    clear x0 x1 x2 x3 x4 hw5 hd5 G4 HD4 HS HWX HW_
    refine ToD.ctl prog_bodied prog_ready (fun _ _ => step_seq) ?_
    refine ToD.regionL prog_bodied prog_ready (l := [0, 1, 2, 3, 4, 5, 6, 7, 8, 9, 10]) rfl ?_
    refine ToD.value prog_bodied prog_ready (v := .agg #[.int .i64 (M : Int), .slice A es.length c]) rfl rfl rfl (fun t d o u => by
      have d0 := z0 t d o u
      have d1 := z1 t d o u
      simp [execOp, go_sem, Act.eval, d0, d1]) ?_
    simp only [List.setIfInBounds_toArray, List.set_cons_zero, List.set_cons_succ]
    refine ToD.value prog_bodied prog_ready (v := .slice D M cd) rfl rfl rfl (fun _ _ _ _ => by simp [execOp, go_sem, Act.eval]) ?_
    simp only [List.setIfInBounds_toArray, List.set_cons_zero, List.set_cons_succ]
    refine ToD.value prog_bodied prog_ready (v := .int .i64 (q : Int)) rfl rfl rfl (fun _ _ _ _ => by simp [execOp, go_sem, Act.eval]) ?_
    simp only [List.setIfInBounds_toArray, List.set_cons_zero, List.set_cons_succ]
    refine ToD.call prog_bodied prog_ready (f := 18) (args := #[.agg #[.int .i64 (M : Int), .slice A es.length c], .slice D M cd, .int .i64 (q : Int)]) rfl rfl rfl (fun t d o u => by simp [execOp, go_sem, Act.eval, resolve]) HST ?_
    rintro u w6 ⟨X, C, cx, cc, hv, hox, hoc, -, hb6⟩
    rw [pileL_len, cntL_len] at hv
    cases hv
    have GB6 := GA.next hb6
    have HD6 := HDA.below hb6
    have HX6 := hox.mono (base' := w0.heap.size) GA.old.size
    have HC6 := hoc.mono (base' := w0.heap.size) GA.old.size
    clear hox hoc hb6 HST HDA GA z0 z1
    simp only [List.setIfInBounds_toArray, List.set_cons_zero, List.set_cons_succ]
    refine ToD.value prog_bodied prog_ready (v := .tuple #[.slice X M cx, .slice C M cc, .bool true]) rfl rfl rfl (fun _ _ _ _ => by simp [execOp, go_sem, Act.eval]) ?_
    simp only [List.setIfInBounds_toArray, List.set_cons_zero, List.set_cons_succ]
    refine ToD.value prog_bodied prog_ready (v := .slice X M cx) rfl rfl rfl (fun _ _ _ _ => by simp [execOp, go_sem, Act.eval]) ?_
    simp only [List.setIfInBounds_toArray, List.set_cons_zero, List.set_cons_succ]
    refine ToD.value prog_bodied prog_ready (v := .slice C M cc) rfl rfl rfl (fun _ _ _ _ => by simp [execOp, go_sem, Act.eval]) ?_
    simp only [List.setIfInBounds_toArray, List.set_cons_zero, List.set_cons_succ]
    refine ToD.value prog_bodied prog_ready (v := .bool true) rfl rfl rfl (fun _ _ _ _ => by simp [execOp, go_sem, Act.eval]) ?_
    simp only [List.setIfInBounds_toArray, List.set_cons_zero, List.set_cons_succ]
    refine ToD.value prog_bodied prog_ready (v := .slice X M cx) rfl rfl rfl (fun _ _ _ _ => by simp [execOp, go_sem, Act.eval]) ?_
    simp only [List.setIfInBounds_toArray, List.set_cons_zero, List.set_cons_succ]
    refine ToD.value prog_bodied prog_ready (v := .slice C M cc) rfl rfl rfl (fun _ _ _ _ => by simp [execOp, go_sem, Act.eval]) ?_
    simp only [List.setIfInBounds_toArray, List.set_cons_zero, List.set_cons_succ]
    refine ToD.value prog_bodied prog_ready (v := .bool true) rfl rfl rfl (fun _ _ _ _ => by simp [execOp, go_sem, Act.eval]) ?_
    simp only [List.setIfInBounds_toArray, List.set_cons_zero, List.set_cons_succ]
    refine ToD.ctl prog_bodied prog_ready (fun _ _ => step_region_end) ?_
    have z0 : ∀ t d o u, (w6.wi t d o u).cell? ⟨w1.heap.size, 0, none⟩ = some (.int .i64 (M : Int)) := fun _ _ _ _ => (box_facts GB6.box).1
    have z1 : ∀ t d o u, (w6.wi t d o u).cell? ⟨w1.heap.size, 1, none⟩ = some (.slice A es.length c) := fun _ _ _ _ => (box_facts GB6.box).2.1
    refine ToD.ctl prog_bodied prog_ready (fun _ _ => step_seq) ?_
    refine ToD.ctl prog_bodied prog_ready (fun _ _ => step_seq) ?_
    refine ToD.regionL prog_bodied prog_ready (l := [0, 1, 2, 3, 4, 5, 6, 7, 8, 9, 10, 11, 12, 13, 14, 15, 16, 17, 18, 19, 20, 21, 22, 23, 24]) rfl ?_
    refine ToD.value prog_bodied prog_ready (v := .bool true) rfl rfl rfl (fun _ _ _ _ => by simp [execOp, go_sem, Act.eval]) ?_
    simp only [List.setIfInBounds_toArray, List.set_cons_zero, List.set_cons_succ]
    refine ToD.value prog_bodied prog_ready (v := .bool false) rfl rfl rfl (fun _ _ _ _ => by simp [execOp, go_sem, Act.eval]) ?_
    simp only [List.setIfInBounds_toArray, List.set_cons_zero, List.set_cons_succ]
    refine ToD.value prog_bodied prog_ready (v := .bool false) rfl rfl rfl (fun _ _ _ _ => by simp [execOp, go_sem, Act.eval]) ?_
    simp only [List.setIfInBounds_toArray, List.set_cons_zero, List.set_cons_succ]
    refine ToD.value prog_bodied prog_ready (v := .slice C M cc) rfl rfl rfl (fun _ _ _ _ => by simp [execOp, go_sem, Act.eval]) ?_
    simp only [List.setIfInBounds_toArray, List.set_cons_zero, List.set_cons_succ]
    refine ToD.value prog_bodied prog_ready (v := .int .i64 (M : Int)) rfl rfl rfl (fun _ _ _ _ => by simp [execOp, go_sem, Act.eval]) ?_
    simp only [List.setIfInBounds_toArray, List.set_cons_zero, List.set_cons_succ]
    refine ToD.value prog_bodied prog_ready (v := .pointer (some ⟨w1.heap.size, 0, none⟩)) rfl rfl rfl (fun _ _ _ _ => by simp [execOp, go_sem, Act.eval]) ?_
    simp only [List.setIfInBounds_toArray, List.set_cons_zero, List.set_cons_succ]
    refine ToD.value prog_bodied prog_ready (v := .int .i64 (M : Int)) rfl rfl rfl (fun t d o u => by
      have d0 := z0 t d o u
      simp [execOp, go_sem, Act.eval, d0]) ?_
    simp only [List.setIfInBounds_toArray, List.set_cons_zero, List.set_cons_succ]
    refine ToD.value prog_bodied prog_ready (v := .bool false) rfl rfl rfl (fun _ _ _ _ => by simp [execOp, go_sem, Act.eval]) ?_
    simp only [List.setIfInBounds_toArray, List.set_cons_zero, List.set_cons_succ]
    refine ToD.value prog_bodied prog_ready (v := .bool false) rfl rfl rfl (fun _ _ _ _ => by simp [execOp, go_sem, Act.eval]) ?_
    simp only [List.setIfInBounds_toArray, List.set_cons_zero, List.set_cons_succ]
    refine ToD.value prog_bodied prog_ready (v := .bool false) rfl rfl rfl (fun _ _ _ _ => by simp [execOp, go_sem, Act.eval]) ?_
    simp only [List.setIfInBounds_toArray, List.set_cons_zero, List.set_cons_succ]
    refine ToD.value prog_bodied prog_ready (v := .agg #[.int .i64 (M : Int), .slice A es.length c]) rfl rfl rfl (fun t d o u => by
      have d0 := z0 t d o u
      have d1 := z1 t d o u
      simp [execOp, go_sem, Act.eval, d0, d1]) ?_
    simp only [List.setIfInBounds_toArray, List.set_cons_zero, List.set_cons_succ]
    refine ToD.value prog_bodied prog_ready (v := .slice X M cx) rfl rfl rfl (fun _ _ _ _ => by simp [execOp, go_sem, Act.eval]) ?_
    simp only [List.setIfInBounds_toArray, List.set_cons_zero, List.set_cons_succ]
    refine ToD.value prog_bodied prog_ready (v := .int .i64 (q : Int)) rfl rfl rfl (fun _ _ _ _ => by simp [execOp, go_sem, Act.eval]) ?_
    simp only [List.setIfInBounds_toArray, List.set_cons_zero, List.set_cons_succ]
    refine ToD.call prog_bodied prog_ready (f := 19) (args := #[.agg #[.int .i64 (M : Int), .slice A es.length c], .slice X M cx, .int .i64 (q : Int)]) rfl rfl rfl (fun t d o u => by simp [execOp, go_sem, Act.eval, resolve]) (aStableT HAB.out GB6.own.edges HX6.ints) ?_
    rintro u w7 ⟨rfl, hb7⟩
    have GC7 := GB6.next hb7
    have HD7 := HD6.below hb7
    have HX7 := HX6.below hb7
    have HC7 := HC6.below hb7
    clear hb7 GB6 HD6 HX6 HC6 z0 z1
    have z0 : ∀ t d o u, (w7.wi t d o u).cell? ⟨w1.heap.size, 0, none⟩ = some (.int .i64 (M : Int)) := fun _ _ _ _ => (box_facts GC7.box).1
    have z1 : ∀ t d o u, (w7.wi t d o u).cell? ⟨w1.heap.size, 1, none⟩ = some (.slice A es.length c) := fun _ _ _ _ => (box_facts GC7.box).2.1
    simp only [List.setIfInBounds_toArray, List.set_cons_zero, List.set_cons_succ]
    refine ToD.value prog_bodied prog_ready (v := .bool false) rfl rfl rfl (fun _ _ _ _ => by simp [execOp, go_sem, Act.eval]) ?_
    simp only [List.setIfInBounds_toArray, List.set_cons_zero, List.set_cons_succ]
    refine ToD.value prog_bodied prog_ready (v := .bool false) rfl rfl rfl (fun _ _ _ _ => by simp [execOp, go_sem, Act.eval]) ?_
    simp only [List.setIfInBounds_toArray, List.set_cons_zero, List.set_cons_succ]
    refine ToD.value prog_bodied prog_ready (v := .bool false) rfl rfl rfl (fun _ _ _ _ => by simp [execOp, go_sem, Act.eval]) ?_
    simp only [List.setIfInBounds_toArray, List.set_cons_zero, List.set_cons_succ]
    refine ToD.value prog_bodied prog_ready (v := .agg #[.int .i64 (M : Int), .slice A es.length c]) rfl rfl rfl (fun t d o u => by
      have d0 := z0 t d o u
      have d1 := z1 t d o u
      simp [execOp, go_sem, Act.eval, d0, d1]) ?_
    simp only [List.setIfInBounds_toArray, List.set_cons_zero, List.set_cons_succ]
    refine ToD.value prog_bodied prog_ready (v := .slice D M cd) rfl rfl rfl (fun _ _ _ _ => by simp [execOp, go_sem, Act.eval]) ?_
    simp only [List.setIfInBounds_toArray, List.set_cons_zero, List.set_cons_succ]
    refine ToD.value prog_bodied prog_ready (v := .int .i64 (q : Int)) rfl rfl rfl (fun _ _ _ _ => by simp [execOp, go_sem, Act.eval]) ?_
    simp only [List.setIfInBounds_toArray, List.set_cons_zero, List.set_cons_succ]
    have HAV := implAvalT (M : Int) A D c cd es d (q : Int) w7 (by have := HAB.out.pl.n12; omega) (by rw [hdl]; omega) GC7.own.edges GC7.own.edgeK HD7.ints
    rw [hdl, avalC_t HPB.out] at HAV
    refine ToD.call prog_bodied prog_ready (f := 20) (args := #[.agg #[.int .i64 (M : Int), .slice A es.length c], .slice D M cd, .int .i64 (q : Int)]) rfl rfl rfl (fun t d o u => by simp [execOp, go_sem, Act.eval, resolve]) HAV ?_
    rintro u w8r ⟨rfl, hb8⟩
    have GD8 := GC7.next hb8
    have HD8r := HD7.below hb8
    have HX8r := HX7.below hb8
    have HC8r := HC7.below hb8
    have hdr : Drew w0 w8r := drew_of GD8.old
    clear hb8 HAV GC7 HD7 HX7 HC7 z0 z1
    simp only [List.setIfInBounds_toArray, List.set_cons_zero, List.set_cons_succ]
    refine toD_tail2 prog_bodied prog_ready (k0 := 21) (Q0 := fun _ => bodyPost Try.prog Try.f3 (fun e y => e = .returned (.bool true) ∧ HB w0 y)) (fun _ _ _ h => by cases h.1) rfl ?_ (fun e a w h1 h2 => law_quit prog_bodied prog_ready Try.func3 (by kernel_rfl) h2 hdr h1)
    intro oB2 T2 _
    obtain ⟨w, hw_⟩ : ∃ x, x = w0.wi T2 0 oB2 #[] := ⟨_, rfl⟩
    obtain ⟨w6, hw6_⟩ : ∃ x, x = w8r.wi T2 0 oB2 #[] := ⟨_, rfl⟩
    have HWX := Lib.hid (hb_of hw_)
    have HS := Lib.hid (show CodeS w w.heap.size A0 xs by rw [hw_]; exact hS0)
    have G6 := Lib.hid (K.GLaw.lo hw_ hw6_ GD8)
    have HD6 := Lib.hid (show OwnI w6 w.heap.size D d by rw [hw_]; exact own_lo hw6_ HD8r)
    have HX6 := Lib.hid (show OwnI w6 w.heap.size X (pileL M es d q (settN M es d q)) by rw [hw_]; exact own_lo hw6_ HX8r)
    have HC6 := Lib.hid (show OwnI w6 w.heap.size C (cntL M (settN M es d q)) by rw [hw_]; exact own_lo hw6_ HC8r)
    rw [← hw6_]
    clear hw_ hw6_ GD8 HD8r HX8r HC8r hdr hS0
    simp only [List.drop_succ_cons, List.drop_zero]
    obtain ⟨x0, x1, x2, x3, x4⟩ := box_facts G6.out.box
    have DG := fun (W : World) (h : Below w6.heap.size w6 W) => Lib.hid (aDeg (Y := C) (cy := cc) HAB.out (HC6.out.below h).ints)
    go_wp2_with fail
    refine (DG _ (Below.refl _ _)).out.mono ?_
    rintro e w8 ⟨rfl, hb8⟩
    have hb68 : Below w6.heap.size w6 w8 := hb8
    have G8 := Lib.hid (G6.out.next hb68)
    have HD8 := Lib.hid (HD6.out.below hb68)
    have HX8 := Lib.hid (HX6.out.below hb68)
    have HC8 := Lib.hid (HC6.out.below hb68)
    obtain ⟨sm, hsm⟩ : ∃ z, z = sumV (settN M es d q) M := ⟨_, rfl⟩
    rw [← hsm]
    have hsq : (sm != sm) = false := by simp
    clear hb8 hb68 DG hsm G6 HD6 HX6 HC6 x0 x1 x2 x3 x4
    obtain ⟨x0, x1, x2, x3, x4⟩ := box_facts G8.out.box
    have HN := Lib.hid (makeNum_any 30 (by omega) w8 A0 c0 xs hs ((HS.out.keep G8.out.old).up G8.out.old.size))
    go_wp2_with fail
    refine HN.out.mono ?_
    rintro e w9 ⟨t, rfl, ht0, ht1, hb9⟩
    have G9 := Lib.hid (G8.out.next hb9)
    have HX9 := Lib.hid (HX8.out.below hb9)
    have HC9 := Lib.hid (HC8.out.below hb9)
    have hd9 := HD8.out.below hb9
    obtain ⟨bd, od, rfl, hbd0, hbd, hcd⟩ := hd9 (by omega)
    have HCD := Lib.hid hcd
    clear hb9 hd9 hcd HN G8 HD8 HX8 HC8 x0 x1 x2 x3 x4
    have HO0 := Lib.hid (own_emptyF w9 w9.heap.size (Nat.le_refl _) 3)
    have HB0 : Below w9.heap.size w9 (w9.alloc (Obj.cells #[] 3)) := (Below.refl _ _).alloc (Nat.le_refl _) _
    have G10 := Lib.hid (G9.out.next HB0)
    have hw10 : (w9.alloc (Obj.cells #[] 3)).heap.size = w9.heap.size + 1 := by simp
    go_wp2_with (at_builtin; refine wpList_append_own _ rfl _ _ 28 rfl w9.heap.size 3 i0 (.int .i64 0) 1 8 Try.underlying28 hi hz0 hz1 hz2 rfl (by decide) _ _ _ rfl HO0.out ⟨bd, od, none⟩ M cd (intCells d) rfl ?k0 ?k1 ?k2 ?k3 ?k4 ?k5 ?_)
    case k0 => simp [intCells, HDL.out]
    case k1 =>
      intro j u hj
      simp only [intCells, List.getElem?_map, Option.map_eq_some_iff] at hj
      obtain ⟨z, hz, rfl⟩ := hj
      rw [Addr.add_lit]
      exact (HB0.cell (p := ⟨bd, od + j, none⟩) hbd).trans (HCD.out j z hz).1
    case k2 =>
      intro u hu
      simp only [intCells, List.mem_map] at hu
      obtain ⟨z, _, rfl⟩ := hu
      rfl
    case k3 => unfold maxLen; omega
    case k4 => omega
    case k5 => simp
    intro v' w11 hown hgrow _
    obtain ⟨g5, cg5, rfl, hg5, hch⟩ := Chips.of_own (l := d) hown (by omega)
    have hb11 : Below w9.heap.size w9 w11 := HB0.trans ((Below.refl _ _).grown hgrow (by simp) (fun k hk => (HO0.out.lt k hk).1))
    have G11 := Lib.hid (G9.out.next hb11)
    have HX11 := Lib.hid (HX9.out.below hb11)
    have HC11 := Lib.hid (HC9.out.below hb11)
    have HY11 := Lib.hid hch
    have hlt11 := hch.lt
    have hws := G9.out.old.size
    have hmk := make_ints M (by omega)
    clear hown hgrow hch hb11 HB0 HO0 G10 hw10 G9 HX9 HC9 HCD hi hz0 hz1 hz2 hbd0 hbd
    obtain ⟨x0, x1, x2, x3, x4⟩ := box_facts G11.out.box
    go_wp2
    have HZC := Blk.new w11 3 (intCells (List.replicate M 0)).toArray
    have HN0 := Lib.hid (show Chips (w11.alloc (Obj.cells (intCells (List.replicate M 0)).toArray 3)) w11.heap.size (cntL M fun _ => 0) from by
      rw [cntL_zero]
      exact ⟨HZC.lt, fun i z hz => ⟨by rw [HZC.cell, List.getElem?_toArray, intCells, List.getElem?_map, hz]; rfl, HZC.frozen i⟩⟩)
    have HY0 := Lib.hid (HY11.out.below ((Below.refl _ _).alloc (Nat.le_refl _) (Obj.cells (intCells (List.replicate M 0)).toArray 3)))
    have HBN := Lib.hid (show Below w11.heap.size w11 (w11.alloc (Obj.cells (intCells (List.replicate M 0)).toArray 3)) from (Below.refl _ _).alloc (Nat.le_refl _) _)
    have HP0 := Lib.hid (pileL_zero (es := es) HAB.out.pl.len hq HAB.out.pl.zero)
    have HS0 := Lib.hid (show sumV (fun _ : Nat => (0 : Int)) M = 0 by have := sumV_const 0 M; omega)
    obtain ⟨tn, rfl⟩ : ∃ u : Nat, t = (u : Int) := ⟨t.toNat, by omega⟩
    clear HZC hmk x0 x1 x2 x3 x4 HPB
    go_loopw [10, 12, 13, 14] (fun y k _ _ wr => ∃ (r : Nat) (n : Nat → Int) (Ay : Option Addr) (cy : Nat), k = .int .i64 r ∧ y = .slice Ay M cy ∧ Hid (sumV n M = (r : Int)) ∧ Tops M es d q n ∧ OwnI wr w.heap.size Ay (pileL M es d q n) ∧ (∀ g o, Ay = some ⟨g, o, none⟩ → g ≠ w11.heap.size) ∧ Chips wr w11.heap.size (cntL M n) ∧ Below w11.heap.size w11 wr) (fun _ k _ _ _ => 5000 - (intOf k).toNat)
    case atStart =>
      exact ⟨0, fun _ => 0, some ⟨g5, 0, none⟩, cg5, rfl, rfl, Lib.hid HS0.out, Tops.zero, by rw [HP0.out]; exact HY0.out.own (by omega), fun g o e => by simp only [Option.some.injEq, Addr.mk.injEq, and_true] at e; omega, HN0.out, HBN.out⟩
    case round =>
      obtain ⟨r, n, Ay, cy, rfl, rfl, HR, ht, hoy, hap, hcn, hB⟩ := hrel
      have HT := Lib.hid ht
      have HOY := Lib.hid hoy
      have HAP := Lib.hid hap
      have HCN := Lib.hid hcn
      have HB := Lib.hid hB
      have hr5 : r ≤ 750 := by
        have h1 := (ht.rounds HAB.out).2
        have h2 := HR.out
        omega
      have hri : (r : Int) < 5000 := by omega
      clear ht hoy hap hcn hB HN0 HY0 HBN HP0 HS0
      obtain ⟨wo, hwo⟩ : ∃ X, X = wr := ⟨_, rfl⟩
      subst hwo
      obtain ⟨x0, x1, x2, x3, x4⟩ := box_facts (G11.out.next HB.out).box
      go_wp2
      go_loopw [13, 14] (fun a i wq => ∃ (j : Nat) (z : Int), i = .int .i64 j ∧ a = .int .i64 z ∧ j ≤ M ∧ Hid ((z = -1 ∧ ∀ u, u < j → canT M q es d n ((u + (r + tn)) % M) = false) ∨ ∃ v : Nat, v < M ∧ z = (v : Int) ∧ canT M q es d n v = true) ∧ Below wo.heap.size wo wq) (fun _ i _ => M - (intOf i).toNat)
      case atStart => exact ⟨0, -1, rfl, rfl, Nat.zero_le _, Lib.hid (.inl ⟨rfl, fun u hu => absurd hu (by omega)⟩), Below.refl _ _⟩
      case round =>
        obtain ⟨j, z, rfl, rfl, hj, HZ, hbq⟩ := hrel
        have HBQ := Lib.hid hbq
        have HG := Lib.hid (G11.out.next (HB.out.trans (hbq.mono HB.out.size)))
        clear hbq x0 x1 x2 x3 x4
        obtain ⟨x0, x1, x2, x3, x4⟩ := box_facts HG.out.box
        by_cases hlt : j < M
        · have hlti : (j : Int) < (M : Int) := by omega
          have ew1 : IntKind.i64.wrap ((j : Int) + (r : Int)) = (j : Int) + (r : Int) := by rw [IntKind.wrap_i64]; omega
          have ew2 : IntKind.i64.wrap ((j : Int) + (r : Int) + (tn : Int)) = (j : Int) + (r : Int) + (tn : Int) := by rw [IntKind.wrap_i64]; omega
          obtain ⟨v, hve, hv, hvv⟩ : ∃ v : Nat, ((j : Int) + (r : Int) + (tn : Int)).tmod (M : Int) = (v : Int) ∧ v < M ∧ v = (j + (r + tn)) % M := ⟨(j + (r + tn)) % M, by rw [show (j : Int) + (r : Int) + (tn : Int) = ((j + (r + tn) : Nat) : Int) by omega]; rfl, Nat.mod_lt _ (by omega), rfl⟩
          have ew3 : IntKind.i64.wrap (v : Int) = (v : Int) := by rw [IntKind.wrap_i64]; omega
          have HTP := Lib.hid (aTop (A := A) (c := c) (Y := Ay) (cy := cy) HAB.out HT.out hv HG.out.own.edges (HOY.out.below HBQ.out).ints)
          have HVV := Lib.hid hvv
          clear hvv
          go_wp2_with fail
          refine HTP.out.mono ?_
          rintro e w12 ⟨A1, c1, m1, rfl, hb12⟩
          have hbz := HBQ.out.trans (hb12.mono HBQ.out.size)
          have HBZ := Lib.hid hbz
          clear hb12 hbz HTP HG
          cases hc : canT M q es d n v with
          | true =>
            have HC := Lib.hid hc
            clear hc
            go_wp2
            exact ⟨⟨j + 1, (v : Int), by go_num, rfl, by omega, Lib.hid (.inr ⟨v, hv, rfl, HC.out⟩), HBZ.out⟩, by simp [intOf]; omega⟩
          | false =>
            have HC := Lib.hid hc
            clear hc
            go_wp2
            refine ⟨⟨j + 1, z, by go_num, rfl, by omega, Lib.hid ?_, HBZ.out⟩, by simp [intOf]; omega⟩
            rcases HZ.out with ⟨h1, h2⟩ | h
            · refine .inl ⟨h1, fun u hu => ?_⟩
              by_cases e : u = j
              · rw [e, ← HVV.out]
                exact HC.out
              · exact h2 u (by omega)
            · exact .inr h
        · have hjM : M = j := by omega
          subst hjM
          have hHZ := HZ.out
          have HBW := Lib.hid (HB.out.trans (HBQ.out.mono HB.out.size))
          have HGW := Lib.hid (G11.out.next HBW.out).old
          clear HZ hlt
          rcases hHZ with ⟨rfl, hno⟩ | ⟨v, hv, rfl, hcan⟩
          · have HNE := Lib.hid (HT.out.ended HAB.out fun u hu => by
              obtain ⟨i, hi, e⟩ := met hu (r + tn)
              rw [← e]
              exact hno i hi)
            have S1 := Lib.hid (aSame (X := X) (Y := Ay) (cx := cx) (cy := cy) (pileL_len M es d q (settN M es d q)) (by omega) (HX11.out.below HBW.out).ints (by have h := (HOY.out.below HBQ.out).ints; rwa [HNE.out] at h))
            have S2 := Lib.hid (aSame (X := C) (Y := some ⟨w11.heap.size, 0, none⟩) (cx := cc) (cy := M) (cntL_len M (settN M es d q)) (by omega) (HC11.out.below HBW.out).ints (by have h := (HCN.out.below HBQ.out).ints; rwa [HNE.out] at h))
            clear hno HG
            go_wp2_with fail
            refine S1.out.mono ?_
            rintro e w' ⟨rfl, rfl⟩
            go_wp2_with fail
            refine S2.out.mono ?_
            rintro e w' ⟨rfl, rfl⟩
            go_wp2
            go_ret
            exact ⟨rfl, HWX.out _ HGW.out⟩
          · have hvi : ¬ ((v : Int) < 0) := by omega
            have hv0 : (0 : Int) ≤ (v : Int) := Int.natCast_nonneg _
            have hv1 : (v : Int) < (M : Int) := by omega
            have HTP := Lib.hid (aTopY (A := A) (c := c) (Y := Ay) (cy := cy) HAB.out HT.out hv hcan HG.out.own.edges (HOY.out.below HBQ.out).ints)
            have HT2 := Lib.hid (HT.out.topped HAB.out hv hcan).2
            have hnv := (HT.out.lims HAB.out.pl) v
            have hnw : IntKind.i64.wrap (n v + 1) = n v + 1 := by rw [IntKind.wrap_i64]; omega
            have hrw : IntKind.i64.wrap ((r : Int) + 1) = (r : Int) + 1 := by rw [IntKind.wrap_i64]; omega
            have HSA := Lib.hid (show sumV (addAt n v 1) M = ((r + 1 : Nat) : Int) by rw [sumV_addAt, if_pos hv, HR.out]; omega)
            clear hcan
            go_wp2_with fail
            refine HTP.out.mono ?_
            rintro e w12 ⟨A1, c1, rfl, hor, hb12⟩
            have hcn := (HCN.out.below HBQ.out).below hb12
            have hlw := (HCN.out.below HBQ.out).lt
            have hws2 := HGW.out.size
            obtain ⟨k1, k2⟩ := hcn.cell v (n v) (cntL_at hv)
            have hset := hcn.set_ (a := v) (by rw [cntL_len]; exact hv) (n v + 1)
            rw [cntL_set hv] at hset
            have HCN2 := Lib.hid hset
            have HB2 := Lib.hid ((HBW.out.trans (hb12.mono HBW.out.size)).setCell (p := ⟨w11.heap.size, v, none⟩) (Nat.le_refl _) (.int .i64 (n v + 1)))
            have HOR := Lib.hid (show OwnI (w12.setCell ⟨w11.heap.size, v, none⟩ (.int .i64 (n v + 1))) w.heap.size A1 (pileL M es d q (addAt n v 1)) from fun hp => by
              obtain ⟨g, o, e, q1, q2, q3⟩ := hor hp
              refine ⟨g, o, e, by omega, by simpa [World.setCell] using q2, fun i z hz => ?_⟩
              have hbl := Below.heap_setCell w12 ⟨w11.heap.size, v, none⟩ (.int .i64 (n v + 1)) g (by show g ≠ w11.heap.size; omega)
              exact ⟨(World.cell?_of_block (a := ⟨g, o + i, none⟩) hbl).trans (q3 i z hz).1, (World.frozen?_of_block (a := ⟨g, o + i, none⟩) hbl).trans (q3 i z hz).2⟩)
            have HARR := Lib.hid (show ∀ g o, A1 = some ⟨g, o, none⟩ → g ≠ w11.heap.size from fun g o e => by
              obtain ⟨g', o', e', q1, -⟩ := hor (by rw [pileL_len]; omega)
              rw [e] at e'
              simp only [Option.some.injEq, Addr.mk.injEq, and_true] at e'
              omega)
            clear hb12 hcn hset hor HTP HG x0 x1 x2 x3 x4
            go_wp2
            exact ⟨⟨r + 1, addAt n v 1, A1, c1, by go_num, rfl, Lib.hid HSA.out, HT2.out, HOR.out, HARR.out, HCN2.out, HB2.out⟩, by simp [intOf]; omega⟩
  · have hsi : (1048576 : Int) < (xs.length : Int) := by omega
    have hsj : (xs.length : Int) ≤ 9223372036854775807 := by omega
    clear hS0
    refine lastT_law prog_bodied prog_ready Try.func3 rfl (by kernel_rfl) fun oB T _ => ?_
    simp only [Try.ntmps3, List.size_toArray, List.length_cons, List.length_nil, Nat.reduceAdd, Nat.reduceSub, Array.replicate_succ, Array.replicate_zero, List.push_toArray, List.append_toArray, List.nil_append, List.cons_append]
    obtain ⟨w, hw_⟩ : ∃ x, x = w0.wi T 0 oB #[] := ⟨_, rfl⟩
    have HWX := Lib.hid (hb_of hw_)
    rw [← hw_]
    clear hw_
    go_wp2
    go_ret
    exact ⟨rfl, HWX.out _ (Below.refl _ _)⟩
end Go.Proofs.Ytndncmjhpbjcoaa
