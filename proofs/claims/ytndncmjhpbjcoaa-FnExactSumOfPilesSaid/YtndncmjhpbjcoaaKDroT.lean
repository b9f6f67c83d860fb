/- DropChip, beside goroutines that only leave. -/
import Derived.Test.YtndncmjhpbjcoaaKCrsL
import Derived.Test.YtndncmjhpbjcoaaKPilG
import Derived.Test.YtndncmjhpbjcoaaKPilZ
import Derived.Test.YtndncmjhpbjcoaaKBF
set_option linter.all false
namespace Go.Proofs.Ytndncmjhpbjcoaa
open Go Go.Conc Go.ConcN Go.RowKit

theorem GB.re {w x y w' : World} {oB : Os} {T : TpL} {N : Int} {A : Option Addr} {c : Nat} {es : List (Int × Int)} (hw : x = w.wi T 0 oB #[]) (h : GB x y N A c es) (hh : w'.heap = y.heap) (hd : Drew w w') : GB w w' N A c es := by
  subst hw
  exact GB.real h hh hd
theorem pileB_of {M k : Nat} {es : List (Int × Int)} {p : List Int} (hP : PileL M k es p) (hg : graphB (M : Int) es = true) : pileB (M : Int) es p (k : Int) = true := by
  have hmem : ∀ x ∈ p, 0 ≤ x ∧ x ≤ 60 := fun x hx => by
    obtain ⟨i, hi⟩ := List.mem_iff_getElem?.1 hx
    have := hP.lim i
    rw [List.getD, hi] at this
    exact this
  have hq := hP.qm
  unfold pileB
  simp only [Bool.and_eq_true, decide_eq_true_eq]
  refine ⟨?_, vB_t (by omega), ?_, ?_⟩
  · rw [divB_a hg (by rw [hP.len]), List.all_eq_true]
    exact fun x hx => within_t (by have := hmem x hx; omega)
  · unfold posAll
    rw [List.all_eq_true]
    intro x hx
    unfold posB
    exact decide_eq_true (hmem x hx).1
  · rw [Int.toNat_natCast]
    exact hP.zero
theorem GivesIntOk.easy (w : World) (xs : List Int) (n : Int) (b : Bool) : Easy fun v w' => GivesIntOk w xs n b (.returned v) w' := by
  rintro v w1 w2 hl ⟨A1, c1, h1, h2, h5⟩
  exact ⟨A1, c1, h1, h2.heap hl.heap, ⟨hl.drew.os.trans h5.os, hl.drew.tape.trans h5.tape, hl.drew.out.trans h5.output, by rw [hl.heap]; exact h5.size, fun b hb => by rw [hl.heap]; exact h5.block b hb⟩⟩
def DroR (w : World) (xs : List Int) (n : Int) (b : Bool) (v : Value) (y : World) : Prop := ∃ (A : Option Addr) (c : Nat), v = .tuple #[.slice A xs.length c, .int .i64 n, .bool b] ∧ OwnI y w.heap.size A xs ∧ HB w y
theorem dro_quit {f : FuncId} {fn : Func} {cs : List Frame} {a : Act} {e : Exit} {w0 w w2 : World} {xs : List Int} {n : Int} {b : Bool} (hf : Try.prog.funcs[f]? = some fn) (ht : tmpsB fn = true) (hd : Drew w w2) (hd0 : Drew w0 w)
    (h : Sees w (fun _ y => bodyPost Try.prog fn (fun e y => ∃ v, e = .returned v ∧ DroR w0 xs n b v y) e a y) w2) : GoesT Try.prog (base f) [] cs (Last Try.prog f cs fun v w' => GivesIntOk w0 xs n b (.returned v) w') e a w2 :=
  goesT_body prog_bodied prog_ready (R0 := fun _ e y => ∃ v, e = .returned v ∧ DroR w0 xs n b v y) (GivesIntOk.easy w0 xs n b) hf ht hd (fun _ _ _ ⟨v, h, _⟩ => ⟨v, h⟩) (fun _ _ v z ⟨v', h1, A, c, h2, h3, h4⟩ w' hh hd2 => by
    cases h1
    exact ⟨A, c, by rw [h2], h3.heap hh, h4.below hh (hd0.trans hd2)⟩) h
set_option maxRecDepth 100000 in
set_option maxHeartbeats 4000000 in
theorem implDropL (N : Int) (A D : Option Addr) (c cd : Nat) (es : List (Int × Int)) (p : List Int) (q v : Int) (w : World) (hn : es.length ≤ 1048576) (hd : p.length ≤ 1048576) (hE : EdgeS w w.heap.size A es) (hK : EdgeK w A es) (hS : IntS w w.heap.size D p) :
    LastT Try.prog 40 #[.agg #[.int .i64 N, .slice A es.length c], .slice D p.length cd, .int .i64 q, .int .i64 v] w (fun u w' => GivesIntOk w (dropX N es p q v) (dropN N es p q v) (dropOk N es p q v) (.returned u) w') := fun cs => by
  rw [enter_at _ Try.func40 rfl]
  simp only [Try.ntmps40, List.size_toArray, List.length_cons, List.length_nil, Nat.reduceAdd, Nat.reduceSub, Array.replicate_succ, Array.replicate_zero, List.push_toArray, List.append_toArray, List.nil_append, List.cons_append]
  refine toD_preC prog_bodied prog_ready (l := [_, _, _, _]) (rest := .seq _ _) (Q0 := fun _ => bodyPost Try.prog Try.f40 (fun e y => ∃ u, e = .returned u ∧ DroR w (dropX N es p q v) (dropN N es p q v) (dropOk N es p q v) u y)) (fun _ _ _ h => by obtain ⟨_, h, _⟩ := h; cases h) ?_ (fun e a w2 _ h1 h2 => dro_quit Try.func40 (by kernel_rfl) h2 (.refl _) h1)
  intro oB T _
  obtain ⟨x, hx⟩ : ∃ x, x = w.wi T 0 oB #[] := ⟨_, rfl⟩
  have HX := Lib.hid hx
  have HWX := Lib.hid (hb_of hx)
  have HE := Lib.hid (show EdgeS x x.heap.size A es by rw [hx]; exact hE)
  have HS := Lib.hid (show IntS x x.heap.size D p by rw [hx]; exact hS)
  have G0 := GB.start x N A c es
  have HD := fun w h1 h2 => Lib.hid (implStable N A D c cd es p q w hn hd h1 h2)
  have HV := fun w => Lib.hid (hasVertex_any N (.slice A es.length c) v w ⟨_, _, _, rfl⟩)
  rw [← hx]
  clear hx
  cases h1 : stableB N es p q with
  | false =>
    rw [h1] at HD
    have h0 : dropOk N es p q v = false := by rw [dropOk, h1]; rfl
    rw [dropX_f h0, dropN_f h0, h0]
    clear h1 h0 HV
    refine preWp_one fun K1 hK1 => ?_
    go_wp2
    refine preWp_one fun K2 hK2 => ?_
    go_wp2_with fail
    refine (HD _ (HE.out.up_ G0.old) (HS.out.up_ G0.old)).out.mono ?_
    rintro e w1 ⟨rfl, hb1⟩
    have G1 := Lib.hid (G0.next hb1)
    clear G0 hb1
    go_wp2
    go_ret3
    exact ⟨_, rfl, none, 0, rfl, OwnI.nil _ _ _, HWX.out _ G1.out.old⟩
  | true =>
    rw [h1] at HD
    have hp1 : pileB N es p q = true := by
      unfold stableB at h1
      rw [Bool.and_eq_true] at h1
      exact h1.1
    have hu1 : unsF N.toNat q.toNat es p = none := by
      unfold stableB at h1
      rw [Bool.and_eq_true, decide_eq_true_eq] at h1
      exact h1.2
    cases h2 : vB v N with
    | false =>
      rw [h2] at HV
      have h0 : dropOk N es p q v = false := by rw [dropOk, h2]; simp
      rw [dropX_f h0, dropN_f h0, h0]
      clear h1 h2 h0 hp1 hu1
      refine preWp_one fun K1 hK1 => ?_
      go_wp2
      refine preWp_one fun K2 hK2 => ?_
      go_wp2_with fail
      refine (HD _ (HE.out.up_ G0.old) (HS.out.up_ G0.old)).out.mono ?_
      rintro e w1 ⟨rfl, hb1⟩
      have G1 := Lib.hid (G0.next hb1)
      have c0 := G1.out.c0
      have c1 := G1.out.c1
      clear G0 hb1
      go_wp2_with fail
      refine (HV _).out.mono ?_
      rintro e w2 ⟨rfl, hb2⟩
      have G2 := Lib.hid (G1.out.next hb2)
      clear hb2 c0 c1
      go_wp2
      go_ret3
      exact ⟨_, rfl, none, 0, rfl, OwnI.nil _ _ _, HWX.out _ G2.out.old⟩
    | true =>
      rw [h2] at HV
      obtain ⟨M, k, rfl, rfl, hP, hgr⟩ := pile_parts hp1
      rw [Int.toNat_natCast, Int.toNat_natCast] at hu1
      by_cases hvq : v = (k : Int)
      · have h0 : dropOk (M : Int) es p (k : Int) v = false := by rw [dropOk, decide_eq_false (show ¬ v ≠ (k : Int) by omega)]; simp
        rw [dropX_f h0, dropN_f h0, h0]
        have t1 : (v == (k : Int)) = true := by simp [hvq]
        clear h1 h2 h0 hp1 hu1 hP hgr hvq
        refine preWp_one fun K1 hK1 => ?_
        go_wp2
        refine preWp_one fun K2 hK2 => ?_
        go_wp2_with fail
        refine (HD _ (HE.out.up_ G0.old) (HS.out.up_ G0.old)).out.mono ?_
        rintro e w1 ⟨rfl, hb1⟩
        have G1 := Lib.hid (G0.next hb1)
        have c0 := G1.out.c0
        have c1 := G1.out.c1
        clear G0 hb1
        go_wp2_with fail
        refine (HV _).out.mono ?_
        rintro e w2 ⟨rfl, hb2⟩
        have G2 := Lib.hid (G1.out.next hb2)
        clear hb2 c0 c1
        go_wp2
        go_ret3
        exact ⟨_, rfl, none, 0, rfl, OwnI.nil _ _ _, HWX.out _ G2.out.old⟩
      · have t1 : (v == (k : Int)) = false := by simp [hvq]
        obtain ⟨hv0, hv1⟩ := vB_iff h2
        obtain ⟨v, rfl⟩ : ∃ u : Nat, v = (u : Int) := ⟨v.toNat, by omega⟩
        have hvM : v < M := by omega
        have hvk : v ≠ k := by omega
        have h0 : dropOk (M : Int) es p (k : Int) (v : Int) = true := by rw [dropOk, h1, h2, decide_eq_true hvq]; rfl
        have hP2 := hP.more hu1 hvM hvk
        have hpb := pileB_of hP2 hgr
        have hM6 := hP.m6
        have hset := hP2.ex
        rw [dropX_t h0, dropN_t h0, h0, ← deg_cnt (hset.tops.lims hP2) hM6]
        have hlm : (oneMore p v).length = p.length := by simp [oneMore]
        have HPL := Lib.hid hP.len
        obtain ⟨xv, hxv⟩ : ∃ y, p[v]? = some y := ⟨_, List.getElem?_eq_getElem (by rw [hP.len]; exact hvM)⟩
        have hgx : p.getD v 0 = xv := by rw [List.getD, hxv]; rfl
        have hxl := hP.lim v
        rw [hgx] at hxl
        have hwx : IntKind.i64.wrap (xv + 1) = xv + 1 := by rw [IntKind.wrap_i64]; omega
        have HXV := Lib.hid hxv
        have HOM := Lib.hid (show oneMore p v = p.set v (xv + 1) by rw [oneMore, hgx])
        have hp0 : 0 < p.length := by rw [hP.len]; omega
        have hvp : (v : Int) < (p.length : Int) := by rw [hP.len]; omega
        have hvn : (0 : Int) ≤ (v : Int) := Int.natCast_nonneg _
        have HCL := Lib.hid (fun (W : World) (h : IntS W W.heap.size D p) => clone_any D cd W.heap.size p W hp0 hd h)
        have HST := Lib.hid (fun (g cg : Nat) (W : World) h1 h2 (h3 : IntS W W.heap.size (some ⟨g, 0, none⟩) (oneMore p v)) => implStabT (M : Int) A (some ⟨g, 0, none⟩) c cg es (oneMore p v) (k : Int) W hn (by rw [hlm]; exact hd) h1 h2 h3)
        rw [hlm, stabX_t hpb, stabC_t hpb, hpb] at HST
        have HXL := Lib.hid (pileL_len M es (oneMore p v) k (settN M es (oneMore p v) k))
        have hcl := cntL_len M (settN M es (oneMore p v) k)
        obtain ⟨xs, hxs⟩ : ∃ z, z = pileL M es (oneMore p v) k (settN M es (oneMore p v) k) := ⟨_, rfl⟩
        obtain ⟨ys, hys⟩ : ∃ z, z = cntL M (settN M es (oneMore p v) k) := ⟨_, rfl⟩
        rw [← hxs, ← hys] at HST
        rw [← hxs] at HXL
        rw [← hys] at hcl
        rw [← hxs, ← hys, show degB ys M = degB ys ys.length by rw [hcl]]
        have HDG := Lib.hid (fun (X : Option Addr) (cx : Nat) (W : World) (h : IntS W W.heap.size X ys) => implCnt X cx ys W (by omega) h)
        obtain ⟨dz, hdz⟩ : ∃ z, z = degB ys ys.length := ⟨_, rfl⟩
        rw [← hdz] at HDG ⊢
        clear h1 h2 h0 hP hP2 hset hp1 hu1 hvq hxs hys hcl hdz hxv hgx hxl hpb hgr hlm
        refine preWp_one fun K1 hK1 => ?_
        go_wp2
        refine preWp_one fun K2 hK2 => ?_
        go_wp2_with fail
        refine (HD _ (HE.out.up_ G0.old) (HS.out.up_ G0.old)).out.mono ?_
        rintro e w1 ⟨rfl, hb1⟩
        have G1 := Lib.hid (G0.next hb1)
        have c0 := G1.out.c0
        have c1 := G1.out.c1
        clear G0 hb1
        go_wp2_with fail
        refine (HV _).out.mono ?_
        rintro e w2 ⟨rfl, hb2⟩
        have G2 := Lib.hid (G1.out.next hb2)
        have hx2 := G2.out.lt
        clear G1 hb2 c0 c1
        go_wp2_with (refine preWp_one fun _ _ => ?_)
        refine (HCL.out _ (HS.out.up_ G2.out.old)).mono ?_
        rintro e w3 ⟨g, cg, rfl, hg, hch, hb3⟩
        have G3 := Lib.hid (G2.out.next hb3)
        obtain ⟨f0, f1⟩ := hch.cell v xv HXV.out
        have hset3 := hch.set_ (a := v) (by omega) (xv + 1)
        rw [← HOM.out] at hset3
        have HS3 := Lib.hid hset3
        have G4 := Lib.hid (show GB x (w3.setCell ⟨g, v, none⟩ (.int .i64 (xv + 1))) (M : Int) A c es from ⟨G3.out.box.far (by simp only; omega) _, G3.out.old.setCell (p := ⟨g, v, none⟩) (by simp only; omega) _⟩)
        clear hch hset3 hb3
        go_wp2_with (refine preWp_one fun _ _ => ?_)
        refine preWp_nil ?_
        intro w' hw' hd'
        have hxs : x.heap.size = w.heap.size := by rw [HX.out]; rfl
        rw [hxs]
        have G5 := GB.re HX.out G4.out hw' hd'
        have HI : IntS w' w'.heap.size (some ⟨g, 0, none⟩) (oneMore p v) := IntS.heap HS3.out.ints hw'
        have HS5 := HST.out g cg w' (hE.up_ G5.old) (hK.up G5.old) HI
        clear hxs f0 f1 hw' hd' HS3 G4 G3 G2 HX HWX HE HS HD HV HCL HST hE hK hS HI
        have c0 : ∀ t d o u, (w'.wi t d o u).cell? ⟨w.heap.size, 0, none⟩ = some (.int .i64 (M : Int)) := fun _ _ _ _ => G5.c0
        have c1 : ∀ t d o u, (w'.wi t d o u).cell? ⟨w.heap.size, 1, none⟩ = some (.slice A es.length c) := fun _ _ _ _ => G5.c1
        refine ToD.ctl prog_bodied prog_ready (fun _ _ => step_seq) ?_
        refine ToD.regionL prog_bodied prog_ready (l := [0, 1, 2, 3, 4, 5, 6, 7, 8, 9, 10]) rfl ?_
        refine ToD.value prog_bodied prog_ready (v := .agg #[.int .i64 (M : Int), .slice A es.length c]) rfl rfl rfl (fun t d o u => by
          have d0 := c0 t d o u
          have d1 := c1 t d o u
          simp [execOp, go_sem, Act.eval, d0, d1]) ?_
        refine ToD.value prog_bodied prog_ready (v := .slice (some ⟨g, 0, none⟩) p.length cg) rfl rfl rfl (fun _ _ _ _ => by simp [execOp, go_sem, Act.eval]) ?_
        refine ToD.value prog_bodied prog_ready (v := .int .i64 (k : Int)) rfl rfl rfl (fun _ _ _ _ => by simp [execOp, go_sem, Act.eval]) ?_
        simp only [List.setIfInBounds_toArray, List.set_cons_zero, List.set_cons_succ]
        refine ToD.call prog_bodied prog_ready (f := 18) (args := #[.agg #[.int .i64 (M : Int), .slice A es.length c], .slice (some ⟨g, 0, none⟩) p.length cg, .int .i64 (k : Int)]) rfl rfl rfl (fun t d o u => by simp [execOp, go_sem, Act.eval, resolve]) HS5 ?_
        rintro u w4 ⟨A1, A2, c1', c2', hv, ho1, ho2, -, hb2⟩
        cases hv
        have G6 := G5.next hb2
        have ho3 := ho1.mono G5.old.size
        have ho4 := ho2.ints
        have hdr : Drew w w4 := drew_of G6.old
        have hb : ∀ z, HB w4 z → HB w z := fun z h => ⟨Nat.le_trans G6.old.size h.1, fun b hb => (h.2 b (Nat.lt_of_lt_of_le hb G6.old.size)).trans (G6.old.block b hb)⟩
        clear c0 c1 ho1 ho2 hb2 G5 G6 HS5
        simp only [List.setIfInBounds_toArray, List.set_cons_zero, List.set_cons_succ]
        refine toD_tail prog_bodied prog_ready (k0 := 4) (Q0 := fun _ => bodyPost Try.prog Try.f40 (fun e y => ∃ u, e = .returned u ∧ DroR w xs dz true u y)) (fun _ _ _ h => by obtain ⟨_, h, _⟩ := h; cases h) rfl ?_ (fun e a' w3 h hd3 => dro_quit Try.func40 (by kernel_rfl) hd3 hdr h)
        intro oB2 T2 _
        obtain ⟨z, hz⟩ : ∃ z, z = w4.wi T2 0 oB2 #[] := ⟨_, rfl⟩
        have HO1 := Lib.hid (own_lo hz ho3)
        have HO2 := Lib.hid (show IntS z z.heap.size A2 ys by rw [hz]; exact ho4)
        have HW := Lib.hid (show ∀ y, Below z.heap.size z y → HB w y from fun y h => hb y (by rw [hz] at h; exact ⟨h.size, h.block⟩))
        rw [← hz]
        clear hz ho3 ho4 hb hdr
        simp only [List.drop_succ_cons, List.drop_zero]
        go_wp2_with fail
        refine (HDG.out A2 _ _ HO2.out).mono ?_
        rintro e w5 ⟨rfl, hb5⟩
        have HO5 := Lib.hid (HO1.out.below hb5)
        have HB5 := Lib.hid (HW.out _ hb5)
        clear hb5
        go_wp2
        go_ret3
        exact ⟨_, rfl, A1, _, rfl, HO5.out, HB5.out⟩
theorem implDropT (N : Int) (A D : Option Addr) (c cd : Nat) (es : List (Int × Int)) (p : List Int) (q v : Int) (w : World) (hn : es.length ≤ 1048576) (hd : p.length ≤ 1048576) (hE : EdgeS w w.heap.size A es) (hK : EdgeK w A es) (hS : IntS w w.heap.size D p) :
    CallsT Try.prog 40 #[.agg #[.int .i64 N, .slice A es.length c], .slice D p.length cd, .int .i64 q, .int .i64 v] w (fun u w' => GivesIntOk w (dropX N es p q v) (dropN N es p q v) (dropOk N es p q v) (.returned u) w') :=
  callsT_of_last prog_bodied prog_ready (GivesIntOk.easy w _ _ _) (implDropL N A D c cd es p q v w hn hd hE hK hS)
end Go.Proofs.Ytndncmjhpbjcoaa
