/- SumOfPiles: the specification's side, and the program's beside goroutines that only leave. -/
import Derived.Test.YtndncmjhpbjcoaaKDroT
import Derived.Test.YtndncmjhpbjcoaaKAddD
set_option linter.all false
namespace Go.Proofs.Ytndncmjhpbjcoaa
open Go Go.Conc Go.ConcN Go.RowKit

noncomputable def sumOk (N : Int) (es : List (Int × Int)) (p r : List Int) (q : Int) : Bool := pileB N es p q && (pileB N es r q && pileB N es (addB p r) q)
noncomputable def sumX (N : Int) (es : List (Int × Int)) (p r : List Int) (q : Int) : List Int := if (pileB N es p q && pileB N es r q) = true then stabX N es (addB p r) q else []
theorem sumX_len (N : Int) (es : List (Int × Int)) (p r : List Int) (q : Int) : (sumX N es p r q).length ≤ 6 := by
  unfold sumX
  split
  · exact stabX_len N es (addB p r) q
  · exact Nat.zero_le _
theorem sumX_f {N : Int} {es : List (Int × Int)} {p r : List Int} {q : Int} (h : (pileB N es p q && pileB N es r q) = false) : sumX N es p r q = [] := by rw [sumX, if_neg (by rw [h]; decide)]
theorem sumX_t {N : Int} {es : List (Int × Int)} {p r : List Int} {q : Int} (h1 : pileB N es p q = true) (h2 : pileB N es r q = true) : sumX N es p r q = stabX N es (addB p r) q := by rw [sumX, if_pos (by rw [h1, h2]; rfl)]
theorem sumOk_t {N : Int} {es : List (Int × Int)} {p r : List Int} {q : Int} (h1 : pileB N es p q = true) (h2 : pileB N es r q = true) : sumOk N es p r q = pileB N es (addB p r) q := by rw [sumOk, h1, h2]; rfl
set_option maxRecDepth 100000 in
set_option maxHeartbeats 2000000 in
theorem specSum (N : Int) (A D F : Option Addr) (c cd cf : Nat) (es : List (Int × Int)) (p r : List Int) (q : Int) (w : World) (hn : es.length ≤ 1048576) (hd : p.length ≤ 1048576) (hf : r.length ≤ 1048576) (hE : EdgeS w w.heap.size A es) (hS : IntS w w.heap.size D p) (hT : IntS w w.heap.size F r) :
    Calls Try.prog 43 #[.agg #[.int .i64 N, .slice A es.length c], .slice D p.length cd, .slice F r.length cf, .int .i64 q] w (GivesIntsOk w (sumX N es p r q) (sumOk N es p r q)) := by
  have HE := Lib.hid hE
  have HS := Lib.hid hS
  have HT := Lib.hid hT
  have G0 := GB.start w N A c es
  have HP := fun w h1 h2 => Lib.hid (specPile N A D c cd es p q w hn hd h1 h2)
  have HQ := fun w h1 h2 => Lib.hid (specPile N A F c cf es r q w hn hf h1 h2)
  clear hE hS hT
  cases h1 : pileB N es p q with
  | false =>
    rw [h1] at HP
    rw [sumX_f (by rw [h1]; rfl), show sumOk N es p r q = false by rw [sumOk, h1]; rfl]
    clear h1 HQ
    go_enter Try.func43, Try.ntmps43
    go_wp2_with fail
    refine (HP _ (HE.out.up_ G0.old) (HS.out.up_ G0.old)).out.mono ?_
    rintro e w1 ⟨rfl, hb1⟩
    have G1 := Lib.hid (G0.next hb1)
    clear G0 hb1
    go_wp2
    go_ret2
    exact ⟨none, 0, rfl, OwnI.nil _ _ _, G1.out.old⟩
  | true =>
    rw [h1] at HP
    cases h2 : pileB N es r q with
    | false =>
      rw [h2] at HQ
      rw [sumX_f (by rw [h1, h2]; rfl), show sumOk N es p r q = false by rw [sumOk, h1, h2]; rfl]
      clear h1 h2
      go_enter Try.func43, Try.ntmps43
      go_wp2_with fail
      refine (HP _ (HE.out.up_ G0.old) (HS.out.up_ G0.old)).out.mono ?_
      rintro e w1 ⟨rfl, hb1⟩
      have G1 := Lib.hid (G0.next hb1)
      have c0 := G1.out.c0
      have c1 := G1.out.c1
      clear G0 hb1
      go_wp2_with fail
      refine (HQ _ (HE.out.up_ G1.out.old) (HT.out.up_ G1.out.old)).out.mono ?_
      rintro e w2 ⟨rfl, hb2⟩
      have G2 := Lib.hid (G1.out.next hb2)
      clear hb2 c0 c1
      go_wp2
      go_ret2
      exact ⟨none, 0, rfl, OwnI.nil _ _ _, G2.out.old⟩
    | true =>
      rw [h2] at HQ
      rw [sumX_t h1 h2, sumOk_t h1 h2]
      have HA := fun w h1 h2 => Lib.hid (specAddD D F cd cf p r w hd hf h1 h2)
      have hs : (addB p r).length ≤ 1048576 := addB_len hd
      have HST := Lib.hid (fun (X : Option Addr) (cx : Nat) (W : World) h1 h2 => specStab N A X c cx es (addB p r) q W hn hs h1 h2)
      obtain ⟨s, hs_⟩ : ∃ s, s = addB p r := ⟨_, rfl⟩
      rw [← hs_] at HA HST ⊢
      obtain ⟨xs, hxs⟩ : ∃ z, z = stabX N es s q := ⟨_, rfl⟩
      obtain ⟨ys, hys⟩ : ∃ z, z = stabC N es s q := ⟨_, rfl⟩
      obtain ⟨b, hb⟩ : ∃ z, z = pileB N es s q := ⟨_, rfl⟩
      obtain ⟨bl, hbl⟩ : ∃ z, z = sameLen p r := ⟨_, rfl⟩
      rw [← hxs, ← hys, ← hb] at HST
      rw [← hbl] at HA
      rw [← hxs, ← hb]
      clear h1 h2 hxs hys hb hs_ hbl hs
      go_enter Try.func43, Try.ntmps43
      go_wp2_with fail
      refine (HP _ (HE.out.up_ G0.old) (HS.out.up_ G0.old)).out.mono ?_
      rintro e w1 ⟨rfl, hb1⟩
      have G1 := Lib.hid (G0.next hb1)
      have c0 := G1.out.c0
      have c1 := G1.out.c1
      clear G0 hb1
      go_wp2_with fail
      refine (HQ _ (HE.out.up_ G1.out.old) (HT.out.up_ G1.out.old)).out.mono ?_
      rintro e w2 ⟨rfl, hb2⟩
      have G2 := Lib.hid (G1.out.next hb2)
      clear hb2 c0 c1 G1
      go_wp2_with fail
      refine (HA _ (HS.out.up_ G2.out.old) (HT.out.up_ G2.out.old)).out.mono ?_
      rintro e w3 ⟨A3, c3, rfl, ho3, hb3⟩
      have G3 := Lib.hid (G2.out.next hb3)
      have HO3 := Lib.hid ho3.ints
      have c0 := G3.out.c0
      have c1 := G3.out.c1
      clear hb3 ho3 G2
      go_wp2_with fail
      refine (HST.out A3 c3 _ (HE.out.up_ G3.out.old) HO3.out).mono ?_
      rintro e w4 ⟨A1, A2, c1', c2, rfl, ho1, -, -, hb4⟩
      have G4 := Lib.hid (G3.out.next hb4)
      have HO1 := Lib.hid (ho1.mono G3.out.old.size)
      clear hb4 c0 c1 ho1 G3
      go_wp2
      go_ret2
      exact ⟨A1, c1', rfl, HO1.out, G4.out.old⟩

theorem GivesIntsOk.easy (w : World) (xs : List Int) (b : Bool) : Easy fun v w' => GivesIntsOk w xs b (.returned v) w' := by
  rintro v w1 w2 hl ⟨A1, c1, h1, h2, h5⟩
  exact ⟨A1, c1, h1, h2.heap hl.heap, ⟨hl.drew.os.trans h5.os, hl.drew.tape.trans h5.tape, hl.drew.out.trans h5.output, by rw [hl.heap]; exact h5.size, fun b hb => by rw [hl.heap]; exact h5.block b hb⟩⟩
def SumR (w : World) (xs : List Int) (b : Bool) (v : Value) (y : World) : Prop := ∃ (A : Option Addr) (c : Nat), v = .tuple #[.slice A xs.length c, .bool b] ∧ OwnI y w.heap.size A xs ∧ HB w y
theorem sum_quit {f : FuncId} {fn : Func} {cs : List Frame} {a : Act} {e : Exit} {w0 w w2 : World} {xs : List Int} {b : Bool} (hf : Try.prog.funcs[f]? = some fn) (ht : tmpsB fn = true) (hd : Drew w w2) (hd0 : Drew w0 w)
    (h : Sees w (fun _ y => bodyPost Try.prog fn (fun e y => ∃ v, e = .returned v ∧ SumR w0 xs b v y) e a y) w2) : GoesT Try.prog (base f) [] cs (Last Try.prog f cs fun v w' => GivesIntsOk w0 xs b (.returned v) w') e a w2 :=
  goesT_body prog_bodied prog_ready (R0 := fun _ e y => ∃ v, e = .returned v ∧ SumR w0 xs b v y) (GivesIntsOk.easy w0 xs b) hf ht hd (fun _ _ _ ⟨v, h, _⟩ => ⟨v, h⟩) (fun _ _ v z ⟨v', h1, A, c, h2, h3, h4⟩ w' hh hd2 => by
    cases h1
    exact ⟨A, c, by rw [h2], h3.heap hh, h4.below hh (hd0.trans hd2)⟩) h
set_option maxRecDepth 100000 in
set_option maxHeartbeats 4000000 in
theorem implSumL (N : Int) (A D F : Option Addr) (c cd cf : Nat) (es : List (Int × Int)) (p r : List Int) (q : Int) (w : World) (hn : es.length ≤ 1048576) (hd : p.length ≤ 1048576) (hf : r.length ≤ 1048576) (hE : EdgeS w w.heap.size A es) (hK : EdgeK w A es) (hS : IntS w w.heap.size D p) (hT : IntS w w.heap.size F r) :
    LastT Try.prog 27 #[.agg #[.int .i64 N, .slice A es.length c], .slice D p.length cd, .slice F r.length cf, .int .i64 q] w (fun u w' => GivesIntsOk w (sumX N es p r q) (sumOk N es p r q) (.returned u) w') := fun cs => by
  rw [enter_at _ Try.func27 rfl]
  simp only [Try.ntmps27, List.size_toArray, List.length_cons, List.length_nil, Nat.reduceAdd, Nat.reduceSub, Array.replicate_succ, Array.replicate_zero, List.push_toArray, List.append_toArray, List.nil_append, List.cons_append]
  refine toD_preC prog_bodied prog_ready (l := [_, _, _]) (rest := .seq _ _) (Q0 := fun _ => bodyPost Try.prog Try.f27 (fun e y => ∃ u, e = .returned u ∧ SumR w (sumX N es p r q) (sumOk N es p r q) u y)) (fun _ _ _ h => by obtain ⟨_, h, _⟩ := h; cases h) ?_ (fun e a w2 _ h1 h2 => sum_quit Try.func27 (by kernel_rfl) h2 (.refl _) h1)
  intro oB T _
  obtain ⟨x, hx⟩ : ∃ x, x = w.wi T 0 oB #[] := ⟨_, rfl⟩
  have HX := Lib.hid hx
  have HWX := Lib.hid (hb_of hx)
  have HE := Lib.hid (show EdgeS x x.heap.size A es by rw [hx]; exact hE)
  have HS := Lib.hid (show IntS x x.heap.size D p by rw [hx]; exact hS)
  have HT := Lib.hid (show IntS x x.heap.size F r by rw [hx]; exact hT)
  have G0 := GB.start x N A c es
  have HP := fun w h1 h2 => Lib.hid (implPile N A D c cd es p q w hn hd h1 h2)
  have HQ := fun w h1 h2 => Lib.hid (implPile N A F c cf es r q w hn hf h1 h2)
  rw [← hx]
  clear hx
  cases h1 : pileB N es p q with
  | false =>
    rw [h1] at HP
    rw [sumX_f (by rw [h1]; rfl), show sumOk N es p r q = false by rw [sumOk, h1]; rfl]
    clear h1 HQ
    refine preWp_one fun K1 hK1 => ?_
    go_wp2
    refine preWp_one fun K2 hK2 => ?_
    go_wp2_with fail
    refine (HP _ (HE.out.up_ G0.old) (HS.out.up_ G0.old)).out.mono ?_
    rintro e w1 ⟨rfl, hb1⟩
    have G1 := Lib.hid (G0.next hb1)
    clear G0 hb1
    go_wp2
    go_ret2
    exact ⟨_, rfl, none, 0, rfl, OwnI.nil _ _ _, HWX.out _ G1.out.old⟩
  | true =>
    rw [h1] at HP
    cases h2 : pileB N es r q with
    | false =>
      rw [h2] at HQ
      rw [sumX_f (by rw [h1, h2]; rfl), show sumOk N es p r q = false by rw [sumOk, h1, h2]; rfl]
      clear h1 h2
      refine preWp_one fun K1 hK1 => ?_
      go_wp2
      refine preWp_one fun K2 hK2 => ?_
      go_wp2_with fail
      refine (HP _ (HE.out.up_ G0.old) (HS.out.up_ G0.old)).out.mono ?_
      rintro e w1 ⟨rfl, hb1⟩
      have G1 := Lib.hid (G0.next hb1)
      have c0 := G1.out.c0
      have c1 := G1.out.c1
      clear G0 hb1
      go_wp2_with fail
      refine (HQ _ (HE.out.up_ G1.out.old) (HT.out.up_ G1.out.old)).out.mono ?_
      rintro e w2 ⟨rfl, hb2⟩
      have G2 := Lib.hid (G1.out.next hb2)
      clear hb2 c0 c1
      go_wp2
      go_ret2
      exact ⟨_, rfl, none, 0, rfl, OwnI.nil _ _ _, HWX.out _ G2.out.old⟩
    | true =>
      rw [h2] at HQ
      rw [sumX_t h1 h2, sumOk_t h1 h2]
      have HA := fun w h1 h2 => Lib.hid (implAddD D F cd cf p r w hd hf h1 h2)
      have hs : (addB p r).length ≤ 1048576 := addB_len hd
      have HST := Lib.hid (fun (X : Option Addr) (cx : Nat) (W : World) h1 h2 h3 => implStabT N A X c cx es (addB p r) q W hn hs h1 h2 h3)
      obtain ⟨s, hs_⟩ : ∃ s, s = addB p r := ⟨_, rfl⟩
      rw [← hs_] at HA HST ⊢
      obtain ⟨xs, hxs⟩ : ∃ z, z = stabX N es s q := ⟨_, rfl⟩
      obtain ⟨ys, hys⟩ : ∃ z, z = stabC N es s q := ⟨_, rfl⟩
      obtain ⟨b, hb⟩ : ∃ z, z = pileB N es s q := ⟨_, rfl⟩
      obtain ⟨bl, hbl⟩ : ∃ z, z = sameLen p r := ⟨_, rfl⟩
      rw [← hxs, ← hys, ← hb] at HST
      rw [← hbl] at HA
      rw [← hxs, ← hb]
      clear h1 h2 hxs hys hb hs_ hbl hs
      refine preWp_one fun K1 hK1 => ?_
      go_wp2
      refine preWp_one fun K2 hK2 => ?_
      go_wp2_with fail
      refine (HP _ (HE.out.up_ G0.old) (HS.out.up_ G0.old)).out.mono ?_
      rintro e w1 ⟨rfl, hb1⟩
      have G1 := Lib.hid (G0.next hb1)
      have c0 := G1.out.c0
      have c1 := G1.out.c1
      clear G0 hb1
      go_wp2_with fail
      refine (HQ _ (HE.out.up_ G1.out.old) (HT.out.up_ G1.out.old)).out.mono ?_
      rintro e w2 ⟨rfl, hb2⟩
      have G2 := Lib.hid (G1.out.next hb2)
      clear hb2 c0 c1 G1
      go_wp2_with (refine preWp_one fun _ _ => ?_)
      refine (HA _ (HS.out.up_ G2.out.old) (HT.out.up_ G2.out.old)).out.mono ?_
      rintro e w3 ⟨A3, c3, rfl, ho3, hb3⟩
      have G3 := Lib.hid (G2.out.next hb3)
      have HO3 := Lib.hid ho3.ints
      clear hb3 ho3
      go_wp2_with (refine preWp_one fun _ _ => ?_)
      refine preWp_nil ?_
      intro w' hw' hd'
      have hxs : x.heap.size = w.heap.size := by rw [HX.out]; rfl
      rw [hxs]
      have G5 := GB.re HX.out G3.out hw' hd'
      have HI : IntS w' w'.heap.size A3 s := IntS.heap HO3.out hw'
      have HS5 := HST.out A3 c3 w' (hE.up_ G5.old) (hK.up G5.old) HI
      clear hxs hw' hd' HO3 G3 G2 HX HWX HE HS HT HP HQ HA HST hE hK hS hT HI
      have c0 : ∀ t d o u, (w'.wi t d o u).cell? ⟨w.heap.size, 0, none⟩ = some (.int .i64 N) := fun _ _ _ _ => G5.c0
      have c1 : ∀ t d o u, (w'.wi t d o u).cell? ⟨w.heap.size, 1, none⟩ = some (.slice A es.length c) := fun _ _ _ _ => G5.c1
      refine ToD.ctl prog_bodied prog_ready (fun _ _ => step_seq) ?_
      refine ToD.regionL prog_bodied prog_ready (l := [0, 1, 2, 3, 4, 5, 6, 7, 8, 9, 10]) rfl ?_
      refine ToD.value prog_bodied prog_ready (v := .agg #[.int .i64 N, .slice A es.length c]) rfl rfl rfl (fun t d o u => by
        have d0 := c0 t d o u
        have d1 := c1 t d o u
        simp [execOp, go_sem, Act.eval, d0, d1]) ?_
      refine ToD.value prog_bodied prog_ready (v := .slice A3 s.length c3) rfl rfl rfl (fun _ _ _ _ => by simp [execOp, go_sem, Act.eval]) ?_
      refine ToD.value prog_bodied prog_ready (v := .int .i64 q) rfl rfl rfl (fun _ _ _ _ => by simp [execOp, go_sem, Act.eval]) ?_
      simp only [List.setIfInBounds_toArray, List.set_cons_zero, List.set_cons_succ]
      refine ToD.call prog_bodied prog_ready (f := 18) (args := #[.agg #[.int .i64 N, .slice A es.length c], .slice A3 s.length c3, .int .i64 q]) rfl rfl rfl (fun t d o u => by simp [execOp, go_sem, Act.eval, resolve]) HS5 ?_
      rintro u w4 ⟨A1, A2, c1', c2', hv, ho1, -, -, hb2⟩
      cases hv
      have G6 := G5.next hb2
      have ho3 := ho1.mono G5.old.size
      have hdr : Drew w w4 := drew_of G6.old
      have hb : ∀ z, HB w4 z → HB w z := fun z h => ⟨Nat.le_trans G6.old.size h.1, fun b hb => (h.2 b (Nat.lt_of_lt_of_le hb G6.old.size)).trans (G6.old.block b hb)⟩
      clear c0 c1 ho1 hb2 G5 G6 HS5
      simp only [List.setIfInBounds_toArray, List.set_cons_zero, List.set_cons_succ]
      refine toD_tail prog_bodied prog_ready (k0 := 4) (Q0 := fun _ => bodyPost Try.prog Try.f27 (fun e y => ∃ u, e = .returned u ∧ SumR w xs b u y)) (fun _ _ _ h => by obtain ⟨_, h, _⟩ := h; cases h) rfl ?_ (fun e a' w3 h hd3 => sum_quit Try.func27 (by kernel_rfl) hd3 hdr h)
      intro oB2 T2 _
      obtain ⟨z, hz⟩ : ∃ z, z = w4.wi T2 0 oB2 #[] := ⟨_, rfl⟩
      have HO1 := Lib.hid (own_lo hz ho3)
      have HW := Lib.hid (show ∀ y, Below z.heap.size z y → HB w y from fun y h => hb y (by rw [hz] at h; exact ⟨h.size, h.block⟩))
      rw [← hz]
      clear hz ho3 hb hdr
      simp only [List.drop_succ_cons, List.drop_zero]
      go_wp2
      go_ret2
      exact ⟨_, rfl, A1, _, rfl, HO1.out, HW.out _ (Below.refl _ _)⟩
theorem implSumT (N : Int) (A D F : Option Addr) (c cd cf : Nat) (es : List (Int × Int)) (p r : List Int) (q : Int) (w : World) (hn : es.length ≤ 1048576) (hd : p.length ≤ 1048576) (hf : r.length ≤ 1048576) (hE : EdgeS w w.heap.size A es) (hK : EdgeK w A es) (hS : IntS w w.heap.size D p) (hT : IntS w w.heap.size F r) :
    CallsT Try.prog 27 #[.agg #[.int .i64 N, .slice A es.length c], .slice D p.length cd, .slice F r.length cf, .int .i64 q] w (fun u w' => GivesIntsOk w (sumX N es p r q) (sumOk N es p r q) (.returned u) w') :=
  callsT_of_last prog_bodied prog_ready (GivesIntsOk.easy w _ _) (implSumL N A D F c cd cf es p r q w hn hd hf hE hK hS hT)
end Go.Proofs.Ytndncmjhpbjcoaa
