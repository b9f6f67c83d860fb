/- STABILIZE, beside goroutines that only leave. -/
import Derived.Test.YtndncmjhpbjcoaaGSetF
set_option linter.all false
namespace Go.Proofs.Ytndncmjhpbjcoaa
open Go Go.Conc Go.ConcN Go.RowKit

noncomputable def stOps5 : Array Oper := match stRest with
  | .seq (.region _ ops _) _ => ops
  | _ => #[]
theorem st5_go : (stOps5[2]?).map (fun o => ((match o.op with | .go c => some (c.callee, c.args) | _ => none), o.dst, o.guard)) = some (some (.value (.func 60), #[.tmp 23, .tmp 24]), none, none) := by kernel_rfl
theorem st_spawn {P : Program} {sp cc : Nat} {a : Act} {k : List Item} {cs : List Frame} {w : World} (h1 : a.eval (.tmp 23) = .pointer (some ⟨sp, 0, none⟩)) (h2 : a.eval (.tmp 24) = .chan (some cc)) :
    stepG P true (G (stF.at a (.inRegion stOps5 [2] :: k)) cs) w = .spawn (G (stF.at a (.inRegion stOps5 [] :: k)) cs) (born P (setCall sp cc)) w #[] := by
  obtain ⟨o, ho, hop⟩ := Option.map_eq_some_iff.1 st5_go
  obtain ⟨dst, op, type, pos, after, guard⟩ := o
  simp only [Prod.mk.injEq] at hop
  obtain ⟨h3, rfl, rfl⟩ := hop
  cases op with
  | go c =>
    obtain ⟨callee, args, ats⟩ := c
    simp only [Option.some.injEq, Prod.mk.injEq] at h3
    obtain ⟨rfl, rfl⟩ := h3
    have ef : a.eval (.func 60) = .func (.func 60) #[] #[] := rfl
    have hr : (execOp a.eval { dst := none, op := .go { callee := .value (.func 60), args := #[.tmp 23, .tmp 24], argTypes := ats }, type := type, pos := pos, after := after, guard := none }).run P w = .ok (.spawn (setCall sp cc)) w := by
      unfold execOp
      simp [resolve, Deferred.ofValue, ef, h1, h2, setCall, dcall]
    have he : (execOp a.eval { dst := none, op := .go { callee := .value (.func 60), args := #[.tmp 23, .tmp 24], argTypes := ats }, type := type, pos := pos, after := after, guard := none }).events P w #[] = #[] := by
      unfold execOp
      simp [resolve, Deferred.ofValue, ef]
    rw [stepG_spawn ho rfl (by decide) hr rfl, listed_none he]
    rfl
  | _ => cases h3
theorem prog_noG : Try.prog.globals.size = 0 := by decide +kernel
set_option maxRecDepth 100000 in
set_option maxHeartbeats 2000000 in
/-- from the go statement on -/
theorem st_go {A : Option Addr} {c M k sp pb g cg bx cc : Nat} {es : List (Int × Int)} {p : List Int} {w w' : World} {cs : List Frame} {R : Value → World → Prop} (hRe : Easy R) (hP : PileL M k es p)
    (hE : EdgeS w w.heap.size A es) (hK : EdgeK w A es) (hpl : Pile w' sp pb g M cg c k A es p) (hrow : Row0 w' g) (hbx : Blk w' bx 25 #[.int .i64 (M : Int), .slice A es.length c]) (hcc : w'.heap[cc]? = some (.chan 0 #[] false 0 0 false))
    (o1 : w.heap.size ≤ bx) (o2 : bx < g) (o3 : g < pb) (o4 : pb < sp) (o5 : sp < cc) (hbe : Below w.heap.size w w')
    (hfin : ∀ (tb : Nat) (w2 : World), g ≠ tb → w.heap.size ≤ tb → OwnI w2 w.heap.size (some ⟨g, 0, none⟩) (pileL M es p k (settN M es p k)) → OwnI w2 w.heap.size (some ⟨tb, 0, none⟩) (cntL M (settN M es p k)) → Below w.heap.size w w2 → R (.tuple #[.slice (some ⟨g, 0, none⟩) M cg, .slice (some ⟨tb, 0, none⟩) M M, .bool true]) w2)
    (y0 y1 y2 y4 y5 y6 y7 y8 y11 y12 y13 y14 y15 y16 y17 y18 y19 y20 y21 y22 y23 y24 y25 y26 y27 y28 y29 y30 y31 y32 y33 y34 y35 y36 y37 y38 y39 y40 y41 y42 y43 y44 y45 : Value) : ToD Try.prog (stF.at ⟨List.toArray (y0 :: y1 :: y2 :: .pointer (some ⟨bx, 0, none⟩) :: y4 :: y5 :: y6 :: y7 :: y8 :: .pointer (some ⟨sp, 0, none⟩) :: .chan (some cc) :: y11 :: y12 :: y13 :: y14 :: y15 :: y16 :: y17 :: y18 :: y19 :: y20 :: y21 :: y22 :: y23 :: y24 :: y25 :: y26 :: y27 :: y28 :: y29 :: y30 :: y31 :: y32 :: y33 :: y34 :: y35 :: y36 :: y37 :: y38 :: y39 :: y40 :: y41 :: y42 :: y43 :: y44 :: y45 :: []), []⟩ [.code stRest]) cs w' (Last Try.prog 18 cs R) := by
  have hk : stF.kind ≠ .early := by decide
  refine toD_clean fun hcl => ?_
  have hset := hP.ex
  have hlim := hset.tops.lims hP
  have hsum : 0 ≤ sumV (settN M es p k) M := sumV_nn (fun u => (hlim u).1) M
  have hz : sumV (fun _ : Nat => (0 : Int)) M = 0 := by
    have : ∀ j, sumV (fun _ : Nat => (0 : Int)) j = 0 := fun j => by induction j with
      | zero => rfl
      | succ j ih => rw [sumV, ih]; rfl
    exact this M
  have hcnt := runL_set hP ((sumV (settN M es p k) M).toNat + 1) (fun _ => 0) Tops.zero (by rw [hz]; omega)
  have hsz := hbe.size
  have hFix : Fix (fun b => b < w.heap.size) sp pb g M k w.heap.size es := ⟨fun _ h => h, by omega, o3, o4, hP.n12, hP.ed, hP.m6, hP.qm, prog_noG⟩
  have hek : EdgeK w' A es := hK.keep fun a e => hbe.block _ (hK.lt e)
  have hCI : CI (fun b => b < w.heap.size) sp pb g M cg c k w.heap.size A es p (fun b => b = sp ∨ b = pb ∨ b = g) w' := by
    obtain ⟨ds, t, hr⟩ := hrow
    refine ⟨hsz, ⟨_, hpl.sand, rfl, rfl⟩, ⟨_, hpl.board, rfl, rfl⟩, ⟨ds, t, hr, fun i z hz => ?_⟩, ⟨.inl rfl, .inr (.inl rfl), .inr (.inr rfl)⟩, hE.below hbe, hek, fun a e => hK.lt e⟩
    rw [← cell_at hr]
    exact (hpl.chips.cell i z hz).1
  have hccl := heap_lt hcc
  have hParts : Parts (fun b => b < w.heap.size) (fun b => b = bx) (fun b => b = sp ∨ b = pb ∨ b = g) cc w'.heap.size := by
    refine ⟨?_, ?_, ?_, ?_, ?_, ?_, ?_, ?_, ?_, hccl⟩
    all_goals first | (intro b hb; omega) | (intro h; omega) | skip
    all_goals (simp only; omega)
  refine ToD.ctl prog_bodied prog_ready (fun _ _ => step_seq) ?_
  refine ToD.regionL prog_bodied prog_ready (l := [0, 1, 2]) rfl ?_
  refine ToD.value prog_bodied prog_ready (v := .pointer (some ⟨sp, 0, none⟩)) rfl rfl rfl (fun _ _ _ _ => by simp [execOp, go_sem, Act.eval]) ?_
  refine ToD.value prog_bodied prog_ready (v := .chan (some cc)) rfl rfl rfl (fun _ _ _ _ => by simp [execOp, go_sem, Act.eval]) ?_
  simp only [List.setIfInBounds_toArray, List.set_cons_zero, List.set_cons_succ]
  refine (ToD.pipe (P := Try.prog) (S := fun b => b < w.heap.size) (c := cc) (z := .int .i64 0) (FinS := FinP (fun b => b < w.heap.size) sp pb g M cg c k w.heap.size A es p) (FinR := FinC sp cc w'.heap.size M cs (settN M es p k))
    (vs := sentV (runL M es p k ((sumV (settN M es p k) M).toNat + 1) fun _ => 0)) (O0 := fun b => b = bx) (O1 := fun b => b = sp ∨ b = pb ∨ b = g) (w := w') (child := born Try.prog (setCall sp cc)) (cs1 := cs) (fr1 := stF.at ⟨List.toArray (y0 :: y1 :: y2 :: .pointer (some ⟨bx, 0, none⟩) :: y4 :: y5 :: y6 :: y7 :: y8 :: .pointer (some ⟨sp, 0, none⟩) :: .chan (some cc) :: y11 :: y12 :: y13 :: y14 :: y15 :: y16 :: y17 :: y18 :: y19 :: y20 :: y21 :: y22 :: .pointer (some ⟨sp, 0, none⟩) :: .chan (some cc) :: y25 :: y26 :: y27 :: y28 :: y29 :: y30 :: y31 :: y32 :: y33 :: y34 :: y35 :: y36 :: y37 :: y38 :: y39 :: y40 :: y41 :: y42 :: y43 :: y44 :: y45 :: []), []⟩ [.inRegion stOps5 [], .code stRecv])
    (Q := fun fr2 cs2 w2 => cs2 = cs ∧ ∃ (tb : Nat) (y0 y1 y2 y3 y4 y5 y6 y7 y8 y12 y13 y14 y15 y16 y17 y18 y19 y20 y21 y22 y23 y24 y25 y26 y27 y30 y31 y32 y33 y34 y35 y36 y37 y38 y39 y40 y41 y42 y43 y44 y45 : Value), fr2 = stF.at ⟨List.toArray (y0 :: y1 :: y2 :: y3 :: y4 :: y5 :: y6 :: y7 :: y8 :: .pointer (some ⟨sp, 0, none⟩) :: .chan (some cc) :: .slice (some ⟨tb, 0, none⟩) M M :: y12 :: y13 :: y14 :: y15 :: y16 :: y17 :: y18 :: y19 :: y20 :: y21 :: y22 :: y23 :: y24 :: y25 :: y26 :: y27 :: .chan (some cc) :: .tuple #[.int .i64 0, .bool false] :: y30 :: y31 :: y32 :: y33 :: y34 :: y35 :: y36 :: y37 :: y38 :: y39 :: y40 :: y41 :: y42 :: y43 :: y44 :: y45 :: []), []⟩ [.inRegion stOps8 [1], .code stTail8, .inLoop stLoop, .inBlock 0, .code stEnd] ∧
      w2.cell? ⟨sp, 0, none⟩ = some (.pointer (some ⟨pb, 0, none⟩)) ∧ w2.cell? ⟨pb, 1, none⟩ = some (.slice (some ⟨g, 0, none⟩) M cg) ∧ R (.tuple #[.slice (some ⟨g, 0, none⟩) M cg, .slice (some ⟨tb, 0, none⟩) M M, .bool true]) w2)
    (fun O w w1 hkp h => CI.stable h hkp fun _ x => x) (fun d => ?hs) hParts ⟨0, 0, hcc⟩ ?hR (set_sends hFix hP hCI) ?hE).bind ?hB
  case hs => exact st_spawn rfl rfl
  case hR => exact set_recv (O := fun b => b = bx) hP.m6 (settN M es p k) _ (runL_lt _ _) (fun u => ⟨(Int.zero_add _).symm.trans (hcnt u), by have := hlim u; omega⟩) rfl hbx stOps5 y0 y1 y2 y4 y5 y6 y7 y8 y11 y12 y13 y14 y15 y16 y17 y18 y19 y20 y21 y22 (.pointer (some ⟨sp, 0, none⟩)) (.chan (some cc)) y25 y26 y27 y28 y29 y30 y31 y32 y33 y34 y35 y36 y37 y38 y39 y40 y41 y42 y43 y44 y45
  case hE =>
    rintro O0' O1' g2 w2 ⟨tb, y0, y1, y2, y3, y4, y5, y6, y7, y8, y12, y13, y14, y15, y16, y17, y18, y19, y20, y21, y22, y23, y24, y25, y26, y27, y30, y31, y32, y33, y34, y35, y36, y37, y38, y39, y40, y41, y42, y43, y44, y45, htb, hRI, rfl⟩ hFS hPt hSi
    obtain ⟨c0, c1, hO⟩ := CI.outc hFS
    have hgl := hpl.chips.lt
    have hbl : Below w.heap.size w w2 := ⟨hSi.os.trans hbe.os, hSi.tape.trans hbe.tape, hSi.out.trans hbe.output, by have := hSi.size; omega, fun b hb => by
      rw [hSi.block b (by omega) (fun h => by have h : b = bx ∨ b = sp ∨ b = pb ∨ b = g := h; omega) (by omega), hbe.block b hb]⟩
    refine ⟨_, _, rfl, ?_, hcl, rfl, tb, y0, y1, y2, y3, y4, y5, y6, y7, y8, y12, y13, y14, y15, y16, y17, y18, y19, y20, y21, y22, y23, y24, y25, y26, y27, y30, y31, y32, y33, y34, y35, y36, y37, y38, y39, y40, y41, y42, y43, y44, y45, rfl, c0, c1, hfin tb w2 (by omega) (by omega) (hO _ (by omega)) (OwnI.of_blk hRI.blk (by omega)) hbl⟩
    intro i hi
    simp only [Frame.at, List.mem_cons, List.not_mem_nil, or_false] at hi
    rcases hi with rfl | rfl | rfl | rfl | rfl <;> trivial
  case hB =>
    rintro fr2 cs2 w2 ⟨rfl, tb, y0, y1, y2, y3, y4, y5, y6, y7, y8, y12, y13, y14, y15, y16, y17, y18, y19, y20, y21, y22, y23, y24, y25, y26, y27, y30, y31, y32, y33, y34, y35, y36, y37, y38, y39, y40, y41, y42, y43, y44, y45, rfl, c0, c1, hw2⟩
    exact st_rest hRe w2 c0 c1 hw2 _ _ _ _ _ _ _ _ _ _ _ _ _ _ _ _ _ _ _ _ _ _ _ _ _ _ _ _ _ _ _ _ _ _ _ _ _ _ _ _ _
theorem wi_edges {w : World} {A : Option Addr} {es : List (Int × Int)} (h : EdgeS w w.heap.size A es) (t : TpL) (d : Nat) (o : Os) (u : OutL) : EdgeS (w.wi t d o u) (w.wi t d o u).heap.size A es := h
theorem wi_ints {w : World} {A : Option Addr} {xs : List Int} (h : IntS w w.heap.size A xs) (t : TpL) (d : Nat) (o : Os) (u : OutL) : IntS (w.wi t d o u) (w.wi t d o u).heap.size A xs := h
theorem below_real {w w' : World} {oB : Os} {T : TpL} {t : TpL} {d : Nat} {o : Os} {u : OutL} {B : Nat} (h : Below B (w.wi T 0 oB #[]) (w'.wi t d o u)) (hd : Drew w w') : Below B w w' := ⟨hd.os, hd.tape, hd.out, h.size, h.block⟩
theorem st_enter (args : Array Value) : Frame.enter Try.prog 18 args .normal = stF.at { tmps := args ++ Array.replicate (Try.f18.ntmps - args.size) undef, defers := [] } [.code stBody] :=
  enter_at args Try.func18 (by kernel_rfl)
set_option maxRecDepth 100000 in
set_option maxHeartbeats 2000000 in
/-- STABILIZE -/
theorem implStabT (N : Int) (A D : Option Addr) (c cd : Nat) (es : List (Int × Int)) (p : List Int) (q : Int) (w : World) (hn : es.length ≤ 1048576) (hd : p.length ≤ 1048576) (hE : EdgeS w w.heap.size A es) (hK : EdgeK w A es) (hS : IntS w w.heap.size D p) :
    CallsT Try.prog 18 #[.agg #[.int .i64 N, .slice A es.length c], .slice D p.length cd, .int .i64 q] w fun v w' => GivesTwoOk w (stabX N es p q) (stabC N es p q) (pileB N es p q) (.returned v) w' := by
  refine callsT_of_last prog_bodied prog_ready (givesTwo_easy _ _ _ _) fun cs => ?_
  rw [st_enter, st_split]
  simp only [Try.ntmps18, List.size_toArray, List.length_cons, List.length_nil, Nat.reduceAdd, Nat.reduceSub, Array.replicate_succ, Array.replicate_zero, List.push_toArray, List.append_toArray, List.nil_append, List.cons_append]
  refine toD_pre prog_bodied prog_ready (K0 := StK N A c es p q) (Q0 := StQ N es p q) (fun x a w h => by cases h.1) (fun oB T _ => st_pre N A D c cd es p q (w.wi T 0 oB #[]) hn hd (wi_edges hE _ _ _ _) (wi_ints hS _ _ _ _)) ?_ ?_
  · rintro a' w' ⟨oB, T, t, d, o, u, hB, sp, pb, g, cg, bx, cc, y0, y1, y2, y4, y5, y6, y7, y8, y11, y12, y13, y14, y15, y16, y17, y18, y19, y20, y21, y22, y23, y24, y25, y26, y27, y28, y29, y30, y31, y32, y33, y34, y35, y36, y37, y38, y39, y40, y41, y42, y43, y44, y45, rfl, hpl, hrow, hbx, hcc, o1, o2, o3, o4, o5, hbe⟩ hdr
    obtain ⟨M, k, rfl, rfl, hP, -⟩ := pile_parts hB
    rw [stabX_t hB, stabC_t hB, hB]
    have hpl2 := hpl k rfl
    rw [hP.len] at hpl2
    have hpl3 : Pile w' sp pb g M cg c k A es p := ⟨hpl2.sand, hpl2.board, ⟨hpl2.chips.lt, hpl2.chips.cell⟩⟩
    have hrow3 : Row0 w' g := hrow
    have hbx3 : Blk w' bx 25 #[.int .i64 (M : Int), .slice A es.length c] := hbx
    have hcc3 : w'.heap[cc]? = some (.chan 0 #[] false 0 0 false) := hcc
    exact st_go (givesTwo_easy _ _ _ _) hP hE hK hpl3 hrow3 hbx3 hcc3 o1 o2 o3 o4 o5 (below_real hbe hdr) (fun tb w2 hne htb h1 h2 h3 => ⟨_, _, cg, M, by rw [pileL_len, cntL_len], h1, h2, fun _ _ g1 e1 g2 e2 h4 h5 => by cases h4; cases h5; exact hne, h3⟩) _ _ _ _ _ _ _ _ _ _ _ _ _ _ _ _ _ _ _ _ _ _ _ _ _ _ _ _ _ _ _ _ _ _ _ _ _ _ _ _ _ _ _
  · rintro e a' w' hne ⟨oB, T, t, d, o, u, rfl, hB, h1, h2, h3, h4, hbe⟩ hdr
    refine goesT_last prog_bodied prog_ready (givesTwo_easy _ _ _ _) Try.func18 ⟨h1, .tuple #[.slice none 0 0, .slice none 0 0, .bool false], fun t d o u => ?_, ?_⟩
    · rw [results_tmp3 rfl, h2, h3, h4]
    · rw [stabX_f hB, stabC_f hB, hB]
      exact ⟨none, none, 0, 0, rfl, OwnI.nil _ _ _, OwnI.nil _ _ _, fun h => absurd h (by simp), below_real hbe hdr⟩
end Go.Proofs.Ytndncmjhpbjcoaa
