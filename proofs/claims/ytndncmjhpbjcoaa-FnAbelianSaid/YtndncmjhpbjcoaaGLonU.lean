/- A walk beside leavers, function by function: a call that starts goroutines amid what runs alone; a function, a law out of its last frame. -/
import Derived.Test.YtndncmjhpbjcoaaGLonS
import Derived.Test.YtndncmjhpbjcoaaGLawT
set_option linter.all false
namespace Go.Proofs.Ytndncmjhpbjcoaa
open Go Go.Conc Go.ConcN Go.RowKit Go.WideShapes Go.ChangeShapes Go.ChangeAt

def LastT (P : Program) (f : FuncId) (args : Array Value) (w : World) (R : Value → World → Prop) : Prop := ∀ cs, ToD P (Frame.enter P f args .normal) cs w (Last P f cs R)
theorem preWp_nil {P : Program} {K : Act → World → Prop} {Q : Exit → Act → World → Prop} {a : Act} {w : World} (h : K a w) : PreWp P [] K Q a w := h
theorem preWp_one {P : Program} {x : Code} {l : List Code} {K : Act → World → Prop} {Q : Exit → Act → World → Prop} {a : Act} {w : World} (h : ∀ K' : Act → World → Prop, (∀ a w, PreWp P l K Q a w → K' a w) → x.wp P (Exit.then K' Q) a w) : PreWp P (x :: l) K Q a w := h _ fun _ _ h => h
def tmpsB (fn : Func) : Bool := fn.results.all fun r => match r with | .tmp _ => true | _ => false
theorem mapM_pure {α β : Type} (f : α → Sem β) (g : α → β) : ∀ (l : List α), (∀ x ∈ l, f x = Sem.pure (g x)) → l.mapM f = Sem.pure (l.map g)
  | [], _ => rfl
  | x :: l, h => by
    rw [List.mapM_cons, h x (by simp), mapM_pure f g l fun y hy => h y (by simp [hy])]
    rfl
theorem results_tmps {fn : Func} (h : tmpsB fn = true) (ts : Array Value) : ∃ v, ∀ (P : Program) (w : World), (results fn ts).run P w = .ok v w := by
  unfold tmpsB at h
  rw [Array.all_eq_true'] at h
  refine ⟨if h : (fn.results.toList.map fun r => match r with | .tmp t => ts.getD t undef | _ => undef).toArray.size = 1 then (fn.results.toList.map fun r => match r with | .tmp t => ts.getD t undef | _ => undef).toArray[0] else .tuple (fn.results.toList.map fun r => match r with | .tmp t => ts.getD t undef | _ => undef).toArray, fun P w => ?_⟩
  unfold results
  rw [Array.mapM_eq_mapM_toList]
  have key : ∀ f : ResultVar → Sem Value, (∀ t, f (.tmp t) = Sem.pure (ts.getD t undef)) → fn.results.toList.mapM f = Sem.pure (fn.results.toList.map fun r => match r with | .tmp t => ts.getD t undef | _ => undef) := fun f hf =>
    mapM_pure _ _ _ fun r hr => by
      have := h r (by simpa using hr)
      cases r with
      | tmp t => exact hf t
      | cell a t => cases this
  rw [map_eq_pure_bind, key _ fun t => rfl]
  rfl
section
variable {P : Program}
variable {a : Act} {w w' : World} {b : Frame} {k : List Item} {cs : List Frame} {G : Frame → List Frame → World → Prop}
theorem ToD.call (hb : Bodied P) (hr : Ready P) {ops : Array Oper} {i : Nat} {rest : List Nat} {o : Oper} {t : Tmp} {f : FuncId} {args : Array Value} {R : Value → World → Prop} (ho : ops[i]? = some o) (ht : (ops[i]?).map (·.dst) = some (some t)) (hw : Region.wanted o (yielded ops a.tmps) = true)
    (hx : ∀ t d os u, (execOp a.eval o).run P (w.wi t d os u) = .ok (.enter f args) (w.wi t d os u)) (hC : CallsT P f args w R)
    (h : ∀ v w', R v w' → ToD P (b.at ⟨a.tmps.setIfInBounds t v, a.defers⟩ (.inRegion ops rest :: k)) cs w' G) : ToD P (b.at a (.inRegion ops (i :: rest) :: k)) cs w G := by
  have hd : o.dst = some t := by
    rw [ho] at ht
    simpa using ht
  have hfin : ∀ v, (b.at a (.inRegion ops (i :: rest) :: k)).finish v = b.at ⟨a.tmps.setIfInBounds t v, a.defers⟩ (.inRegion ops rest :: k) := fun v => by rw [Frame.finish_at, ho, Option.bind_some, hd]; rfl
  refine ToD.go1 hb hr (fr' := Frame.enter P f args .normal) (cs' := b.at a (.inRegion ops (i :: rest) :: k) :: cs) (w' := w) (fun t d o u => step_lone_go ?_) (.refl w) ?_
  · rw [stepG_op ho hw]
    simp [stepG.apply, hx, Frame.at]
  · refine (hC _ cs).bind ?_
    rintro fr2 cs2 w2 ⟨rfl, v, rfl, hR⟩
    rw [hfin]
    exact h v w2 hR
theorem toD_tail (hb : Bodied P) (hr : Ready P) {ops : Array Oper} {k0 : Nat} {l : List Nat} {rest : Code} {Q0 : World → Exit → Act → World → Prop} (hno : ∀ x a w, ¬ Q0 x .outgrown a w) (hl : l = List.range' k0 (ops.toList.drop k0).length)
    (h : ∀ oB T, oB.env = w.os.env → wpList P ops (Exit.then (rest.wp P (Q0 (w.wi T 0 oB #[]))) (Q0 (w.wi T 0 oB #[]))) (ops.toList.drop k0) a (w.wi T 0 oB #[]))
    (hQ : ∀ e a' w', Sees w (fun x y => Q0 x e a' y) w' → Drew w w' → GoesT P b k cs G e a' w') : ToD P (b.at a (.inRegion ops l :: .code rest :: k)) cs w G := by
  refine alone_arrives hb hr hno (b := b) (k := k) (fun oB T he => ?_) fun e a' w' h => hQ e a' w' h.1 h.2
  have h0 := h oB T he
  rw [← wpOps_eq_wpList (ops.toList.drop k0) k0 (fun j => by simp), ← hl] at h0
  obtain ⟨e, a1, w2, hq, harr⟩ := wp_ops l a _ h0 b (.code rest :: k) (cs ++ [base1 P])
  cases e with
  | normal =>
    obtain ⟨e2, a2, w3, q2, r2⟩ := hq b k (cs ++ [base1 P])
    exact ⟨e2, a2, w3, q2, .of_steps harr r2⟩
  | exit id => exact ⟨.exit id, a1, w2, hq, .pass (x := .code _) rfl (fun _ _ => .inl (by simp)) harr⟩
  | goto l2 => exact ⟨.goto l2, a1, w2, hq, .pass (x := .code _) rfl (fun _ _ => .inl (by simp)) harr⟩
  | ret => exact ⟨.ret, a1, w2, hq, .pass (x := .code _) rfl (fun _ _ => .inl (by simp)) harr⟩
  | panic ch => exact ⟨.panic ch, a1, w2, hq, .pass (x := .code _) rfl (fun _ _ => .inl (by simp)) harr⟩
  | outgrown => exact ⟨.outgrown, a1, w2, hq, .pass (x := .code _) rfl (fun _ _ => .inl (by simp)) harr⟩
theorem toD_preC (hb : Bodied P) (hr : Ready P) {l : List Code} {rest : Code} {Q0 : World → Exit → Act → World → Prop} (hno : ∀ x a w, ¬ Q0 x .outgrown a w)
    (h : ∀ oB T, oB.env = w.os.env → PreWp P l (fun a' y => ∀ w', w'.heap = y.heap → Drew w w' → ToD P (b.at a' (.code rest :: k)) cs w' G) (Q0 (w.wi T 0 oB #[])) a (w.wi T 0 oB #[]))
    (hQ : ∀ e a' w', e ≠ .normal → Sees w (fun x y => Q0 x e a' y) w' → Drew w w' → GoesT P b k cs G e a' w') : ToD P (b.at a (.code (seqs l rest) :: k)) cs w G :=
  toD_pre hb hr (K0 := fun _ a' y => ∀ w', w'.heap = y.heap → Drew w w' → ToD P (b.at a' (.code rest :: k)) cs w' G) hno h (fun _ w' ⟨_, _, _, _, _, _, h⟩ hd => h w' rfl hd) hQ
theorem toD_pre0 (hb : Bodied P) (hr : Ready P) {l : List Code} {rest : Code} (h : ∀ oB T, oB.env = w.os.env → PreWp P l (fun a' y => ∀ w', w'.heap = y.heap → Drew w w' → ToD P (b.at a' (.code rest :: k)) cs w' G) (fun _ _ _ => False) a (w.wi T 0 oB #[])) : ToD P (b.at a (.code (seqs l rest) :: k)) cs w G :=
  toD_preC hb hr (Q0 := fun _ _ _ _ => False) (fun _ _ _ h => h) h fun _ _ _ _ ⟨_, _, _, _, _, _, h⟩ => h.elim
theorem goesT_body (hb : Bodied P) (hr : Ready P) {f : FuncId} {fn : Func} {R : Value → World → Prop} {R0 : World → Ending → World → Prop} (hR : Easy R) (hf : P.funcs[f]? = some fn) (ht : tmpsB fn = true) {e : Exit} {W : World} (hd : Drew W w)
    (hR0 : ∀ (x : World) (e : Ending) (y : World), R0 x e y → ∃ v, e = .returned v) (hRR : ∀ oB T (v : Value) (z : World), R0 (W.wi T 0 oB #[]) (.returned v) z → ∀ w, w.heap = z.heap → Drew W w → R v w)
    (h : Sees W (fun x y => bodyPost P fn (R0 x) e a y) w) : GoesT P (base f) [] cs (Last P f cs R) e a w := by
  obtain ⟨oB, T, t, d, o, u, h⟩ := h
  refine goesT_last hb hr hR hf ?_
  obtain ⟨v0, hv0⟩ := results_tmps ht a.tmps
  have key : (a.defers = [] ∧ ∃ v, (results fn a.tmps).run P (w.wi t d o u) = .ok v (w.wi t d o u) ∧ R0 (W.wi T 0 oB #[]) (.returned v) (w.wi t d o u)) → a.defers = [] ∧ ∃ v, (∀ t d o u, (results fn a.tmps).run P (w.wi t d o u) = .ok v (w.wi t d o u)) ∧ R v w := fun ⟨h1, v, h2, h3⟩ => by
    rw [hv0] at h2
    cases h2
    exact ⟨h1, v0, fun t d o u => hv0 P _, hRR oB T v0 _ h3 w rfl hd⟩
  cases e with
  | normal => exact key h
  | ret => exact key h
  | panic ch => obtain ⟨_, h2⟩ := hR0 _ _ _ h.2; cases h2
  | outgrown => obtain ⟨_, h2⟩ := hR0 _ _ _ h; cases h2
  | exit id => exact h.elim
  | goto l => exact h.elim
theorem lastT_of_wp (hb : Bodied P) (hr : Ready P) {f : FuncId} {fn : Func} {c : Code} {args : Array Value} {R : Value → World → Prop} {R0 : World → Ending → World → Prop} (hR : Easy R) (hf : P.funcs[f]? = some fn) (hbd : fn.body = some c) (ht : tmpsB fn = true)
    (hR0 : ∀ (x : World) (e : Ending) (y : World), R0 x e y → ∃ v, e = .returned v) (hRR : ∀ oB T (v : Value) (z : World), R0 (w.wi T 0 oB #[]) (.returned v) z → ∀ w', w'.heap = z.heap → Drew w w' → R v w')
    (h : ∀ oB T, oB.env = w.os.env → c.wp P (bodyPost P fn (R0 (w.wi T 0 oB #[]))) { tmps := args ++ Array.replicate (fn.ntmps - args.size) undef, defers := [] } (w.wi T 0 oB #[])) : LastT P f args w R := fun cs => by
  rw [enter_at args hf hbd]
  refine wpT_of_wp hb hr (Q0 := fun x => bodyPost P fn (R0 x)) (fun x a w h => ?_) h (base f) [] cs _ fun e a' w' hh => goesT_body hb hr hR hf ht hh.2 hR0 hRR hh.1
  obtain ⟨_, h2⟩ := hR0 _ _ _ h
  cases h2
end
theorem law_liftedD {C : Checked} {os : Os} {f : FuncId} {fn : Func} {s : ChangeSpec} {apart fresh handsOn again : Bool} {H : Type} {enc : TypeId × Value → H} {tb : TypeId} {c : Code} (hb : Bodied C.prog) (hr : Ready C.prog)
    (own : ownKnob C.prog.godebug = none) (started : os.Started) (noInit : C.prog.inits.idxOf? f = none) (hfn : C.prog.funcs[f]? = some fn) (hbd : fn.body = some c)
    (hl : laidOutB C.prog = true) (hrow : (fn.params.toList.all fun t => C.prog.readableRec t && decide (t < C.prog.types.size)) = true)
    (hres : fn.resultTypes = #[tb]) (htb : C.prog.underlying tb = some .bool) (hvars : s.vars = [])
    (witness : ∃ (w : World) (tape : Tape) (i : Input), w.os = os ∧ (w.forCall tape i).Shaped C.prog ∧ i.vars = [] ∧ Input.okWide C.prog (w.forCall tape i) .any w.heap.size f i ∧
      s.pre6 enc C.prog fn [] apart (w.forCall tape i).memory i.args ∧ ({} : Assume).holds C.prog (lone (Frame.enter C.prog f i.args .normal) [] (w.forCall tape i)))
    (spec : ∀ ds : List (DataW H), ds.length = fn.params.size → s.fn H ds = { results := [.lit (.bool true)], args := ds })
    (run : ∀ (W : World) (base : Nat) (args : Array Value) (ds : List (DataW H)) (ps : List MemPlace),
      (∀ (j : Nat) t v, fn.params[j]? = some t → args[j]? = some v → Value.okWide C.prog W .any base t v) →
      DataW.TrodAll enc C.prog W 0 (fun _ => true) true fn.params.toList args.toList ds ps → (∀ p ∈ ps, p.block < W.heap.size) →
      LastT C.prog f args W (LawEnd W)) :
    ReturnsInLeavingWide {} C os f .any (s.pre6 enc C.prog fn [] apart) (s.post enc C.prog fn apart fresh handsOn again) := by
  refine returnsInLeavingWide_of_change_sized own started hfn witness ?_
  intro W base args ds gs before hval hW _ _ _
  have hW0 := hW
  obtain ⟨p, q, hA, hV, rfl, hz, hn⟩ := hW0
  have hT := run W base args ds p hval hA (fun x hx => hW.lt x (by simp [hx])) []
  obtain ⟨M, last, o, w', t', r1, r2, r3, r4⟩ := good_of_last hb hr LawEnd.easy hfn hbd noInit hT
  have hlen : ds.length = fn.params.size := by
    have := trodAll_len hA
    simpa using this
  refine ⟨M, last, o, w', t', r1, r2, r3, r4.mono fun v hv => ?_⟩
  obtain ⟨rfl, hbe⟩ := hv
  exact law_post hl hrow hres htb hvars hW (spec ds hlen) hbe
end Go.Proofs.Ytndncmjhpbjcoaa
