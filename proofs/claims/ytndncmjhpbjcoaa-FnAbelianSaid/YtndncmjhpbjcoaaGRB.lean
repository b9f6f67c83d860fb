/- One text out of several: RenN RenP RenQ. -/
import Derived.Test.YtndncmjhpbjcoaaGRA
import Derived.Conc.CompanyDraw
set_option linter.all false
/- What is carried over, as a test that can be reckoned. -/
namespace Go.Proofs.Ytndncmjhpbjcoaa

section
variable (ok : FuncId → Bool) (P : Program)
def flat1 : Value → Bool
  | .bool _ | .int _ _ | .string _ | .pointer none | .slice none _ _ | .nilFunc | .nilIface => true
  | .func (.func f) xs cs => ok f && xs.isEmpty && cs.isEmpty
  | _ => false
def flatB : Value → Bool
  | .agg cs => cs.all (flat1 ok)
  | .tuple cs => cs.all (flat1 ok)
  | v => flat1 ok v
def zeroB (t : TypeId) : Bool :=
  match P.info? t with
  | some i => match i.zero with
    | some v => flatB ok v
    | none => true
  | none => true
def zeroElemB (t : TypeId) : Bool :=
  match P.underlying t with
  | some (.slice e) => zeroB ok P e
  | _ => true
def intB (t : TypeId) : Bool := match P.underlying t with | some (.int _) => true | _ => false
def boolB (t : TypeId) : Bool := match P.underlying t with | some .bool => true | _ => false
def sliceB (t : TypeId) : Bool := match P.underlying t with | some (.slice _) => true | _ => false
def plainB (t : TypeId) : Bool :=
  match P.info? t with
  | some i => match i.desc with
    | .named n _ => n != "sync.copyChecker"
    | _ => true
  | none => true
def binB (op : BinOp) (t : TypeId) : Bool :=
  match op with
  | .add | .sub | .quo | .lss | .leq | .gtr | .geq => intB P t
  | .eql | .neq => (intB P t && plainB P t) || (boolB P t || sliceB P t)
  | _ => false
def xB : Operand → Bool
  | .tmp _ => true
  | .const v => flatB ok v
  | .func f => ok f
  | .global _ => false
def opB (o : Op) : Bool :=
  match o with
  | .move x | .assign x => xB ok x
  | .pick c a b => xB ok c && xB ok a && xB ok b
  | .alloc t => zeroB ok P t
  | .box _ x => xB ok x
  | .build t parts => zeroB ok P t && parts.all fun p => xB ok p.2
  | .buildSlice t _ parts => zeroElemB ok P t && parts.all fun p => xB ok p.2
  | .load _ a => xB ok a
  | .store _ a x => xB ok a && xB ok x
  | .nilCheck x => xB ok x
  | .binOp op t x y _ => binB P op t && xB ok x && xB ok y
  | .unOp op _ x => (match op with | .neg | .not => true | _ => false) && xB ok x
  | .makeSlice t l c => zeroElemB ok P t && xB ok l && xB ok c
  | .fieldAddr _ x _ => xB ok x
  | .indexAddr _ x i => xB ok x && xB ok i
  | .call c => c.args.all (xB ok) &&
    match c.callee with
    | .value f => xB ok f
    | .builtin .append => (match c.argTypes[0]? with | some s => zeroElemB ok P s | none => true) && (match c.argTypes[1]? with | some s => !intB P s | none => true)
    | .builtin .len | .builtin .min => true
    | _ => false
  | _ => false
def codeB : Code → Bool
  | .seq a b => codeB a && codeB b
  | .cond c a b => xB ok c && codeB a && codeB b
  | .block _ c | .loop c | .scope c => codeB c
  | .region _ ops _ => ops.all fun o => opB ok P o.op
  | .exit _ | .ret | .skip | .label _ => true
  | _ => false
def fnB (f : FuncId) : Bool :=
  match P.funcs[f]? with
  | some fn => !(fn.name == "runtime.NumGoroutine") && (match fn.body with | some c => codeB ok P c | none => false) && fn.results.all fun | .tmp _ => true | _ => false
  | none => false
end
section
variable {ok : FuncId → Bool} {P : Program} [FnsOk]
theorem flat1_sound (hk : ∀ f, ok f = true → FnsOk.ok f) {v : Value} (h : flat1 ok v = true) : Flat v := by
  unfold flat1 at h
  split at h
  · exact .bool _
  · exact .int _ _
  · exact .string _
  · exact .nil
  · exact .slice0 _ _
  · exact .nilFunc
  · exact .nilIface
  · rename_i f xs cs
    simp only [Bool.and_eq_true, Array.isEmpty_iff] at h
    obtain ⟨⟨h1, rfl⟩, rfl⟩ := h
    exact .func f (hk f h1)
  · cases h
theorem flatB_sound (hk : ∀ f, ok f = true → FnsOk.ok f) {v : Value} (h : flatB ok v = true) : Flat v := by
  unfold flatB at h
  split at h
  · rw [Array.all_eq_true'] at h
    exact .agg fun c hc => flat1_sound hk (h c hc)
  · rw [Array.all_eq_true'] at h
    exact .tuple fun c hc => flat1_sound hk (h c hc)
  · exact flat1_sound hk h
theorem zeroB_sound (hk : ∀ f, ok f = true → FnsOk.ok f) {t : TypeId} (h : zeroB ok P t = true) : ZeroFlat P t := fun i v h1 h2 => by
  unfold zeroB at h
  rw [h1] at h
  simp only [h2] at h
  exact flatB_sound hk h
theorem zeroElemB_sound (hk : ∀ f, ok f = true → FnsOk.ok f) {t : TypeId} (h : zeroElemB ok P t = true) : ∀ e, P.underlying t = some (.slice e) → ZeroFlat P e := fun e h1 => by
  unfold zeroElemB at h
  rw [h1] at h
  exact zeroB_sound hk h
theorem intB_sound {t : TypeId} (h : intB P t = true) : ∃ k, P.underlying t = some (.int k) := by
  unfold intB at h
  split at h
  · exact ⟨_, ‹_›⟩
  · cases h
theorem plainB_sound {t : TypeId} (h : plainB P t = true) : ∀ i u, P.info? t = some i → i.desc ≠ .named "sync.copyChecker" u := fun i u h1 h2 => by
  unfold plainB at h
  rw [h1] at h
  simp [h2] at h
theorem binB_sound {op : BinOp} {t : TypeId} (h : binB P op t = true) : okBin P op t := by
  have eqs : ((intB P t && plainB P t) || (boolB P t || sliceB P t)) = true → EqT P t := fun h => by
    simp only [Bool.or_eq_true, Bool.and_eq_true] at h
    rcases h with ⟨h1, h2⟩ | h1 | h1
    · exact .inl ⟨intB_sound h1, plainB_sound h2⟩
    rotate_left
    · refine .inr (.inr ?_)
      unfold sliceB at h1
      split at h1
      · exact ⟨_, ‹_›⟩
      · cases h1
    · refine .inr (.inl ?_)
      unfold boolB at h1
      split at h1
      · assumption
      · cases h1
  cases op <;> simp only [binB] at h <;> first
    | (cases h; done)
    | exact .inl ⟨.inl rfl, intB_sound h⟩
    | exact .inl ⟨.inr (.inl rfl), intB_sound h⟩
    | exact .inl ⟨.inr (.inr (.inl rfl)), intB_sound h⟩
    | exact .inl ⟨.inr (.inr (.inr (.inl rfl))), intB_sound h⟩
    | exact .inl ⟨.inr (.inr (.inr (.inr (.inl rfl)))), intB_sound h⟩
    | exact .inl ⟨.inr (.inr (.inr (.inr (.inr (.inl rfl))))), intB_sound h⟩
    | exact .inl ⟨.inr (.inr (.inr (.inr (.inr (.inr rfl))))), intB_sound h⟩
    | exact .inr ⟨.inl rfl, eqs h⟩
    | exact .inr ⟨.inr rfl, eqs h⟩
theorem xB_sound (hk : ∀ f, ok f = true → FnsOk.ok f) {x : Operand} (h : xB ok x = true) : okX x := by
  cases x with
  | tmp t => trivial
  | const v => exact flatB_sound hk h
  | func f => exact hk f h
  | global g => cases h
theorem opB_sound (hk : ∀ f, ok f = true → FnsOk.ok f) {o : Op} (h : opB ok P o = true) : okOp P o := by
  have hx : ∀ {x : Operand}, xB ok x = true → okX x := fun h => xB_sound hk h
  cases o <;> simp only [opB, Bool.and_eq_true, Bool.false_eq_true] at h <;> first | exact h.elim | skip
  case move x => exact hx h
  case assign x => exact hx h
  case pick c a b => exact ⟨hx h.1.1, hx h.1.2, hx h.2⟩
  case alloc t => exact zeroB_sound hk h
  case box t x => exact hx h
  case build t parts =>
    rw [Array.all_eq_true'] at h
    exact ⟨zeroB_sound hk h.1, fun p hp => hx (h.2 p hp)⟩
  case buildSlice t n parts =>
    rw [Array.all_eq_true'] at h
    exact ⟨zeroElemB_sound hk h.1, fun p hp => hx (h.2 p hp)⟩
  case load t a => exact hx h
  case store t a x => exact ⟨hx h.1, hx h.2⟩
  case nilCheck x => exact hx h
  case binOp op t x y yt => exact ⟨binB_sound h.1.1, hx h.1.2, hx h.2⟩
  case unOp op t x =>
    refine ⟨?_, hx h.2⟩
    cases op <;> first | exact .inl rfl | exact .inr rfl | (cases h.1; done)
  case makeSlice t l c => exact ⟨zeroElemB_sound hk h.1.1, hx h.1.2, hx h.2⟩
  case fieldAddr s x f => exact hx h
  case indexAddr t x i => exact ⟨hx h.1, hx h.2⟩
  case call c =>
    obtain ⟨callee, args, argTypes⟩ := c
    obtain ⟨h1, h2⟩ := h
    simp only at h1 h2
    rw [Array.all_eq_true'] at h1
    refine ⟨fun x hx' => hx (h1 x hx'), ?_⟩
    cases callee with
    | value f => exact hx h2
    | builtin b =>
      cases b <;> first | (cases h2; done) | trivial | skip
      simp only [Bool.and_eq_true] at h2
      refine ⟨fun s e h3 h4 => ?_, fun s k h3 h4 => ?_⟩
      · have := h2.1
        simp only [h3] at this
        exact zeroElemB_sound hk this e h4
      · have := h2.2
        simp only [h3] at this
        simp [intB, h4] at this
    | _ => cases h2
theorem codeB_sound (hk : ∀ f, ok f = true → FnsOk.ok f) : ∀ {c : Code}, codeB ok P c = true → okCode P c
  | .seq a b, h => by
    simp only [codeB, Bool.and_eq_true] at h
    exact ⟨codeB_sound hk h.1, codeB_sound hk h.2⟩
  | .cond c a b, h => by
    simp only [codeB, Bool.and_eq_true] at h
    exact ⟨xB_sound hk h.1.1, codeB_sound hk h.1.2, codeB_sound hk h.2⟩
  | .block _ c, h => codeB_sound (c := c) hk h
  | .loop c, h => codeB_sound (c := c) hk h
  | .scope c, h => codeB_sound (c := c) hk h
  | .region _ ops _, h => by
    simp only [codeB] at h
    rw [Array.all_eq_true'] at h
    exact fun o ho => opB_sound hk (h o ho)
  | .exit _, _ => trivial
  | .ret, _ => trivial
  | .skip, _ => trivial
  | .label _, _ => trivial
  | .goto _, h => by cases h
  | .rangeFunc _ _ _ _, h => by cases h
  | .refuse _, h => by cases h
theorem fnsGood (hk : ∀ f, ok f = true → FnsOk.ok f) (hk2 : ∀ f, FnsOk.ok f → ok f = true) (h : ∀ f, ok f = true → fnB ok P f = true) : FnsGood P := fun f hf => by
  have h1 := h f (hk2 f hf)
  unfold fnB at h1
  split at h1
  · rename_i fn hfn
    simp only [Bool.and_eq_true, Bool.not_eq_true'] at h1
    obtain ⟨⟨h2, h3⟩, h4⟩ := h1
    split at h3
    · rename_i c hc
      refine ⟨fn, c, hfn, h2, hc, codeB_sound hk h3, fun r hr => ?_⟩
      rw [Array.all_eq_true'] at h4
      have := h4 r hr
      split at this
      · exact ⟨_, rfl⟩
      · cases this
    · cases h3
  · cases h1
end
end Go.Proofs.Ytndncmjhpbjcoaa

/- A call in company whose arguments lie in memory that it only reads. -/
namespace Go.Proofs.Ytndncmjhpbjcoaa
open Go.Conc (G)

variable [FnsOk]
section
variable {P : Program} {F : Nat → Prop} {f : FuncId} {args : Array Value}
def idR (F : Nat → Prop) : Ren := fun r s => r = s ∧ F r
def ObF (F : Nat → Prop) (o : Option Obj) : Prop := (∃ cs t, o = some (.cells cs t (0, 0)) ∧ AR (idR F) cs cs) ∨ (∃ a l, o = some (.number a l) ∧ ADR (idR F) a a)
theorem ObF.lt {W : World} {r : Nat} (h : ObF F W.heap[r]?) : r < W.heap.size := by
  rcases h with ⟨_, _, e, -⟩ | ⟨_, _, e, -⟩ <;> exact (Array.getElem?_eq_some_iff.1 e).1
end
end Go.Proofs.Ytndncmjhpbjcoaa

/- In company: moves of control, one operation, a region that draws its order. -/
namespace Go.Proofs.Ytndncmjhpbjcoaa
open Go.Conc

section
variable {P : Program} {main : Bool} {S O : Nat → Prop} {Stop : (Nat → Prop) → Goroutine → World → Prop}
theorem grow_self (O : Nat → Prop) (W : World) : grow O W W = O := by
  funext b
  exact propext ⟨fun h => h.elim id fun h => by omega, .inl⟩
theorem OwnStep.idle (W : World) : OwnStep S O W W #[] := ⟨Nat.le_refl _, rfl, rfl, rfl, fun _ _ _ => rfl, fun e he => by simp at he⟩
theorem Keep.refl (S O : Nat → Prop) (W : World) : Keep S O W W := ⟨fun _ _ _ => rfl, Nat.le_refl _⟩
variable [FnsOk]
theorem Co.ctl {g g' : Goroutine} {W : World} (hr : g.status = .running) (h : ∀ W1, stepG P main g W1 = .go g' W1 #[]) (hc : Co P main S Stop O g' W) : Co P main S Stop O g W :=
  Co.one hr fun W1 k => ⟨g', W1, _, h W1, OwnStep.idle W1, by rw [grow_self]; exact hc.rely k⟩
variable {b : Frame} {a : Act} {k : List Item} {cs : List Frame} {W : World} {ops : Array Oper} {i : Nat} {rest : List Nat} {o : Oper}
theorem Co.seq {x y : Code} (hc : Co P main S Stop O (G (b.at a (.code x :: .code y :: k)) cs) W) : Co P main S Stop O (G (b.at a (.code (.seq x y) :: k)) cs) W := Co.ctl rfl (fun _ => stepG_seq) hc
theorem Co.regionEnd (hc : Co P main S Stop O (G (b.at a k) cs) W) : Co P main S Stop O (G (b.at a (.inRegion ops [] :: k)) cs) W := Co.ctl rfl (fun _ => stepG_region_end) hc
theorem Co.region {id : Nat} (hc : Co P main S Stop O (G (b.at a (.inRegion ops (List.range ops.size) :: k)) cs) W) : Co P main S Stop O (G (b.at a (.code (.region id ops false) :: k)) cs) W := Co.ctl rfl (fun _ => stepG_region) hc
theorem Co.value {v : Value} (ho : ops[i]? = some o) (hw : Region.wanted o (yielded ops a.tmps) = true) (hk : b.kind ≠ .early)
    (h : ∀ W1, Keep S O W W1 → (execOp a.eval o).run P W1 = .ok (.value v) W1 ∧ ∀ e ∈ listed P b.fn a o W1, EvO S O e)
    (hc : Co P main S Stop O (G (b.at (a.put o.dst v) (.inRegion ops rest :: k)) cs) W) : Co P main S Stop O (G (b.at a (.inRegion ops (i :: rest) :: k)) cs) W :=
  Co.one rfl fun W1 k1 => by
    obtain ⟨h1, h2⟩ := h W1 k1
    refine ⟨_, W1, _, stepG_value ho hw hk h1, ⟨Nat.le_refl _, rfl, rfl, rfl, fun _ _ _ => rfl, ?_⟩, ?_⟩
    · rw [grow_self]
      exact h2
    · rw [grow_self]
      exact hc.rely k1
theorem Co.enter {f : FuncId} {args : Array Value} (ho : ops[i]? = some o) (hw : Region.wanted o (yielded ops a.tmps) = true) (hk : b.kind ≠ .early)
    (h : ∀ W1, Keep S O W W1 → (execOp a.eval o).run P W1 = .ok (.enter f args) W1 ∧ ∀ e ∈ listed P b.fn a o W1, EvO S O e)
    (hc : Co P main S Stop O (G (Frame.enter P f args .normal) (b.at a (.inRegion ops (i :: rest) :: k) :: cs)) W) : Co P main S Stop O (G (b.at a (.inRegion ops (i :: rest) :: k)) cs) W :=
  Co.one rfl fun W1 k1 => by
    obtain ⟨h1, h2⟩ := h W1 k1
    refine ⟨_, W1, _, stepG_enter ho hw hk h1, ⟨Nat.le_refl _, rfl, rfl, rfl, fun _ _ _ => rfl, ?_⟩, ?_⟩
    · rw [grow_self]
      exact h2
    · rw [grow_self]
      exact hc.rely k1
theorem Co.load {ad : Addr} {v : Value} (ho : ops[i]? = some o) (hw : Region.wanted o (yielded ops a.tmps) = true) (hk : b.kind ≠ .early) (hs : S ad.block ∨ O ad.block) (hl : ad.block < W.heap.size)
    (h : ∀ W1 : World, W1.heap[ad.block]? = W.heap[ad.block]? → (execOp a.eval o).runT P W1 #[] = (.ok (.value v) W1, #[⟨.cell ad, false, false⟩]))
    (hc : Co P main S Stop O (G (b.at (a.put o.dst v) (.inRegion ops rest :: k)) cs) W) : Co P main S Stop O (G (b.at a (.inRegion ops (i :: rest) :: k)) cs) W :=
  Co.value ho hw hk (fun W1 k1 => by
    have h1 := h W1 (k1.block _ hl hs)
    refine ⟨?_, fun e he => ?_⟩
    · rw [← Sem.runT_fst P (execOp a.eval o) W1 #[], h1]
    · have h2 := Conc.mem_seen he
      unfold Sem.events at h2
      rw [h1] at h2
      simp only [List.mem_toArray, List.mem_singleton] at h2
      refine .inl ⟨ad, by rw [h2], by rw [h2], ?_⟩
      rcases hs with x | x
      · exact .inr ⟨x, by rw [h2]⟩
      · exact .inl x) hc
end
end Go.Proofs.Ytndncmjhpbjcoaa
