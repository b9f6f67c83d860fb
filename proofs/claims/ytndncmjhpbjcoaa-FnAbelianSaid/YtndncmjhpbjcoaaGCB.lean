/- One text out of several: LonH LonI LonK LonL LonM LonN LonO LonP LonQ. -/
import Derived.Test.YtndncmjhpbjcoaaGCA
import Derived.Lone
import Derived.Below
import Derived.Conc.LeavingOf
set_option linter.all false
/- Deferred calls and the way out of a frame; the step as a whole. -/
namespace Go.Proofs.Ytndncmjhpbjcoaa
open Go Go.Conc

section
variable {P : Program}
theorem Sim.opt {F : List Frame → World → GStep} {fr : Frame} {cs : List Frame} (tr : List Frame → Option (Value × List Frame)) (e : ∀ B w, F B w = match tr (cs ++ B) with | some r => .go (G fr r.2) w #[] | none => .go (G fr (cs ++ B)) w #[])
    (h1 : tr (cs ++ [base1 P]) = (tr cs).map (fun x => (x.1, x.2 ++ [base1 P]))) (h2 : ∀ v c2, tr cs = some (v, c2) → CleanS c2) (hf : CleanF fr) (hc : CleanS cs) : Sim P F := fun v mu => by
  rw [e, h1]
  cases ht : tr cs with
  | none => exact .inr ⟨fr, cs, 0, rfl, hf, hc, Fol.refl v, fun B hB t d o u _ _ => by
    rw [e]
    rcases hB with rfl | rfl
    · rw [List.append_nil, ht]; simp
    · rw [h1, ht]; rfl⟩
  | some r => exact .inr ⟨fr, r.2, 0, rfl, hf, h2 r.1 r.2 ht, Fol.refl v, fun B hB t d o u _ _ => by
    rw [e]
    rcases hB with rfl | rfl
    · rw [List.append_nil, ht]; simp
    · rw [h1, ht]; rfl⟩
theorem sim_callDeferred (hb : Bodied P) {fr : Frame} {cs : List Frame} {d : Deferred} (hf : CleanF fr) (hc : CleanS cs) : Sim P fun B w => callDeferred P fr (cs ++ B) none d w := by
  by_cases hn : d.target = .nil ∧ ∃ c, fr.mode = .panicking c
  · obtain ⟨h1, c, h2⟩ := hn
    exact Sim.ended fun B w => ⟨_, _, _, by unfold callDeferred; simp only [h1, h2, Bool.and_self, if_true]; rfl⟩
  refine Sim.runF (law_invoke hb (t := d.target) (args := d.args)) (E := ?E) (K := ?K) (fun B w => ?eq) ?_ ?_ ?_ ?_ ?_
  case eq =>
    unfold callDeferred
    refine (if_neg ?_).trans ?_
    · intro h
      refine hn ?_
      cases ht : d.target <;> cases hm : fr.mode <;> simp [ht, hm] at h
      all_goals exact ⟨rfl, _, rfl⟩
    · generalize (invoke d.target d.args).runT P w #[] = p
      obtain ⟨r, es⟩ := p
      dsimp only
      exact rfl
  · intro r es e he
    have h1 := mem_seen he
    split at h1 <;> first | exact h1 | simp at h1
  · intro r es t dd o u
    cases r with
    | ok a w => rfl
    | halt h w => cases h <;> rfl
  · intro a ha
    cases a with
    | value v => exact Sim.go (fr := fr) (cs := cs) (fun B w => rfl) hf hc
    | skip => exact Sim.go (fr := fr) (cs := cs) (fun B w => rfl) hf hc
    | enter f args => exact Sim.go (fr := Frame.enter P f args .deferred) (cs := fr :: cs) (fun B w => rfl) (CleanF.enter P f args _) (CleanS.cons hf hc)
    | round l f ts a b => exact Sim.go (fr := Frame.round l f ts a b .deferred) (cs := fr :: cs) (fun B w => rfl) (CleanF.round l f ts a b _) (CleanS.cons hf hc)
    | defer dd => exact Sim.go (fr := fr) (cs := cs) (fun B w => rfl) hf hc
    | spawn dd => exact Sim.go (fr := fr) (cs := cs) (fun B w => rfl) hf hc
    | comm a b c => exact Sim.go (fr := fr) (cs := cs) (fun B w => rfl) hf hc
    | recover =>
      cases hm : fr.mode with
      | returning => exact Sim.opt (fr := fr) (cs := cs) (tryRecover fr) (fun B w => by dsimp only; cases tryRecover fr (cs ++ B) <;> rfl) (tryRecover_base fr cs) (fun v c2 h => tryRecover_clean hc h) hf hc
      | _ => exact Sim.go (fr := fr) (cs := cs) (fun B w => rfl) hf hc
    | coroswitch c ex =>
      obtain rfl : ex = true := ha
      intro v mu
      exact ⟨rfl, fr, cs, 0, rfl, hf, hc, Fol.refl v, fun B _ t d o u _ _ => by simp; rfl⟩
    | _ => exact ha.elim
  · intro h hh
    cases h with
    | panic v => exact ⟨Sim.go (fr := fr.raise [{ v, recovered := false }]) (cs := cs) (fun B w => rfl) (hf.raise _) hc, .inl trivial⟩
    | goexit => exact ⟨Sim.go (fr := fr.raise [goexitEntry]) (cs := cs) (fun B w => rfl) (hf.raise _) hc, .inl trivial⟩
    | unsupported uu => exact ⟨Sim.ended fun B w => ⟨_, _, _, rfl⟩, .inr (.inr fun B w => ⟨_, _, _, rfl⟩)⟩
    | _ => exact hh.elim
  · intro h w hh
    cases h with
    | blocked => exact .inr ⟨_, _, _, rfl, gone_blocked (.inl rfl)⟩
    | waiting => exact .inr ⟨_, _, _, rfl, gone_blocked (.inr (.inl rfl))⟩
    | fatal m => exact endFatal_gone ..
    | throw m => exact .inr (gone_endThrow ..)
    | panic v => exact absurd trivial hh
    | goexit => exact absurd trivial hh
    | _ => exact .inl ⟨_, _, _, rfl⟩
theorem law_results {fn : Func} {ts : Array Value} : Law P TT (results fn ts) := by
  unfold results
  refine law_bind (law_mapArr _ fun r => ?_) fun _ => law_pure
  cases r with
  | tmp t => exact law_pure
  | cell a t => exact law_bind law_asAddr fun _ => law_loadVar
theorem sim_unwind (hb : Bodied P) {fr : Frame} {cs : List Frame} (hm : fr.mode ≠ .run) (hf : CleanF fr) (hc : CleanS cs) : Sim P fun B w => unwind P true fr (cs ++ B) none w := by
  cases hd : fr.defers with
  | cons d ds =>
    by_cases ht : ∃ b, d.target = .collected b
    · obtain ⟨b, ht⟩ := ht
      refine Sim.runF (law_takeDeferred (block := b)) (E := ?E) (K := ?K) (fun B w => ?eq) ?_ ?_ ?_ ?_ ?_
      case eq =>
        obtain ⟨tg, as⟩ := d
        simp only at ht
        subst ht
        unfold unwind
        rw [hd]
        dsimp only
        generalize (Instr.takeDeferred b).runT P w #[] = p
        obtain ⟨r, es⟩ := p
        dsimp only
        exact rfl
      · exact fun r es e he => mem_seen he
      · exact fun r es t dd o u => rfl
      · intro calls _
        exact Sim.go (fr := { fr with defers := calls ++ ds }) (cs := cs) (fun B w => rfl) hf hc
      · exact fun h hh => ⟨Sim.ended fun B w => ⟨_, _, _, rfl⟩, .inr (.inr fun B w => ⟨_, _, _, rfl⟩)⟩
      · exact fun h w hh => .inl ⟨_, _, _, rfl⟩
    · refine Sim.cong (sim_callDeferred hb (fr := { fr with defers := ds }) (d := d) hf hc) fun B w => ?_
      unfold unwind
      rw [hd]
      obtain ⟨tg, as⟩ := d
      cases tg with
      | collected b => exact absurd ⟨b, rfl⟩ ht
      | _ => rfl
  | nil =>
    cases hmo : fr.mode with
    | run => exact absurd hmo hm
    | panicking chain =>
      cases hca : fr.catches P with
      | true => exact Sim.ended fun B w => ⟨_, _, _, by unfold unwind; simp only [hd, hmo, hca, if_true]; rfl⟩
      | false =>
        cases cs with
        | nil => exact Sim.gone fun w => ⟨_, _, _, by unfold unwind; simp only [hd, hmo, hca, Bool.false_eq_true, if_false, List.nil_append]; rfl, gone_base (.inr (.inr ⟨chain, rfl⟩))⟩
        | cons c cs => exact Sim.go (fr := c.raise chain) (cs := cs) (fun B w => by unfold unwind; simp only [hd, hmo, hca, Bool.false_eq_true, if_false, List.cons_append]; rfl) (CleanF.raise (hc c (by simp)) _) (fun x hx => hc x (by simp [hx]))
    | returning =>
      cases hfn : P.funcs[fr.fn]? with
      | none => exact (sim_doReturn (fr := fr) (v := fr.tmps.getD 0 undef) hc).cong fun B w => by unfold unwind; simp only [hd, hmo, hfn]
      | some fn =>
        refine Sim.runF (law_results (fn := fn) (ts := fr.tmps)) (E := ?E2) (K := ?K2) (fun B w => ?eq2) ?_ ?_ ?_ ?_ ?_
        case eq2 =>
          unfold unwind
          simp only [hd, hmo, hfn]
          generalize (results fn fr.tmps).runT P w #[] = p
          obtain ⟨r, es⟩ := p
          dsimp only
          exact rfl
        · exact fun r es e he => mem_seen he
        · exact fun r es t dd o u => rfl
        · exact fun v _ => sim_doReturn hc
        · exact fun h hh => by cases h <;> first | exact ⟨Sim.ended fun B w => ⟨_, _, _, rfl⟩, .inr (.inr fun B w => ⟨_, _, _, rfl⟩)⟩
        · exact fun h w hh => by cases h <;> exact .inl ⟨_, _, _, rfl⟩
theorem exitTo_ok {id : Nat} {k k' : List Item} (h : exitTo id k = some k') (hk : ∀ i ∈ k, okItemL i) : ∀ i ∈ k', okItemL i := by
  induction k with
  | nil => cases h
  | cons i k ih =>
    have hk2 : ∀ j ∈ k, okItemL j := fun j hj => hk j (by simp [hj])
    cases i with
    | inBlock id' =>
      simp only [exitTo] at h
      split at h
      · cases h; exact hk2
      · exact ih h hk2
    | _ => exact ih h hk2
theorem gotoIn_ok {l : Nat} {k k' : List Item} (h : gotoIn l k = some k') (hk : ∀ i ∈ k, okItemL i) : ∀ i ∈ k', okItemL i := by
  induction k with
  | nil => cases h
  | cons i k ih =>
    have hk2 : ∀ j ∈ k, okItemL j := fun j hj => hk j (by simp [hj])
    cases i with
    | inScope body =>
      simp only [gotoIn] at h
      split at h
      · cases h
        intro j hj
        simp only [List.mem_cons] at hj
        rcases hj with rfl | rfl | hj
        · trivial
        · trivial
        · exact hk2 j hj
      · exact ih h hk2
    | _ => exact ih h hk2
theorem sim_leave (hr : Ready P) {fr : Frame} {cs : List Frame} {jump : Option Code} {F : List Frame → World → GStep} (hf : CleanF fr) (hc : CleanS cs)
    (h0 : fr.roundOf = none → (∀ B w, F B w = .go (G { fr with mode := .returning } (cs ++ B)) w #[]) ∨ ∀ B w, ∃ o w' es, F B w = .ended o w' es)
    (h1 : ∀ l, fr.roundOf = some l → ∃ oc, ∀ B w, F B w = GStep.after (seen P fr.fn ((Instr.endRound l jump).runT P w #[]).2) (match ((Instr.endRound l jump).runT P w #[]).1 with | .ok v w => doReturn P true fr (cs ++ B) none v w | .halt _ w => .ended oc w)) : Sim P F := by
  cases hro : fr.roundOf with
  | none =>
    rcases h0 hro with h | h
    · exact Sim.go h hf hc
    · exact Sim.ended h
  | some l =>
    obtain ⟨oc, h⟩ := h1 l hro
    exact Sim.runF (law_endRound (l := l) (jump := jump)) (E := fun _ es => seen P fr.fn es) (K := fun B r => match r with | .ok v w => doReturn P true fr (cs ++ B) none v w | .halt _ w => .ended oc w) h
      (fun r es e he => mem_seen he) (fun r es t d o u => rfl) (fun v _ => sim_doReturn hc) (fun h hh => ⟨Sim.ended fun B w => ⟨_, _, _, rfl⟩, .inr (.inr fun B w => ⟨_, _, _, rfl⟩)⟩) (fun h w hh => .inl ⟨_, _, _, rfl⟩)
theorem law_beginRound' {l : Option Nat} : Law P NxOk (do l.elim (stuck "beginRound: no round") Instr.beginRound; pure Next.skip) := by
  cases l with
  | none => exact Law.halt
  | some l => exact lawb law_beginRound fun _ => Law.pure trivial
theorem sim_oper (hb : Bodied P) (hr : Ready P) {fr : Frame} {cs : List Frame} (hf : CleanF fr) (hc : CleanS cs) : Sim P fun B w => stepG.oper P true fr (cs ++ B) none w := by
  cases ho : fr.oper? with
  | none => exact Sim.ended fun B w => ⟨_, _, _, by unfold stepG.oper; rw [ho]⟩
  | some o =>
    have hd : ∀ l c, o.op = .defer c → fr.roundOf = some l → Sim P fun B w => stepG.oper P true fr (cs ++ B) none w := fun l c h1 h2 =>
      (sim_apply hr (x := do Instr.deferInRound l (← resolve fr.eval c o.type); pure Next.skip) (lawb law_resolve fun d => lawb law_deferInRound fun _ => Law.pure trivial) hf hc).cong fun B w => by unfold stepG.oper; rw [ho]; simp only [h1, h2]
    have hx : (∀ l c, ¬ (o.op = .defer c ∧ fr.roundOf = some l)) → Sim P fun B w => stepG.oper P true fr (cs ++ B) none w := fun h =>
      (sim_apply hr (law_execOp hb (r := fr.eval) (o := o)) hf hc).cong fun B w => by
        unfold stepG.oper; rw [ho]; dsimp only
        split
        · rename_i l c e1 e2; exact absurd ⟨e2, e1⟩ (h l c)
        · rfl
    by_cases h : ∃ l c, o.op = .defer c ∧ fr.roundOf = some l
    · obtain ⟨l, c, h1, h2⟩ := h
      exact hd l c h1 h2
    · exact hx fun l c hh => h ⟨l, c, hh⟩
end
end Go.Proofs.Ytndncmjhpbjcoaa

/- The step as a whole. -/
namespace Go.Proofs.Ytndncmjhpbjcoaa
open Go Go.Conc

section
variable {P : Program}
theorem ok_cons {i : Item} {k : List Item} (h1 : okItemL i) (h2 : ∀ j ∈ k, okItemL j) : ∀ j ∈ i :: k, okItemL j := fun j hj => by
  rcases List.mem_cons.1 hj with rfl | hj
  · exact h1
  · exact h2 j hj
theorem sim_exec (hb : Bodied P) (hr : Ready P) {fr : Frame} {cs : List Frame} (hf : CleanF fr) (hc : CleanS cs) : Sim P fun B w => stepG.exec P true true fr (cs ++ B) none w := by
  have go : ∀ todo : List Item, (∀ i ∈ todo, okItemL i) → (∀ B w, stepG.exec P true true fr (cs ++ B) none w = .go (G { fr with todo } (cs ++ B)) w #[]) → Sim P fun B w => stepG.exec P true true fr (cs ++ B) none w := fun todo h1 h2 => Sim.go (fr := { fr with todo }) h2 h1 hc
  cases ht : fr.todo with
  | nil => exact sim_leave hr hf hc (jump := none) (fun h => .inl fun B w => by unfold stepG.exec; simp only [ht, h]; rfl) (fun l h => ⟨_, fun B w => by unfold stepG.exec; simp only [ht, h]; exact rfl⟩)
  | cons i k =>
    have hk : ∀ j ∈ k, okItemL j := fun j hj => hf j (by rw [ht]; simp [hj])
    cases i with
    | inBlock id => exact go k hk fun B w => by unfold stepG.exec; simp only [ht]; rfl
    | inScope c => exact go k hk fun B w => by unfold stepG.exec; simp only [ht]; rfl
    | inLoop c => exact go (.code c :: .inLoop c :: k) (ok_cons trivial (ok_cons trivial hk)) fun B w => by unfold stepG.exec; simp only [ht]; rfl
    | inRegion ops l =>
      cases l with
      | nil => exact go k hk fun B w => by unfold stepG.exec; simp only [ht]; rfl
      | cons j rest =>
        by_cases hw : ((ops[j]?).map (Region.wanted · (yielded ops fr.tmps))).getD false = true
        · exact (sim_oper hb hr hf hc).cong fun B w => by unfold stepG.exec; simp only [ht, hw, if_true]
        · exact Sim.go (fr := fr.finish undef) (cs := cs) (fun B w => by unfold stepG.exec; simp only [ht, hw, if_false, Bool.false_eq_true]; rfl) (hf.finish _) hc
    | inRangeFunc l => exact Sim.ended fun B w => ⟨_, _, _, by unfold stepG.exec; simp only [ht]; rfl⟩
    | endRangeFunc l =>
      refine Sim.runF (law_endLoop (l := l)) (E := ?E) (K := ?K) (fun B w => ?eq) ?_ ?_ ?_ ?_ ?_
      case eq =>
        unfold stepG.exec
        simp only [ht]
        generalize (Instr.endLoop l).runT P w #[] = p
        obtain ⟨r, es⟩ := p
        dsimp only
        exact rfl
      · exact fun r es e he => mem_seen he
      · exact fun r es t dd o u => rfl
      · intro jump _
        refine Sim.go (fr := { fr with todo := (jump.map Item.code).toList ++ k }) (cs := cs) (fun B w => rfl) (fun j hj => ?_) hc
        rcases List.mem_append.1 hj with hj | hj
        · cases jump with
          | none => simp at hj
          | some c => simp at hj; rw [hj]; trivial
        · exact hk j hj
      · intro h hh
        cases h with
        | panic v => exact ⟨Sim.go (fr := fr.raise [{ v, recovered := false }]) (cs := cs) (fun B w => rfl) (hf.raise _) hc, .inl trivial⟩
        | _ => exact ⟨Sim.ended fun B w => ⟨_, _, _, rfl⟩, .inr (.inr fun B w => ⟨_, _, _, rfl⟩)⟩
      · intro h w hh
        cases h with
        | panic v => exact absurd trivial hh
        | _ => exact .inl ⟨_, _, _, rfl⟩
    | beginRound => exact (sim_apply hr (law_beginRound' (l := fr.roundOf)) hf hc).cong fun B w => by unfold stepG.exec; simp only [ht]
    | call d a b c => exact (hf (.call d a b c) (by rw [ht]; simp)).elim
    | extern r a => exact (hf (.extern r a) (by rw [ht]; simp)).elim
    | code c =>
      cases c with
      | ret => exact sim_leave hr hf hc (jump := some .ret) (fun h => .inl fun B w => by unfold stepG.exec; simp only [ht, h]; rfl) (fun l h => ⟨_, fun B w => by unfold stepG.exec; simp only [ht, h]; exact rfl⟩)
      | skip => exact go k hk fun B w => by unfold stepG.exec; simp only [ht]; rfl
      | label l => exact go k hk fun B w => by unfold stepG.exec; simp only [ht]; rfl
      | seq a b => exact go (.code a :: .code b :: k) (ok_cons trivial (ok_cons trivial hk)) fun B w => by unfold stepG.exec; simp only [ht]; rfl
      | cond c x y =>
        cases hv : fr.eval c with
        | bool b => exact go (.code (if b then x else y) :: k) (ok_cons trivial hk) fun B w => by unfold stepG.exec; simp only [ht, hv]; rfl
        | _ => exact Sim.ended fun B w => ⟨_, _, _, by unfold stepG.exec; simp only [ht, hv]; rfl⟩
      | block id c => exact go (.code c :: .inBlock id :: k) (ok_cons trivial (ok_cons trivial hk)) fun B w => by unfold stepG.exec; simp only [ht]; rfl
      | loop c => exact go (.code c :: .inLoop c :: k) (ok_cons trivial (ok_cons trivial hk)) fun B w => by unfold stepG.exec; simp only [ht]; rfl
      | scope c => exact go (.code c :: .inScope c :: k) (ok_cons trivial (ok_cons trivial hk)) fun B w => by unfold stepG.exec; simp only [ht]; rfl
      | exit id =>
        cases he : exitTo id k with
        | some k' => exact go k' (exitTo_ok he hk) fun B w => by unfold stepG.exec; simp only [ht, he]; rfl
        | none => exact sim_leave hr hf hc (jump := some (.exit id)) (fun h => .inr fun B w => ⟨_, _, _, by unfold stepG.exec; simp only [ht, h, he]; rfl⟩) (fun l h => ⟨_, fun B w => by unfold stepG.exec; simp only [ht, h, he]; exact rfl⟩)
      | goto l =>
        cases he : gotoIn l k with
        | some k' => exact go k' (gotoIn_ok he hk) fun B w => by unfold stepG.exec; simp only [ht, he]; rfl
        | none => exact sim_leave hr hf hc (jump := some (.goto l)) (fun h => .inr fun B w => ⟨_, _, _, by unfold stepG.exec; simp only [ht, h, he]; rfl⟩) (fun l' h => ⟨_, fun B w => by unfold stepG.exec; simp only [ht, h, he]; exact rfl⟩)
      | rangeFunc f params assign body =>
        refine Sim.runF (law_enterLoop (fn := fr.fn) (tmps := fr.tmps) (params := params) (assign := assign) (body := body) (around := fr.roundOf)) (E := ?E2) (K := ?K2) (fun B w => ?eq2) ?_ ?_ ?_ ?_ ?_
        case eq2 =>
          unfold stepG.exec
          simp only [ht]
          generalize (Instr.enterLoop fr.fn fr.tmps params assign body fr.roundOf).runT P w #[] = p
          obtain ⟨r, es⟩ := p
          dsimp only
          exact rfl
        · exact fun r es e he => mem_seen he
        · exact fun r es t dd o u => rfl
        · rintro ⟨l, mark⟩ _
          exact (sim_apply hr (x := do let d ← resolve ({ fr with todo := .inRangeFunc l :: k, defers := mark ++ fr.defers } : Frame).eval { callee := .value f, args := #[.const (.func (.yield l) #[] #[])], argTypes := #[] } 0; invoke d.target d.args)
            (lawb law_resolve fun d => law_invoke hb) (fr := { fr with todo := .inRangeFunc l :: k, defers := mark ++ fr.defers }) (cs := cs) (ok_cons trivial hk) hc).cong fun B w => rfl
        · exact fun h hh => ⟨Sim.ended fun B w => ⟨_, _, _, rfl⟩, .inr (.inr fun B w => ⟨_, _, _, rfl⟩)⟩
        · exact fun h w hh => .inl ⟨_, _, _, rfl⟩
      | refuse why => exact Sim.ended fun B w => ⟨_, _, _, by unfold stepG.exec; simp only [ht]; rfl⟩
      | region id ops draw =>
        cases draw with
        | false => exact go (.inRegion ops (List.range ops.size) :: k) (ok_cons trivial hk) fun B w => by unfold stepG.exec; simp only [ht]; rfl
        | true =>
          refine Sim.runF (law_choose (q := .order fr.fn id)) (E := fun _ _ => #[]) (K := ?K3) (fun B w => ?eq3) ?_ ?_ ?_ ?_ ?_
          case eq3 =>
            unfold stepG.exec
            simp only [ht]
            rw [after_nil, ← Sem.runT_fst P (choose (.order fr.fn id)) w #[]]
            generalize ((choose (.order fr.fn id)).runT P w #[]).1 = r
            exact rfl
          · exact fun r es e he => by simp at he
          · exact fun r es t dd o u => rfl
          · intro t _
            exact Sim.go (fr := { fr with todo := .inRegion ops (Region.schedule (P.follows .mixedOrders) ops t) :: k }) (cs := cs) (fun B w => rfl) (ok_cons trivial hk) hc
          · exact fun h hh => ⟨Sim.ended fun B w => ⟨_, _, _, rfl⟩, .inr (.inr fun B w => ⟨_, _, _, rfl⟩)⟩
          · exact fun h w hh => .inl ⟨_, _, _, rfl⟩
theorem sim_step (hb : Bodied P) (hr : Ready P) {fr : Frame} {cs : List Frame} (hf : CleanF fr) (hc : CleanS cs) : Sim P fun B w => stepG P true (G fr (cs ++ B)) w := by
  cases hm : fr.mode with
  | run => exact (sim_exec hb hr hf hc).cong fun B w => by simp only [stepG, G, hm]
  | returning => exact (sim_unwind hb (by rw [hm]; exact fun h => by cases h) hf hc).cong fun B w => by simp only [stepG, G, hm]
  | panicking c => exact (sim_unwind hb (by rw [hm]; exact fun h => by cases h) hf hc).cong fun B w => by simp only [stepG, G, hm]
end
end Go.Proofs.Ytndncmjhpbjcoaa

/- A communication of goroutine 0 alone, which meets nobody, is its communication beside goroutines none of which waits at a channel. -/
namespace Go.Proofs.Ytndncmjhpbjcoaa
open Go Go.Conc

def NoWait (gs : Array Goroutine) : Prop := ∀ r b, partners gs r b = []
section
variable {P : Program}
theorem noWait_fin : NoWait #[{ (default : Goroutine) with status := .finished }] := fun r b => by simp [partners]
theorem ways_noWait {gs : Array Goroutine} (h : NoWait gs) (w : World) (c : CommCase) : ways w gs c = ways w #[{ (default : Goroutine) with status := .finished }] c := by
  unfold ways
  repeat' split
  all_goals simp_all [h _ _, noWait_fin _ _]
def relab (gs : Array Goroutine) (sl : Option (Nat × Nat)) : Stepped × Array MemOp → Stepped × Array MemOp
  | (.next m, ops) => (.next (crowd (gs.setIfInBounds 0 (m.gs.getD 0 default)) m.world sl), ops)
  | (.ended o w, ops) => (.ended o w, ops)
theorem waitingAt_none (sl : Option (Nat × Nat)) (cases : Array CommCase) (w : World) : waitingAt { timers := #[], alone := none, slice := sl } cases w = some w := by
  have : ∀ mono, timerAhead { timers := #[], alone := none, slice := sl } mono cases = false := fun mono => by
    unfold timerAhead
    rw [Array.any_eq_false]
    intro i hi
    split <;> simp
  unfold waitingAt
  rw [this]
  rfl
theorem ways_partner {w : World} {c : CommCase} : ∀ x ∈ ways w #[{ (default : Goroutine) with status := .finished }] c, ∀ h k, x ≠ .partner h k := by
  intro x hx h k e
  subst e
  unfold ways at hx
  simp only [noWait_fin _ _] at hx
  repeat' split at hx
  all_goals simp at hx
theorem pick_run {ready : List (Nat × CommCase × List Way)} (hne : ready ≠ []) (hws : ∀ y ∈ ready, y.2.2 ≠ []) (w : World) : ∃ y way w', y ∈ ready ∧ way ∈ y.2.2 ∧ (do
      let a ← choose (.select ready.length)
      let (k, c, ws) := ready.getD a (0, default, [])
      let b ← choose (.extern "which waiting goroutine is the partner" ws.length)
      pure (k, c, ws.getD b .closed) : Sem (Nat × CommCase × Way)).run P w = .ok (y.1, y.2.1, way) w' := by
  have one : ∀ {β : Type} (q : Question) (k : Nat → Sem β) (w : World) (n : Nat), 0 < n → (q = .select n ∨ ∃ s, q = .extern s n) → ∃ a w', a < n ∧ (choose q >>= k).run P w = (k a).run P w' := fun q k w n hn hq => by
    show ∃ a w', _ ∧ (Sem.choose q k).run P w = _
    simp only [Sem.run]
    split
    · exact ⟨_, _, hn, rfl⟩
    · refine ⟨_, _, ?_, rfl⟩
      rcases hq with rfl | ⟨s, rfl⟩
      · exact Nat.mod_lt _ hn
      · simp only [Question.cut]
        rw [if_neg (by omega)]
        exact Nat.mod_lt _ hn
  have hl : 0 < ready.length := List.length_pos_iff.2 hne
  obtain ⟨a, w1, ha, h1⟩ := one (.select ready.length) (fun a => do
      let (k, c, ws) := ready.getD a (0, default, [])
      let b ← choose (.extern "which waiting goroutine is the partner" ws.length)
      pure (k, c, ws.getD b .closed)) w ready.length hl (.inl rfl)
  have hy : ready.getD a (0, default, []) = ready[a] := by simp [List.getD, List.getElem?_eq_getElem ha]
  have hm : ready[a] ∈ ready := List.getElem_mem ha
  have hw := hws _ hm
  obtain ⟨b, w2, hb, h2⟩ := one (.extern "which waiting goroutine is the partner" (ready[a]).2.2.length) (fun b => (pure ((ready[a]).1, (ready[a]).2.1, (ready[a]).2.2.getD b .closed) : Sem (Nat × CommCase × Way))) w1 (ready[a]).2.2.length (List.length_pos_iff.2 hw) (.inr ⟨_, rfl⟩)
  have hz : (ready[a]).2.2.getD b .closed = (ready[a]).2.2[b] := by simp [List.getD, List.getElem?_eq_getElem hb]
  refine ⟨ready[a], (ready[a]).2.2[b], w2, hm, List.getElem_mem hb, ?_⟩
  rw [← hz]
  rw [hy] at h1
  exact h1.trans h2
theorem comm_gs {gs : Array Goroutine} (hg : NoWait gs) {sl : Option (Nat × Nat)} {g : Goroutine} {cases : Array CommCase} {bl : Bool} {sh : CommShape} {w : World} :
    communicate P { timers := #[], alone := none, slice := sl } gs 0 g cases bl sh w = relab gs sl (communicate P { timers := #[], alone := none, slice := none } #[{ (default : Goroutine) with status := .finished }] 0 g cases bl sh w) := by
  have hw : ∀ w, ways w gs = ways w #[{ (default : Goroutine) with status := .finished }] := fun w => funext fun c => ways_noWait hg w c
  unfold communicate
  simp only [hw, waitingAt_none]
  split
  · rfl
  split
  · split
    · rfl
    · rfl
  · rename_i hready
    generalize hrd : List.filter _ _ = ready
    have hne : ready ≠ [] := by rw [← hrd]; intro h; rw [h] at hready; exact hready rfl
    have hws : ∀ y ∈ ready, y.2.2 ≠ [] := fun y hy => by
      rw [← hrd] at hy
      have := (List.mem_filter.1 hy).2
      intro h
      rw [h] at this
      simp at this
    have hp : ∀ y ∈ ready, ∀ way ∈ y.2.2, ∀ h hk, way ≠ .partner h hk := fun y hy way hm h hk => by
      rw [← hrd] at hy
      have hy2 := (List.mem_filter.1 hy).1
      obtain ⟨z, _, rfl⟩ := List.mem_map.1 hy2
      exact ways_partner way hm h hk
    obtain ⟨y, way, w', hy, hm, hrun⟩ := pick_run (P := P) hne hws w
    have hq := hp y hy way hm
    simp only [hrun]
    cases way with
    | partner h hk => exact absurd rfl (hq h hk)
    | sendClosed => rfl
    | closed => rfl
    | buffer =>
      have e1 : ∀ r b, partners gs r b = [] := hg
      have e2 : ∀ r b, partners #[{ (default : Goroutine) with status := .finished }] r b = [] := noWait_fin
      simp only [e1, e2]
      repeat' split
      all_goals first
        | rfl
        | (exfalso; simp_all; done)
        | (split <;> rfl)
        | (repeat' split
           all_goals rfl)
        | (exfalso; simp_all; done)
def ActK (B : Nat) (x : MemAct) : Prop := x.touch? = none ∧ x.low B ∧ x ≠ .mark .disable ∧ x ≠ .mark .enable
section
variable {cases : Array CommCase} {bl : Bool} {sh : CommShape} {w w1 : World} {g : Goroutine} {rd : List (Nat × CommCase × List Way)} {k r : Nat} {c : CommCase}
abbrev rdy (cases : Array CommCase) (w : World) : List (Nat × CommCase × List Way) := (cases.zipIdx.toList.map fun (c, k) => (k, c, ways w #[{ (default : Goroutine) with status := .finished }] c)).filter fun (_, _, ws) => !ws.isEmpty
abbrev ill (cases : Array CommCase) (w : World) : Bool := cases.any fun c => match c.chan with
    | .chan none => false
    | .chan (some r) => !(w.heap[r]? matches some (.chan ..))
    | _ => true
abbrev pickS (rd : List (Nat × CommCase × List Way)) : Sem (Nat × CommCase × Way) := do
      let a ← choose (.select rd.length)
      let (k, c, ws) := rd.getD a (0, default, [])
      let b ← choose (.extern "which waiting goroutine is the partner" ws.length)
      pure (k, c, ws.getD b .closed)
theorem comm_way {way : Way} (hill : ¬ ill cases w = true) (hrd : rdy cases w = rd) (hne : rd ≠ []) (hrun : (pickS rd).run P w = .ok (k, c, way) w1) (hc : c.chan = .chan (some r)) :
    communicate P { timers := #[], alone := none, slice := none } #[{ (default : Goroutine) with status := .finished }] 0 g cases bl sh w = match (generalizing := false) (w1.heap[r]? : Option Obj), way, c.send with
      | _, .sendClosed, _ => (.next { world := w1, gs := #[{ (default : Goroutine) with status := .finished }].setIfInBounds 0 { g with frame := g.frame.raise [{ v := .iface P.rt.plainError (strVal "send on closed channel"), recovered := false }] }, rest := { timers := #[], alone := none, slice := none } }, #[])
      | _, .closed, _ => (.next { world := w1, gs := #[{ (default : Goroutine) with status := .finished }].setIfInBounds 0 (g.finishComm P cases sh k c.zero false), rest := { timers := #[], alone := none, slice := none } }, #[{ g := 0, fn := g.frame.fn, pos := g.frame.place, act := .recvClosed r }])
      | some (.chan cap buf closed sent rcvd tm), .buffer, some v => (.next { world := { w1 with heap := w1.heap.setIfInBounds r (.chan cap (buf.push v) closed (sent + 1) rcvd tm) }, gs := #[{ (default : Goroutine) with status := .finished }].setIfInBounds 0 (g.finishComm P cases sh k undef false), rest := { timers := #[], alone := none, slice := none } }, #[{ g := 0, fn := g.frame.fn, pos := g.frame.place, act := .send r sent }, { g := 0, fn := g.frame.fn, pos := g.frame.place, act := .sendDone r sent }])
      | some (.chan cap buf closed sent rcvd tm), .buffer, none => (.next { world := { w1 with heap := w1.heap.setIfInBounds r (.chan cap (buf.extract 1 buf.size) closed sent (rcvd + 1) tm) }, gs := #[{ (default : Goroutine) with status := .finished }].setIfInBounds 0 (g.finishComm P cases sh k (buf.getD 0 undef) true), rest := { timers := #[], alone := none, slice := none } }, #[{ g := 0, fn := g.frame.fn, pos := g.frame.place, act := .recv r rcvd cap }, { g := 0, fn := g.frame.fn, pos := g.frame.place, act := .recvDone r rcvd }])
      | _, .partner h hk, _ => communicate P { timers := #[], alone := none, slice := none } #[{ (default : Goroutine) with status := .finished }] 0 g cases bl sh w
      | _, _, _ => (.ended (.stuck "communicate: no such channel" "") w1, #[]) := by
  cases way with
  | partner h hk =>
    cases w1.heap[r]? with
    | none => rfl
    | some ob => cases ob <;> cases c.send <;> rfl
  | _ =>
    unfold communicate
    refine (if_neg hill).trans ?_
    have hre : ¬ (rdy cases w).isEmpty = true := by rw [hrd]; intro h; exact hne (List.isEmpty_iff.1 h)
    refine (if_neg hre).trans ?_
    have e2 : ∀ r b, partners #[{ (default : Goroutine) with status := .finished }] r b = [] := noWait_fin
    simp only [rdy] at hrd
    simp only [pickS] at hrun
    rw [hrd]
    simp only [hrun, hc, e2]
    try (cases w1.heap[r]? with
      | none => rfl
      | some ob =>
        cases ob with
        | chan cap buf closed sent rcvd tm => cases c.send <;> rfl
        | _ => rfl)
end
def CommOut (P : Program) (fr : Frame) (cs B : List Frame) (cases : Array CommCase) (bl : Bool) (sh : CommShape) (v : World) : Stepped × Array MemOp → Prop
  | (.ended _ _, _) => True
  | (.next m', ops) => (∃ g, m' = solo g v ∧ g.status = .blocked) ∨ ∃ fr' v' n, ∃ acts : Array MemAct, m' = lone fr' (cs ++ B) v' ∧ CleanF fr' ∧ Fol v v' n #[] ∧ (∀ x ∈ acts, ActK v'.heap.size x) ∧ ops = acts.map (fun x => { g := 0, fn := fr.fn, pos := fr.place, act := x }) ∧
      ∀ B t d o u, o.env = v.os.env → Agree v n t d → communicate P { timers := #[], alone := none, slice := none } #[{ (default : Goroutine) with status := .finished }] 0 (G fr (cs ++ B)) cases bl sh (v.wi t d o u) = (.next (lone fr' (cs ++ B) (v'.wi t (d + n) o u)), ops)
theorem comm_wi {fr : Frame} {cs B : List Frame} {cases : Array CommCase} {bl : Bool} {sh : CommShape} {v : World} (mu : Mute v.os) (hf : CleanF fr) :
    CommOut P fr cs B cases bl sh v (communicate P { timers := #[], alone := none, slice := none } #[{ (default : Goroutine) with status := .finished }] 0 (G fr (cs ++ B)) cases bl sh v) := by
  have hwi : ∀ t d o u gs, ways (v.wi t d o u) gs = ways v gs := fun t d o u gs => rfl
  have hcl : ∀ t d o u (r : Nat), (v.wi t d o u).heap[r]? = v.heap[r]? := fun t d o u r => rfl
  -- what it comes to, once more, behind each choice
  have put : ∀ (fr' : Frame) (v' : World) (n : Nat) (acts : Array MemAct), CleanF fr' → Fol v v' n #[] → (∀ x ∈ acts, ActK v'.heap.size x) →
      (communicate P { timers := #[], alone := none, slice := none } #[{ (default : Goroutine) with status := .finished }] 0 (G fr (cs ++ B)) cases bl sh v = (.next (lone fr' (cs ++ B) v'), acts.map (fun x => { g := 0, fn := fr.fn, pos := fr.place, act := x }))) →
      (∀ B t d o u, o.env = v.os.env → Agree v n t d → communicate P { timers := #[], alone := none, slice := none } #[{ (default : Goroutine) with status := .finished }] 0 (G fr (cs ++ B)) cases bl sh (v.wi t d o u) = (.next (lone fr' (cs ++ B) (v'.wi t (d + n) o u)), acts.map (fun x => { g := 0, fn := fr.fn, pos := fr.place, act := x }))) →
      CommOut P fr cs B cases bl sh v (communicate P { timers := #[], alone := none, slice := none } #[{ (default : Goroutine) with status := .finished }] 0 (G fr (cs ++ B)) cases bl sh v) := fun fr' v' n acts h1 h2 h3 h4 h5 => by
    rw [h4]
    exact .inr ⟨fr', v', n, acts, rfl, h1, h2, h3, rfl, h5⟩
  by_cases hill : ill cases v = true
  · have : ∃ o w, communicate P { timers := #[], alone := none, slice := none } #[{ (default : Goroutine) with status := .finished }] 0 (G fr (cs ++ B)) cases bl sh v = (.ended o w, #[]) := ⟨_, _, by unfold communicate; exact if_pos hill⟩
    obtain ⟨o, w, e⟩ := this
    rw [e]; exact trivial
  by_cases hre : (rdy cases v).isEmpty = true
  · cases bl with
    | true =>
      have e : communicate P { timers := #[], alone := none, slice := none } #[{ (default : Goroutine) with status := .finished }] 0 (G fr (cs ++ B)) cases true sh v = (.next (solo { G fr (cs ++ B) with status := .blocked, offers := some (cases, sh) } v), #[]) := by
        unfold communicate
        refine (if_neg hill).trans ((if_pos hre).trans ?_)
        rw [waitingAt_none]
        rfl
      rw [e]
      exact .inl ⟨_, rfl, rfl⟩
    | false =>
      refine put (fr.finish (commResult cases sh (-1) undef false)) v 0 #[] (hf.finish _) (Fol.refl v) (fun x hx => by simp at hx) ?_ fun B t d o u ho ha => ?_
      · unfold communicate
        refine (if_neg hill).trans ((if_pos hre).trans ?_)
        simp [lone, G, Goroutine.finishComm]
      · unfold communicate
        refine (if_neg hill).trans ((if_pos hre).trans ?_)
        simp [lone, G, Goroutine.finishComm]
  · have hne : rdy cases v ≠ [] := fun h => by rw [h] at hre; exact hre rfl
    have hws : ∀ y ∈ rdy cases v, y.2.2 ≠ [] := fun y hy => by
      obtain ⟨a, b, ws⟩ := y
      have := (List.mem_filter.1 hy).2
      intro h
      simp only at h
      rw [h] at this
      simp at this
    obtain ⟨⟨k, c, ws⟩, way, v1, hy, hm, hrun⟩ := pick_run (P := P) hne hws v
    have hlaw : Law P TT (pickS (rdy cases v)) := law_bind law_choose fun a => law_bind law_choose fun b => law_pure
    rcases hlaw v #[] mu with ⟨n, l1, l2, l3, l4, l5, l6, l7, l8⟩ | hcold
    rotate_left
    · rw [Sem.runT_fst] at hcold
      unfold pickS at hcold
      rw [hrun] at hcold
      exact absurd trivial hcold
    have hrun0 : (pickS (rdy cases v)).run P v = .ok (k, c, way) v1 := hrun
    rw [Sem.runT_fst, hrun0] at l1 l2 l3 l4 l5 l8
    simp only [resw_ok, reswi_ok] at l1 l2 l3 l4 l5 l8
    have hrun2 : ∀ t d o u, o.env = v.os.env → Agree v n t d → (pickS (rdy cases v)).run P (v.wi t d o u) = .ok (k, c, way) (v1.wi t (d + n) o u) := fun t d o u ho ha => by
      have := l8 t d o u ho ha
      rw [← Sem.runT_fst P _ _ #[], this]
    have hy2 := (List.mem_filter.1 hy).1
    obtain ⟨z, hz, hzz⟩ := List.mem_map.1 hy2
    simp only [Prod.mk.injEq] at hzz
    obtain ⟨rfl, rfl, rfl⟩ := hzz
    have hp := ways_partner way hm
    -- the channel is there
    obtain ⟨r, hr, hrl⟩ : ∃ r, z.1.chan = .chan (some r) ∧ r < v.heap.size := by
      unfold ways at hm
      split at hm
      · rename_i r hr
        refine ⟨r, hr, ?_⟩
        refine Classical.byContradiction fun hn => ?_
        rw [Array.getElem?_eq_none (by omega)] at hm
        simp at hm
      · simp at hm
    have fol : ∀ h2 : Array Obj, v1.heap.size ≤ h2.size → Fol v { v1 with heap := h2 } n #[] := fun h2 hs => ⟨l1, l2, Nat.le_trans l3 hs, l4, l5, fun e he => by simp at he⟩
    have acts1 : ∀ (h2 : Array Obj), v1.heap.size ≤ h2.size → ∀ a : MemAct, (a = .recvClosed r ∨ (∃ s, a = .send r s) ∨ (∃ s, a = .sendDone r s) ∨ (∃ s cap, a = .recv r s cap) ∨ ∃ s, a = .recvDone r s) → ActK ({ v1 with heap := h2 } : World).heap.size a := fun h2 hs a ha => by
      have : r < h2.size := by omega
      rcases ha with rfl | ⟨s, rfl⟩ | ⟨s, rfl⟩ | ⟨s, cap, rfl⟩ | ⟨s, rfl⟩ <;> exact ⟨rfl, this, (by intro h; cases h), by intro h; cases h⟩
    have W1 : ∀ X, communicate P { timers := #[], alone := none, slice := none } #[{ (default : Goroutine) with status := .finished }] 0 (G fr X) cases bl sh v = _ := fun X => comm_way (g := G fr X) (bl := bl) (sh := sh) hill rfl hne hrun0 hr
    have W2 : ∀ t d o u, o.env = v.os.env → Agree v n t d → ∀ X, communicate P { timers := #[], alone := none, slice := none } #[{ (default : Goroutine) with status := .finished }] 0 (G fr X) cases bl sh (v.wi t d o u) = _ := fun t d o u ho ha X => comm_way (g := G fr X) (bl := bl) (sh := sh) (w := v.wi t d o u) (rd := rdy cases v) hill rfl hne (hrun2 t d o u ho ha) hr
    cases way with
    | partner h hk2 => exact absurd rfl (hp h hk2)
    | sendClosed =>
      refine put (fr.raise [{ v := .iface P.rt.plainError (strVal "send on closed channel"), recovered := false }]) v1 n #[] (hf.raise _) (fol v1.heap (Nat.le_refl _)) (fun x hx => by simp at hx) ?_ fun B t d o u ho ha => ?_
      · rw [W1]; simp [lone, G]
      · rw [W2 t d o u ho ha]; simp [lone, G]
    | closed =>
      refine put (fr.finish (commResult cases sh z.2 z.1.zero false)) v1 n #[.recvClosed r] (hf.finish _) (fol v1.heap (Nat.le_refl _)) (fun x hx => acts1 v1.heap (Nat.le_refl _) x (by simp at hx; exact .inl hx)) ?_ fun B t d o u ho ha => ?_
      · rw [W1]; simp [lone, G, Goroutine.finishComm]
      · rw [W2 t d o u ho ha]; simp [lone, G, Goroutine.finishComm]
    | buffer =>
      cases hob : v1.heap[r]? with
      | none => rw [W1, hob]; exact trivial
      | some ob =>
        cases ob with
        | chan cap buf closed sent rcvd tm =>
          cases hsd : z.1.send with
          | some x =>
            refine put (fr.finish (commResult cases sh z.2 undef false)) { v1 with heap := v1.heap.setIfInBounds r (.chan cap (buf.push x) closed (sent + 1) rcvd tm) } n #[.send r sent, .sendDone r sent] (hf.finish _) (fol _ (by simp)) (fun x hx => acts1 _ (by simp) x (by simp at hx; rcases hx with hx | hx; exact .inr (.inl ⟨_, hx⟩); exact .inr (.inr (.inl ⟨_, hx⟩)))) ?_ fun B t d o u ho ha => ?_
            · rw [W1, hob, hsd]; simp [lone, G, Goroutine.finishComm]
            · rw [W2 t d o u ho ha, show (v1.wi t (d + n) o u).heap[r]? = v1.heap[r]? from rfl, hob, hsd]; simp [lone, G, Goroutine.finishComm, World.wi]
          | none =>
            refine put (fr.finish (commResult cases sh z.2 (buf.getD 0 undef) true)) { v1 with heap := v1.heap.setIfInBounds r (.chan cap (buf.extract 1 buf.size) closed sent (rcvd + 1) tm) } n #[.recv r rcvd cap, .recvDone r rcvd] (hf.finish _) (fol _ (by simp)) (fun x hx => acts1 _ (by simp) x (by simp at hx; rcases hx with hx | hx; exact .inr (.inr (.inr (.inl ⟨_, _, hx⟩))); exact .inr (.inr (.inr (.inr ⟨_, hx⟩))))) ?_ fun B t d o u ho ha => ?_
            · rw [W1, hob, hsd]; simp [lone, G, Goroutine.finishComm]
            · rw [W2 t d o u ho ha, show (v1.wi t (d + n) o u).heap[r]? = v1.heap[r]? from rfl, hob, hsd]; simp [lone, G, Goroutine.finishComm, World.wi]
        | _ => rw [W1, hob]; exact trivial
end
end Go.Proofs.Ytndncmjhpbjcoaa

/- A step of the lone machine with the base below is a step of the crowd's goroutine 0. -/
namespace Go.Proofs.Ytndncmjhpbjcoaa
open Go Go.Conc

section
variable {P : Program}
structure OpK (B : Nat) (op : MemOp) : Prop where
  g : op.g = 0
  low : op.act.low B
  dis : op.act ≠ .mark .disable
  en : op.act ≠ .mark .enable
def Rest0 (P : Program) (gs gs' : Array Goroutine) : Prop := gs'.size = gs.size ∧ ∀ j x, 0 < j → gs'[j]? = some x → ∃ y, gs[j]? = some y ∧ (x = y ∨ ∃ a b w, x = woken P a b w y)
structure Step1 (P : Program) (fr : Frame) (cs : List Frame) (v : World) (fr' : Frame) (cs' : List Frame) (v' : World) (n : Nat) : Prop where
  fol : Fol v v' n #[]
  cl : CleanF fr' ∧ CleanS cs'
  alone : ∀ t d o u, o.env = v.os.env → Agree v n t d → step P (lone fr (cs ++ [base1 P]) (v.wi t d o u)) = .next (lone fr' (cs' ++ [base1 P]) (v'.wi t (d + n) o u))
  crowd : ∀ t d o u gs sl, o.env = v.os.env → Agree v n t d → gs[0]? = some (G fr cs) → NoWait (gs.setIfInBounds 0 { (default : Goroutine) with status := .finished }) →
    ∃ gs' ops, runT P (crowd gs (v.wi t d o u) sl) 0 = (.next (Conc.crowd gs' (v'.wi t (d + n) o u) sl), ops) ∧ gs'[0]? = some (G fr' cs') ∧ Rest0 P gs gs' ∧ ∀ op ∈ ops, OpK v'.heap.size op
def Stuck1 (P : Program) (m : Machine) : Prop := ∀ j fr cs w2, runN P (j + 1) m ≠ .next (lone fr (cs ++ [base1 P]) w2)
theorem opK_event {B : Nat} {e : Event} (h : EvK B e) (fn : FuncId) (pos : String) : OpK B { g := 0, fn, pos, act := .ofEvent e } := by
  obtain ⟨loc, wr, sy⟩ := e
  rcases h with ⟨a, h1, h2⟩ | ⟨r, h1, h2⟩ | h1 | h1 | ⟨f, h1⟩ <;> simp only at h1 <;> subst h1
  · exact ⟨rfl, h2, (by intro h; cases h), by intro h; cases h⟩
  · cases wr <;> cases sy <;> exact ⟨rfl, h2, (by intro h; cases h), by intro h; cases h⟩
  · exact ⟨rfl, trivial, (by intro h; cases h), by intro h; cases h⟩
  · exact ⟨rfl, trivial, (by intro h; cases h), by intro h; cases h⟩
  · exact ⟨rfl, trivial, (by intro h; cases h), by intro h; cases h⟩
theorem stuck_big {m m' : Machine} (h : step P m = .next m') (hs : 2 ≤ m'.gs.size) : Stuck1 P m := fun j fr cs w2 e => by
  simp only [runN, h] at e
  have e2 : runNT P j m' #[] = (.next (lone fr (cs ++ [base1 P]) w2), (runNT P j m' #[]).2) := Prod.ext (by rw [runNT_fst, e]) rfl
  have := runNT_size P j m' _ _ _ e2
  simp only [lone] at this
  simp at this
  omega
theorem stuck_ended {m : Machine} {o : Outcome} {w : World} (h : step P m = .ended o w) : Stuck1 P m := fun j fr cs w2 e => by
  simp only [runN, h] at e; cases e
theorem stuck_gone {m : Machine} {g : Goroutine} {w : World} (h : step P m = .next (solo g w)) (hg : Gone P g) : Stuck1 P m := fun j fr cs w2 e => by
  simp only [runN, h] at e
  exact hg j w fr cs w2 e
theorem runT_crowd_comm {gs : Array Goroutine} {w w' : World} {sl : Option (Nat × Nat)} {g g' : Goroutine} {cases : Array CommCase} {bl : Bool} {sh : CommShape} {es : Array Event} (hi : gs[0]? = some g) (h : stepG P true g w = .comm g' cases bl sh w' es) :
    runT P (crowd gs w sl) 0 = ((communicate P { timers := #[], alone := none, slice := sl } (gs.setIfInBounds 0 { (default : Goroutine) with status := .finished }) 0 g' cases bl sh w').1, MemOp.ofEvents 0 g.frame.fn g.frame.place es ++ (communicate P { timers := #[], alone := none, slice := sl } (gs.setIfInBounds 0 { (default : Goroutine) with status := .finished }) 0 g' cases bl sh w').2) := by
  obtain ⟨hlt, rfl⟩ := Array.getElem?_eq_some_iff.1 hi
  have hsw := swapAt_of_lt hlt { (default : Goroutine) with status := .finished }
  have hse : gs.set 0 { (default : Goroutine) with status := .finished } hlt = gs.setIfInBounds 0 { (default : Goroutine) with status := .finished } := by simp [Array.setIfInBounds, hlt]
  rw [hse] at hsw
  show runT P { world := w, gs := gs, rest := { timers := #[], alone := none, slice := sl } } 0 = _
  unfold runT
  simp only [hsw, beq_self_eq_true, h, GStep.es]
theorem runT_crowd_coro {gs : Array Goroutine} {w w' : World} {sl : Option (Nat × Nat)} {g g' : Goroutine} {c : Nat} {es : Array Event} (hi : gs[0]? = some g) (h : stepG P true g w = .coroswitch g' c true w' es) :
    runT P (crowd gs w sl) 0 = ((match w'.heap[c]? with
      | some (.coro (some k)) => .next { world := { w' with heap := w'.heap.setIfInBounds c (.coro none) }, gs := (gs.setIfInBounds 0 { g' with status := .finished }).modify k (fun o => { o with status := .running }), rest := { timers := #[], alone := none, slice := sl } }
      | some (.coro none) => match endThrow g'.frame "coroswitch on exited coro" w' with
        | .go g w _ => .next { world := w, gs := gs.setIfInBounds 0 g, rest := { timers := #[], alone := none, slice := sl } }
        | _ => .ended (.stuck "" "") w'
      | _ => .ended (.stuck "coroswitch: no coroutine" "") w'), MemOp.ofEvents 0 g.frame.fn g.frame.place es) := by
  obtain ⟨hlt, rfl⟩ := Array.getElem?_eq_some_iff.1 hi
  have hsw := swapAt_of_lt hlt { (default : Goroutine) with status := .finished }
  have hse : ∀ y, (gs.set 0 { (default : Goroutine) with status := .finished } hlt).setIfInBounds 0 y = gs.setIfInBounds 0 y := fun y => set_setIfInBounds hlt _ y
  show runT P { world := w, gs := gs, rest := { timers := #[], alone := none, slice := sl } } 0 = _
  unfold runT
  simp only [hsw, beq_self_eq_true, h, GStep.es, hse]
  cases w'.heap[c]? with
  | none => rfl
  | some ob =>
    cases ob with
    | coro k => cases k <;> rfl
    | _ => rfl
theorem step_solo {g : Goroutine} {w : World} (h : g.status = .running) : step P (solo g w) = (runT P (crowd #[g] w none) 0).1 := by rw [step, stepT_solo h]; rfl
theorem step_dich (hb : Bodied P) (hr : Ready P) {fr : Frame} {cs : List Frame} {v : World} (mu : Mute v.os) (hf : CleanF fr) (hc : CleanS cs) :
    Stuck1 P (lone fr (cs ++ [base1 P]) v) ∨ ∃ fr' cs' v' n, Step1 P fr cs v fr' cs' v' n := by
  have hs := sim_step hb hr hf hc v mu
  have hso : ∀ B w, step P (lone fr (cs ++ B) w) = (runT P (crowd #[G fr (cs ++ B)] w none) 0).1 := fun B w => step_solo (g := G fr (cs ++ B)) rfl
  cases hg : stepG P true (G fr (cs ++ [base1 P])) v with
  | ended o w es => exact .inl (stuck_ended (o := o) (w := w) (step_lone_ended (by show (stepG P true (G fr (cs ++ [base1 P])) v).bare = _; rw [hg]; rfl)))
  | spawn g c w es =>
    refine .inl ?_
    have e : ∃ m', step P (lone fr (cs ++ [base1 P]) v) = .next m' ∧ 2 ≤ m'.gs.size := by
      rw [hso]
      have := runT_crowd_spawn (P := P) (gs := #[G fr (cs ++ [base1 P])]) (w := v) (sl := none) (i := 0) (by simp) (show stepG P (0 == 0) _ v = _ from hg)
      rw [this]
      exact ⟨_, rfl, by simp [crowd]⟩
    obtain ⟨m', e, h2⟩ := e
    exact stuck_big e h2
  | go g v' es =>
    simp only [hg] at hs
    rcases hs with hs | ⟨fr', cs', n, rfl, h2, h3, h4, h5⟩
    · exact .inl (stuck_gone (step_solo_go rfl hg) hs)
    · refine .inr ⟨fr', cs', v', n, ⟨h4.tape, h4.drawn, h4.size, h4.os, h4.out, fun e he => by simp at he⟩, ⟨h2, h3⟩, fun t d o u ho ha => step_solo_go rfl (h5 _ (.inr rfl) t d o u ho ha), fun t d o u gs sl ho ha h0 hn => ?_⟩
      have h6 := h5 [] (.inl rfl) t d o u ho ha
      simp only [List.append_nil] at h6
      have h7 := runT_crowd_go (P := P) (sl := sl) (i := 0) h0 (show stepG P (0 == 0) _ _ = _ from h6)
      have hlt : 0 < gs.size := (Array.getElem?_eq_some_iff.1 h0).1
      refine ⟨_, _, h7, by simp [hlt], ⟨by simp, fun j x hj hx => ?_⟩, fun op hop => ?_⟩
      · have hne : 0 ≠ j := by omega
        rw [Array.getElem?_setIfInBounds_ne hne, Array.getElem?_map] at hx
        obtain ⟨y, hy, rfl⟩ := Option.map_eq_some_iff.1 hx
        exact ⟨y, hy, .inr ⟨_, _, _, rfl⟩⟩
      · obtain ⟨e, he, rfl⟩ := Conc.mem_ofEvents hop
        exact opK_event (h4.evs e he) _ _
  | comm g cases bl sh v' es =>
    simp only [hg] at hs
    obtain ⟨fr', cs', n, rfl, h2, h3, h4, h5⟩ := hs
    have mu' : Mute v'.os := by rw [h4.os]; exact mu
    have hco := comm_wi (P := P) (fr := fr') (cs := cs') (B := [base1 P]) (cases := cases) (bl := bl) (sh := sh) (v := v') mu' h2
    have hfin : ∀ x : Goroutine, (#[x] : Array Goroutine).setIfInBounds 0 { (default : Goroutine) with status := .finished } = #[{ (default : Goroutine) with status := .finished }] := fun x => rfl
    have hst : ∀ w, step P (lone fr (cs ++ [base1 P]) w) = (runT P (crowd #[G fr (cs ++ [base1 P])] w none) 0).1 := fun w => hso _ w
    cases hcm : communicate P { timers := #[], alone := none, slice := none } #[{ (default : Goroutine) with status := .finished }] 0 (G fr' (cs' ++ [base1 P])) cases bl sh v' with
    | mk r ops =>
      have hr1 := runT_crowd_comm (P := P) (gs := #[G fr (cs ++ [base1 P])]) (w := v) (sl := none) (by simp) hg
      rw [hfin, hcm] at hr1
      rw [hcm] at hco
      cases r with
      | ended o w => exact .inl (stuck_ended (o := o) (w := w) (by rw [hst, hr1]))
      | next m' =>
        rcases hco with ⟨g, rfl, hbk⟩ | ⟨fr2, v2, m, acts, rfl, k2, k3, k4, k5, k6⟩
        · exact .inl (stuck_gone (by rw [hst, hr1]) (gone_blocked (.inl hbk)))
        · have hag : ∀ {t : TpL} {d : Nat}, Agree v (n + m) t d → Agree v n t d ∧ Agree v' m t (d + n) := fun {t d} k => ⟨fun i hi q => k i (by omega) q, fun i hi q => by rw [show d + n + i = d + (n + i) by omega, k (n + i) (by omega) q, h4.tape, h4.drawn, Nat.add_assoc]⟩
          refine .inr ⟨fr2, cs', v2, n + m, ⟨k3.tape.trans h4.tape, by rw [k3.drawn, h4.drawn, Nat.add_assoc], Nat.le_trans h4.size k3.size, k3.os.trans h4.os, k3.out.trans h4.out, fun e he => by simp at he⟩, ⟨k2, h3⟩, fun t d o u ho ha => ?_, fun t d o u gs sl ho ha h0 hn => ?_⟩
          · have h6 := h5 [base1 P] (.inr rfl) t d o u ho (hag ha).1
            have h7 := runT_crowd_comm (P := P) (gs := #[G fr (cs ++ [base1 P])]) (w := v.wi t d o u) (sl := none) (by simp) h6
            rw [hfin, k6 [base1 P] t (d + n) o u (by rw [h4.os]; exact ho) (hag ha).2] at h7
            rw [hst, h7, Nat.add_assoc]
          · have h6 := h5 [] (.inl rfl) t d o u ho (hag ha).1
            simp only [List.append_nil] at h6
            have h7 := runT_crowd_comm (P := P) (sl := sl) h0 h6
            have h8 := k6 [] t (d + n) o u (by rw [h4.os]; exact ho) (hag ha).2
            simp only [List.append_nil] at h8
            rw [comm_gs hn, h8] at h7
            have hlt : 0 < gs.size := (Array.getElem?_eq_some_iff.1 h0).1
            refine ⟨(gs.setIfInBounds 0 { (default : Goroutine) with status := .finished }).setIfInBounds 0 (G fr2 cs'), _, by rw [h7, ← Nat.add_assoc]; rfl, by simp [hlt], ⟨by simp, fun j x hj hx => ?_⟩, fun op hop => ?_⟩
            · have hne : 0 ≠ j := by omega
              rw [Array.getElem?_setIfInBounds_ne hne, Array.getElem?_setIfInBounds_ne hne] at hx
              exact ⟨x, hx, .inl rfl⟩
            · simp only [relab] at hop
              rcases Array.mem_append.1 hop with hop | hop
              · obtain ⟨e, he, rfl⟩ := Conc.mem_ofEvents hop
                exact opK_event ((h4.evs e he).mono k3.size) _ _
              · rw [k5] at hop
                obtain ⟨a, ha2, rfl⟩ := Array.mem_map.1 hop
                obtain ⟨q1, q2, q3, q4⟩ := k4 a ha2
                exact ⟨rfl, q2, q3, q4⟩
  | coroswitch g c x v' es =>
    simp only [hg] at hs
    obtain ⟨rfl, fr', cs', n, rfl, h2, h3, h4, h5⟩ := hs
    have hr1 := runT_crowd_coro (P := P) (gs := #[G fr (cs ++ [base1 P])]) (w := v) (sl := none) (by simp) hg
    have en : (∃ o w, step P (lone fr (cs ++ [base1 P]) v) = .ended o w) → Stuck1 P (lone fr (cs ++ [base1 P]) v) := fun ⟨o, w, e⟩ => stuck_ended e
    cases hob : v'.heap[c]? with
    | none => exact .inl (en ⟨_, _, by rw [hso, hr1, hob]⟩)
    | some ob =>
      cases ob with
      | coro k =>
        cases k with
        | none =>
          obtain ⟨g, w', es', e, hgo⟩ := gone_endThrow (P := P) (G fr' (cs' ++ [base1 P])).frame "coroswitch on exited coro" v'
          exact .inl (stuck_gone (g := g) (w := w') (by rw [hso, hr1, hob]; simp only [e]; rfl) hgo)
        | some k =>
          cases k with
          | succ k =>
            refine .inl (stuck_gone (g := { G fr' (cs' ++ [base1 P]) with status := .finished }) (w := { v' with heap := v'.heap.setIfInBounds c (.coro none) }) ?_ (gone_blocked (.inr (.inr rfl))))
            rw [hso, hr1, hob]
            simp only
            have hmod : ∀ (y : Goroutine) (f : Goroutine → Goroutine), (#[y] : Array Goroutine).modify (k + 1) f = #[y] := fun y f => by
              apply Array.ext (by simp)
              intro i h1 h2
              simp [Array.getElem_modify]
            show Stepped.next { world := _, gs := ((#[G fr (cs ++ [base1 P])] : Array Goroutine).setIfInBounds 0 { G fr' (cs' ++ [base1 P]) with status := .finished }).modify (k + 1) _, rest := _ } = _
            rw [show (#[G fr (cs ++ [base1 P])] : Array Goroutine).setIfInBounds 0 { G fr' (cs' ++ [base1 P]) with status := .finished } = #[{ G fr' (cs' ++ [base1 P]) with status := .finished }] from rfl, hmod]
            rfl
          | zero =>
            refine .inr ⟨fr', cs', { v' with heap := v'.heap.setIfInBounds c (.coro none) }, n, ⟨h4.tape, h4.drawn, by simpa using h4.size, h4.os, h4.out, fun e he => by simp at he⟩, ⟨h2, h3⟩, fun t d o u ho ha => ?_, fun t d o u gs sl ho ha h0 hn => ?_⟩
            · have h6 := h5 [base1 P] (.inr rfl) t d o u ho ha
              have h7 := runT_crowd_coro (P := P) (gs := #[G fr (cs ++ [base1 P])]) (w := v.wi t d o u) (sl := none) (by simp) h6
              rw [show (v'.wi t (d + n) o u).heap[c]? = v'.heap[c]? from rfl, hob] at h7
              rw [hso, h7]
              rfl
            · have h6 := h5 [] (.inl rfl) t d o u ho ha
              simp only [List.append_nil] at h6
              have h7 := runT_crowd_coro (P := P) (sl := sl) h0 h6
              rw [show (v'.wi t (d + n) o u).heap[c]? = v'.heap[c]? from rfl, hob] at h7
              have hlt : 0 < gs.size := (Array.getElem?_eq_some_iff.1 h0).1
              refine ⟨(gs.setIfInBounds 0 { G fr' cs' with status := .finished }).modify 0 (fun o => { o with status := .running }), _, h7, ?_, ⟨by simp, fun j x hj hx => ?_⟩, fun op hop => ?_⟩
              · rw [Array.getElem?_modify]
                simp [hlt, G]
              · have hne : 0 ≠ j := by omega
                rw [Array.getElem?_modify, if_neg hne, Array.getElem?_setIfInBounds_ne hne] at hx
                exact ⟨x, hx, .inl rfl⟩
              · obtain ⟨e, he, rfl⟩ := Conc.mem_ofEvents hop
                exact opK_event ((h4.evs e he).mono (by simp)) _ _
      | _ => exact .inl (en ⟨_, _, by rw [hso, hr1, hob]⟩)
  | _ => simp only [hg] at hs; exact hs.elim
end
end Go.Proofs.Ytndncmjhpbjcoaa

/- What ends alone whatever the tape, ends beside goroutines that only leave. -/
namespace Go.Proofs.Ytndncmjhpbjcoaa
open Go Go.Conc Go.ConcN

structure Here (P : Program) (fr : Frame) (cs : List Frame) (w : World) (gs : Array Goroutine) (t : Trace) (q : Nat → Nat) : Prop where
  zero : gs[0]? = some (G fr cs)
  leave : Leavers P t gs q
  past : Past (fun _ => False) w.heap.size t
  clean : CleanF fr ∧ CleanS cs
def To (P : Program) (fr : Frame) (cs : List Frame) (w : World) (Q : Frame → List Frame → World → Prop) : Prop :=
  ∀ gs sl t q, Here P fr cs w gs t q → ∃ N gs' sl' t' q' fr' cs' w', runNT P N (crowd gs w sl) t = (.next (crowd gs' w' sl'), t') ∧ Here P fr' cs' w' gs' t' q' ∧ Q fr' cs' w'
structure Drew (w w' : World) : Prop where
  tape : w'.tape = w.tape
  os : w'.os = w.os
  out : w'.output = w.output
abbrev VSt := Frame × List Frame × World
section
variable {P : Program}
theorem Here.running {fr : Frame} {cs : List Frame} {w : World} {gs : Array Goroutine} {t : Trace} {q : Nat → Nat} (h : Here P fr cs w gs t q) : ∀ g ∈ gs, awake g := by
  intro g hg
  obtain ⟨i, hi, rfl⟩ := Array.mem_iff_getElem.1 hg
  rcases Nat.eq_zero_or_pos i with rfl | hpos
  · have : gs[0] = G fr cs := by simpa [Array.getElem?_eq_getElem hi] using h.zero
    rw [this]; exact awake_of (.inl rfl)
  · exact awake_of ((h.leave.old i _ hpos (Array.getElem?_eq_getElem hi)).status.elim .inl fun x => .inr (.inr x))
theorem Here.noWait {fr : Frame} {cs : List Frame} {w : World} {gs : Array Goroutine} {t : Trace} {q : Nat → Nat} (h : Here P fr cs w gs t q) : NoWait (gs.setIfInBounds 0 { (default : Goroutine) with status := .finished }) := by
  intro r b
  unfold partners
  rw [List.flatMap_eq_nil_iff]
  rintro ⟨g, i⟩ hm
  have hi : (gs.setIfInBounds 0 { (default : Goroutine) with status := .finished })[i]? = some g := by
    have := Array.mem_toList_iff.1 hm
    rw [Array.mem_iff_getElem?] at this
    obtain ⟨j, hj⟩ := this
    rw [Array.getElem?_zipIdx] at hj
    simp only [Option.map_eq_some_iff, Prod.mk.injEq] at hj
    obtain ⟨y, h1, rfl, h2⟩ := hj
    rw [show i = j by omega]; exact h1
  have hne : g.status ≠ .blocked := by
    rcases Nat.eq_zero_or_pos i with rfl | hpos
    · rw [Array.getElem?_setIfInBounds] at hi
      simp at hi
      rw [← hi.2]; exact fun h => by cases h
    · rw [Array.getElem?_setIfInBounds_ne (by omega)] at hi
      rcases (h.leave.old i g hpos hi).status with hs | hs <;> rw [hs] <;> exact fun h => by cases h
  simp only
  split
  · rename_i hs _
    exact absurd hs hne
  · rfl
theorem deaf_ops (t : Trace) {B : Nat} : ∀ (l : List MemOp), (∀ op ∈ l, OpK B op) → Deaf (t ++ l.toArray) 0 = Deaf t 0 := fun l h => by
  rw [Deaf_append]
  induction l with
  | nil => rfl
  | cons op l ih =>
    have := h op (by simp)
    rw [List.foldl_cons]
    have e : deafStep 0 (Deaf t 0) op = Deaf t 0 := by
      unfold deafStep
      split
      · rename_i e; exact absurd e this.dis
      · rename_i e; exact absurd e this.en
      · rfl
    rw [e]
    exact ih fun op hop => h op (by simp [hop])
theorem wi_wi (v : World) (t t' : TpL) (d d' : Nat) (o o' : Os) (u u' : OutL) : (v.wi t d o u).wi t' d' o' u' = v.wi t' d' o' u' := rfl
theorem wi_self (v : World) : v.wi v.tape v.drawn v.os v.output = v := rfl
theorem Past.opK {w w' : World} {t : Trace} {ops : Array MemOp} (h : Past (fun _ => False) w.heap.size t) (hs : w.heap.size ≤ w'.heap.size) (ho : ∀ op ∈ ops, OpK w'.heap.size op) : Past (fun _ => False) w'.heap.size (t ++ ops) := by
  refine (h.mono hs).app0 (fun op hop => (ho op hop).g) (fun op hop b hb hf => hf.elim) ?_ (fun op hop => (ho op hop).low)
  have := deaf_ops t (B := w'.heap.size) ops.toList (fun op hop => ho op (Array.mem_toList_iff.1 hop))
  simpa using this
theorem Here.own {fr : Frame} {cs : List Frame} {v : World} {fr' : Frame} {cs' : List Frame} {v' : World} {n : Nat} (hS : Step1 P fr cs v fr' cs' v' n) {t : TpL} {d : Nat} {o : Os} {u : OutL} {gs : Array Goroutine} {tr : Trace} {q : Nat → Nat} (sl : Option (Nat × Nat)) (h : Here P fr cs (v.wi t d o u) gs tr q) (ho : o.env = v.os.env) (ha : Agree v n t d) :
    ∃ gs' ops, runT P (crowd gs (v.wi t d o u) sl) 0 = (.next (crowd gs' (v'.wi t (d + n) o u) sl), ops) ∧ Here P fr' cs' (v'.wi t (d + n) o u) gs' (tr ++ ops) q := by
  obtain ⟨gs', ops, h1, h2, h3, h4⟩ := hS.crowd t d o u gs sl ho ha h.zero h.noWait
  refine ⟨gs', ops, h1, h2, ⟨fun j x hj hx => ?_, fun j hj => ?_⟩, Past.opK h.past hS.fol.size h4, hS.cl⟩
  · obtain ⟨y, hy, hxy⟩ := h3.2 j x hj hx
    have hq := h.leave.old j y hj hy
    have hxe : x = y := by
      rcases hxy with hxy | ⟨a, b, w, hxy⟩
      · exact hxy
      · rw [hxy, woken_quitsD hq]
    rw [hxe, Deaf_other tr (g' := 0) (by omega) _ (fun op hop => (h4 op hop).g)]
    exact hq
  · rw [Deaf_other tr (g' := 0) (by have := (Array.getElem?_eq_some_iff.1 h2).1; omega) _ (fun op hop => (h4 op hop).g)]
    exact h.leave.above j (by rw [← h3.1]; exact hj)
theorem Here.slip {fr : Frame} {cs : List Frame} {w : World} {gs : Array Goroutine} {tr : Trace} {q : Nat → Nat} (h : Here P fr cs w gs tr q) {i : Nat} {g : Goroutine} (hi : gs[i]? = some g) (hg : g.status = .running) (hpos : 0 < i) (d : Nat) (sl : Option (Nat × Nat)) :
    ∃ gs' ops q', runT P (crowd gs (w.at d) sl) i = (.next (crowd gs' (w.at d) sl), ops) ∧ Here P fr cs (w.at d) gs' (tr ++ ops) q' ∧ gs'.size = gs.size ∧ sumTo gs.size q' < sumTo gs.size q := by
  have hq := h.leave.old i g hpos hi
  have hi0 : (i == 0) = false := by simp; omega
  have hlt : i < gs.size := (Array.getElem?_eq_some_iff.1 hi).1
  cases hqi : q i with
  | zero => rw [hqi] at hq; rw [hq.1] at hg; cases hg
  | succ k =>
    rw [hqi] at hq
    rcases hq with ⟨hf, _⟩ | ⟨_, g', es, hm, hstp, hq'⟩
    · rw [hf] at hg; cases hg
    have hrunT := runT_crowd_go (P := P) (sl := sl) (i := i) hi (by rw [hi0]; exact hstp (w.at d))
    have hsum : sumTo gs.size (upd q i k) + (k + 1) = sumTo gs.size q + k := by
      have := sumTo_upd q k id hlt
      simpa [hqi] using this
    refine ⟨_, _, upd q i k, hrunT, ⟨?_, ⟨fun j x hj hx => ?_, fun j hj => ?_⟩, Past.mute h.past (by omega) hm, h.clean⟩, by simp, by omega⟩
    · rw [Array.getElem?_setIfInBounds_ne (by omega), Array.getElem?_map, h.zero]
      simp only [Option.map_some, Option.some.injEq]
      exact woken_run rfl
    · by_cases hji : i = j
      · subst hji
        rw [Array.getElem?_setIfInBounds_self_of_lt (by simpa using hlt)] at hx
        obtain rfl := Option.some.inj hx
        rw [upd_same, Deaf_own]
        exact hq'
      · rw [Array.getElem?_setIfInBounds_ne hji, Array.getElem?_map] at hx
        obtain ⟨y, hy, rfl⟩ := Option.map_eq_some_iff.1 hx
        have hqj := h.leave.old j y hj hy
        rw [woken_quitsD hqj, upd_ne q k (Ne.symm hji), Deaf_other tr hji _ (fun op hop => by obtain ⟨e, _, rfl⟩ := Conc.mem_ofEvents hop; rfl)]
        exact hqj
    · rw [Deaf_other tr (g' := i) (by simp at hj; omega) _ (fun op hop => by obtain ⟨e, _, rfl⟩ := Conc.mem_ofEvents hop; rfl)]
      exact h.leave.above j (by simpa using hj)
theorem Step1.move {fr : Frame} {cs : List Frame} {v : World} {fr' : Frame} {cs' : List Frame} {v' : World} {n : Nat} (h : Step1 P fr cs v fr' cs' v' n) {t : TpL} {d : Nat} {o : Os} {u : OutL} (ha : Agree v n t d) (ho : o.env = v.os.env) : Step1 P fr cs (v.wi t d o u) fr' cs' (v'.wi t (d + n) o u) n := by
  refine ⟨⟨rfl, rfl, h.fol.size, rfl, rfl, fun e he => by simp at he⟩, h.cl, fun t2 d2 o2 u2 ho2 ha2 => ?_, fun t2 d2 o2 u2 gs sl ho2 ha2 => ?_⟩
  · exact h.alone t2 d2 o2 u2 (ho2.trans ho) fun i hi q => (ha2 i hi q).trans (ha i hi q)
  · exact h.crowd t2 d2 o2 u2 gs sl (ho2.trans ho) fun i hi q => (ha2 i hi q).trans (ha i hi q)
end
end Go.Proofs.Ytndncmjhpbjcoaa

/- What ends alone, whatever the tape, ends beside goroutines that only leave: the theorem. -/
namespace Go.Proofs.Ytndncmjhpbjcoaa
open Go Go.Conc Go.ConcN

theorem chainL {α : Type} {r : α → α → Prop} {a : α} (h : ¬ Acc r a) : ∃ f : Nat → α, f 0 = a ∧ ∀ n, r (f (n + 1)) (f n) := by
  have step : ∀ x : { x // ¬ Acc r x }, ∃ y : { y // ¬ Acc r y }, r y.1 x.1 := fun ⟨x, hx⟩ => Classical.byContradiction fun hn => hx (Acc.intro x fun y hy => Classical.byContradiction fun hy2 => hn ⟨⟨y, hy2⟩, hy⟩)
  let g : Nat → { x // ¬ Acc r x } := fun n => Nat.rec ⟨a, h⟩ (fun _ x => Classical.choose (step x)) n
  exact ⟨fun n => (g n).1, rfl, fun n => Classical.choose_spec (step (g n))⟩
def glueL (T : TpL) (D : Nat) (t : TpL) (d : Nat) : TpL := fun x => if x < D then T x else t (d + (x - D))
section
variable (P : Program) (oB : Os) (s0 : VSt) (Post : Frame → List Frame → World → Prop)
abbrev vm (s : VSt) (T : TpL) (D : Nat) : Machine := lone s.1 (s.2.1 ++ [base1 P]) (s.2.2.wi T D oB #[])
def PthL (k : Nat) (T : TpL) (D : Nat) (s : VSt) : Prop := ∀ T' : TpL, (∀ x, x < D → T' x = T x) → runN P k (vm P oB s0 T' 0) = .next (vm P oB s T' D) ∧ ∀ i, i < k → ∀ fr cs v, runN P i (vm P oB s0 T' 0) = .next (lone fr (cs ++ [base1 P]) v) → ¬ Post fr cs v
def CleanV (s : VSt) : Prop := CleanF s.1 ∧ CleanS s.2.1
def NxL (s' s : VSt) : Prop := CleanV s ∧ ¬ Post s.1 s.2.1 s.2.2 ∧ ∃ t d n, Step1 P s.1 s.2.1 (s.2.2.wi t d oB #[]) s'.1 s'.2.1 s'.2.2 n
def EndsL : Prop := ∀ T : TpL, ∃ n fr cs v, runN P n (vm P oB s0 T 0) = .next (lone fr (cs ++ [base1 P]) v) ∧ Post fr cs v
end
section
variable {P : Program} {oB : Os} {s0 : VSt} {Post : Frame → List Frame → World → Prop}
theorem lone_injL {fr fr2 : Frame} {cs cs2 : List Frame} {w w2 : World} (h : lone fr cs w = lone fr2 cs2 w2) : fr = fr2 ∧ cs = cs2 ∧ w = w2 := by
  simp only [lone, Machine.mk.injEq, Array.mk.injEq, List.cons.injEq, Goroutine.mk.injEq, and_true, true_and] at h
  exact ⟨h.2.1, h.2.2, h.1⟩
theorem PthL.start : PthL P oB s0 Post 0 (fun _ _ => 0) 0 s0 := fun T' _ => ⟨rfl, fun i hi => absurd hi (by omega)⟩
theorem PthL.ext (hinv : ∀ fr cs v t d o u, Post fr cs (World.wi v t d o u) → Post fr cs v) {k : Nat} {T : TpL} {D : Nat} {s s' : VSt} (h : PthL P oB s0 Post k T D s) (hp : ¬ Post s.1 s.2.1 s.2.2) {t : TpL} {d n : Nat} (hS : Step1 P s.1 s.2.1 (s.2.2.wi t d oB #[]) s'.1 s'.2.1 s'.2.2 n) :
    PthL P oB s0 Post (k + 1) (glueL T D t d) (D + n) s' := by
  intro T' hT
  obtain ⟨h1, h2⟩ := h T' (fun x hx => by rw [hT x (by omega), glueL, if_pos hx])
  have h4 : step P (vm P oB s T' D) = .next (vm P oB s' T' (D + n)) := hS.alone T' D oB #[] rfl fun i hi q => by
    rw [hT (D + i) (by omega), glueL, if_neg (by omega), show D + i - D = i by omega]
    rfl
  refine ⟨?_, fun i hi fr cs v hr2 => ?_⟩
  · rw [runN_add, h1]
    simp only [runN, h4]
  · rcases Nat.lt_or_ge i k with hik | hik
    · exact h2 i hik fr cs v hr2
    · obtain rfl : i = k := by omega
      rw [h1] at hr2
      simp only [Stepped.next.injEq] at hr2
      obtain ⟨e1, e2, e3⟩ := lone_injL hr2
      have e4 := List.append_cancel_right e2
      intro hq
      rw [← e1, ← e4, ← e3] at hq
      exact hp (hinv _ _ _ _ _ _ _ hq)
theorem progL (hb : Bodied P) (hr : Ready P) (mu : Mute oB) (hinv : ∀ fr cs v t d o u, Post fr cs (World.wi v t d o u) → Post fr cs v) (hC : EndsL P oB s0 Post) {k : Nat} {T : TpL} {D : Nat} {s : VSt} (h : PthL P oB s0 Post k T D s) (hc : CleanV s) (hp : ¬ Post s.1 s.2.1 s.2.2) (t : TpL) (d : Nat) :
    ∃ fr' cs' v' n, Step1 P s.1 s.2.1 (s.2.2.wi t d oB #[]) fr' cs' v' n := by
  obtain ⟨T2, hT2⟩ : ∃ T2, T2 = glueL T D t d := ⟨_, rfl⟩
  have hTt : ∀ i, T2 (D + i) = t (d + i) := fun i => by rw [hT2, glueL, if_neg (by omega), show D + i - D = i by omega]
  obtain ⟨h1, h2⟩ := h T2 (fun x hx => by rw [hT2, glueL, if_pos hx])
  rcases step_dich hb hr (v := s.2.2.wi T2 D oB #[]) mu hc.1 hc.2 with hst | ⟨fr', cs', v', n, hS⟩
  · exfalso
    obtain ⟨m, fr, cs, v, e1, e2⟩ := hC T2
    rcases Nat.lt_trichotomy m k with x | x | x
    · exact h2 m x fr cs v e1 e2
    · subst x
      rw [h1] at e1
      simp only [Stepped.next.injEq] at e1
      obtain ⟨f1, f2, f3⟩ := lone_injL e1
      have f4 := List.append_cancel_right f2
      rw [← f1, ← f4, ← f3] at e2
      exact hp (hinv _ _ _ _ _ _ _ e2)
    · obtain ⟨j, rfl⟩ : ∃ j, m = k + (j + 1) := ⟨m - k - 1, by omega⟩
      rw [runN_add, h1] at e1
      exact hst j fr cs v e1
  · exact ⟨fr', cs', _, n, hS.move (t := t) (d := d) (o := oB) (u := #[]) (fun i hi q => by rw [← hTt i]; rfl) rfl⟩
theorem accL (hinv : ∀ fr cs v t d o u, Post fr cs (World.wi v t d o u) → Post fr cs v) (hC : EndsL P oB s0 Post) : Acc (NxL P oB Post) s0 := by
  refine Classical.byContradiction fun hn => ?_
  obtain ⟨g, g0, hs⟩ := chainL hn
  have ht : ∀ k, ∃ t d n, Step1 P (g k).1 (g k).2.1 ((g k).2.2.wi t d oB #[]) (g (k + 1)).1 (g (k + 1)).2.1 (g (k + 1)).2.2 n := fun k => (hs k).2.2
  let t : Nat → TpL := fun k => Classical.choose (ht k)
  let d : Nat → Nat := fun k => Classical.choose (Classical.choose_spec (ht k))
  let n : Nat → Nat := fun k => Classical.choose (Classical.choose_spec (Classical.choose_spec (ht k)))
  have htd : ∀ k, Step1 P (g k).1 (g k).2.1 ((g k).2.2.wi (t k) (d k) oB #[]) (g (k + 1)).1 (g (k + 1)).2.1 (g (k + 1)).2.2 (n k) := fun k => Classical.choose_spec (Classical.choose_spec (Classical.choose_spec (ht k)))
  let TD : Nat → TpL × Nat := fun m => Nat.rec (fun _ _ => 0, 0) (fun k x => (glueL x.1 x.2 (t k) (d k), x.2 + n k)) m
  have hTD : ∀ k, TD (k + 1) = (glueL (TD k).1 (TD k).2 (t k) (d k), (TD k).2 + n k) := fun k => rfl
  have hP : ∀ k, PthL P oB s0 Post k (TD k).1 (TD k).2 (g k) := by
    intro k
    induction k with
    | zero => rw [g0]; exact PthL.start
    | succ k ih =>
      rw [hTD]
      exact ih.ext hinv (hs k).2.1 (htd k)
  have hmono : ∀ k m, k ≤ m → (TD k).2 ≤ (TD m).2 := by
    intro k m hkm
    induction hkm with
    | refl => exact Nat.le_refl _
    | step _ ih => rw [hTD]; simp only; omega
  have hst : ∀ k m, k ≤ m → ∀ x, x < (TD k).2 → (TD m).1 x = (TD k).1 x := by
    intro k m hkm
    induction hkm with
    | refl => exact fun _ _ => rfl
    | @step m hkm ih =>
      intro x hx
      have := hmono k m hkm
      rw [hTD]
      simp only [glueL]
      rw [if_pos (by omega)]
      exact ih x hx
  let T : TpL := fun x => open Classical in if h : ∃ k, x < (TD k).2 then (TD (Classical.choose h)).1 x else fun _ => 0
  have hT : ∀ k x, x < (TD k).2 → T x = (TD k).1 x := by
    intro k x hx
    have h : ∃ k, x < (TD k).2 := ⟨k, hx⟩
    have e : T x = (TD (Classical.choose h)).1 x := dif_pos h
    rw [e]
    rcases Nat.le_total (Classical.choose h) k with l | l
    · exact (hst _ _ l x (Classical.choose_spec h)).symm
    · exact hst _ _ l x hx
  obtain ⟨m, fr, cs, v, e1, e2⟩ := hC T
  obtain ⟨-, h2⟩ := hP (m + 1) T (hT (m + 1))
  exact h2 m (by omega) fr cs v e1 e2
theorem to_of_alone (hb : Bodied P) (hr : Ready P) (mu : Mute oB) (hinv : ∀ fr cs v t d o u, Post fr cs (World.wi v t d o u) → Post fr cs v) (hinv2 : ∀ fr cs v t d o u, Post fr cs v → Post fr cs (World.wi v t d o u)) {fr : Frame} {cs : List Frame} {w : World} (he : w.os.env = oB.env) (hC : EndsL P oB (fr, cs, w) Post) :
    To P fr cs w fun fr' cs' w' => Post fr' cs' w' ∧ Drew w w' := by
  have main : ∀ s : VSt, Acc (NxL P oB Post) s → ∀ (M k : Nat) (T : TpL) (D : Nat) (w' : World) (gs : Array Goroutine) (sl : Option (Nat × Nat)) (tr : Trace) (q : Nat → Nat), sumTo gs.size q ≤ M → PthL P oB (fr, cs, w) Post k T D s → Here P s.1 s.2.1 w' gs tr q → w'.heap = s.2.2.heap → Drew w w' →
      ∃ N gs' sl' t' q' fr' cs' w2, runNT P N (crowd gs w' sl) tr = (.next (crowd gs' w2 sl'), t') ∧ Here P fr' cs' w2 gs' t' q' ∧ Post fr' cs' w2 ∧ Drew w w2 := by
    intro s hs
    induction hs with
    | intro s _ ih =>
      intro M
      induction M using Nat.strongRecOn with
      | _ M ihM =>
        intro k T D w' gs sl tr q hM hP hH hw hD
        have hww : w' = s.2.2.wi w'.tape w'.drawn w'.os w'.output := by
          obtain ⟨h1, h2, h3, h4, h5⟩ := w'
          simp only at hw
          subst hw
          rfl
        by_cases hpo : Post s.1 s.2.1 s.2.2
        · exact ⟨0, gs, sl, tr, q, s.1, s.2.1, w', rfl, hH, by rw [hww]; exact hinv2 _ _ _ _ _ _ _ hpo, hD⟩
        obtain ⟨i, g, d, sl', hi, hg, hst⟩ := crowd_pick (P := P) (w := w') (sl := sl) hH.running ⟨0, _, hH.zero, rfl⟩
        rcases Nat.eq_zero_or_pos i with rfl | hpos
        · obtain ⟨fr', cs', v', n, hS⟩ := progL hb hr mu hinv hC hP hH.clean hpo w'.tape d
          have hwd : w'.at d = (s.2.2.wi w'.tape d oB #[]).wi w'.tape d w'.os w'.output := by
            rw [wi_wi]
            show w'.at d = s.2.2.wi w'.tape d w'.os w'.output
            rw [hww]; rfl
          have hH2 : Here P s.1 s.2.1 ((s.2.2.wi w'.tape d oB #[]).wi w'.tape d w'.os w'.output) gs tr q := by
            rw [← hwd]
            exact ⟨hH.zero, hH.leave, hH.past, hH.clean⟩
          obtain ⟨gs', ops, r1, r2⟩ := hH2.own hS sl' (by show w'.os.env = oB.env; rw [hD.os]; exact he) (fun i hi q => rfl)
          rw [← hwd] at r1
          obtain ⟨N, gs2, sl2, t2, q2, fr2, cs2, w2, e1, e2, e3, e4⟩ := ih (fr', cs', v') ⟨hH.clean, hpo, _, _, _, hS⟩ _ (k + 1) _ _ _ gs' sl' (tr ++ ops) q (Nat.le_refl _) (hP.ext hinv hpo (s' := (fr', cs', v')) hS) r2 rfl ⟨hD.tape, hD.os, hD.out⟩
          exact ⟨N + 1, gs2, sl2, t2, q2, fr2, cs2, w2, by simp only [runNT, hst, r1]; exact e1, e2, e3, e4⟩
        · obtain ⟨gs', ops, q', r1, r2, r3, r4⟩ := hH.slip hi hg hpos d sl'
          obtain ⟨N, gs2, sl2, t2, q2, fr2, cs2, w2, e1, e2, e3, e4⟩ := ihM (sumTo gs'.size q') (by rw [r3]; omega) k T D (w'.at d) gs' sl' (tr ++ ops) q' (Nat.le_refl _) hP r2 hw ⟨hD.tape, hD.os, hD.out⟩
          exact ⟨N + 1, gs2, sl2, t2, q2, fr2, cs2, w2, by simp only [runNT, hst, r1]; exact e1, e2, e3, e4⟩
  intro gs sl t q hH
  exact main (fr, cs, w) (accL hinv hC) _ 0 _ 0 w gs sl t q (Nat.le_refl _) PthL.start hH rfl ⟨rfl, rfl, rfl⟩
end
end Go.Proofs.Ytndncmjhpbjcoaa

/- An outside on which nothing can be printed exists beside every outside; and what a function's own contract says, from whatever tape, it keeps beside goroutines that only leave. -/
namespace Go.Proofs.Ytndncmjhpbjcoaa
open Go Go.Conc Go.ConcN Go.RowKit

def muteOs (o : Os) : Os := { (default : Os) with env := o.env, nodes := #[{ (default : Node) with kind := .anon }], opens := #[some { node := 0, offset := 0, flags := 2 }], fds := #[none, none, some { desc := 0, cloexec := false }] }
theorem muteOs_env (o : Os) : (muteOs o).env = o.env := rfl
theorem muteOs_mute (o : Os) : Mute (muteOs o) := by
  intro w b hw
  have h2 : (Kernel.named (.write ((2 : Nat) : Int) b)).any (Kernel.ofPoller (muteOs o)) = true := rfl
  unfold World.sys
  rw [hw]
  by_cases hl : Kernel.lengthOf (.write ((2 : Nat) : Int) b) > 0x7ffff000
  · have e : Kernel.perform (.write ((2 : Nat) : Int) b) (muteOs o) = .done (.noEntry "os: a call that is handed more than 0x7ffff000 bytes", muteOs o) := by
      unfold Kernel.perform
      rw [if_pos hl]
      rfl
    rw [e]
    exact ⟨_, rfl⟩
  · have e : Kernel.perform (.write ((2 : Nat) : Int) b) (muteOs o) = .done (.noEntry "os: a call of the program's own on a descriptor of the run-time's poller", muteOs o) := by
      unfold Kernel.perform
      rw [if_neg hl, if_pos h2]
      rfl
    rw [e]
    exact ⟨_, rfl⟩
section
variable {P : Program}
theorem To.mono {fr : Frame} {cs : List Frame} {w : World} {Q Q' : Frame → List Frame → World → Prop} (h : To P fr cs w Q) (hq : ∀ fr cs w, Q fr cs w → Q' fr cs w) : To P fr cs w Q' := fun gs sl t q hH =>
  let ⟨N, gs', sl', t', q', fr', cs', w', e, hh, x⟩ := h gs sl t q hH
  ⟨N, gs', sl', t', q', fr', cs', w', e, hh, hq _ _ _ x⟩
theorem To.now {fr : Frame} {cs : List Frame} {w : World} {Q : Frame → List Frame → World → Prop} (h : Q fr cs w) : To P fr cs w Q := fun gs sl t q hH => ⟨0, gs, sl, t, q, fr, cs, w, rfl, hH, h⟩
theorem runNT_addL (P : Program) (a b : Nat) (m m' : Machine) (t t' : Trace) (h : runNT P a m t = (.next m', t')) : runNT P (a + b) m t = runNT P b m' t' := by
  induction a generalizing m t with
  | zero =>
    simp only [runNT, Prod.mk.injEq, Stepped.next.injEq] at h
    obtain ⟨rfl, rfl⟩ := h
    rw [Nat.zero_add]
  | succ a ih =>
    rw [show a + 1 + b = (a + b) + 1 by omega]
    simp only [runNT] at h ⊢
    split at h
    · exact ih _ _ h
    · rename_i hx _
      simp only [Prod.mk.injEq] at h
      exact (hx _ h.1).elim
theorem To.bind {fr : Frame} {cs : List Frame} {w : World} {Q Q' : Frame → List Frame → World → Prop} (h : To P fr cs w Q) (hq : ∀ fr cs w, Q fr cs w → To P fr cs w Q') : To P fr cs w Q' := by
  intro gs sl t q hH
  obtain ⟨N, gs1, sl1, t1, q1, fr1, cs1, w1, e1, h1, x1⟩ := h gs sl t q hH
  obtain ⟨M, gs2, sl2, t2, q2, fr2, cs2, w2, e2, h2, x2⟩ := hq _ _ _ x1 gs1 sl1 t1 q1 h1
  exact ⟨N + M, gs2, sl2, t2, q2, fr2, cs2, w2, by rw [runNT_addL P N M _ _ _ _ e1]; exact e2, h2, x2⟩
def Sees (w : World) (R : World → World → Prop) (w' : World) : Prop := ∃ oB T t d o u, R (w.wi T 0 oB #[]) (w'.wi t d o u)
theorem Sees.below {w w' : World} {B : Nat} (h : Sees w (fun a b => Below B a b) w') (hd : Drew w w') : Below B w w' := by
  obtain ⟨oB, T, t, d, o, u, h⟩ := h
  exact ⟨hd.os, hd.tape, hd.out, h.size, h.block⟩
end
end Go.Proofs.Ytndncmjhpbjcoaa

/- Walking code of goroutine 0 beside goroutines that only leave: the rules. What runs alone is walked alone (by the library's own walk) and comes in whole; what calls a function that starts goroutines is walked by these. -/
namespace Go.Proofs.Ytndncmjhpbjcoaa
open Go Go.Conc Go.ConcN Go.RowKit

structure Like (w w' : World) : Prop where
  heap : w'.heap = w.heap
  drew : Drew w w'
theorem Drew.refl (w : World) : Drew w w := ⟨rfl, rfl, rfl⟩
theorem Drew.trans {a b c : World} (h : Drew a b) (k : Drew b c) : Drew a c := ⟨k.tape.trans h.tape, k.os.trans h.os, k.out.trans h.out⟩
theorem Drew.symm {a b : World} (h : Drew a b) : Drew b a := ⟨h.tape.symm, h.os.symm, h.out.symm⟩
theorem Like.refl (w : World) : Like w w := ⟨rfl, .refl w⟩
theorem Like.trans {a b c : World} (h : Like a b) (k : Like b c) : Like a c := ⟨k.heap.trans h.heap, h.drew.trans k.drew⟩
theorem Like.wi {w w' : World} (h : Like w w') (t : TpL) (d : Nat) (o : Os) (u : OutL) : w'.wi t d o u = w.wi t d o u := by
  unfold World.wi
  rw [h.heap]
section
variable {P : Program}
def ToD (P : Program) (fr : Frame) (cs : List Frame) (w : World) (G : Frame → List Frame → World → Prop) : Prop := ∀ w', Like w w' → To P fr cs w' G
variable {fr fr' : Frame} {cs cs' : List Frame} {w w' : World} {G G' Q : Frame → List Frame → World → Prop}
theorem ToD.to (h : ToD P fr cs w G) : To P fr cs w G := h w (.refl w)
theorem ToD.mono (h : ToD P fr cs w G) (hg : ∀ fr cs w, G fr cs w → G' fr cs w) : ToD P fr cs w G' := fun w' hl => (h w' hl).mono hg
theorem ToD.bind (h : ToD P fr cs w Q) (hq : ∀ fr cs w, Q fr cs w → ToD P fr cs w G) : ToD P fr cs w G := fun w' hl => (h w' hl).bind fun fr cs w x => (hq fr cs w x).to
theorem ToD.like (h : ToD P fr cs w G) (hl : Like w w') : ToD P fr cs w' G := fun w2 h2 => h w2 (hl.trans h2)
theorem ToD.alone (hb : Bodied P) (hr : Ready P) (h : ∀ oB T, oB.env = w.os.env → ∃ n fr' cs' w', runN P n (lone fr (cs ++ [base1 P]) (w.wi T 0 oB #[])) = .next (lone fr' (cs' ++ [base1 P]) w') ∧ Q fr' cs' w')
    (hq : ∀ fr' cs' w' t d o u, Q fr' cs' w' → Q fr' cs' (World.wi w' t d o u)) : ToD P fr cs w fun fr' cs' w' => Q fr' cs' w' ∧ Drew w w' := by
  intro w1 hl
  have hE : EndsL P (muteOs w1.os) (fr, cs, w1) Q := fun T => by
    obtain ⟨n, fr2, cs2, w2, e, x⟩ := h (muteOs w1.os) T (by rw [muteOs_env, hl.drew.os])
    refine ⟨n, fr2, cs2, w2, ?_, x⟩
    show runN P n (lone fr (cs ++ [base1 P]) (w1.wi T 0 (muteOs w1.os) #[])) = _
    rw [hl.wi]
    exact e
  refine (to_of_alone hb hr (muteOs_mute w1.os) ?_ ?_ rfl hE).mono fun fr2 cs2 w2 x => ⟨x.1, hl.drew.trans x.2⟩
  · intro fr2 cs2 v t d o u x
    have := hq fr2 cs2 _ v.tape v.drawn v.os v.output x
    rwa [wi_wi, wi_self] at this
  · exact fun fr2 cs2 v t d o u x => hq fr2 cs2 v t d o u x
theorem ToD.go1 (hb : Bodied P) (hr : Ready P) (h : ∀ t d o u, step P (lone fr (cs ++ [base1 P]) (w.wi t d o u)) = .next (lone fr' (cs' ++ [base1 P]) (w'.wi t d o u))) (hd : Drew w w') (hT : ToD P fr' cs' w' G) : ToD P fr cs w G := by
  refine (ToD.alone hb hr (Q := fun f c v => f = fr' ∧ c = cs' ∧ v.heap = w'.heap) (fun oB T _ => ⟨1, fr', cs', w'.wi T 0 oB #[], by simp only [runN]; rw [h], rfl, rfl, rfl⟩) (fun _ _ _ _ _ _ _ x => x)).bind ?_
  rintro f c v ⟨⟨rfl, rfl, h3⟩, h4⟩
  exact hT.like ⟨h3, hd.symm.trans h4⟩
theorem ToD.ctl (hb : Bodied P) (hr : Ready P) (h : ∀ cs w, step P (lone fr cs w) = .next (lone fr' cs w)) (hT : ToD P fr' cs w G) : ToD P fr cs w G := ToD.go1 hb hr (fun _ _ _ _ => h _ _) (.refl w) hT
end
def GoesT (P : Program) (b : Frame) (k : List Item) (cs : List Frame) (G : Frame → List Frame → World → Prop) : Exit → Act → World → Prop
  | .normal, a, w => ToD P (b.at a k) cs w G
  | .exit id, a, w => ∃ k', exitTo id k = some k' ∧ ToD P (b.at a k') cs w G
  | .goto l, a, w => ∃ k', gotoIn l k = some k' ∧ ToD P (b.at a k') cs w G
  | .ret, a, w => ∀ todo, ToD P { b.at a todo with mode := .returning } cs w G
  | .panic ch, a, w => ∀ todo, ToD P { b.at a todo with mode := .panicking ch } cs w G
  | .outgrown, _, _ => False
def WpT (P : Program) (c : Code) (Q : Exit → Act → World → Prop) (a : Act) (w : World) : Prop :=
  ∀ b k cs G, (∀ e a' w', Q e a' w' → GoesT P b k cs G e a' w') → ToD P (b.at a (.code c :: k)) cs w G
def CallsT (P : Program) (f : FuncId) (args : Array Value) (w : World) (R : Value → World → Prop) : Prop :=
  ∀ c cs, ToD P (Frame.enter P f args .normal) (c :: cs) w fun fr' cs' w' => cs' = cs ∧ ∃ v, fr' = c.finish v ∧ R v w'
section
variable {P : Program} {Q Q' : Exit → Act → World → Prop} {a : Act} {w w' : World}
theorem GoesT.pass {b : Frame} {k : List Item} {cs : List Frame} {G : Frame → List Frame → World → Prop} {x : Item} {e : Exit} (hx : x.plain = true) (he : e ≠ .normal) (h : GoesT P b k cs G e a w) : GoesT P b (x :: k) cs G e a w := by
  cases e with
  | normal => exact (he rfl).elim
  | exit id => obtain ⟨k', h1, h2⟩ := h; exact ⟨k', by cases x <;> simp_all [exitTo, Item.plain], h2⟩
  | goto l => obtain ⟨k', h1, h2⟩ := h; exact ⟨k', by cases x <;> simp_all [gotoIn, Item.plain], h2⟩
  | ret => exact h
  | panic ch => exact h
  | outgrown => exact h
theorem WpT.mono {c : Code} (h : WpT P c Q a w) (hq : ∀ e a w, Q e a w → Q' e a w) : WpT P c Q' a w := fun b k cs G hG => h b k cs G fun e a' w' x => hG e a' w' (hq _ _ _ x)
theorem WpT.like {c : Code} (h : WpT P c Q a w) (hl : Like w w') : WpT P c Q a w' := fun b k cs G hG => (h b k cs G hG).like hl
section
end
end
end Go.Proofs.Ytndncmjhpbjcoaa

/- What runs alone, taken whole into a walk beside leavers; functions; the end of a call. -/
namespace Go.Proofs.Ytndncmjhpbjcoaa
open Go Go.Conc Go.ConcN Go.RowKit

def AtE (b : Frame) (k : List Item) : Exit → Act → Frame → Prop
  | .normal, a, fr => fr = b.at a k
  | .exit id, a, fr => ∃ k', exitTo id k = some k' ∧ fr = b.at a k'
  | .goto l, a, fr => ∃ k', gotoIn l k = some k' ∧ fr = b.at a k'
  | .ret, a, fr => ∃ todo, fr = { b.at a todo with mode := .returning }
  | .panic ch, a, fr => ∃ todo, fr = { b.at a todo with mode := .panicking ch }
  | .outgrown, _, _ => False
section
variable {P : Program} {a : Act} {w : World}
theorem GoesT.at {b : Frame} {k : List Item} {cs : List Frame} {G : Frame → List Frame → World → Prop} {e : Exit} {a' : Act} {w' : World} {fr : Frame} (h : GoesT P b k cs G e a' w') (ha : AtE b k e a' fr) : ToD P fr cs w' G := by
  cases e with
  | normal => obtain rfl := ha; exact h
  | exit id =>
    obtain ⟨k', h1, rfl⟩ := ha
    obtain ⟨k2, h3, h4⟩ := h
    rw [h1] at h3
    obtain rfl := Option.some.inj h3
    exact h4
  | goto l =>
    obtain ⟨k', h1, rfl⟩ := ha
    obtain ⟨k2, h3, h4⟩ := h
    rw [h1] at h3
    obtain rfl := Option.some.inj h3
    exact h4
  | ret => obtain ⟨todo, rfl⟩ := ha; exact h todo
  | panic ch => obtain ⟨todo, rfl⟩ := ha; exact h todo
  | outgrown => exact ha.elim
theorem alone_arrives (hb : Bodied P) (hr : Ready P) {Q0 : World → Exit → Act → World → Prop} (hno : ∀ x a w, ¬ Q0 x .outgrown a w) {fr : Frame} {b : Frame} {k : List Item} {cs : List Frame} {G : Frame → List Frame → World → Prop}
    (h : ∀ oB T, oB.env = w.os.env → ∃ e a' w', Q0 (w.wi T 0 oB #[]) e a' w' ∧ Arrives P (lone fr (cs ++ [base1 P]) (w.wi T 0 oB #[])) b k (cs ++ [base1 P]) e a' w')
    (hG : ∀ e a' w', Sees w (fun x y => Q0 x e a' y) w' ∧ Drew w w' → GoesT P b k cs G e a' w') : ToD P fr cs w G := by
  refine (ToD.alone hb hr (Q := fun f c v => c = cs ∧ ∃ e a', AtE b k e a' f ∧ Sees w (fun x y => Q0 x e a' y) v) (fun oB T he => ?_) ?_).bind ?_
  · obtain ⟨e, a', w', q, harr⟩ := h oB T he
    have hS : Sees w (fun x y => Q0 x e a' y) w' := ⟨oB, T, w'.tape, w'.drawn, w'.os, w'.output, q⟩
    have hS2 : Sees w (fun x y => Q0 x e a' y) (w'.wi w.tape w'.drawn w.os w.output) := ⟨oB, T, w'.tape, w'.drawn, w'.os, w'.output, q⟩
    have hg := hG e a' _ ⟨hS2, rfl, rfl, rfl⟩
    cases e with
    | normal => obtain ⟨n, hn⟩ := harr; exact ⟨n, _, cs, w', hn, rfl, .normal, a', rfl, hS⟩
    | exit id =>
      obtain ⟨k', h1, -⟩ := hg
      obtain ⟨n, hn⟩ := harr k' h1
      exact ⟨n, _, cs, w', hn, rfl, .exit id, a', ⟨k', h1, rfl⟩, hS⟩
    | goto l =>
      obtain ⟨k', h1, -⟩ := hg
      obtain ⟨n, hn⟩ := harr k' h1
      exact ⟨n, _, cs, w', hn, rfl, .goto l, a', ⟨k', h1, rfl⟩, hS⟩
    | ret =>
      obtain ⟨todo, n, hn⟩ := harr
      exact ⟨n, _, cs, w', hn, rfl, .ret, a', ⟨todo, rfl⟩, hS⟩
    | panic ch =>
      obtain ⟨todo, n, hn⟩ := harr
      exact ⟨n, _, cs, w', hn, rfl, .panic ch, a', ⟨todo, rfl⟩, hS⟩
    | outgrown => exact (hno _ _ _ q).elim
  · rintro f c v t d o u ⟨h1, e, a', h2, oB, T, t2, d2, o2, u2, h3⟩
    exact ⟨h1, e, a', h2, oB, T, t2, d2, o2, u2, h3⟩
  · rintro f c v ⟨⟨rfl, e, a', h2, h3⟩, hd⟩
    exact (hG e a' v ⟨h3, hd⟩).at h2
section
theorem wpT_of_wp (hb : Bodied P) (hr : Ready P) {c : Code} {Q0 : World → Exit → Act → World → Prop} (hno : ∀ x a w, ¬ Q0 x .outgrown a w) (h : ∀ oB T, oB.env = w.os.env → c.wp P (Q0 (w.wi T 0 oB #[])) a (w.wi T 0 oB #[])) :
    WpT P c (fun e a' w' => Sees w (fun x y => Q0 x e a' y) w' ∧ Drew w w') a w := fun b k cs G hG =>
  alone_arrives hb hr hno (fun oB T he => h oB T he b k (cs ++ [base1 P])) hG
theorem callsT_of_calls (hb : Bodied P) (hr : Ready P) {f : FuncId} {args : Array Value} {R : World → Value → World → Prop} (h : ∀ oB T, oB.env = w.os.env → Calls P f args (w.wi T 0 oB #[]) fun e w' => ∃ v, e = .returned v ∧ R (w.wi T 0 oB #[]) v w') :
    CallsT P f args w fun v w' => Sees w (fun x y => R x v y) w' ∧ Drew w w' := fun c cs => by
  refine (ToD.alone hb hr (Q := fun fr' cs' w' => cs' = cs ∧ ∃ v, fr' = c.finish v ∧ Sees w (fun a b => R a v b) w') (fun oB T he => ?_) ?_).mono ?_
  · obtain ⟨e, w', fr, ⟨v, rfl, hR⟩, ⟨n, hn⟩, hf, hl⟩ := h oB T he (c :: cs ++ [base1 P])
    refine ⟨n + 1, c.finish v, cs, w', ?_, rfl, v, rfl, oB, T, w'.tape, w'.drawn, w'.os, w'.output, hR⟩
    rw [runN_add, hn]
    simp only [runN]
    rw [show step P (lone fr (c :: cs ++ [base1 P]) w') = .next (lone (c.finish v) (cs ++ [base1 P]) w') from step_leave_returned hl]
  · rintro fr cs2 v t d o u ⟨h1, x, h2, oB, T, t2, d2, o2, u2, h3⟩
    exact ⟨h1, x, h2, oB, T, t2, d2, o2, u2, h3⟩
  · rintro fr cs2 v ⟨⟨h1, x, h2, h3⟩, hd⟩
    exact ⟨h1, x, h2, h3, hd⟩
end
def bodyPostT (P : Program) (fn : Func) (R : Value → World → Prop) : Exit → Act → World → Prop
  | .normal, a, w | .ret, a, w => a.defers = [] ∧ ∃ v, (∀ t d o u, (results fn a.tmps).run P (w.wi t d o u) = .ok v (w.wi t d o u)) ∧ R v w
  | _, _, _ => False
def Last (P : Program) (f : FuncId) (cs0 : List Frame) (R : Value → World → Prop) (fr : Frame) (cs : List Frame) (w : World) : Prop :=
  cs = cs0 ∧ fr.fn = f ∧ fr.mode = .returning ∧ fr.defers = [] ∧ fr.kind = .normal ∧ ∃ fn v, P.funcs[fr.fn]? = some fn ∧ (∀ t d o u, (results fn fr.tmps).run P (w.wi t d o u) = .ok v (w.wi t d o u)) ∧ R v w
def Easy (R : Value → World → Prop) : Prop := ∀ v w w', Like w w' → R v w → R v w'
theorem Sees.easy {R : World → Value → World → Prop} : Easy fun v w' => Sees w (fun x y => R x v y) w' ∧ Drew w w' := fun v w1 w2 hl ⟨⟨oB, T, t, d, o, u, h⟩, hd⟩ => ⟨⟨oB, T, t, d, o, u, by rw [hl.wi]; exact h⟩, hd.trans hl.drew⟩
theorem evL_of_evK {B : Nat} {e : Event} (h : EvK B e) : EvL (fun _ => False) B e := by
  have := opK_event h 0 ""
  refine ⟨fun _ _ hs => hs.elim, ?_, ?_, this.low⟩
  all_goals rcases h with ⟨a, h1, _⟩ | ⟨r, h1, _⟩ | h1 | h1 | ⟨f, h1⟩ <;> rw [h1] <;> simp
theorem results_evs {fn : Func} {ts : Array Value} {v : Value} (h : ∀ t d o u, (results fn ts).run P (w.wi t d o u) = .ok v (w.wi t d o u)) : ∃ es, (results fn ts).runT P w #[] = (.ok v w, es) ∧ ∀ e ∈ es, EvK w.heap.size e := by
  have h0 : ∀ t d o u, ((results fn ts).runT P (w.wi t d o u) #[]).1 = .ok v (w.wi t d o u) := fun t d o u => by rw [Sem.runT_eq]; exact h t d o u
  have hm := h0 w.tape w.drawn (muteOs w.os) w.output
  rcases law_results (P := P) (fn := fn) (ts := ts) (w.wi w.tape w.drawn (muteOs w.os) w.output) #[] (muteOs_mute _) with ⟨n, hl⟩ | hl
  · have hn : n = 0 := by
      have := hl.drawn
      rw [hm] at this
      simp only [Result.w] at this
      omega
    subst hn
    have hs := hl.same w.tape w.drawn w.os w.output rfl (fun i hi => absurd hi (by omega))
    rw [wi_wi, wi_self, hm] at hs
    refine ⟨_, hs, fun e he => ?_⟩
    have := hl.evs (by rw [hm]; trivial) e he
    rcases this with h1 | h1
    · simp at h1
    · rw [hm] at h1; exact h1
  · rw [hm] at hl
    exact (hl trivial).elim
theorem good_of_last (hb : Bodied P) (hr : Ready P) {f : FuncId} {fn : Func} {c : Code} {args : Array Value} {R : Value → World → Prop} (hR : Easy R) (hf : P.funcs[f]? = some fn) (hbd : fn.body = some c) (hi : P.inits.idxOf? f = none)
    (h : ToD P (Frame.enter P f args .normal) [] w (Last P f [] R)) :
    ∃ M last o w' t', runNT P (M + 1) (solo (G (Frame.enter P f args .normal) []) w) #[] = (.ended o w', t') ∧ runN P M (solo (G (Frame.enter P f args .normal) []) w) = .next last ∧ step P last = .ended o w' ∧ Conc.Good P R last o w' t' := by
  have hH : Here P (Frame.enter P f args .normal) [] w #[G (Frame.enter P f args .normal) []] #[] (fun _ => 0) := by
    refine ⟨rfl, leavers_one P _, past_nil.mono (Nat.zero_le _), ?_, fun _ hx => by simp at hx⟩
    intro i hx
    simp [Frame.enter, hf, hbd] at hx
    subst hx
    trivial
  obtain ⟨N, gs, sl, t, q, fr, cs, w2, e1, h2, rfl, h3, h4, h5, h6, fn2, v, h7, h8, h9⟩ := h.to _ none _ _ hH
  have hE : ∀ w1, AtRel w2 w1 → AtEnd P (fun _ => False) w2.heap.size R (G fr []) w1 := by
    rintro w1 ⟨d, rfl⟩
    obtain ⟨es, e2, e3⟩ := results_evs (P := P) (w := w2.at d) (fn := fn2) (ts := fr.tmps) (v := v) (fun t d' o u => h8 t d' o u)
    refine ⟨rfl, v, seen P fr.fn es, ?_, fun e he => evL_of_evK (e3 e (mem_seen he)), hR v w2 _ ⟨rfl, rfl, rfl, rfl⟩ h9⟩
    have hi2 : P.inits.idxOf? fr.fn = none := by rw [h3]; exact hi
    show stepG P true { frame := fr, callers := [], status := .running, dying := none } (w2.at d) = _
    simp only [Sem.runT_eq, Prod.mk.injEq] at e2
    simp [stepG, unwind, doReturn, h4, h5, h6, h7, e2.1, e2.2, hi2, GStep.after]
  obtain ⟨M, last, o, w', t', r1, r2, r3, r4⟩ := beside_ends (P := P) (Shun := fun _ => False) (B := w2.heap.size) (D := fun _ _ _ => False) (Post := R) (fun _ _ _ x => x.elim) (a := G fr []) (w := w2) (sl := sl) (n := 0) h2.zero h2.leave h2.past (Goes.stop hE)
  refine ⟨N + M, last, o, w', t', ?_, ?_, r3, r4⟩
  · rw [show N + M + 1 = N + (M + 1) by omega, solo_eq_crowd, runNT_addL P N (M + 1) _ _ _ _ e1]
    exact r1
  · rw [solo_eq_crowd, runN_add, ← runNT_fst P N _ #[], e1]
    exact r2
end
end Go.Proofs.Ytndncmjhpbjcoaa
