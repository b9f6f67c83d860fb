/- A walk beside leavers: a first part of the code walked alone, in one go, then what does not run alone; one operation; a function out of its last frame. -/
import Derived.Test.YtndncmjhpbjcoaaGCB
set_option linter.all false
namespace Go.Proofs.Ytndncmjhpbjcoaa
open Go Go.Conc Go.ConcN Go.RowKit

def PreWp (P : Program) : List Code → (Act → World → Prop) → (Exit → Act → World → Prop) → Act → World → Prop
  | [], K, _, a, w => K a w
  | x :: l, K, Q, a, w => x.wp P (Exit.then (PreWp P l K Q) Q) a w
def seqs (l : List Code) (rest : Code) : Code := l.foldr .seq rest
def orK (K : Act → World → Prop) (Q : Exit → Act → World → Prop) : Exit → Act → World → Prop
  | .normal, a, w => K a w
  | e, a, w => Q e a w
section
variable {P : Program}
theorem arrives_more {m : Machine} {b : Frame} {x : Item} {k : List Item} {cs : List Frame} {e : Exit} {a : Act} {w : World} (hx : x.plain = true) (he : e ≠ .normal) (h : Arrives P m b k cs e a w) : Arrives P m b (x :: k) cs e a w := by
  cases e with
  | normal => exact (he rfl).elim
  | exit id => exact fun k' hk => h k' (by cases x <;> simp_all [exitTo, Item.plain])
  | goto l => exact fun k' hk => h k' (by cases x <;> simp_all [gotoIn, Item.plain])
  | ret => exact h
  | panic ch => exact h
  | outgrown => exact h
theorem pre_wp {K : Act → World → Prop} {Q : Exit → Act → World → Prop} {rest : Code} : ∀ (l : List Code) (a : Act) (w : World), PreWp P l K Q a w → ∀ (b : Frame) (k : List Item) (cs : List Frame),
    ∃ e a' w', orK K Q e a' w' ∧ Arrives P (lone (b.at a (.code (seqs l rest) :: k)) cs w) b (.code rest :: k) cs e a' w'
  | [], a, w, h, b, k, cs => ⟨.normal, a, w, h, Steps.refl P _⟩
  | x :: l, a, w, h, b, k, cs => by
    obtain ⟨e, a1, w1, hq, harr⟩ := h b (.code (seqs l rest) :: k) cs
    have hs : step P (lone (b.at a (.code (seqs (x :: l) rest) :: k)) cs w) = .next (lone (b.at a (.code x :: .code (seqs l rest) :: k)) cs w) := step_seq
    cases e with
    | normal =>
      obtain ⟨e2, a2, w2, q2, r2⟩ := pre_wp l a1 w1 hq b k cs
      exact ⟨e2, a2, w2, q2, .of_steps (.head hs harr) r2⟩
    | exit id => exact ⟨.exit id, a1, w1, hq, arrives_more rfl (by simp) (.of_steps (.one hs) (.pass (x := .code _) rfl (fun _ _ => .inl (by simp)) harr))⟩
    | goto l2 => exact ⟨.goto l2, a1, w1, hq, arrives_more rfl (by simp) (.of_steps (.one hs) (.pass (x := .code _) rfl (fun _ _ => .inl (by simp)) harr))⟩
    | ret => exact ⟨.ret, a1, w1, hq, arrives_more rfl (by simp) (.of_steps (.one hs) (.pass (x := .code _) rfl (fun _ _ => .inl (by simp)) harr))⟩
    | panic ch => exact ⟨.panic ch, a1, w1, hq, arrives_more rfl (by simp) (.of_steps (.one hs) (.pass (x := .code _) rfl (fun _ _ => .inl (by simp)) harr))⟩
    | outgrown => exact ⟨.outgrown, a1, w1, hq, arrives_more rfl (by simp) (.of_steps (.one hs) (.pass (x := .code _) rfl (fun _ _ => .inl (by simp)) harr))⟩
section
variable {a : Act} {w w' : World} {b : Frame} {k : List Item} {cs : List Frame} {G : Frame → List Frame → World → Prop}
theorem toD_pre (hb : Bodied P) (hr : Ready P) {l : List Code} {rest : Code} {K0 : World → Act → World → Prop} {Q0 : World → Exit → Act → World → Prop} (hno : ∀ x a w, ¬ Q0 x .outgrown a w)
    (h : ∀ oB T, oB.env = w.os.env → PreWp P l (K0 (w.wi T 0 oB #[])) (Q0 (w.wi T 0 oB #[])) a (w.wi T 0 oB #[]))
    (hK : ∀ a' w', Sees w (fun x y => K0 x a' y) w' → Drew w w' → ToD P (b.at a' (.code rest :: k)) cs w' G)
    (hQ : ∀ e a' w', e ≠ .normal → Sees w (fun x y => Q0 x e a' y) w' → Drew w w' → GoesT P b k cs G e a' w') : ToD P (b.at a (.code (seqs l rest) :: k)) cs w G := by
  refine alone_arrives hb hr (Q0 := fun x => orK (K0 x) (Q0 x)) (fun x a w hh => hno x a w hh) (b := b) (k := .code rest :: k) (fun oB T he => pre_wp l a _ (h oB T he) b k (cs ++ [base1 P])) ?_
  rintro e a' w' ⟨h1, h2⟩
  cases e with
  | normal => exact hK a' w' h1 h2
  | exit id => exact GoesT.pass rfl (by simp) (hQ _ a' w' (by simp) h1 h2)
  | goto l => exact GoesT.pass rfl (by simp) (hQ _ a' w' (by simp) h1 h2)
  | ret => exact GoesT.pass rfl (by simp) (hQ _ a' w' (by simp) h1 h2)
  | panic ch => exact GoesT.pass rfl (by simp) (hQ _ a' w' (by simp) h1 h2)
  | outgrown => obtain ⟨_, _, _, _, _, _, h3⟩ := h1; exact (hno _ _ _ h3).elim
theorem ToD.value (hb : Bodied P) (hr : Ready P) {ops : Array Oper} {i : Nat} {rest : List Nat} {o : Oper} {v : Value} {t : Tmp} (ho : ops[i]? = some o) (ht : (ops[i]?).map (·.dst) = some (some t)) (hw : Region.wanted o (yielded ops a.tmps) = true)
    (hx : ∀ t d os u, (execOp a.eval o).run P (w.wi t d os u) = .ok (.value v) (w.wi t d os u)) (h : ToD P (b.at ⟨a.tmps.setIfInBounds t v, a.defers⟩ (.inRegion ops rest :: k)) cs w G) : ToD P (b.at a (.inRegion ops (i :: rest) :: k)) cs w G := by
  have hd : o.dst = some t := by
    rw [ho] at ht
    simpa using ht
  refine ToD.go1 hb hr (fr' := b.at (a.put o.dst v) (.inRegion ops rest :: k)) (cs' := cs) (w' := w) (fun t d os u => step_lone_go ?_) (.refl w) (by rw [hd]; exact h)
  have hfin : (b.at a (.inRegion ops (i :: rest) :: k)).finish v = b.at (a.put o.dst v) (.inRegion ops rest :: k) := by rw [Frame.finish_at, ho]; rfl
  rw [stepG_op ho hw, ← hfin]
  simp [stepG.apply, hx]
theorem callsT_of_last (hb : Bodied P) (hr : Ready P) {f : FuncId} {args : Array Value} {R : Value → World → Prop} (hR : Easy R) (h : ∀ cs, ToD P (Frame.enter P f args .normal) cs w (Last P f cs R)) : CallsT P f args w R := fun c0 cs => by
  refine (h (c0 :: cs)).bind ?_
  rintro fr cs2 w2 ⟨rfl, h1, h2, h3, h4, fn2, v, h5, h6, h7⟩
  refine ToD.go1 hb hr (fr' := c0.finish v) (cs' := cs) (w' := w2) (fun t d o u => step_leave_returned ⟨h2, h3, h4, fn2, h5, h6 t d o u⟩) (.refl w2) ?_
  exact fun w3 hl => To.now ⟨rfl, v, rfl, hR _ _ _ hl h7⟩
theorem goesT_last (hb : Bodied P) (hr : Ready P) {f : FuncId} {fn : Func} {R : Value → World → Prop} (hR : Easy R) (hf : P.funcs[f]? = some fn) {e : Exit} (h : bodyPostT P fn R e a w) : GoesT P (base f) [] cs (Last P f cs R) e a w := by
  have key : ∀ todo, (a.defers = [] ∧ ∃ v, (∀ t d o u, (results fn a.tmps).run P (w.wi t d o u) = .ok v (w.wi t d o u)) ∧ R v w) → ToD P { (base f).at a todo with mode := .returning } cs w (Last P f cs R) := fun todo ⟨hd, v, hv, hR2⟩ w2 hl =>
    To.now ⟨rfl, rfl, rfl, hd, rfl, fn, v, hf, fun t d o u => by rw [hl.wi]; exact hv t d o u, hR _ _ _ hl hR2⟩
  cases e with
  | normal => exact ToD.ctl hb hr (fun _ _ => step_end) (key _ h)
  | ret => exact fun todo => key todo h
  | panic ch => exact h.elim
  | exit id => exact h.elim
  | goto l => exact h.elim
  | outgrown => exact h.elim
end
end
end Go.Proofs.Ytndncmjhpbjcoaa
