/- One text out of several: LonA LonB LonC LonR LonD LonE LonF LonG. -/
import Derived.Conc.Beside
import Derived.Conc.Events
import Derived.RunT
import Derived.Conc.LoneCalls
import Derived.Conc.Listed
set_option linter.all false
/- What a run of a semantic term draws is all that it sees of the tape, and of the os it sees the environment alone; what it lists are places below the heap's end. (On an os on which nothing can be printed.) -/
namespace Go.Proofs.Ytndncmjhpbjcoaa
open Go

abbrev TpL := Nat → Question → Nat
abbrev OutL := Array (Nat × ByteArray)
def _root_.Go.World.wi (w : World) (t : Nat → Question → Nat) (d : Nat) (o : Os) (u : Array (Nat × ByteArray)) : World := { heap := w.heap, tape := t, drawn := d, os := o, output := u }
def Mute (o : Os) : Prop := ∀ (w : World) (b : ByteArray), w.os = o → ∃ s, (w.sys (.write ((2 : Nat) : Int) b)).1 = .noEntry s
def _root_.Go.Result.w {α : Type} : Result α → World
  | .ok _ w => w
  | .halt _ w => w
def _root_.Go.Result.wi {α : Type} (r : Result α) (t : Nat → Question → Nat) (d : Nat) (o : Os) (u : Array (Nat × ByteArray)) : Result α :=
  match r with
  | .ok a w => .ok a (w.wi t d o u)
  | .halt h w => .halt h (w.wi t d o u)
def _root_.Go.Halt.hot : Halt → Prop
  | .panic _ => True
  | .goexit => True
  | .unsupported (.initOrder _) => True
  | _ => False
def _root_.Go.Result.hot {α : Type} : Result α → Prop
  | .ok _ _ => True
  | .halt h _ => h.hot
def _root_.Go.Halt.loud : Halt → Prop
  | .panic _ => True
  | .goexit => True
  | _ => False
def _root_.Go.Result.loud {α : Type} : Result α → Prop
  | .ok _ _ => True
  | .halt h _ => h.loud
@[simp] theorem resw_ok {α : Type} (a : α) (w : World) : (Result.ok a w).w = w := rfl
@[simp] theorem resw_halt {α : Type} (h : Halt) (w : World) : (Result.halt h w : Result α).w = w := rfl
@[simp] theorem reswi_ok {α : Type} (a : α) (w : World) (t : TpL) (d : Nat) (o : Os) (u : OutL) : (Result.ok a w).wi t d o u = .ok a (w.wi t d o u) := rfl
@[simp] theorem reswi_halt {α : Type} (h : Halt) (w : World) (t : TpL) (d : Nat) (o : Os) (u : OutL) : (Result.halt h w : Result α).wi t d o u = .halt h (w.wi t d o u) := rfl
def Agree (w : World) (n : Nat) (t : TpL) (d : Nat) : Prop := ∀ i, i < n → ∀ q, t (d + i) q = w.tape (w.drawn + i) q
def EvK (B : Nat) (e : Event) : Prop := (∃ a, e.loc = .cell a ∧ a.block < B) ∨ (∃ r, e.loc = .obj r ∧ r < B) ∨ e.loc = .mark .noRoom ∨ e.loc = .output ∨ ∃ f, e.loc = .mark (.extern f)
theorem EvK.mono {B B' : Nat} {e : Event} (h : EvK B e) (hb : B ≤ B') : EvK B' e := by
  rcases h with ⟨a, h1, h2⟩ | ⟨r, h1, h2⟩ | h
  · exact .inl ⟨a, h1, by omega⟩
  · exact .inr (.inl ⟨r, h1, by omega⟩)
  · exact .inr (.inr h)
structure LawAt {α : Type} (P : Program) (N : α → Prop) (x : Sem α) (w : World) (es : Array Event) (n : Nat) : Prop where
  tape : (x.runT P w es).1.w.tape = w.tape
  drawn : (x.runT P w es).1.w.drawn = w.drawn + n
  size : w.heap.size ≤ (x.runT P w es).1.w.heap.size
  os : (x.runT P w es).1.w.os = w.os
  out : (x.runT P w es).1.w.output = w.output
  evs : (x.runT P w es).1.loud → ∀ e ∈ (x.runT P w es).2, e ∈ es ∨ EvK (x.runT P w es).1.w.heap.size e
  val : ∀ a w1, (x.runT P w es).1 = .ok a w1 → N a
  same : ∀ t d o u, o.env = w.os.env → Agree w n t d → x.runT P (w.wi t d o u) es = ((x.runT P w es).1.wi t (d + n) o u, (x.runT P w es).2)
def Law {α : Type} (P : Program) (N : α → Prop) (x : Sem α) : Prop := ∀ w es, Mute w.os → (∃ n, LawAt P N x w es n) ∨ ¬ (x.runT P w es).1.hot
section
variable {α β : Type} {P : Program} {N : α → Prop} {M : β → Prop}
theorem Law.mono {N' : α → Prop} {x : Sem α} (h : Law P N x) (hn : ∀ a, N a → N' a) : Law P N' x := fun w es mu => (h w es mu).imp_left fun ⟨n, h1, h2, h3, h4, h5, h6, h7, h8⟩ => ⟨n, h1, h2, h3, h4, h5, h6, fun a w1 e => hn a (h7 a w1 e), h8⟩
theorem LawAt.fwd {x y : Sem α} {w w' : World} {es es' : Array Event} {n : Nat} (h : LawAt P N y w' es' n) (e0 : ∀ t d o u, x.runT P (w.wi t d o u) es = y.runT P (w'.wi t d o u) es') (e1 : x.runT P w es = y.runT P w' es') (f1 : w'.tape = w.tape) (f2 : w'.drawn = w.drawn) (f3 : w.heap.size ≤ w'.heap.size) (f4 : w'.os = w.os) (f5 : w'.output = w.output)
    (f6 : (y.runT P w' es').1.loud → ∀ e ∈ es', e ∈ es ∨ EvK w'.heap.size e) : LawAt P N x w es n := by
  obtain ⟨h1, h2, h3, h4, h5, h6, h7, h8⟩ := h
  refine ⟨by rw [e1]; exact h1.trans f1, by rw [e1, h2, f2], by rw [e1]; omega, by rw [e1]; exact h4.trans f4, by rw [e1]; exact h5.trans f5, fun hq e he => ?_, fun a w1 e => h7 a w1 (by rw [← e1]; exact e), fun t d o u ho ha => ?_⟩
  · rw [e1] at hq he ⊢
    rcases h6 hq e he with z | z
    · exact (f6 hq e z).imp id fun z => z.mono h3
    · exact .inr z
  · rw [e0, e1]
    exact h8 t d o u (by rw [f4]; exact ho) (fun i hi q => by rw [f1, f2]; exact ha i hi q)
theorem LawAt.dead {x : Sem α} {w : World} {es : Array Event} {h : Halt} (e0 : ∀ t d o u, x.runT P (w.wi t d o u) es = (.halt h (w.wi t d o u), es)) : LawAt P N x w es 0 := by
  have e1 : x.runT P w es = (.halt h w, es) := e0 w.tape w.drawn w.os w.output
  exact ⟨by rw [e1]; rfl, by rw [e1]; rfl, by rw [e1]; exact Nat.le_refl _, by rw [e1]; rfl, by rw [e1]; rfl, fun _ e he => .inl (by rw [e1] at he; exact he), fun a w1 e => (by rw [e1] at e; cases e), fun t d o u _ _ => by rw [e1, e0]; rfl⟩
theorem Law.fwd {x y : Sem α} (h : Law P N y) {w w' : World} {es es' : Array Event} (mu : Mute w.os) (e0 : ∀ t d o u, x.runT P (w.wi t d o u) es = y.runT P (w'.wi t d o u) es') (f1 : w'.tape = w.tape) (f2 : w'.drawn = w.drawn) (f3 : w.heap.size ≤ w'.heap.size) (f4 : w'.os = w.os) (f5 : w'.output = w.output)
    (f6 : (y.runT P w' es').1.loud → ∀ e ∈ es', e ∈ es ∨ EvK w'.heap.size e) : (∃ n, LawAt P N x w es n) ∨ ¬ (x.runT P w es).1.hot := by
  have e1 : x.runT P w es = y.runT P w' es' := by
    have := e0 w.tape w.drawn w.os w.output
    rw [show w'.wi w.tape w.drawn w.os w.output = w' by rw [← f1, ← f2, ← f4, ← f5]; rfl] at this
    exact this
  rcases h w' es' (by rw [f4]; exact mu) with ⟨n, h⟩ | h
  · exact .inl ⟨n, h.fwd e0 e1 f1 f2 f3 f4 f5 f6⟩
  · exact .inr (by rw [e1]; exact h)
theorem Law.pure {a : α} (h : N a) : Law P N (Sem.pure a) := fun w es _ => .inl ⟨0, rfl, rfl, Nat.le_refl _, rfl, rfl, fun _ e he => .inl he, fun b w1 hb => by simp only [Sem.runT, Result.ok.injEq] at hb; rw [← hb.1]; exact h, fun t d o u _ _ => rfl⟩
theorem Law.halt {h : Halt} : Law P N (Sem.halt h : Sem α) := fun w es _ => .inl ⟨0, LawAt.dead fun t d o u => rfl⟩
theorem farLoad_wi (w : World) (a : Addr) (b : Bool) (t : TpL) (d : Nat) (o : Os) (u : OutL) : (w.wi t d o u).farLoad P a b = w.farLoad P a b := rfl
theorem seen_wi (w : World) (at_ : Addr) (y : TypeId) (k : Addr) (b : Bool) (t : TpL) (d : Nat) (o : Os) (u : OutL) : (w.wi t d o u).seen P at_ y k b = w.seen P at_ y k b := rfl
theorem seen_block {w : World} {at_ : Addr} {u : TypeId} {k : Addr} {b : Bool} {r : Array Value × TypeId × (Nat × Nat) × Nat × Value × List (Nat × Nat × List UInt8)} (h : w.seen P at_ u k b = .ok r) : at_.block < w.heap.size := by
  refine Classical.byContradiction fun hn => ?_
  have h0 : w.heap[at_.block]? = none := Array.getElem?_eq_none (by omega)
  unfold World.seen at h
  rw [h0] at h
  simp only [bind, Except.bind, throw, throwThe, MonadExceptOf.throw, pure, Except.pure] at h
  repeat' split at h
  all_goals cases h
theorem farLoad_touch {w : World} {a : Addr} {b : Bool} {v : Value} {l : List Addr} (h : w.farLoad P a b = .ok (v, l)) : ∀ x ∈ l, x.block < w.heap.size := by
  unfold World.farLoad at h
  split at h
  · split at h
    · rename_i at_ y _ _ r hr
      cases h
      unfold World.viewLoad at hr
      cases hs : w.seen P at_ y a b with
      | error e => rw [hs] at hr; cases hr
      | ok r =>
        have hb := seen_block hs
        rw [hs] at hr
        obtain ⟨c, e, fz, first, like, cells⟩ := r
        simp only [bind, Except.bind, throw, throwThe, MonadExceptOf.throw, pure, Except.pure] at hr
        split at hr
        · simp only [Except.ok.injEq, Prod.mk.injEq] at hr
          obtain ⟨-, rfl⟩ := hr
          intro x hx
          simp only [List.mem_map] at hx
          obtain ⟨y, _, rfl⟩ := hx
          exact hb
        · cases hr
    · cases h
  · cases h
theorem farStore_facts {w w1 : World} {a : Addr} {v : Value} {b : Bool} {l : List Addr} (h : w.farStore P a v b = .ok (w1, l)) :
    w1.tape = w.tape ∧ w1.drawn = w.drawn ∧ w1.heap.size = w.heap.size ∧ w1.os = w.os ∧ w1.output = w.output ∧ (∀ x ∈ l, x.block < w.heap.size) ∧ ∀ t d o u, (w.wi t d o u).farStore P a v b = .ok (w1.wi t d o u, l) := by
  unfold World.farStore at h
  split at h
  · rename_i at_ y hh
    split at h
    · rename_i r hr
      cases h
      have hr2 := hr
      unfold World.viewStore at hr
      cases hs : w.seen P at_ y a b with
      | error e =>
        rw [hs] at hr
        simp only [bind, Except.bind, throw, throwThe, MonadExceptOf.throw, pure, Except.pure] at hr
        split at hr <;> cases hr
      | ok r =>
        have hb := seen_block hs
        have key : ∀ t d o u, (w.wi t d o u).viewStore P at_ y a v b = (w.viewStore P at_ y a v b).map fun x => (x.1.wi t d o u, x.2) := fun t d o u => by
          unfold World.viewStore
          rw [seen_wi]
          rw [hs]
          obtain ⟨c, e, fz, first, like, cells⟩ := r
          simp only [bind, Except.bind, throw, throwThe, MonadExceptOf.throw, pure, Except.pure]
          repeat' split
          all_goals rfl
        rw [hs] at hr
        obtain ⟨c, e, fz, first, like, cells⟩ := r
        simp only [bind, Except.bind, throw, throwThe, MonadExceptOf.throw, pure, Except.pure] at hr
        have hfin : w1.tape = w.tape ∧ w1.drawn = w.drawn ∧ w1.heap.size = w.heap.size ∧ w1.os = w.os ∧ w1.output = w.output ∧ (∀ x ∈ l, x.block < w.heap.size) := by
          repeat' split at hr
          all_goals first
            | (simp only [Except.ok.injEq, Prod.mk.injEq] at hr
               obtain ⟨rfl, rfl⟩ := hr
               refine ⟨rfl, rfl, by simp, rfl, rfl, fun x hx => ?_⟩
               simp only [List.mem_map] at hx
               obtain ⟨y, _, rfl⟩ := hx
               exact hb)
            | cases hr
        obtain ⟨f1, f2, f3, f4, f5, f6⟩ := hfin
        refine ⟨f1, f2, f3, f4, f5, f6, fun t d o u => ?_⟩
        unfold World.farStore
        rw [show (w.wi t d o u).heap[a.block]? = w.heap[a.block]? from rfl, hh]
        simp only
        rw [key, hr2]
        rfl
    · cases h
  · cases h
theorem farStore_err {w : World} {a : Addr} {v : Value} {b : Bool} {h : Halt} (hr : w.farStore P a v b = .error h) (t : TpL) (d : Nat) (o : Os) (u : OutL) : (w.wi t d o u).farStore P a v b = .error h := by
  unfold World.farStore at hr ⊢
  rw [show (w.wi t d o u).heap[a.block]? = w.heap[a.block]? from rfl]
  split at hr
  · rename_i at_ y hh
    have key : (w.wi t d o u).viewStore P at_ y a v b = (w.viewStore P at_ y a v b).map fun x => (x.1.wi t d o u, x.2) := by
      unfold World.viewStore
      rw [seen_wi]
      cases hs : w.seen P at_ y a b with
      | error e =>
        simp only [bind, Except.bind, throw, throwThe, MonadExceptOf.throw, pure, Except.pure]
        split <;> rfl
      | ok r =>
        obtain ⟨c, e, fz, first, like, cells⟩ := r
        simp only [bind, Except.bind, throw, throwThe, MonadExceptOf.throw, pure, Except.pure]
        repeat' split
        all_goals rfl
    rw [key]
    cases hv : w.viewStore P at_ y a v b with
    | ok r => rw [hv] at hr; cases hr
    | error e => rw [hv] at hr; cases hr; rfl
  · rename_i hne
    cases hr
    rfl
theorem Law.bind {x : Sem α} {f : α → Sem β} (hx : Law P N x) (hf : ∀ a, N a → Law P M (f a)) : Law P M (x.bind f) := fun w es mu => by
  have hb := Go.Sem.runT_bind' P x f
  rcases hx w es mu with ⟨n, h1, h2, h3, h4, h5, h6, h7, h8⟩ | hcold
  rotate_left
  · refine .inr ?_
    rw [hb]
    cases hr : x.runT P w es with
    | mk r es1 =>
      rw [hr] at hcold
      cases r with
      | ok a w1 => exact absurd trivial hcold
      | halt hh w1 => exact hcold
  cases hr : x.runT P w es with
  | mk r es1 =>
    rw [hr] at h1 h2 h3 h4 h5 h6 h7 h8
    cases r with
    | halt hh w1 =>
      refine .inl ⟨n, ?_⟩
      have e1 : (x.bind f).runT P w es = (.halt hh w1, es1) := by rw [hb, hr]
      refine ⟨by rw [e1]; exact h1, by rw [e1]; exact h2, by rw [e1]; exact h3, by rw [e1]; exact h4, by rw [e1]; exact h5, by rw [e1]; exact h6, fun a w2 e => (by rw [e1] at e; cases e), fun t d o u ho ha => ?_⟩
      rw [e1, hb, h8 t d o u ho ha]
      rfl
    | ok a w1 =>
      have e1 : (x.bind f).runT P w es = (f a).runT P w1 es1 := by rw [hb, hr]
      simp only [resw_ok] at h1 h2 h3 h4 h5 h6
      rcases hf a (h7 a w1 rfl) w1 es1 (by rw [h4]; exact mu) with ⟨m, k1, k2, k3, k4, k5, k6, k7, k8⟩ | hcold
      rotate_left
      · exact .inr (by rw [e1]; exact hcold)
      refine .inl ⟨n + m, ?_⟩
      refine ⟨by rw [e1]; exact k1.trans h1, by rw [e1, k2, h2]; omega, by rw [e1]; omega, by rw [e1]; exact k4.trans h4, by rw [e1]; exact k5.trans h5, fun hq e he => ?_, fun a2 w2 e => k7 a2 w2 (by rw [← e1]; exact e), fun t d o u ho ha => ?_⟩
      · rw [e1] at hq he ⊢
        rcases k6 hq e he with y | y
        · exact (h6 trivial e y).imp id fun z => z.mono k3
        · exact .inr y
      · rw [e1, hb, h8 t d o u ho (fun i hi q => ha i (by omega) q)]
        simp only [reswi_ok]
        rw [k8 t (d + n) o u (by rw [h4]; exact ho) (fun i hi q => by
          rw [show d + n + i = d + (n + i) by omega, ha (n + i) (by omega) q, h1, h2, Nat.add_assoc]), Nat.add_assoc]
theorem cell_lt {w : World} {a : Addr} {v : Value} (hc : w.cell? a = some v) : a.block < w.heap.size := by
  refine Classical.byContradiction fun hn => ?_
  unfold World.cell? at hc
  rw [Array.getElem?_eq_none (by omega)] at hc
  cases hc
theorem Law.load {m : Mode} {a : Addr} {k : Value → Sem α} (h : ∀ v, Law P N (k v)) : Law P N (Sem.load m a k) := fun w es mu => by
  cases hc : w.cell? a with
  | some v =>
    refine (h v).fwd (w' := w) (es' := es.push ⟨.cell a, false, m == .atomic⟩) mu (fun t d o u => ?_) rfl rfl (Nat.le_refl _) rfl rfl fun _ e he => ?_
    · simp only [Sem.runT]
      rw [show (w.wi t d o u).cell? a = w.cell? a from rfl, hc]
    · rcases Array.mem_push.1 he with y | rfl
      · exact .inl y
      · exact .inr (.inl ⟨a, rfl, cell_lt hc⟩)
  | none =>
    cases hf : w.farLoad P a (m == .atomic) with
    | error hh =>
      refine .inl ⟨0, LawAt.dead (h := hh) fun t d o u => ?_⟩
      simp only [Sem.runT]
      rw [show (w.wi t d o u).cell? a = w.cell? a from rfl, hc, farLoad_wi, hf]
    | ok r =>
      obtain ⟨v, l⟩ := r
      refine (h v).fwd (w' := w) (es' := es ++ l.toArray.map (⟨.cell ·, false, m == .atomic⟩)) mu (fun t d o u => ?_) rfl rfl (Nat.le_refl _) rfl rfl fun _ e he => ?_
      · simp only [Sem.runT]
        rw [show (w.wi t d o u).cell? a = w.cell? a from rfl, hc, farLoad_wi, hf]
      · rcases Array.mem_append.1 he with y | y
        · exact .inl y
        · obtain ⟨x, hx, rfl⟩ := Array.mem_map.1 y
          exact .inr (.inl ⟨x, rfl, farLoad_touch hf x (by simpa using hx)⟩)
theorem Law.new {o : Obj} {k : Nat → Sem α} (h : ∀ r, Law P N (k r)) : Law P N (Sem.new o k) := fun w es mu =>
  (h w.heap.size).fwd (w' := { w with heap := w.heap.push o }) (es' := es) mu (fun t d o u => rfl) rfl rfl (by simp) rfl rfl fun _ e he => .inl he
theorem Law.shape {r : Nat} {k : Option (TypeId × Nat) → Sem α} (h : ∀ s, Law P N (k s)) : Law P N (Sem.shape r k) := fun w es mu =>
  (h (w.shape? r)).fwd (w' := w) (es' := es) mu (fun t d o u => rfl) rfl rfl (Nat.le_refl _) rfl rfl fun _ e he => .inl he
theorem Law.frozen {a : Addr} {k : Bool → Sem α} (h : ∀ s, Law P N (k s)) : Law P N (Sem.frozen a k) := fun w es mu =>
  (h (w.frozen? a)).fwd (w' := w) (es' := es) mu (fun t d o u => rfl) rfl rfl (Nat.le_refl _) rfl rfl fun _ e he => .inl he
theorem freeze_wi (w : World) (a : Addr) (n : Nat) (t : TpL) (d : Nat) (o : Os) (u : OutL) : (w.wi t d o u).freeze a n = (w.freeze a n).wi t d o u := by unfold World.freeze; split <;> rfl
theorem Law.freeze {a : Addr} {n : Nat} {k : Sem α} (h : Law P N k) : Law P N (Sem.freeze a n k) := fun w es mu => by
  have hf : (w.freeze a n).tape = w.tape ∧ (w.freeze a n).drawn = w.drawn ∧ w.heap.size ≤ (w.freeze a n).heap.size ∧ (w.freeze a n).os = w.os ∧ (w.freeze a n).output = w.output := by unfold World.freeze; split <;> exact ⟨rfl, rfl, by simp, rfl, rfl⟩
  exact h.fwd (w' := w.freeze a n) (es' := es) mu (fun t d o u => by simp only [Sem.runT, freeze_wi]) hf.1 hf.2.1 hf.2.2.1 hf.2.2.2.1 hf.2.2.2.2 fun _ e he => .inl he
theorem Law.program {k : Program → Sem α} (h : Law P N (k P)) : Law P N (Sem.program k) := fun w es mu =>
  h.fwd (w' := w) (es' := es) mu (fun t d o u => rfl) rfl rfl (Nat.le_refl _) rfl rfl fun _ e he => .inl he
theorem Law.noRoom {k : Sem α} (h : Law P N k) : Law P N (Sem.mark .noRoom k) := fun w es mu =>
  h.fwd (w' := w) (es' := es.push ⟨.mark .noRoom, false, true⟩) mu (fun t d o u => rfl) rfl rfl (Nat.le_refl _) rfl rfl fun _ e he => (Array.mem_push.1 he).imp id fun z => by rw [z]; exact .inr (.inr (.inl rfl))
theorem Law.markX {f : FuncId} {k : Sem α} (h : Law P N k) : Law P N (Sem.mark (.extern f) k) := fun w es mu =>
  h.fwd (w' := w) (es' := es.push ⟨.mark (.extern f), false, true⟩) mu (fun t d o u => rfl) rfl rfl (Nat.le_refl _) rfl rfl fun _ e he => (Array.mem_push.1 he).imp id fun z => by rw [z]; exact .inr (.inr (.inr (.inr ⟨f, rfl⟩)))
theorem Law.getObj {r : Nat} {k : Obj → Sem α} (h : ∀ o, Law P N (k o)) : Law P N (Sem.getObj r k) := fun w es mu => by
  cases ho : w.heap[r]? with
  | none => exact .inl ⟨0, LawAt.dead (h := .stuck "getObj: no such block") fun t d o u => by simp only [Sem.runT]; rw [show (w.wi t d o u).heap[r]? = w.heap[r]? from rfl, ho]⟩
  | some o =>
    have hlt := (Array.getElem?_eq_some_iff.1 ho).1
    by_cases hc : ∃ x y z, o = .cells x y z
    · obtain ⟨x, y, z, rfl⟩ := hc
      exact .inl ⟨0, LawAt.dead (h := .stuck "getObj: a row of cells") fun t d o u => by simp only [Sem.runT]; rw [show (w.wi t d o u).heap[r]? = w.heap[r]? from rfl, ho]⟩
    · refine (h o).fwd (w' := w) (es' := es.push ⟨.obj r, false, o.isChan⟩) mu (fun t d o2 u => ?_) rfl rfl (Nat.le_refl _) rfl rfl fun _ e he => (Array.mem_push.1 he).imp id fun z => by rw [z]; exact .inr (.inl ⟨r, rfl, hlt⟩)
      simp only [Sem.runT]
      rw [show (w.wi t d o2 u).heap[r]? = w.heap[r]? from rfl, ho]
      cases o with
      | cells x y z => exact absurd ⟨x, y, z, rfl⟩ hc
      | _ => rfl
theorem Law.setObj {r : Nat} {o : Obj} {k : Sem α} (h : Law P N k) : Law P N (Sem.setObj r o k) := fun w es mu => by
  cases ho : w.heap[r]? with
  | none => exact .inl ⟨0, LawAt.dead (h := .stuck "setObj: no such block") fun t d o2 u => by simp only [Sem.runT]; rw [show (w.wi t d o2 u).heap[r]? = w.heap[r]? from rfl, ho]⟩
  | some o0 =>
    have hlt := (Array.getElem?_eq_some_iff.1 ho).1
    by_cases hc : ∃ x y z, o0 = .cells x y z
    · obtain ⟨x, y, z, rfl⟩ := hc
      exact .inl ⟨0, LawAt.dead (h := .stuck "setObj: a row of cells") fun t d o2 u => by simp only [Sem.runT]; rw [show (w.wi t d o2 u).heap[r]? = w.heap[r]? from rfl, ho]⟩
    · refine h.fwd (w' := { w with heap := w.heap.setIfInBounds r o }) (es' := es.push ⟨.obj r, true, o.isChan⟩) mu (fun t d o2 u => ?_) rfl rfl (by simp) rfl rfl fun _ e he => (Array.mem_push.1 he).imp id fun z => by rw [z]; exact .inr (.inl ⟨r, rfl, by simpa using hlt⟩)
      simp only [Sem.runT]
      rw [show (w.wi t d o2 u).heap[r]? = w.heap[r]? from rfl, ho]
      cases o0 with
      | cells x y z => exact absurd ⟨x, y, z, rfl⟩ hc
      | _ => rfl
theorem Law.choose {q : Question} {k : Nat → Sem α} (h : ∀ n, Law P N (k n)) : Law P N (Sem.choose q k) := fun w es mu => by
  by_cases hf : q.forced = true
  · exact (h 0).fwd (w' := w) (es' := es) mu (fun t d o u => by simp only [Sem.runT, if_pos hf]) rfl rfl (Nat.le_refl _) rfl rfl fun _ e he => .inl he
  · have e0 : ∀ w : World, (Sem.choose q k).runT P w es = (k (q.cut (w.tape w.drawn q))).runT P { w with drawn := w.drawn + 1 } es := fun w => by simp only [Sem.runT, if_neg hf]
    rcases h (q.cut (w.tape w.drawn q)) { w with drawn := w.drawn + 1 } es mu with ⟨n, h1, h2, h3, h4, h5, h6, h7, h8⟩ | hcold
    · refine .inl ⟨n + 1, by rw [e0]; exact h1, by rw [e0, h2]; simp only; omega, by rw [e0]; exact h3, by rw [e0]; exact h4, by rw [e0]; exact h5, by rw [e0]; exact h6, fun a2 w2 e => h7 a2 w2 (by rw [← e0]; exact e), fun t d o u hob ha => ?_⟩
      rw [e0, e0]
      have h0 := ha 0 (by omega) q
      simp only [Nat.add_zero] at h0
      rw [show (w.wi t d o u).tape (w.wi t d o u).drawn q = w.tape w.drawn q from h0]
      have h9 := h8 t (d + 1) o u hob (fun i hi q' => by
        have := ha (i + 1) (by omega) q'
        simpa [Nat.add_assoc, Nat.add_comm 1 i] using this)
      rw [show d + (n + 1) = d + 1 + n by omega]
      exact h9
    · exact .inr (by rw [e0]; exact hcold)
theorem Law.store {m : Mode} {a : Addr} {v : Value} {k : Sem α} (h : Law P N k) : Law P N (Sem.store m a v k) := by
  by_cases kinds : ∃ cs, v = .agg cs ∨ v = .tuple cs
  · exact fun w es _ => .inl ⟨0, LawAt.dead (h := .stuck "store: not the value of one cell") fun t d o u => by obtain ⟨cs, rfl | rfl⟩ := kinds <;> rfl⟩
  have e1 : ∀ (w : World) es, (Sem.store m a v k).runT P w es = match w.cell? a with
      | some _ => if w.frozen? a then (.halt (.unsupported (.unsafePointer "a write to bytes that a string shares")) w, es) else k.runT P (w.setCell a v) (es.push ⟨.cell a, true, m == .atomic⟩)
      | none => match w.farStore P a v (m == .atomic) with
        | .ok (w, touched) => k.runT P w (es ++ touched.toArray.map (⟨.cell ·, true, m == .atomic⟩))
        | .error h => (.halt h w, es) := fun w es => by
    cases v <;> first | rfl | exact absurd ⟨_, .inl rfl⟩ kinds | exact absurd ⟨_, .inr rfl⟩ kinds
  intro w es mu
  cases hc : w.cell? a with
  | some v0 =>
    by_cases hz : w.frozen? a = true
    · refine .inl ⟨0, LawAt.dead (h := .unsupported (.unsafePointer "a write to bytes that a string shares")) fun t d o u => ?_⟩
      rw [e1, show (w.wi t d o u).cell? a = w.cell? a from rfl, hc]
      simp only
      rw [show (w.wi t d o u).frozen? a = w.frozen? a from rfl, if_pos hz]
    · refine h.fwd (w' := w.setCell a v) (es' := es.push ⟨.cell a, true, m == .atomic⟩) mu (fun t d o u => ?_) rfl rfl (by simp [World.setCell]) rfl rfl fun _ e he => ?_
      · rw [e1, show (w.wi t d o u).cell? a = w.cell? a from rfl, hc]
        simp only
        rw [show (w.wi t d o u).frozen? a = w.frozen? a from rfl, if_neg hz]
        rfl
      · rcases Array.mem_push.1 he with y | rfl
        · exact .inl y
        · exact .inr (.inl ⟨a, rfl, by have := cell_lt hc; simpa [World.setCell] using this⟩)
  | none =>
    cases hf : w.farStore P a v (m == .atomic) with
    | error hh =>
      refine .inl ⟨0, LawAt.dead (h := hh) fun t d o u => ?_⟩
      rw [e1, show (w.wi t d o u).cell? a = w.cell? a from rfl, hc]
      simp only
      rw [farStore_err hf]
    | ok r =>
      obtain ⟨w1, l⟩ := r
      obtain ⟨f1, f2, f3, f4, f5, f6, f7⟩ := farStore_facts hf
      refine h.fwd (w' := w1) (es' := es ++ l.toArray.map (⟨.cell ·, true, m == .atomic⟩)) mu (fun t d o u => ?_) f1 f2 (by omega) f4 f5 fun _ e he => ?_
      · rw [e1, show (w.wi t d o u).cell? a = w.cell? a from rfl, hc]
        simp only
        rw [f7]
      · rcases Array.mem_append.1 he with y | y
        · exact .inl y
        · obtain ⟨x, hx, rfl⟩ := Array.mem_map.1 y
          have := f6 x (by simpa using hx)
          exact .inr (.inl ⟨x, rfl, by omega⟩)
theorem Law.env {k : SysRet → Sem α} (h : ∀ s, Law P N (k s)) : Law P N (Sem.sys .env k) := fun w es mu => by
  have hs : ∀ w : World, w.sys .env = (.strings w.os.env, w) := fun w => rfl
  have e0 : ∀ w : World, (Sem.sys .env k).runT P w es = (k (.strings w.os.env)).runT P w (es.push ⟨.output, true, false⟩) := fun w => by simp only [Sem.runT, hs]
  rcases h (.strings w.os.env) w (es.push ⟨.output, true, false⟩) mu with ⟨n, h1, h2, h3, h4, h5, h6, h7, h8⟩ | hcold
  · refine .inl ⟨n, by rw [e0]; exact h1, by rw [e0]; exact h2, by rw [e0]; exact h3, by rw [e0]; exact h4, by rw [e0]; exact h5, fun hq e he => ?_, fun a2 w2 e => h7 a2 w2 (by rw [← e0]; exact e), fun t d o u ho ha => ?_⟩
    · rw [e0] at hq he ⊢
      rcases h6 hq e he with z | z
      · exact (Array.mem_push.1 z).imp id fun z => by rw [z]; exact .inr (.inr (.inr (.inl rfl)))
      · exact .inr z
    · rw [e0, e0, show (w.wi t d o u).os.env = w.os.env from ho]
      exact h8 t d o u ho ha
  · exact .inr (by rw [e0]; exact hcold)
def NLoud {α : Type} (P : Program) (x : Sem α) : Prop := ∀ w es, Mute w.os → ¬ (x.runT P w es).1.loud
theorem Law.mark {m : Mark} {k : Sem α} (h : Law P N k) (q : NLoud P k) : Law P N (Sem.mark m k) := fun w es mu =>
  h.fwd (w' := w) (es' := es.push ⟨.mark m, false, true⟩) mu (fun t d o u => rfl) rfl rfl (Nat.le_refl _) rfl rfl fun hq => absurd hq (q _ _ mu)
theorem NLoud.mark {m : Mark} {k : Sem α} (q : NLoud P k) : NLoud P (Sem.mark m k) := fun w es mu => q w _ mu
theorem NLoud.load {m : Mode} {a : Addr} {k : Value → Sem α} (q : ∀ v, NLoud P (k v)) : NLoud P (Sem.load m a k) := fun w es mu => by
  simp only [Sem.runT]
  split
  · exact q _ _ _ mu
  · split
    · exact q _ _ _ mu
    · rename_i h he
      unfold World.farLoad at he
      repeat' split at he
      all_goals first
        | (cases he; exact fun h => h)
        | cases he
      unfold World.noCell
      repeat' split
      all_goals exact fun h => h
theorem NLoud.store {m : Mode} {a : Addr} {v : Value} {k : Sem α} (q : NLoud P k) : NLoud P (Sem.store m a v k) := fun w es mu => by
  have hs : ∀ w' : World, w'.os = w.os → ∀ es, ¬ (k.runT P w' es).1.loud := fun w' e es => q w' es (by rw [e]; exact mu)
  have key : ¬ ((match w.cell? a with
      | some _ => if w.frozen? a then (.halt (.unsupported (.unsafePointer "a write to bytes that a string shares")) w, es) else k.runT P (w.setCell a v) (es.push ⟨.cell a, true, m == .atomic⟩)
      | none => match w.farStore P a v (m == .atomic) with
        | .ok (w, touched) => k.runT P w (es ++ touched.toArray.map (⟨.cell ·, true, m == .atomic⟩))
        | .error h => (.halt h w, es)) : Result α × Array Event).1.loud := by
    split
    · split
      · exact fun h => h
      · exact hs (w.setCell a v) rfl _
    · split
      · rename_i w1 l he
        exact hs _ (farStore_facts he).2.2.2.1 _
      · rename_i h he
        unfold World.farStore at he
        repeat' split at he
        all_goals first
          | (cases he; exact fun h => h)
          | cases he
        unfold World.noCell
        repeat' split
        all_goals exact fun h => h
  cases v <;> first | exact key | exact fun h => h
theorem NLoud.write {b : ByteArray} {f : Unit → Sem α} : NLoud P ((writeFd 2 b).bind f) := fun w es mu => by
  obtain ⟨s, hs⟩ := mu w b rfl
  simp only [writeFd, Sem.bind, Sem.runT, hs]
  exact fun h => h
theorem Law.write {b : ByteArray} {f : Unit → Sem α} : Law P N ((writeFd 2 b).bind f) := fun w es mu => .inr (by
  obtain ⟨s, hs⟩ := mu w b rfl
  simp only [writeFd, Sem.bind, Sem.runT, hs]
  exact fun h => h)
end
end Go.Proofs.Ytndncmjhpbjcoaa

/- Each function of the model that runs in Sem keeps the law of LonA. -/
namespace Go.Proofs.Ytndncmjhpbjcoaa
open Go

abbrev TT {α : Type} : α → Prop := fun _ => True
section
variable {α β : Type} {P : Program}
theorem law_pure {a : α} : Law P TT (pure a : Sem α) := Law.pure trivial
theorem law_bind {x : Sem α} {f : α → Sem β} (hx : Law P TT x) (hf : ∀ a, Law P TT (f a)) : Law P TT (x >>= f) := Law.bind hx fun a _ => hf a
theorem law_map {x : Sem α} {f : α → β} (hx : Law P TT x) : Law P TT (f <$> x) := Law.bind hx fun a _ => Law.pure trivial
theorem law_ite {c : Prop} [Decidable c] {x y : Sem α} (hx : Law P TT x) (hy : Law P TT y) : Law P TT (if c then x else y) := by split <;> assumption
theorem law_newObj {o : Obj} : Law P TT (newObj o) := Law.new fun _ => Law.pure trivial
theorem law_shape {r : Nat} : Law P TT (shape r) := Law.shape fun _ => Law.pure trivial
theorem law_freeze {a : Addr} {n : Nat} : Law P TT (freeze a n) := Law.freeze (Law.pure trivial)
theorem law_frozen {a : Addr} : Law P TT (frozen a) := Law.frozen fun _ => Law.pure trivial
theorem law_getObj {r : Nat} : Law P TT (getObj r) := Law.getObj fun _ => Law.pure trivial
theorem law_setObj {r : Nat} {o : Obj} : Law P TT (setObj r o) := Law.setObj (Law.pure trivial)
theorem law_choose {q : Question} : Law P TT (choose q) := Law.choose fun _ => Law.pure trivial
theorem law_program : Law P TT program := Law.program (Law.pure trivial)
theorem law_load {a : Addr} {m : Mode} : Law P TT (load a m) := Law.load fun _ => Law.pure trivial
theorem law_store {a : Addr} {v : Value} {m : Mode} : Law P TT (store a v m) := Law.store (Law.pure trivial)
theorem law_stuck {s : String} : Law P TT (stuck s : Sem α) := Law.halt
theorem law_unsupported {u : Unsupported} : Law P TT (unsupported u : Sem α) := Law.halt
theorem law_goPanic {v : Value} : Law P TT (goPanic v : Sem α) := Law.halt
theorem law_throw {s : String} : Law P TT (throw s : Sem α) := Law.halt
theorem law_env : Law P TT (sys .env) := Law.env fun _ => Law.pure trivial
theorem law_noRoomM : Law P TT (mark .noRoom) := Law.noRoom (Law.pure trivial)
theorem law_forList {xs : List β} {f : β → α → Sem (ForInStep α)} (init : α) (h : ∀ b a, Law P TT (f b a)) : Law P TT (forIn xs init f) := by
  induction xs generalizing init with
  | nil => exact law_pure
  | cons x xs ih =>
    rw [List.forIn_cons]
    refine law_bind (h _ _) fun s => ?_
    cases s with
    | done b => exact law_pure
    | yield b => exact ih b
theorem law_forArr {xs : Array β} {f : β → α → Sem (ForInStep α)} (init : α) (h : ∀ b a, Law P TT (f b a)) : Law P TT (forIn xs init f) := by
  rw [← Array.forIn_toList]
  exact law_forList init h
theorem law_forRange {r : Std.Legacy.Range} {f : Nat → α → Sem (ForInStep α)} (init : α) (h : ∀ b a, Law P TT (f b a)) : Law P TT (forIn r init f) := by
  rw [Std.Legacy.Range.forIn_eq_forIn_range']
  exact law_forList init h
theorem law_mapList {xs : List β} {f : β → Sem α} (h : ∀ b, Law P TT (f b)) : Law P TT (xs.mapM f) := by
  induction xs with
  | nil => exact law_pure
  | cons x xs ih =>
    rw [List.mapM_cons]
    exact law_bind (h _) fun _ => law_bind ih fun _ => law_pure
theorem law_mapArr {f : β → Sem α} (xs : Array β) (h : ∀ b, Law P TT (f b)) : Law P TT (xs.mapM f) := by
  rw [Array.mapM_eq_mapM_toList]
  exact law_map (law_mapList h)
theorem law_foldList {f : α → β → Sem α} (xs : List β) (h : ∀ a b, Law P TT (f a b)) (init : α) : Law P TT (xs.foldlM f init) := by
  induction xs generalizing init with
  | nil => exact law_pure
  | cons x xs ih => exact law_bind (h _ _) fun a => ih a
end
theorem law_askRoom {P : Program} {n : Nat} : Law P TT (askRoom n) := by
  unfold askRoom
  split
  · exact law_noRoomM
  · exact law_pure
theorem law_viewAt {P : Program} {r : Nat} : Law P TT (Go.viewAt r) := by
  unfold Go.viewAt
  repeat' first
    | with_reducible exact law_pure
    | with_reducible exact law_shape
    | with_reducible exact law_getObj
    | with_reducible refine law_bind ?_ fun _ => ?_
    | with_reducible refine law_ite ?_ ?_
    | split
    | dsimp only
theorem law_numberAt {P : Program} {r : Nat} : Law P TT (Go.numberAt r) := by
  unfold Go.numberAt
  repeat' first
    | with_reducible exact law_pure
    | with_reducible exact law_shape
    | with_reducible exact law_getObj
    | with_reducible refine law_bind ?_ fun _ => ?_
    | with_reducible refine law_ite ?_ ?_
    | split
    | dsimp only
theorem law_cellsIn {P : Program} {r : Nat} : Law P TT (Go.cellsIn r) := by
  unfold Go.cellsIn
  repeat' first
    | with_reducible exact law_pure
    | with_reducible exact law_shape
    | with_reducible exact law_getObj
    | with_reducible refine law_bind ?_ fun _ => ?_
    | with_reducible refine law_ite ?_ ?_
    | split
    | dsimp only
theorem law_asNumber {P : Program} {a : Addr} {lost : Bool} : Law P TT (Go.asNumber a lost) := by
  unfold Go.asNumber
  repeat' first
    | with_reducible exact law_pure
    | with_reducible exact law_newObj
    | with_reducible refine law_bind ?_ fun _ => ?_
    | with_reducible refine law_ite ?_ ?_
    | split
    | dsimp only
theorem law_behindNumber {P : Program} {n : Addr} : Law P TT (Go.behindNumber n) := by
  unfold Go.behindNumber
  repeat' first
    | with_reducible exact law_pure
    | with_reducible exact law_numberAt
    | with_reducible refine law_bind ?_ fun _ => ?_
    | with_reducible refine law_ite ?_ ?_
    | split
    | dsimp only
theorem law_noView {P : Program} {a : Addr} : Law P TT (Go.noView a) := by
  unfold Go.noView
  repeat' first
    | with_reducible exact law_pure
    | with_reducible exact law_unsupported
    | with_reducible exact law_viewAt
    | with_reducible refine law_bind ?_ fun _ => ?_
    | with_reducible refine law_ite ?_ ?_
    | split
    | dsimp only
theorem law_markStringish {P : Program} {a : Addr} : Law P TT (Go.markStringish a) := by
  unfold Go.markStringish
  repeat' first
    | with_reducible exact law_pure
    | with_reducible exact law_shape
    | with_reducible exact law_freeze
    | with_reducible refine law_bind ?_ fun _ => ?_
    | with_reducible refine law_ite ?_ ?_
    | split
    | dsimp only
theorem law_stringish {P : Program} {a : Addr} : Law P TT (Go.stringish a) := by
  unfold Go.stringish
  repeat' first
    | with_reducible exact law_pure
    | with_reducible exact law_shape
    | with_reducible exact law_frozen
    | with_reducible refine law_bind ?_ fun _ => ?_
    | with_reducible refine law_ite ?_ ?_
    | split
    | dsimp only
theorem law_mayBeOne {P : Program} {a : Addr} {b : Addr} : Law P TT (Go.mayBeOne a b) := by
  unfold Go.mayBeOne
  repeat' first
    | with_reducible exact law_pure
    | with_reducible exact law_shape
    | with_reducible exact law_stringish
    | with_reducible refine law_bind ?_ fun _ => ?_
    | with_reducible refine law_ite ?_ ?_
    | split
    | dsimp only
theorem law_sameAddr {P : Program} {a : Addr} {b : Addr} : Law P TT (Go.sameAddr a b) := by
  unfold Go.sameAddr
  repeat' first
    | with_reducible exact law_pure
    | with_reducible exact law_frozen
    | with_reducible exact law_choose
    | with_reducible exact law_unsupported
    | with_reducible exact law_noView
    | with_reducible exact law_mayBeOne
    | with_reducible refine law_bind ?_ fun _ => ?_
    | with_reducible refine law_ite ?_ ?_
    | split
    | dsimp only
theorem law_samePointer {P : Program} {y0 : Option Addr} {y1 : Option Addr} : Law P TT (Go.samePointer y0 y1) := by
  unfold Go.samePointer
  repeat' first
    | with_reducible exact law_pure
    | with_reducible exact law_sameAddr
    | with_reducible refine law_bind ?_ fun _ => ?_
    | with_reducible refine law_ite ?_ ?_
    | split
    | dsimp only
theorem law_typeInfo {P : Program} {t : TypeId} : Law P TT (Go.typeInfo t) := by
  unfold Go.typeInfo
  repeat' first
    | with_reducible exact law_pure
    | with_reducible exact law_program
    | with_reducible exact law_stuck
    | with_reducible refine law_bind ?_ fun _ => ?_
    | with_reducible refine law_ite ?_ ?_
    | split
    | dsimp only
theorem law_underlying {P : Program} {t : TypeId} : Law P TT (Go.underlying t) := by
  unfold Go.underlying
  repeat' first
    | with_reducible exact law_pure
    | with_reducible exact law_program
    | with_reducible exact law_stuck
    | with_reducible refine law_bind ?_ fun _ => ?_
    | with_reducible refine law_ite ?_ ?_
    | split
    | dsimp only
theorem law_typeStr {P : Program} {t : TypeId} : Law P TT (Go.typeStr t) := by
  unfold Go.typeStr
  repeat' first
    | with_reducible exact law_pure
    | with_reducible exact law_unsupported
    | with_reducible exact law_typeInfo
    | with_reducible refine law_bind ?_ fun _ => ?_
    | with_reducible refine law_ite ?_ ?_
    | split
    | dsimp only
theorem law_zeroValue {P : Program} {t : TypeId} : Law P TT (Go.zeroValue t) := by
  unfold Go.zeroValue
  repeat' first
    | with_reducible exact law_pure
    | with_reducible exact law_unsupported
    | with_reducible exact law_typeInfo
    | with_reducible refine law_bind ?_ fun _ => ?_
    | with_reducible refine law_ite ?_ ?_
    | split
    | dsimp only
theorem law_sizeOf {P : Program} {t : TypeId} : Law P TT (Go.sizeOf t) := by
  unfold Go.sizeOf
  repeat' first
    | with_reducible exact law_pure
    | with_reducible exact law_typeInfo
    | with_reducible refine law_bind ?_ fun _ => ?_
    | with_reducible refine law_ite ?_ ?_
    | split
    | dsimp only
theorem law_isAgg {P : Program} {t : TypeId} : Law P TT (Go.isAgg t) := by
  unfold Go.isAgg
  repeat' first
    | with_reducible exact law_pure
    | with_reducible exact law_underlying
    | with_reducible refine law_bind ?_ fun _ => ?_
    | with_reducible refine law_ite ?_ ?_
    | split
    | dsimp only
theorem law_loadCellsFrom {P : Program} {a : Addr} {i n : Nat} {acc : Array Value} : Law P TT (loadCellsFrom a i n acc) := by
  induction n generalizing i acc with
  | zero => exact law_pure
  | succ n ih =>
    unfold loadCellsFrom
    exact law_bind law_load fun _ => ih
theorem law_loadCells {P : Program} {a : Addr} {n : Nat} : Law P TT (Go.loadCells a n) := by
  unfold Go.loadCells
  repeat' first
    | with_reducible exact law_pure
    | with_reducible exact law_loadCellsFrom
    | with_reducible refine law_bind ?_ fun _ => ?_
    | with_reducible refine law_ite ?_ ?_
    | split
    | dsimp only
theorem law_storeCells {P : Program} {a : Addr} {vs : List Value} {i : Nat} : Law P TT (storeCells a vs i) := by
  induction vs generalizing i with
  | nil => exact law_pure
  | cons v vs ih =>
    unfold storeCells
    exact law_bind law_store fun _ => ih
theorem law_loadVar {P : Program} {t : TypeId} {a : Addr} : Law P TT (Go.loadVar t a) := by
  unfold Go.loadVar
  repeat' first
    | with_reducible exact law_pure
    | with_reducible exact law_load
    | with_reducible exact law_sizeOf
    | with_reducible exact law_isAgg
    | with_reducible exact law_loadCells
    | with_reducible refine law_bind ?_ fun _ => ?_
    | with_reducible refine law_ite ?_ ?_
    | split
    | dsimp only
theorem law_storeVar {P : Program} {t : TypeId} {a : Addr} {v : Value} : Law P TT (Go.storeVar t a v) := by
  unfold Go.storeVar
  repeat' first
    | with_reducible exact law_pure
    | with_reducible exact law_stuck
    | with_reducible exact law_sizeOf
    | with_reducible exact law_storeCells
    | with_reducible refine law_bind ?_ fun _ => ?_
    | with_reducible refine law_ite ?_ ?_
    | split
    | dsimp only
theorem law_newRow {P : Program} {elem : TypeId} {cells : Array Value} : Law P TT (Go.newRow elem cells) := by
  unfold Go.newRow
  repeat' first
    | with_reducible exact law_pure
    | with_reducible exact law_newObj
    | with_reducible refine law_bind ?_ fun _ => ?_
    | with_reducible refine law_ite ?_ ?_
    | split
    | dsimp only
theorem law_newVar {P : Program} {t : TypeId} {v : Value} : Law P TT (Go.newVar t v) := by
  unfold Go.newVar
  repeat' first
    | with_reducible exact law_pure
    | with_reducible exact law_newRow
    | with_reducible refine law_bind ?_ fun _ => ?_
    | with_reducible refine law_ite ?_ ?_
    | split
    | dsimp only
theorem law_elemOf {P : Program} {t : TypeId} : Law P TT (elemOf t) := by
  unfold elemOf
  repeat' first
    | with_reducible exact law_pure
    | with_reducible exact law_choose
    | with_reducible exact law_program
    | with_reducible exact law_stuck
    | with_reducible exact law_unsupported
    | with_reducible exact law_goPanic
    | with_reducible exact law_rtp
    | with_reducible exact law_bp
    | with_reducible exact law_underlying
    | with_reducible exact law_newVar
    | with_reducible refine law_bind ?_ fun _ => ?_
    | with_reducible refine law_map ?_
    | with_reducible refine law_ite ?_ ?_
    | split
    | dsimp only
theorem law_rtp {P : Program} {α : Type} {e : RuntimeError} : Law P TT (runtimePanic e : Sem α) := by
  unfold runtimePanic
  cases e <;>
    repeat' first
      | with_reducible exact law_pure
      | with_reducible exact law_elemOf
      | with_reducible exact law_choose
      | with_reducible exact law_program
      | with_reducible exact law_stuck
      | with_reducible exact law_unsupported
      | with_reducible exact law_goPanic
      | with_reducible exact law_rtp
      | with_reducible exact law_bp
      | with_reducible exact law_underlying
      | with_reducible exact law_newVar
      | with_reducible refine law_bind ?_ fun _ => ?_
      | with_reducible refine law_map ?_
      | with_reducible refine law_ite ?_ ?_
      | split
      | dsimp only
theorem law_bp {P : Program} {α : Type} {k : IntKind} {x y : Int} {c : BoundsCode} : Law P TT (boundsPanic k x y c : Sem α) := by
  unfold boundsPanic
  repeat' first
    | with_reducible exact law_pure
    | with_reducible exact law_choose
    | with_reducible exact law_program
    | with_reducible exact law_stuck
    | with_reducible exact law_unsupported
    | with_reducible exact law_goPanic
    | with_reducible exact law_rtp
    | with_reducible exact law_bp
    | with_reducible exact law_underlying
    | with_reducible exact law_newVar
    | with_reducible refine law_bind ?_ fun _ => ?_
    | with_reducible refine law_map ?_
    | with_reducible refine law_ite ?_ ?_
    | split
    | dsimp only
theorem law_part {P : Program} {t : TypeId} {cs : Array Value} {off : Nat} : Law P TT (Go.part t cs off) := by
  unfold Go.part
  repeat' first
    | with_reducible exact law_pure
    | with_reducible exact law_stuck
    | with_reducible exact law_sizeOf
    | with_reducible exact law_isAgg
    | with_reducible refine law_bind ?_ fun _ => ?_
    | with_reducible refine law_ite ?_ ?_
    | split
    | dsimp only
theorem law_asIntOf {P : Program} {y0 : Value} : Law P TT (Go.asIntOf y0) := by
  unfold Go.asIntOf
  repeat' first
    | with_reducible exact law_pure
    | with_reducible exact law_stuck
    | with_reducible exact law_unsupported
    | with_reducible refine law_bind ?_ fun _ => ?_
    | with_reducible refine law_ite ?_ ?_
    | split
    | dsimp only
theorem law_asInt {P : Program} {v : Value} : Law P TT (Go.asInt v) := by
  unfold Go.asInt
  repeat' first
    | with_reducible exact law_pure
    | with_reducible exact law_asIntOf
    | with_reducible refine law_bind ?_ fun _ => ?_
    | with_reducible refine law_ite ?_ ?_
    | split
    | dsimp only
theorem law_asBool {P : Program} {y0 : Value} : Law P TT (Go.asBool y0) := by
  unfold Go.asBool
  repeat' first
    | with_reducible exact law_pure
    | with_reducible exact law_stuck
    | with_reducible refine law_bind ?_ fun _ => ?_
    | with_reducible refine law_ite ?_ ?_
    | split
    | dsimp only
theorem law_asString {P : Program} {y0 : Value} : Law P TT (Go.asString y0) := by
  unfold Go.asString
  repeat' first
    | with_reducible exact law_pure
    | with_reducible exact law_stuck
    | with_reducible refine law_bind ?_ fun _ => ?_
    | with_reducible refine law_ite ?_ ?_
    | split
    | dsimp only
theorem law_asAgg {P : Program} {y0 : Value} : Law P TT (Go.asAgg y0) := by
  unfold Go.asAgg
  repeat' first
    | with_reducible exact law_pure
    | with_reducible exact law_stuck
    | with_reducible refine law_bind ?_ fun _ => ?_
    | with_reducible refine law_ite ?_ ?_
    | split
    | dsimp only
theorem law_asAddr {P : Program} {y0 : Value} : Law P TT (Go.asAddr y0) := by
  unfold Go.asAddr
  repeat' first
    | with_reducible exact law_pure
    | with_reducible exact law_stuck
    | with_reducible exact law_rtp
    | with_reducible refine law_bind ?_ fun _ => ?_
    | with_reducible refine law_ite ?_ ?_
    | split
    | dsimp only
theorem law_byteOf {P : Program} {a : Addr} : Law P TT (Go.byteOf a) := by
  unfold Go.byteOf
  repeat' first
    | with_reducible exact law_pure
    | with_reducible exact law_shape
    | with_reducible exact law_program
    | with_reducible exact law_stuck
    | with_reducible exact law_noView
    | with_reducible refine law_bind ?_ fun _ => ?_
    | with_reducible refine law_ite ?_ ?_
    | split
    | dsimp only
theorem law_partAt {P : Program} {base : Addr} {cells : Nat} {bytes : Nat} : Law P TT (Go.partAt base cells bytes) := by
  unfold Go.partAt
  repeat' first
    | with_reducible exact law_pure
    | with_reducible exact law_byteOf
    | with_reducible refine law_bind ?_ fun _ => ?_
    | with_reducible refine law_ite ?_ ?_
    | split
    | dsimp only
theorem law_fieldPlace {P : Program} {a : Addr} {f : Field} : Law P TT (Go.fieldPlace a f) := by
  unfold Go.fieldPlace
  repeat' first
    | with_reducible exact law_pure
    | with_reducible exact law_sizeOf
    | with_reducible exact law_partAt
    | with_reducible refine law_bind ?_ fun _ => ?_
    | with_reducible refine law_ite ?_ ?_
    | split
    | dsimp only
theorem law_variablesAt {P : Program} {a : Addr} {u : TypeId} {n : Nat} : Law P TT (Go.variablesAt a u n) := by
  unfold Go.variablesAt
  repeat' first
    | with_reducible exact law_pure
    | with_reducible exact law_shape
    | with_reducible exact law_program
    | with_reducible refine law_bind ?_ fun _ => ?_
    | with_reducible refine law_ite ?_ ?_
    | split
    | dsimp only
theorem law_loadBytes {P : Program} {a : Addr} {acc : ByteArray} {n : Nat} : Law P TT (loadBytes a acc n) := by
  induction n generalizing a acc with
  | zero => exact law_pure
  | succ n ih =>
    unfold loadBytes
    repeat' first
      | with_reducible exact law_pure
      | with_reducible exact ih
      | with_reducible exact law_load
      | with_reducible exact law_stuck
      | with_reducible refine law_bind ?_ fun _ => ?_
      | with_reducible refine law_ite ?_ ?_
      | split
      | dsimp only
open Go.Instr in
theorem law_sliceBound {P : Program} {x : Value} {y : Nat} {code : BoundsCode} : Law P TT (Go.Instr.sliceBound x y code) := by
  unfold Go.Instr.sliceBound
  repeat' first
    | with_reducible exact law_pure
    | with_reducible exact law_bp
    | with_reducible exact law_asIntOf
    | with_reducible refine law_bind ?_ fun _ => ?_
    | with_reducible refine law_ite ?_ ?_
    | split
    | dsimp only
open Go.Instr in
theorem law_sliceBounds {P : Program} {isSlice : Bool} {len : Nat} {cap : Nat} {low : Option Value} {high : Option Value} {max : Option Value} : Law P TT (Go.Instr.sliceBounds isSlice len cap low high max) := by
  unfold Go.Instr.sliceBounds
  repeat' first
    | with_reducible exact law_pure
    | with_reducible exact law_stuck
    | with_reducible exact law_sliceBound
    | with_reducible refine law_bind ?_ fun _ => ?_
    | with_reducible refine law_ite ?_ ?_
    | split
    | dsimp only
open Go.Instr in
theorem law_slice {P : Program} {xType : TypeId} {x : Value} {low : Option Value} {high : Option Value} {max : Option Value} : Law P TT (Go.Instr.slice xType x low high max) := by
  unfold Go.Instr.slice
  repeat' first
    | with_reducible exact law_pure
    | with_reducible exact law_stuck
    | with_reducible exact law_underlying
    | with_reducible exact law_sizeOf
    | with_reducible exact law_asAddr
    | with_reducible exact law_sliceBounds
    | with_reducible refine law_bind ?_ fun _ => ?_
    | with_reducible refine law_ite ?_ ?_
    | split
    | dsimp only
open Go.Instr in
theorem law_sureAddr {P : Program} {y0 : Value} : Law P TT (Go.Instr.sureAddr y0) := by
  unfold Go.Instr.sureAddr
  repeat' first
    | with_reducible exact law_pure
    | with_reducible exact law_stuck
    | with_reducible refine law_bind ?_ fun _ => ?_
    | with_reducible refine law_ite ?_ ?_
    | split
    | dsimp only
open Go.Instr in
theorem law_loadAt {P : Program} {t : TypeId} {addr : Value} : Law P TT (Go.Instr.loadAt t addr) := by
  unfold Go.Instr.loadAt
  repeat' first
    | with_reducible exact law_pure
    | with_reducible exact law_loadVar
    | with_reducible exact law_sureAddr
    | with_reducible refine law_bind ?_ fun _ => ?_
    | with_reducible refine law_ite ?_ ?_
    | split
    | dsimp only
open Go.Instr in
theorem law_storeAt {P : Program} {t : TypeId} {addr : Value} {val : Value} : Law P TT (Go.Instr.storeAt t addr val) := by
  unfold Go.Instr.storeAt
  repeat' first
    | with_reducible exact law_pure
    | with_reducible exact law_storeVar
    | with_reducible exact law_sureAddr
    | with_reducible refine law_bind ?_ fun _ => ?_
    | with_reducible refine law_ite ?_ ?_
    | split
    | dsimp only
open Go.Instr in
theorem law_fieldAt {P : Program} {s : TypeId} {addr : Value} {field : Nat} : Law P TT (Go.Instr.fieldAt s addr field) := by
  unfold Go.Instr.fieldAt
  repeat' first
    | with_reducible exact law_pure
    | with_reducible exact law_stuck
    | with_reducible exact law_underlying
    | with_reducible exact law_fieldPlace
    | with_reducible exact law_sureAddr
    | with_reducible refine law_bind ?_ fun _ => ?_
    | with_reducible refine law_ite ?_ ?_
    | split
    | dsimp only
open Go.Instr in
theorem law_indexAt {P : Program} {t : TypeId} {x : Value} {index : Value} : Law P TT (Go.Instr.indexAt t x index) := by
  unfold Go.Instr.indexAt
  repeat' first
    | with_reducible exact law_pure
    | with_reducible exact law_stuck
    | with_reducible exact law_unsupported
    | with_reducible exact law_bp
    | with_reducible exact law_underlying
    | with_reducible exact law_sizeOf
    | with_reducible exact law_asIntOf
    | with_reducible exact law_slice
    | with_reducible exact law_sureAddr
    | with_reducible refine law_bind ?_ fun _ => ?_
    | with_reducible refine law_ite ?_ ?_
    | split
    | dsimp only
open Go.Instr in
theorem law_sliceAt {P : Program} {t : TypeId} {x : Value} {low : Option Value} {high : Option Value} {max : Option Value} : Law P TT (Go.Instr.sliceAt t x low high max) := by
  unfold Go.Instr.sliceAt
  repeat' first
    | with_reducible exact law_pure
    | with_reducible exact law_underlying
    | with_reducible exact law_sizeOf
    | with_reducible exact law_sliceBounds
    | with_reducible exact law_slice
    | with_reducible exact law_sureAddr
    | with_reducible refine law_bind ?_ fun _ => ?_
    | with_reducible refine law_ite ?_ ?_
    | split
    | dsimp only
open Go.Instr in
theorem law_arrayAt {P : Program} {arr : TypeId} {x : Value} : Law P TT (Go.Instr.arrayAt arr x) := by
  unfold Go.Instr.arrayAt
  repeat' first
    | with_reducible exact law_pure
    | with_reducible exact law_stuck
    | with_reducible exact law_rtp
    | with_reducible exact law_underlying
    | with_reducible exact law_slice
    | with_reducible refine law_bind ?_ fun _ => ?_
    | with_reducible refine law_ite ?_ ?_
    | split
    | dsimp only
open Go.Op in
theorem law_intArith {P : Program} {op : BinOp} {k : IntKind} {x : Int} {y : Int} : Law P TT (Go.Op.intArith op k x y) := by
  unfold Go.Op.intArith
  repeat' first
    | with_reducible exact law_pure
    | with_reducible exact law_stuck
    | with_reducible refine law_bind ?_ fun _ => ?_
    | with_reducible refine law_ite ?_ ?_
    | split
    | dsimp only
open Go.Op in
theorem law_intDiv {P : Program} {op : BinOp} {k : IntKind} {x : Int} {y : Int} : Law P TT (Go.Op.intDiv op k x y) := by
  unfold Go.Op.intDiv
  repeat' first
    | with_reducible exact law_pure
    | with_reducible exact law_stuck
    | with_reducible exact law_rtp
    | with_reducible refine law_bind ?_ fun _ => ?_
    | with_reducible refine law_ite ?_ ?_
    | split
    | dsimp only
open Go.Op in
theorem law_intBits {P : Program} {op : BinOp} {k : IntKind} {x : Int} {y : Int} : Law P TT (Go.Op.intBits op k x y) := by
  unfold Go.Op.intBits
  repeat' first
    | with_reducible exact law_pure
    | with_reducible exact law_stuck
    | with_reducible refine law_bind ?_ fun _ => ?_
    | with_reducible refine law_ite ?_ ?_
    | split
    | dsimp only
open Go.Op in
theorem law_shift {P : Program} {op : BinOp} {k : IntKind} {x : Int} {u_yk : IntKind} {y : Int} : Law P TT (Go.Op.shift op k x u_yk y) := by
  unfold Go.Op.shift
  repeat' first
    | with_reducible exact law_pure
    | with_reducible exact law_stuck
    | with_reducible exact law_rtp
    | with_reducible refine law_bind ?_ fun _ => ?_
    | with_reducible refine law_ite ?_ ?_
    | split
    | dsimp only
open Go.Op in
theorem law_intCmp {P : Program} {op : BinOp} {x : Int} {y : Int} : Law P TT (Go.Op.intCmp op x y) := by
  unfold Go.Op.intCmp
  repeat' first
    | with_reducible exact law_pure
    | with_reducible exact law_stuck
    | with_reducible refine law_bind ?_ fun _ => ?_
    | with_reducible refine law_ite ?_ ?_
    | split
    | dsimp only
open Go.Op in
theorem law_floatArith {P : Program} {op : BinOp} {k : FloatKind} {x : Nat} {y : Nat} : Law P TT (Go.Op.floatArith op k x y) := by
  unfold Go.Op.floatArith
  repeat' first
    | with_reducible exact law_pure
    | with_reducible exact law_choose
    | with_reducible exact law_stuck
    | with_reducible refine law_bind ?_ fun _ => ?_
    | with_reducible refine law_ite ?_ ?_
    | split
    | dsimp only
open Go.Op in
theorem law_floatCmp {P : Program} {op : BinOp} {k : FloatKind} {x : Nat} {y : Nat} : Law P TT (Go.Op.floatCmp op k x y) := by
  unfold Go.Op.floatCmp
  repeat' first
    | with_reducible exact law_pure
    | with_reducible exact law_stuck
    | with_reducible refine law_bind ?_ fun _ => ?_
    | with_reducible refine law_ite ?_ ?_
    | split
    | dsimp only
open Go.Op in
theorem law_stringOp {P : Program} {op : BinOp} {x : ByteArray} {y : ByteArray} : Law P TT (Go.Op.stringOp op x y) := by
  unfold Go.Op.stringOp
  repeat' first
    | with_reducible exact law_pure
    | with_reducible exact law_stuck
    | with_reducible exact law_unsupported
    | with_reducible refine law_bind ?_ fun _ => ?_
    | with_reducible refine law_ite ?_ ?_
    | split
    | dsimp only
open Go.Op in
theorem law_twoPlaces {P : Program} {a : Addr} {b : Addr} : Law P TT (Go.Op.twoPlaces a b) := by
  unfold Go.Op.twoPlaces
  repeat' first
    | with_reducible exact law_pure
    | with_reducible exact law_program
    | with_reducible exact law_unsupported
    | with_reducible exact law_byteOf
    | with_reducible refine law_bind ?_ fun _ => ?_
    | with_reducible refine law_ite ?_ ?_
    | split
    | dsimp only
open Go.Op in
theorem law_addrSub {P : Program} {k : IntKind} {a : Addr} {b : Addr} : Law P TT (Go.Op.addrSub k a b) := by
  unfold Go.Op.addrSub
  repeat' first
    | with_reducible exact law_pure
    | with_reducible exact law_twoPlaces
    | with_reducible refine law_bind ?_ fun _ => ?_
    | with_reducible refine law_ite ?_ ?_
    | split
    | dsimp only
open Go.Op in
theorem law_addrCmp {P : Program} {op : BinOp} {a : Addr} {b : Addr} : Law P TT (Go.Op.addrCmp op a b) := by
  unfold Go.Op.addrCmp
  repeat' first
    | with_reducible exact law_pure
    | with_reducible exact law_unsupported
    | with_reducible exact law_twoPlaces
    | with_reducible refine law_bind ?_ fun _ => ?_
    | with_reducible refine law_ite ?_ ?_
    | split
    | dsimp only
open Go.Op in
theorem law_addrMod {P : Program} {k : IntKind} {a : Addr} {n : Int} : Law P TT (Go.Op.addrMod k a n) := by
  unfold Go.Op.addrMod
  repeat' first
    | with_reducible exact law_pure
    | with_reducible exact law_shape
    | with_reducible exact law_unsupported
    | with_reducible exact law_typeInfo
    | with_reducible exact law_byteOf
    | with_reducible refine law_bind ?_ fun _ => ?_
    | with_reducible refine law_ite ?_ ?_
    | split
    | dsimp only
open Go.Op in
theorem law_equalIn {P : Program} {n : Nat} {t : TypeId} {x y : Value} : Law P TT (equalIn n t x y) := by
  induction n generalizing t x y with
  | zero => exact law_unsupported
  | succ n ih =>
    unfold equalIn
    repeat' first
      | with_reducible exact law_pure
      | with_reducible exact ih
      | with_reducible exact law_choose
      | with_reducible exact law_program
      | with_reducible exact law_stuck
      | with_reducible exact law_unsupported
      | with_reducible exact law_rtp
      | with_reducible exact law_behindNumber
      | with_reducible exact law_sameAddr
      | with_reducible exact law_samePointer
      | with_reducible exact law_typeInfo
      | with_reducible exact law_underlying
      | with_reducible exact law_typeStr
      | with_reducible exact law_sizeOf
      | with_reducible exact law_part
      | with_reducible exact law_byteOf
      | with_reducible exact law_slice
      | with_reducible refine law_bind ?_ fun _ => ?_
      | with_reducible refine law_forList _ fun _ _ => ?_
      | with_reducible refine law_forArr _ fun _ _ => ?_
      | with_reducible refine law_forRange _ fun _ _ => ?_
      | with_reducible refine law_ite ?_ ?_
      | split
      | dsimp only
open Go.Op in
theorem law_equal {P : Program} {t : TypeId} {x : Value} {y : Value} : Law P TT (Go.Op.equal t x y) := by
  unfold Go.Op.equal
  repeat' first
    | with_reducible exact law_pure
    | with_reducible exact law_equalIn
    | with_reducible refine law_bind ?_ fun _ => ?_
    | with_reducible refine law_ite ?_ ?_
    | split
    | dsimp only
open Go.Op in
theorem law_eqGuardIn {P : Program} {n : Nat} {t : TypeId} {x y : Value} : Law P TT (eqGuardIn n t x y) := by
  induction n generalizing t x y with
  | zero => exact law_unsupported
  | succ n ih =>
    unfold eqGuardIn
    repeat' first
      | with_reducible exact law_pure
      | with_reducible exact ih
      | with_reducible exact law_unsupported
      | with_reducible exact law_underlying
      | with_reducible exact law_sizeOf
      | with_reducible exact law_part
      | with_reducible refine law_bind ?_ fun _ => ?_
      | with_reducible refine law_forList _ fun _ _ => ?_
      | with_reducible refine law_forArr _ fun _ _ => ?_
      | with_reducible refine law_forRange _ fun _ _ => ?_
      | with_reducible refine law_ite ?_ ?_
      | split
      | dsimp only
open Go.Op in
theorem law_unary {P : Program} {op : UnOp} {x : Value} : Law P TT (Go.Op.unary op x) := by
  unfold Go.Op.unary
  repeat' first
    | with_reducible exact law_pure
    | with_reducible exact law_stuck
    | with_reducible exact law_unsupported
    | with_reducible exact law_intArith
    | with_reducible exact law_intBits
    | with_reducible refine law_bind ?_ fun _ => ?_
    | with_reducible refine law_ite ?_ ?_
    | split
    | dsimp only
open Go.Instr in
theorem law_alloc {P : Program} {elem : TypeId} {heap : Bool} {old : Value} : Law P TT (Go.Instr.alloc elem heap old) := by
  unfold Go.Instr.alloc
  repeat' first
    | with_reducible exact law_pure
    | with_reducible exact law_zeroValue
    | with_reducible exact law_storeVar
    | with_reducible exact law_newVar
    | with_reducible refine law_bind ?_ fun _ => ?_
    | with_reducible refine law_ite ?_ ?_
    | split
    | dsimp only
open Go.Instr in
theorem law_box {P : Program} {elem : TypeId} {v : Value} : Law P TT (Go.Instr.box elem v) := by
  unfold Go.Instr.box
  repeat' first
    | with_reducible exact law_pure
    | with_reducible exact law_newVar
    | with_reducible refine law_bind ?_ fun _ => ?_
    | with_reducible refine law_ite ?_ ?_
    | split
    | dsimp only
open Go.Instr in
theorem law_build {P : Program} {t : TypeId} {parts : Array (Nat × Value)} : Law P TT (Go.Instr.build t parts) := by
  unfold Go.Instr.build
  repeat' first
    | with_reducible exact law_pure
    | with_reducible exact law_stuck
    | with_reducible exact law_underlying
    | with_reducible exact law_zeroValue
    | with_reducible exact law_sizeOf
    | with_reducible exact law_part
    | with_reducible refine law_bind ?_ fun _ => ?_
    | with_reducible refine law_mapArr _ fun _ => ?_
    | with_reducible refine law_ite ?_ ?_
    | split
    | dsimp only
open Go.Instr in
theorem law_buildSlice {P : Program} {t : TypeId} {len : Nat} {parts : Array (Nat × Value)} : Law P TT (Go.Instr.buildSlice t len parts) := by
  unfold Go.Instr.buildSlice
  repeat' first
    | with_reducible exact law_pure
    | with_reducible exact law_stuck
    | with_reducible exact law_unsupported
    | with_reducible exact law_underlying
    | with_reducible exact law_zeroValue
    | with_reducible exact law_sizeOf
    | with_reducible exact law_newRow
    | with_reducible exact law_part
    | with_reducible exact law_slice
    | with_reducible refine law_bind ?_ fun _ => ?_
    | with_reducible refine law_ite ?_ ?_
    | split
    | dsimp only
open Go.Instr in
theorem law_waits {P : Program} {g : Nat} : Law P TT (Go.Instr.waits g) := by
  unfold Go.Instr.waits
  repeat' first
    | with_reducible exact law_pure
    | with_reducible exact law_shape
    | with_reducible refine law_bind ?_ fun _ => ?_
    | with_reducible refine law_ite ?_ ?_
    | split
    | dsimp only
open Go.Instr in
theorem law_ready {P : Program} {g : Nat} : Law P TT (Go.Instr.ready g) := by
  unfold Go.Instr.ready
  repeat' first
    | with_reducible exact law_pure
    | with_reducible exact law_shape
    | with_reducible exact law_getObj
    | with_reducible exact law_setObj
    | with_reducible exact law_stuck
    | with_reducible refine law_bind ?_ fun _ => ?_
    | with_reducible refine law_ite ?_ ?_
    | split
    | dsimp only
open Go.Instr in
theorem law_makeInterface {P : Program} {xType : TypeId} {x : Value} : Law P TT (Go.Instr.makeInterface xType x) := by
  unfold Go.Instr.makeInterface
  repeat' first
    | with_reducible exact law_pure
    | with_reducible exact law_stuck
    | with_reducible exact law_underlying
    | with_reducible refine law_bind ?_ fun _ => ?_
    | with_reducible refine law_ite ?_ ?_
    | split
    | dsimp only
open Go.Instr in
theorem law_makeFunc {P : Program} {fn : Fn} {first : Array Value} {captured : Array Value} : Law P TT (Go.Instr.makeFunc fn first captured) := by
  unfold Go.Instr.makeFunc
  repeat' first
    | with_reducible exact law_pure
    | with_reducible refine law_bind ?_ fun _ => ?_
    | with_reducible refine law_ite ?_ ?_
    | split
    | dsimp only
open Go.Instr in
theorem law_makeMap {P : Program} {t : TypeId} {reserve : Option Value} : Law P TT (Go.Instr.makeMap t reserve) := by
  unfold Go.Instr.makeMap
  repeat' first
    | with_reducible exact law_pure
    | with_reducible exact law_newObj
    | with_reducible exact law_stuck
    | with_reducible exact law_underlying
    | with_reducible exact law_asInt
    | with_reducible refine law_bind ?_ fun _ => ?_
    | with_reducible refine law_ite ?_ ?_
    | split
    | dsimp only
open Go.Instr in
theorem law_makeChan {P : Program} {t : TypeId} {size : Value} : Law P TT (Go.Instr.makeChan t size) := by
  unfold Go.Instr.makeChan
  repeat' first
    | with_reducible exact law_pure
    | with_reducible exact law_newObj
    | with_reducible exact law_stuck
    | with_reducible exact law_rtp
    | with_reducible exact law_typeInfo
    | with_reducible exact law_underlying
    | with_reducible exact law_asInt
    | with_reducible refine law_bind ?_ fun _ => ?_
    | with_reducible refine law_ite ?_ ?_
    | split
    | dsimp only
open Go.Instr in
theorem law_makeSlice {P : Program} {t : TypeId} {len : Value} {cap : Value} : Law P TT (Go.Instr.makeSlice t len cap) := by
  unfold Go.Instr.makeSlice
  repeat' first
    | with_reducible exact law_pure
    | with_reducible exact law_choose
    | with_reducible exact law_stuck
    | with_reducible exact law_rtp
    | with_reducible exact law_askRoom
    | with_reducible exact law_typeInfo
    | with_reducible exact law_underlying
    | with_reducible exact law_zeroValue
    | with_reducible exact law_sizeOf
    | with_reducible exact law_newRow
    | with_reducible exact law_asInt
    | with_reducible exact law_slice
    | with_reducible refine law_bind ?_ fun _ => ?_
    | with_reducible refine law_ite ?_ ?_
    | split
    | dsimp only
open Go.Instr in
theorem law_field {P : Program} {xType : TypeId} {x : Value} {field : Nat} : Law P TT (Go.Instr.field xType x field) := by
  unfold Go.Instr.field
  repeat' first
    | with_reducible exact law_pure
    | with_reducible exact law_stuck
    | with_reducible exact law_underlying
    | with_reducible exact law_part
    | with_reducible exact law_asAgg
    | with_reducible refine law_bind ?_ fun _ => ?_
    | with_reducible refine law_ite ?_ ?_
    | split
    | dsimp only
open Go.Instr in
theorem law_index {P : Program} {xType : TypeId} {x : Value} {index : Value} : Law P TT (Go.Instr.index xType x index) := by
  unfold Go.Instr.index
  repeat' first
    | with_reducible exact law_pure
    | with_reducible exact law_stuck
    | with_reducible exact law_bp
    | with_reducible exact law_underlying
    | with_reducible exact law_sizeOf
    | with_reducible exact law_part
    | with_reducible exact law_asIntOf
    | with_reducible refine law_bind ?_ fun _ => ?_
    | with_reducible refine law_ite ?_ ?_
    | split
    | dsimp only
open Go.Instr in
theorem law_checkKey {P : Program} {e : Bool} {n : Nat} {t : TypeId} {x : Value} : Law P TT (checkKey e n t x) := by
  induction n generalizing t x with
  | zero => exact law_unsupported
  | succ n ih =>
    unfold checkKey
    repeat' first
      | with_reducible exact law_pure
      | with_reducible exact ih
      | with_reducible exact law_stuck
      | with_reducible exact law_unsupported
      | with_reducible exact law_rtp
      | with_reducible exact law_typeInfo
      | with_reducible exact law_underlying
      | with_reducible exact law_typeStr
      | with_reducible exact law_sizeOf
      | with_reducible exact law_part
      | with_reducible refine law_bind ?_ fun _ => ?_
      | with_reducible refine law_forList _ fun _ _ => ?_
      | with_reducible refine law_forArr _ fun _ _ => ?_
      | with_reducible refine law_forRange _ fun _ _ => ?_
      | with_reducible refine law_ite ?_ ?_
      | split
      | dsimp only
open Go.Instr in
theorem law_findAsking {P : Program} {t : TypeId} {k : Value} {es : List MapEntry} {i : Nat} : Law P TT (findAsking t k es i) := by
  induction es generalizing i with
  | nil => exact law_pure
  | cons e es ih =>
    unfold findAsking
    repeat' first
      | with_reducible exact law_pure
      | with_reducible exact ih
      | with_reducible exact law_equal
      | with_reducible refine law_bind ?_ fun _ => ?_
      | with_reducible refine law_ite ?_ ?_
      | split
      | dsimp only
open Go.Instr in
theorem law_findKey {P : Program} {keyType : TypeId} {k : Value} {es : List MapEntry} : Law P TT (Go.Instr.findKey keyType k es) := by
  unfold Go.Instr.findKey
  repeat' first
    | with_reducible exact law_pure
    | with_reducible exact law_underlying
    | with_reducible exact law_findAsking
    | with_reducible refine law_bind ?_ fun _ => ?_
    | with_reducible refine law_ite ?_ ?_
    | split
    | dsimp only
open Go.Instr in
theorem law_lookup {P : Program} {xType : TypeId} {x : Value} {index : Value} {commaOk : Bool} : Law P TT (Go.Instr.lookup xType x index commaOk) := by
  unfold Go.Instr.lookup
  repeat' first
    | with_reducible exact law_pure
    | with_reducible exact law_getObj
    | with_reducible exact law_stuck
    | with_reducible exact law_underlying
    | with_reducible exact law_zeroValue
    | with_reducible exact law_index
    | with_reducible exact law_checkKey
    | with_reducible exact law_findKey
    | with_reducible refine law_bind ?_ fun _ => ?_
    | with_reducible refine law_ite ?_ ?_
    | split
    | dsimp only
open Go.Instr in
theorem law_keyThatStays {P : Program} {old : Value} {new : Value} : Law P TT (Go.Instr.keyThatStays old new) := by
  unfold Go.Instr.keyThatStays
  repeat' first
    | with_reducible exact law_pure
    | with_reducible exact law_choose
    | with_reducible refine law_bind ?_ fun _ => ?_
    | with_reducible refine law_ite ?_ ?_
    | split
    | dsimp only
open Go.Instr in
theorem law_mapUpdate {P : Program} {mapType : TypeId} {map : Value} {key : Value} {value : Value} : Law P TT (Go.Instr.mapUpdate mapType map key value) := by
  unfold Go.Instr.mapUpdate
  repeat' first
    | with_reducible exact law_pure
    | with_reducible exact law_getObj
    | with_reducible exact law_setObj
    | with_reducible exact law_stuck
    | with_reducible exact law_rtp
    | with_reducible exact law_underlying
    | with_reducible exact law_checkKey
    | with_reducible exact law_findKey
    | with_reducible exact law_keyThatStays
    | with_reducible refine law_bind ?_ fun _ => ?_
    | with_reducible refine law_ite ?_ ?_
    | split
    | dsimp only
open Go.Instr in
theorem law_mapEntry {P : Program} {mapType : TypeId} {map : Value} {key : Value} : Law P TT (Go.Instr.mapEntry mapType map key) := by
  unfold Go.Instr.mapEntry
  repeat' first
    | with_reducible exact law_pure
    | with_reducible exact law_getObj
    | with_reducible exact law_setObj
    | with_reducible exact law_stuck
    | with_reducible exact law_rtp
    | with_reducible exact law_underlying
    | with_reducible exact law_zeroValue
    | with_reducible exact law_checkKey
    | with_reducible exact law_findKey
    | with_reducible exact law_keyThatStays
    | with_reducible refine law_bind ?_ fun _ => ?_
    | with_reducible refine law_ite ?_ ?_
    | split
    | dsimp only
open Go.Instr in
theorem law_entryStore {P : Program} {u_mapType : TypeId} {map : Value} {stamp : Value} {value : Value} : Law P TT (Go.Instr.entryStore u_mapType map stamp value) := by
  unfold Go.Instr.entryStore
  repeat' first
    | with_reducible exact law_pure
    | with_reducible exact law_getObj
    | with_reducible exact law_setObj
    | with_reducible exact law_stuck
    | with_reducible exact law_unsupported
    | with_reducible exact law_asInt
    | with_reducible refine law_bind ?_ fun _ => ?_
    | with_reducible refine law_ite ?_ ?_
    | split
    | dsimp only
open Go.Instr in
theorem law_range {P : Program} {xType : TypeId} {x : Value} : Law P TT (Go.Instr.range xType x) := by
  unfold Go.Instr.range
  repeat' first
    | with_reducible exact law_pure
    | with_reducible exact law_newObj
    | with_reducible exact law_getObj
    | with_reducible exact law_stuck
    | with_reducible exact law_underlying
    | with_reducible refine law_bind ?_ fun _ => ?_
    | with_reducible refine law_ite ?_ ?_
    | split
    | dsimp only
open Go.Instr in
theorem law_next {P : Program} {iter : Value} {isString : Bool} {u_type : TypeId} : Law P TT (Go.Instr.next iter isString u_type) := by
  unfold Go.Instr.next
  repeat' first
    | with_reducible exact law_pure
    | with_reducible exact law_getObj
    | with_reducible exact law_setObj
    | with_reducible exact law_choose
    | with_reducible exact law_stuck
    | with_reducible exact law_unsupported
    | with_reducible refine law_bind ?_ fun _ => ?_
    | with_reducible refine law_ite ?_ ?_
    | split
    | dsimp only
open Go.Instr in
theorem law_entry {P : Program} {iter : Value} : Law P TT (Go.Instr.entry iter) := by
  unfold Go.Instr.entry
  repeat' first
    | with_reducible exact law_pure
    | with_reducible exact law_getObj
    | with_reducible exact law_stuck
    | with_reducible exact law_unsupported
    | with_reducible refine law_bind ?_ fun _ => ?_
    | with_reducible refine law_ite ?_ ?_
    | split
    | dsimp only
open Go.Instr in
theorem law_extract {P : Program} {tuple : Value} {index : Nat} : Law P TT (Go.Instr.extract tuple index) := by
  unfold Go.Instr.extract
  repeat' first
    | with_reducible exact law_pure
    | with_reducible exact law_stuck
    | with_reducible exact law_index
    | with_reducible refine law_bind ?_ fun _ => ?_
    | with_reducible refine law_ite ?_ ?_
    | split
    | dsimp only
open Go.Instr in
theorem law_typeAssert {P : Program} {x : Value} {xType : TypeId} {asserted : TypeId} {commaOk : Bool} : Law P TT (Go.Instr.typeAssert x xType asserted commaOk) := by
  unfold Go.Instr.typeAssert
  repeat' first
    | with_reducible exact law_pure
    | with_reducible exact law_stuck
    | with_reducible exact law_rtp
    | with_reducible exact law_typeInfo
    | with_reducible exact law_underlying
    | with_reducible exact law_zeroValue
    | with_reducible refine law_bind ?_ fun _ => ?_
    | with_reducible refine law_ite ?_ ?_
    | split
    | dsimp only
theorem law_unsafeAdd_ {P : Program} {u : Array TypeId} {t : TypeId} {args : Array Value} : Law P TT (Go.Builtin.unsafeAdd_ u t args) := by
  unfold Go.Builtin.unsafeAdd_
  rcases args with ⟨_ | ⟨v, _ | ⟨b, _ | ⟨c, l⟩⟩⟩⟩
  · exact law_stuck
  · cases v <;> exact law_stuck
  · cases v with
    | pointer r =>
      refine law_bind (law_asInt (v := b)) fun n => ?_
      repeat' first
        | with_reducible exact law_pure
        | with_reducible exact law_shape
        | with_reducible exact law_program
        | with_reducible exact law_stuck
        | with_reducible exact law_unsupported
        | with_reducible exact law_viewAt
        | with_reducible exact law_asInt
        | with_reducible refine law_bind ?_ fun _ => ?_
        | with_reducible refine law_ite ?_ ?_
        | split
        | dsimp only
    | _ => exact law_stuck
  · cases v <;> exact law_stuck
open Go.Builtin in
theorem law_holdsCells {P : Program} {a : Addr} {cells : Nat} : Law P TT (Go.Builtin.holdsCells a cells) := by
  unfold Go.Builtin.holdsCells
  repeat' first
    | with_reducible exact law_pure
    | with_reducible exact law_shape
    | with_reducible refine law_bind ?_ fun _ => ?_
    | with_reducible refine law_ite ?_ ?_
    | split
    | dsimp only
open Go.Builtin in
theorem law_mayShare {P : Program} {size : Nat} {sLen : Nat} {n : Nat} {base : Option Addr} {x : Value} : Law P TT (Go.Builtin.mayShare size sLen n base x) := by
  unfold Go.Builtin.mayShare
  repeat' first
    | with_reducible exact law_pure
    | with_reducible exact law_frozen
    | with_reducible exact law_slice
    | with_reducible exact law_holdsCells
    | with_reducible refine law_bind ?_ fun _ => ?_
    | with_reducible refine law_ite ?_ ?_
    | split
    | dsimp only
open Go.Builtin in
theorem law_lenOf {P : Program} {y0 : Value} : Law P TT (Go.Builtin.lenOf y0) := by
  unfold Go.Builtin.lenOf
  repeat' first
    | with_reducible exact law_pure
    | with_reducible exact law_stuck
    | with_reducible exact law_slice
    | with_reducible refine law_bind ?_ fun _ => ?_
    | with_reducible refine law_ite ?_ ?_
    | split
    | dsimp only
open Go.Builtin in
theorem law_firstCells {P : Program} {size : Nat} {n : Nat} {y0 : Value} : Law P TT (Go.Builtin.firstCells size n y0) := by
  unfold Go.Builtin.firstCells
  repeat' first
    | with_reducible exact law_pure
    | with_reducible exact law_stuck
    | with_reducible exact law_loadCells
    | with_reducible exact law_slice
    | with_reducible exact law_extract
    | with_reducible refine law_bind ?_ fun _ => ?_
    | with_reducible refine law_ite ?_ ?_
    | split
    | dsimp only
open Go.Builtin in
set_option maxHeartbeats 4000000 in
theorem law_append_ {P : Program} {argTypes : Array TypeId} {u_type : TypeId} {args : Array Value} : Law P TT (Go.Builtin.append_ argTypes u_type args) := by
  unfold Go.Builtin.append_
  repeat' first
    | with_reducible exact law_pure
    | with_reducible exact law_choose
    | with_reducible exact law_stuck
    | with_reducible exact law_unsupported
    | with_reducible exact law_noRoomM
    | with_reducible exact law_rtp
    | with_reducible exact law_askRoom
    | with_reducible exact law_typeInfo
    | with_reducible exact law_underlying
    | with_reducible exact law_zeroValue
    | with_reducible exact law_sizeOf
    | with_reducible exact law_storeCells
    | with_reducible exact law_newRow
    | with_reducible exact law_asInt
    | with_reducible exact law_slice
    | with_reducible exact law_range
    | with_reducible exact law_mayShare
    | with_reducible exact law_lenOf
    | with_reducible exact law_firstCells
    | with_reducible refine law_bind ?_ fun _ => ?_
    | with_reducible refine law_ite ?_ ?_
    | split
    | dsimp only
open Go.Builtin in
theorem law_cap_ {P : Program} {argTypes : Array TypeId} {u_type : TypeId} {args : Array Value} : Law P TT (Go.Builtin.cap_ argTypes u_type args) := by
  unfold Go.Builtin.cap_
  repeat' first
    | with_reducible exact law_pure
    | with_reducible exact law_getObj
    | with_reducible exact law_stuck
    | with_reducible exact law_underlying
    | with_reducible exact law_slice
    | with_reducible refine law_bind ?_ fun _ => ?_
    | with_reducible refine law_ite ?_ ?_
    | split
    | dsimp only
open Go.Builtin in
theorem law_clear_ {P : Program} {argTypes : Array TypeId} {u_type : TypeId} {args : Array Value} : Law P TT (Go.Builtin.clear_ argTypes u_type args) := by
  unfold Go.Builtin.clear_
  repeat' first
    | with_reducible exact law_pure
    | with_reducible exact law_getObj
    | with_reducible exact law_setObj
    | with_reducible exact law_stuck
    | with_reducible exact law_underlying
    | with_reducible exact law_zeroValue
    | with_reducible exact law_storeCells
    | with_reducible exact law_slice
    | with_reducible refine law_bind ?_ fun _ => ?_
    | with_reducible refine law_ite ?_ ?_
    | split
    | dsimp only
theorem law_close_ {P : Program} {u : Array TypeId} {t : TypeId} {args : Array Value} : Law P TT (Go.Builtin.close_ u t args) := by
  unfold Go.Builtin.close_
  rcases args with ⟨_ | ⟨v, _ | ⟨b, l⟩⟩⟩
  · exact law_stuck
  · cases v with
    | chan r =>
      cases r with
      | none => exact law_rtp
      | some r =>
        refine law_bind (law_getObj (r := r)) fun o => ?_
        repeat' first
          | with_reducible exact law_pure
          | with_reducible exact law_getObj
          | with_reducible exact law_setObj
          | with_reducible exact law_stuck
          | with_reducible exact law_rtp
          | with_reducible refine law_bind ?_ fun _ => ?_
          | with_reducible refine law_ite ?_ ?_
          | split
          | dsimp only
    | _ => exact law_stuck
  · exact law_stuck
theorem law_complex_ {P : Program} {u : Array TypeId} {t : TypeId} {args : Array Value} : Law P TT (Go.Builtin.complex_ u t args) := by
  unfold Go.Builtin.complex_
  rcases args with ⟨_ | ⟨v, _ | ⟨b, _ | ⟨c, l⟩⟩⟩⟩
  · exact law_stuck
  · cases v <;> exact law_stuck
  · cases v <;> cases b <;> first | exact law_stuck | exact law_ite law_pure law_stuck
  · cases v <;> cases b <;> exact law_stuck
open Go.Builtin in
theorem law_copy_ {P : Program} {argTypes : Array TypeId} {u_type : TypeId} {args : Array Value} : Law P TT (Go.Builtin.copy_ argTypes u_type args) := by
  unfold Go.Builtin.copy_
  repeat' first
    | with_reducible exact law_pure
    | with_reducible exact law_stuck
    | with_reducible exact law_underlying
    | with_reducible exact law_sizeOf
    | with_reducible exact law_storeCells
    | with_reducible exact law_slice
    | with_reducible exact law_lenOf
    | with_reducible exact law_firstCells
    | with_reducible refine law_bind ?_ fun _ => ?_
    | with_reducible refine law_ite ?_ ?_
    | split
    | dsimp only
open Go.Builtin in
theorem law_delete_ {P : Program} {argTypes : Array TypeId} {u_type : TypeId} {args : Array Value} : Law P TT (Go.Builtin.delete_ argTypes u_type args) := by
  unfold Go.Builtin.delete_
  repeat' first
    | with_reducible exact law_pure
    | with_reducible exact law_getObj
    | with_reducible exact law_setObj
    | with_reducible exact law_stuck
    | with_reducible exact law_underlying
    | with_reducible exact law_checkKey
    | with_reducible exact law_findKey
    | with_reducible refine law_bind ?_ fun _ => ?_
    | with_reducible refine law_ite ?_ ?_
    | split
    | dsimp only
theorem law_imag_ {P : Program} {u : Array TypeId} {t : TypeId} {args : Array Value} : Law P TT (Go.Builtin.imag_ u t args) := by
  unfold Go.Builtin.imag_
  rcases args with ⟨_ | ⟨v, _ | ⟨b, l⟩⟩⟩
  · exact law_stuck
  · cases v <;> first | exact law_pure | exact law_stuck
  · cases v <;> exact law_stuck
open Go.Builtin in
theorem law_len_ {P : Program} {argTypes : Array TypeId} {u_type : TypeId} {args : Array Value} : Law P TT (Go.Builtin.len_ argTypes u_type args) := by
  unfold Go.Builtin.len_
  repeat' first
    | with_reducible exact law_pure
    | with_reducible exact law_getObj
    | with_reducible exact law_stuck
    | with_reducible exact law_underlying
    | with_reducible exact law_slice
    | with_reducible refine law_bind ?_ fun _ => ?_
    | with_reducible refine law_ite ?_ ?_
    | split
    | dsimp only
open Go.Builtin in
theorem law_max2 {P : Program} {y0 : Value} {y1 : Value} : Law P TT (Go.Builtin.max2 y0 y1) := by
  unfold Go.Builtin.max2
  repeat' first
    | with_reducible exact law_pure
    | with_reducible exact law_choose
    | with_reducible exact law_stuck
    | with_reducible exact law_unsupported
    | with_reducible exact law_asBool
    | with_reducible exact law_stringOp
    | with_reducible refine law_bind ?_ fun _ => ?_
    | with_reducible refine law_ite ?_ ?_
    | split
    | dsimp only
theorem law_max_ {P : Program} {t : Array TypeId} {ty : TypeId} {args : Array Value} : Law P TT (Go.Builtin.max_ t ty args) := by
  unfold Go.Builtin.max_
  split
  · exact law_stuck
  · exact law_foldList _ (fun _ _ => law_max2) _
open Go.Builtin in
theorem law_min2 {P : Program} {y0 : Value} {y1 : Value} : Law P TT (Go.Builtin.min2 y0 y1) := by
  unfold Go.Builtin.min2
  repeat' first
    | with_reducible exact law_pure
    | with_reducible exact law_choose
    | with_reducible exact law_stuck
    | with_reducible exact law_unsupported
    | with_reducible exact law_asBool
    | with_reducible exact law_stringOp
    | with_reducible refine law_bind ?_ fun _ => ?_
    | with_reducible refine law_ite ?_ ?_
    | split
    | dsimp only
theorem law_min_ {P : Program} {t : Array TypeId} {ty : TypeId} {args : Array Value} : Law P TT (Go.Builtin.min_ t ty args) := by
  unfold Go.Builtin.min_
  split
  · exact law_stuck
  · exact law_foldList _ (fun _ _ => law_min2) _
theorem law_real_ {P : Program} {u : Array TypeId} {t : TypeId} {args : Array Value} : Law P TT (Go.Builtin.real_ u t args) := by
  unfold Go.Builtin.real_
  rcases args with ⟨_ | ⟨v, _ | ⟨b, l⟩⟩⟩
  · exact law_stuck
  · cases v <;> first | exact law_pure | exact law_stuck
  · cases v <;> exact law_stuck
theorem law_ssaWrapNilChk_ {P : Program} {u : Array TypeId} {t : TypeId} {args : Array Value} : Law P TT (Go.Builtin.ssaWrapNilChk_ u t args) := by
  unfold Go.Builtin.ssaWrapNilChk_
  rcases args with ⟨_ | ⟨v, _ | ⟨b, _ | ⟨c, _ | ⟨d, l⟩⟩⟩⟩⟩
  · exact law_stuck
  · cases v <;> exact law_stuck
  · cases v <;> cases b <;> exact law_stuck
  · cases b with
    | string s =>
      cases c with
      | string m =>
        cases v with
        | pointer r =>
          cases r with
          | some a => exact law_pure
          | none =>
            refine law_bind (law_choose (q := .extern "ssa:wrapnilchk.dereferenced" 2)) fun n => ?_
            repeat' first
              | with_reducible exact law_pure
              | with_reducible exact law_choose
              | with_reducible exact law_stuck
              | with_reducible exact law_unsupported
              | with_reducible exact law_rtp
              | with_reducible exact law_typeInfo
              | with_reducible exact law_underlying
              | with_reducible refine law_bind ?_ fun _ => ?_
              | with_reducible refine law_ite ?_ ?_
              | split
              | dsimp only
        | _ => exact law_stuck
      | _ => cases v <;> exact law_stuck
    | _ => cases v <;> exact law_stuck
  · cases v <;> cases b <;> cases c <;> exact law_stuck
theorem law_unsafeSlice_ {P : Program} {u : Array TypeId} {t : TypeId} {args : Array Value} : Law P TT (Go.Builtin.unsafeSlice_ u t args) := by
  unfold Go.Builtin.unsafeSlice_
  rcases args with ⟨_ | ⟨v, _ | ⟨b, _ | ⟨c, l⟩⟩⟩⟩
  · exact law_stuck
  · cases v <;> exact law_stuck
  · cases v with
    | pointer r =>
      refine law_bind (law_asInt (v := b)) fun n => ?_
      repeat' first
        | with_reducible exact law_pure
        | with_reducible exact law_newObj
        | with_reducible exact law_program
        | with_reducible exact law_stuck
        | with_reducible exact law_unsupported
        | with_reducible exact law_rtp
        | with_reducible exact law_viewAt
        | with_reducible exact law_typeInfo
        | with_reducible exact law_sizeOf
        | with_reducible exact law_elemOf
        | with_reducible exact law_asInt
        | with_reducible exact law_variablesAt
        | with_reducible exact law_slice
        | with_reducible exact law_range
        | with_reducible exact law_len_
        | with_reducible refine law_bind ?_ fun _ => ?_
        | with_reducible refine law_ite ?_ ?_
        | split
        | dsimp only
    | _ => exact law_stuck
  · cases v <;> exact law_stuck
theorem law_unsafeSliceData_ {P : Program} {u : Array TypeId} {t : TypeId} {args : Array Value} : Law P TT (Go.Builtin.unsafeSliceData_ u t args) := by
  unfold Go.Builtin.unsafeSliceData_
  rcases args with ⟨_ | ⟨v, _ | ⟨b, l⟩⟩⟩
  · exact law_stuck
  · cases v with
    | slice a n c =>
      cases a with
      | none => exact law_pure
      | some a =>
        refine law_ite law_pure (law_bind (law_viewAt (r := a.block)) fun o => ?_)
        repeat' first
          | with_reducible exact law_pure
          | with_reducible exact law_newObj
          | with_reducible exact law_stuck
          | with_reducible exact law_viewAt
          | with_reducible exact law_elemOf
          | with_reducible exact law_slice
          | with_reducible refine law_bind ?_ fun _ => ?_
          | with_reducible refine law_ite ?_ ?_
          | split
          | dsimp only
    | _ => exact law_stuck
  · cases v <;> exact law_stuck
theorem law_unsafeString_ {P : Program} {u : Array TypeId} {t : TypeId} {args : Array Value} : Law P TT (Go.Builtin.unsafeString_ u t args) := by
  unfold Go.Builtin.unsafeString_
  rcases args with ⟨_ | ⟨v, _ | ⟨b, _ | ⟨c, l⟩⟩⟩⟩
  · exact law_stuck
  · cases v <;> exact law_stuck
  · cases v with
    | pointer r =>
      refine law_bind (law_asInt (v := b)) fun n => ?_
      repeat' first
        | with_reducible exact law_pure
        | with_reducible exact law_freeze
        | with_reducible exact law_stuck
        | with_reducible exact law_unsupported
        | with_reducible exact law_rtp
        | with_reducible exact law_elemOf
        | with_reducible exact law_asInt
        | with_reducible exact law_variablesAt
        | with_reducible exact law_loadBytes
        | with_reducible exact law_range
        | with_reducible exact law_len_
        | with_reducible refine law_bind ?_ fun _ => ?_
        | with_reducible refine law_ite ?_ ?_
        | split
        | dsimp only
    | _ => exact law_stuck
  · cases v <;> exact law_stuck
theorem law_unsafeStringData_ {P : Program} {u : Array TypeId} {t : TypeId} {args : Array Value} : Law P TT (Go.Builtin.unsafeStringData_ u t args) := by
  unfold Go.Builtin.unsafeStringData_
  rcases args with ⟨_ | ⟨v, _ | ⟨b, l⟩⟩⟩
  · exact law_stuck
  · cases v with
    | string s =>
      refine law_ite (law_bind (law_choose (q := .extern "unsafe.StringData.empty" 2)) fun o => ?_) ?_ <;>
      repeat' first
        | with_reducible exact law_pure
        | with_reducible exact law_freeze
        | with_reducible exact law_choose
        | with_reducible exact law_stuck
        | with_reducible exact law_markStringish
        | with_reducible exact law_newRow
        | with_reducible exact law_elemOf
        | with_reducible refine law_bind ?_ fun _ => ?_
        | with_reducible refine law_ite ?_ ?_
        | split
        | dsimp only
    | _ => exact law_stuck
  · cases v <;> exact law_stuck
theorem law_Place_get {P : Program} {t : TypeId} {y0 : Place} : Law P TT (Go.Place.get t y0) := by
  unfold Go.Place.get
  repeat' first
    | with_reducible exact law_pure
    | with_reducible exact law_loadVar
    | with_reducible refine law_bind ?_ fun _ => ?_
    | with_reducible refine law_ite ?_ ?_
    | split
    | dsimp only
open Go.Instr in
theorem law_follow {P : Program} {l : List FieldStep} {t : TypeId} {x : Place} : Law P TT (follow l t x) := by
  induction l generalizing t x with
  | nil => exact law_pure
  | cons e es ih =>
    unfold follow
    repeat' first
      | with_reducible exact law_pure
      | with_reducible exact ih
      | with_reducible exact law_stuck
      | with_reducible exact law_underlying
      | with_reducible exact law_part
      | with_reducible exact law_asAddr
      | with_reducible exact law_fieldPlace
      | with_reducible exact law_field
      | with_reducible exact law_index
      | with_reducible exact law_Place_get
      | with_reducible refine law_bind ?_ fun _ => ?_
      | with_reducible refine law_ite ?_ ?_
      | split
      | dsimp only
theorem law_receiverAt {P : Program} {xt : TypeId} {x : Place} {pointerReceiver : Bool} {wrapper : Option String} : Law P TT (Go.receiverAt xt x pointerReceiver wrapper) := by
  unfold Go.receiverAt
  repeat' first
    | with_reducible exact law_pure
    | with_reducible exact law_stuck
    | with_reducible exact law_underlying
    | with_reducible exact law_loadVar
    | with_reducible exact law_asAddr
    | with_reducible exact law_ssaWrapNilChk_
    | with_reducible exact law_Place_get
    | with_reducible refine law_bind ?_ fun _ => ?_
    | with_reducible refine law_ite ?_ ?_
    | split
    | dsimp only
theorem law_receiverVia {P : Program} {t : TypeId} {v : Value} {path : Array FieldStep} {pointerReceiver : Bool} : Law P TT (Go.receiverVia t v path pointerReceiver) := by
  unfold Go.receiverVia
  repeat' first
    | with_reducible exact law_pure
    | with_reducible exact law_follow
    | with_reducible exact law_receiverAt
    | with_reducible refine law_bind ?_ fun _ => ?_
    | with_reducible refine law_ite ?_ ?_
    | split
    | dsimp only
open Go.Instr in
theorem law_method {P : Program} {n : Nat} {t : TypeId} {x : Value} {s : String} : Law P TT (method n t x s) := by
  induction n generalizing t x with
  | zero => exact law_unsupported
  | succ n ih =>
    unfold method
    repeat' first
      | with_reducible exact law_pure
      | with_reducible exact ih
      | with_reducible exact law_stuck
      | with_reducible exact law_unsupported
      | with_reducible exact law_rtp
      | with_reducible exact law_typeInfo
      | with_reducible exact law_Place_get
      | with_reducible exact law_follow
      | with_reducible exact law_receiverAt
      | with_reducible refine law_bind ?_ fun _ => ?_
      | with_reducible refine law_ite ?_ ?_
      | split
      | dsimp only
open Go.Instr in
theorem law_followBlind {P : Program} {l : List FieldStep} {t : TypeId} {x : Option Value} : Law P TT (followBlind l t x) := by
  induction l generalizing t x with
  | nil => exact law_pure
  | cons e es ih =>
    unfold followBlind
    repeat' first
      | with_reducible exact law_pure
      | with_reducible exact ih
      | with_reducible exact law_stuck
      | with_reducible exact law_underlying
      | with_reducible exact law_part
      | with_reducible exact law_field
      | with_reducible exact law_index
      | with_reducible exact law_method
      | with_reducible refine law_bind ?_ fun _ => ?_
      | with_reducible refine law_ite ?_ ?_
      | split
      | dsimp only
open Go.Instr in
theorem law_nilAhead {P : Program} {n : Nat} {t : TypeId} {x : Value} {s : String} : Law P TT (nilAhead n t x s) := by
  induction n generalizing t x with
  | zero => exact law_pure
  | succ n ih =>
    unfold nilAhead
    repeat' first
      | with_reducible exact law_pure
      | with_reducible exact ih
      | with_reducible exact law_stuck
      | with_reducible exact law_typeInfo
      | with_reducible exact law_underlying
      | with_reducible exact law_method
      | with_reducible exact law_followBlind
      | with_reducible refine law_bind ?_ fun _ => ?_
      | with_reducible refine law_ite ?_ ?_
      | split
      | dsimp only
open Go.Instr in
theorem law_getLoop {P : Program} {l : Nat} : Law P TT (Go.Instr.getLoop l) := by
  unfold Go.Instr.getLoop
  repeat' first
    | with_reducible exact law_pure
    | with_reducible exact law_getObj
    | with_reducible exact law_stuck
    | with_reducible exact law_range
    | with_reducible refine law_bind ?_ fun _ => ?_
    | with_reducible refine law_ite ?_ ?_
    | split
    | dsimp only
open Go.Instr in
theorem law_enterLoop {P : Program} {fn : FuncId} {tmps : Array Value} {params : Array Tmp} {assign : Code} {body : Code} {around : Option Nat} : Law P TT (Go.Instr.enterLoop fn tmps params assign body around) := by
  unfold Go.Instr.enterLoop
  repeat' first
    | with_reducible exact law_pure
    | with_reducible exact law_newObj
    | with_reducible exact law_ready
    | with_reducible exact law_getLoop
    | with_reducible refine law_bind ?_ fun _ => ?_
    | with_reducible refine law_ite ?_ ?_
    | split
    | dsimp only
open Go.Instr in
theorem law_beginRound {P : Program} {l : Nat} : Law P TT (Go.Instr.beginRound l) := by
  unfold Go.Instr.beginRound
  repeat' first
    | with_reducible exact law_pure
    | with_reducible exact law_setObj
    | with_reducible exact law_rtp
    | with_reducible exact law_ready
    | with_reducible exact law_range
    | with_reducible exact law_getLoop
    | with_reducible refine law_bind ?_ fun _ => ?_
    | with_reducible refine law_forList _ fun _ _ => ?_
    | with_reducible refine law_forArr _ fun _ _ => ?_
    | with_reducible refine law_forRange _ fun _ _ => ?_
    | with_reducible refine law_ite ?_ ?_
    | split
    | dsimp only
open Go.Instr in
theorem law_endRound {P : Program} {l : Nat} {jump : Option Code} : Law P TT (Go.Instr.endRound l jump) := by
  unfold Go.Instr.endRound
  repeat' first
    | with_reducible exact law_pure
    | with_reducible exact law_setObj
    | with_reducible exact law_ready
    | with_reducible exact law_getLoop
    | with_reducible refine law_bind ?_ fun _ => ?_
    | with_reducible refine law_ite ?_ ?_
    | split
    | dsimp only
open Go.Instr in
theorem law_endLoop {P : Program} {l : Nat} : Law P TT (Go.Instr.endLoop l) := by
  unfold Go.Instr.endLoop
  repeat' first
    | with_reducible exact law_pure
    | with_reducible exact law_setObj
    | with_reducible exact law_rtp
    | with_reducible exact law_range
    | with_reducible exact law_getLoop
    | with_reducible refine law_bind ?_ fun _ => ?_
    | with_reducible refine law_ite ?_ ?_
    | split
    | dsimp only
open Go.Instr in
theorem law_deferInRound {P : Program} {l : Nat} {d : Deferred} : Law P TT (Go.Instr.deferInRound l d) := by
  unfold Go.Instr.deferInRound
  repeat' first
    | with_reducible exact law_pure
    | with_reducible exact law_getObj
    | with_reducible exact law_setObj
    | with_reducible exact law_stuck
    | with_reducible exact law_throw
    | with_reducible exact law_range
    | with_reducible exact law_getLoop
    | with_reducible refine law_bind ?_ fun _ => ?_
    | with_reducible refine law_forList _ fun _ _ => ?_
    | with_reducible refine law_forArr _ fun _ _ => ?_
    | with_reducible refine law_forRange _ fun _ _ => ?_
    | with_reducible refine law_ite ?_ ?_
    | split
    | dsimp only
open Go.Instr in
theorem law_takeDeferred {P : Program} {block : Nat} : Law P TT (Go.Instr.takeDeferred block) := by
  unfold Go.Instr.takeDeferred
  repeat' first
    | with_reducible exact law_pure
    | with_reducible exact law_getObj
    | with_reducible exact law_setObj
    | with_reducible exact law_stuck
    | with_reducible exact law_range
    | with_reducible refine law_bind ?_ fun _ => ?_
    | with_reducible refine law_ite ?_ ?_
    | split
    | dsimp only
open Go.Instr in
theorem law_panicnil {P : Program}  : Law P TT (Go.Instr.panicnil) := by
  unfold Go.Instr.panicnil
  repeat' first
    | with_reducible exact law_pure
    | with_reducible exact law_env
    | with_reducible exact law_program
    | with_reducible exact law_stuck
    | with_reducible exact law_extract
    | with_reducible refine law_bind ?_ fun _ => ?_
    | with_reducible refine law_ite ?_ ?_
    | split
    | dsimp only
open Go.Instr in
theorem law_panic {P : Program} {x : Value} : Law P TT (Go.Instr.panic x) := by
  unfold Go.Instr.panic
  repeat' first
    | with_reducible exact law_pure
    | with_reducible exact law_stuck
    | with_reducible exact law_goPanic
    | with_reducible exact law_rtp
    | with_reducible exact law_panicnil
    | with_reducible refine law_bind ?_ fun _ => ?_
    | with_reducible refine law_ite ?_ ?_
    | split
    | dsimp only
open Go.Conv in
theorem law_intToInt {P : Program} {dst : IntKind} {n : Int} : Law P TT (Go.Conv.intToInt dst n) := by
  unfold Go.Conv.intToInt
  repeat' first
    | with_reducible exact law_pure
    | with_reducible refine law_bind ?_ fun _ => ?_
    | with_reducible refine law_ite ?_ ?_
    | split
    | dsimp only
open Go.Conv in
theorem law_intToFloat {P : Program} {dst : FloatKind} {n : Int} : Law P TT (Go.Conv.intToFloat dst n) := by
  unfold Go.Conv.intToFloat
  repeat' first
    | with_reducible exact law_pure
    | with_reducible refine law_bind ?_ fun _ => ?_
    | with_reducible refine law_ite ?_ ?_
    | split
    | dsimp only
open Go.Conv in
theorem law_floatToInt {P : Program} {src : FloatKind} {bits : Nat} {dst : IntKind} : Law P TT (Go.Conv.floatToInt src bits dst) := by
  unfold Go.Conv.floatToInt
  repeat' first
    | with_reducible exact law_pure
    | with_reducible exact law_choose
    | with_reducible refine law_bind ?_ fun _ => ?_
    | with_reducible refine law_ite ?_ ?_
    | split
    | dsimp only
open Go.Conv in
theorem law_floatToFloat {P : Program} {src : FloatKind} {bits : Nat} {dst : FloatKind} : Law P TT (Go.Conv.floatToFloat src bits dst) := by
  unfold Go.Conv.floatToFloat
  repeat' first
    | with_reducible exact law_pure
    | with_reducible exact law_choose
    | with_reducible refine law_bind ?_ fun _ => ?_
    | with_reducible refine law_ite ?_ ?_
    | split
    | dsimp only
open Go.Conv in
theorem law_complexToComplex {P : Program} {src : FloatKind} {re : Nat} {im : Nat} {dst : FloatKind} : Law P TT (Go.Conv.complexToComplex src re im dst) := by
  unfold Go.Conv.complexToComplex
  repeat' first
    | with_reducible exact law_pure
    | with_reducible exact law_stuck
    | with_reducible exact law_floatToFloat
    | with_reducible refine law_bind ?_ fun _ => ?_
    | with_reducible refine law_ite ?_ ?_
    | split
    | dsimp only
open Go.Conv in
theorem law_intToString {P : Program} {n : Int} : Law P TT (Go.Conv.intToString n) := by
  unfold Go.Conv.intToString
  repeat' first
    | with_reducible exact law_pure
    | with_reducible refine law_bind ?_ fun _ => ?_
    | with_reducible refine law_ite ?_ ?_
    | split
    | dsimp only
open Go.Conv in
theorem law_stringToBytes {P : Program} {elem : TypeId} {s : ByteArray} : Law P TT (Go.Conv.stringToBytes elem s) := by
  unfold Go.Conv.stringToBytes
  repeat' first
    | with_reducible exact law_pure
    | with_reducible exact law_choose
    | with_reducible exact law_markStringish
    | with_reducible exact law_newRow
    | with_reducible exact law_slice
    | with_reducible refine law_bind ?_ fun _ => ?_
    | with_reducible refine law_ite ?_ ?_
    | split
    | dsimp only
open Go.Conv in
theorem law_bytesToString {P : Program} {x : Value} : Law P TT (Go.Conv.bytesToString x) := by
  unfold Go.Conv.bytesToString
  repeat' first
    | with_reducible exact law_pure
    | with_reducible exact law_stuck
    | with_reducible exact law_loadCells
    | with_reducible exact law_slice
    | with_reducible refine law_bind ?_ fun _ => ?_
    | with_reducible refine law_forList _ fun _ _ => ?_
    | with_reducible refine law_forArr _ fun _ _ => ?_
    | with_reducible refine law_forRange _ fun _ _ => ?_
    | with_reducible refine law_ite ?_ ?_
    | split
    | dsimp only
open Go.Conv in
theorem law_stringToRunes {P : Program} {elem : TypeId} {s : ByteArray} : Law P TT (Go.Conv.stringToRunes elem s) := by
  unfold Go.Conv.stringToRunes
  repeat' first
    | with_reducible exact law_pure
    | with_reducible exact law_choose
    | with_reducible exact law_newRow
    | with_reducible exact law_slice
    | with_reducible refine law_bind ?_ fun _ => ?_
    | with_reducible refine law_ite ?_ ?_
    | split
    | dsimp only
open Go.Conv in
theorem law_runesToString {P : Program} {x : Value} : Law P TT (Go.Conv.runesToString x) := by
  unfold Go.Conv.runesToString
  repeat' first
    | with_reducible exact law_pure
    | with_reducible exact law_stuck
    | with_reducible exact law_loadCells
    | with_reducible exact law_slice
    | with_reducible refine law_bind ?_ fun _ => ?_
    | with_reducible refine law_forList _ fun _ _ => ?_
    | with_reducible refine law_forArr _ fun _ _ => ?_
    | with_reducible refine law_forRange _ fun _ _ => ?_
    | with_reducible refine law_ite ?_ ?_
    | split
    | dsimp only
open Go.Conv in
theorem law_seenAt {P : Program} {a : Addr} : Law P TT (Go.Conv.seenAt a) := by
  unfold Go.Conv.seenAt
  repeat' first
    | with_reducible exact law_pure
    | with_reducible exact law_shape
    | with_reducible exact law_program
    | with_reducible exact law_unsupported
    | with_reducible exact law_viewAt
    | with_reducible refine law_bind ?_ fun _ => ?_
    | with_reducible refine law_ite ?_ ?_
    | split
    | dsimp only
open Go.Conv in
theorem law_unsafePointer {P : Program} {src : TypeId} {dst : TypeId} {x : Value} : Law P TT (Go.Conv.unsafePointer src dst x) := by
  unfold Go.Conv.unsafePointer
  repeat' first
    | with_reducible exact law_pure
    | with_reducible exact law_newObj
    | with_reducible exact law_shape
    | with_reducible exact law_program
    | with_reducible exact law_stuck
    | with_reducible exact law_unsupported
    | with_reducible exact law_cellsIn
    | with_reducible exact law_asNumber
    | with_reducible exact law_underlying
    | with_reducible exact law_sizeOf
    | with_reducible exact law_variablesAt
    | with_reducible exact law_waits
    | with_reducible exact law_seenAt
    | with_reducible refine law_bind ?_ fun _ => ?_
    | with_reducible refine law_forList _ fun _ _ => ?_
    | with_reducible refine law_forArr _ fun _ _ => ?_
    | with_reducible refine law_forRange _ fun _ _ => ?_
    | with_reducible refine law_ite ?_ ?_
    | split
    | dsimp only
open Go.Op in
theorem law_arith {P : Program} {op : BinOp} {k : FloatKind} {x : Nat} {y : Nat} : Law P TT (Go.Op.Complex.arith op k x y) := by
  unfold Go.Op.Complex.arith
  repeat' first
    | with_reducible exact law_pure
    | with_reducible exact law_stuck
    | with_reducible exact law_floatArith
    | with_reducible refine law_bind ?_ fun _ => ?_
    | with_reducible refine law_ite ?_ ?_
    | split
    | dsimp only
open Go.Op in
theorem law_cmp {P : Program} {op : BinOp} {k : FloatKind} {x : Nat} {y : Nat} : Law P TT (Go.Op.Complex.cmp op k x y) := by
  unfold Go.Op.Complex.cmp
  repeat' first
    | with_reducible exact law_pure
    | with_reducible exact law_asBool
    | with_reducible exact law_floatCmp
    | with_reducible refine law_bind ?_ fun _ => ?_
    | with_reducible refine law_ite ?_ ?_
    | split
    | dsimp only
open Go.Op in
theorem law_conv {P : Program} {src : FloatKind} {x : Nat} {dst : FloatKind} : Law P TT (Go.Op.Complex.conv src x dst) := by
  unfold Go.Op.Complex.conv
  repeat' first
    | with_reducible exact law_pure
    | with_reducible exact law_stuck
    | with_reducible exact law_floatToFloat
    | with_reducible refine law_bind ?_ fun _ => ?_
    | with_reducible refine law_ite ?_ ?_
    | split
    | dsimp only
theorem law_cadd {P : Program} {x y : Nat} : Law P TT (Go.Op.Complex.add x y) := law_arith
theorem law_csub {P : Program} {x y : Nat} : Law P TT (Go.Op.Complex.sub x y) := law_arith
theorem law_cmul {P : Program} {x y : Nat} : Law P TT (Go.Op.Complex.mul x y) := law_arith
theorem law_cquo {P : Program} {x y : Nat} : Law P TT (Go.Op.Complex.quo x y) := law_arith
theorem law_product {P : Program} {a b c d : Nat} : Law P TT (Go.Op.Complex.product a b c d) := by
  unfold Go.Op.Complex.product
  repeat' first
    | with_reducible exact law_pure
    | with_reducible exact law_cadd
    | with_reducible exact law_csub
    | with_reducible exact law_cmul
    | with_reducible exact law_cquo
    | with_reducible refine law_bind ?_ fun _ => ?_
    | with_reducible refine law_ite ?_ ?_
    | split
    | dsimp only
open Go.Op in
theorem law_corrected {P : Program} {scale : Nat} {a : Nat} {b : Nat} {c : Nat} {d : Nat} : Law P TT (Go.Op.Complex.corrected scale a b c d) := by
  unfold Go.Op.Complex.corrected
  repeat' first
    | with_reducible exact law_pure
    | with_reducible exact law_cadd
    | with_reducible exact law_csub
    | with_reducible exact law_cmul
    | with_reducible refine law_bind ?_ fun _ => ?_
    | with_reducible refine law_ite ?_ ?_
    | split
    | dsimp only
open Go.Op in
theorem law_quotient {P : Program} {a : Nat} {b : Nat} {c : Nat} {d : Nat} : Law P TT (Go.Op.Complex.quotient a b c d) := by
  unfold Go.Op.Complex.quotient
  repeat' first
    | with_reducible exact law_pure
    | with_reducible exact law_cmp
    | with_reducible exact law_cadd
    | with_reducible exact law_csub
    | with_reducible exact law_cmul
    | with_reducible exact law_cquo
    | with_reducible exact law_corrected
    | with_reducible refine law_bind ?_ fun _ => ?_
    | with_reducible refine law_ite ?_ ?_
    | split
    | dsimp only
open Go.Op in
theorem law_complexOp {P : Program} {op : BinOp} {k : FloatKind} {xr : Nat} {xi : Nat} {yr : Nat} {yi : Nat} : Law P TT (Go.Op.complexOp op k xr xi yr yi) := by
  unfold Go.Op.complexOp
  repeat' first
    | with_reducible exact law_pure
    | with_reducible exact law_stuck
    | with_reducible exact law_arith
    | with_reducible exact law_cmp
    | with_reducible exact law_conv
    | with_reducible exact law_product
    | with_reducible exact law_cadd
    | with_reducible exact law_csub
    | with_reducible exact law_cmul
    | with_reducible exact law_cquo
    | with_reducible exact law_quotient
    | with_reducible refine law_bind ?_ fun _ => ?_
    | with_reducible refine law_ite ?_ ?_
    | split
    | dsimp only
end Go.Proofs.Ytndncmjhpbjcoaa

/- What an operation comes to, in a program each of whose functions has a body: the law of LonA, and the kinds of what may come next. -/
namespace Go.Proofs.Ytndncmjhpbjcoaa
open Go

def NxOk : Next → Prop
  | .value _ | .skip | .enter _ _ | .round _ _ _ _ _ | .defer _ | .recover | .spawn _ | .comm _ _ _ => True
  | .coroswitch _ x => x = true
  | _ => False
def Bodied (P : Program) : Prop := ∀ fn ∈ P.funcs, fn.name ≠ "runtime.NumGoroutine" ∧ (fn.body.isSome = true ∨ (Extern.findNext fn = none ∧ ∀ e, Extern.find fn = some e → ∀ args, Law P TT (e args)))
section
variable {α β : Type} {P : Program}
theorem lawb {N : β → Prop} {x : Sem α} {f : α → Sem β} (hx : Law P TT x) (hf : ∀ a, Law P N (f a)) : Law P N (x >>= f) := Law.bind hx fun a _ => hf a
theorem lawp {N : β → Prop} {f : Program → Sem β} (h : Law P N (f P)) : Law P N (program >>= f) := Law.bind (N := fun p => p = P) (Law.program (Law.pure rfl)) fun p e => by rw [e]; exact h
theorem law_rtpN {N : α → Prop} {e : RuntimeError} : Law P N (runtimePanic e : Sem α) := by
  unfold runtimePanic
  with_reducible refine lawb law_program fun p => ?_
  dsimp only
  cases e with
  | typeAssertion i c a m => with_reducible exact lawb law_elemOf fun _ => lawb law_newVar fun _ => Law.halt
  | panicNil => with_reducible exact lawb law_elemOf fun _ => lawb law_newVar fun _ => Law.halt
  | _ => exact Law.halt
theorem law_printOne {t : TypeId} {v : Value} : Law P TT (Builtin.printOne t v) := by
  unfold Builtin.printOne
  repeat' first
    | with_reducible exact law_pure
    | with_reducible exact law_unsupported
    | with_reducible exact law_stuck
    | with_reducible exact law_typeInfo
    | with_reducible refine law_bind ?_ fun _ => ?_
    | with_reducible refine law_ite ?_ ?_
    | split
    | dsimp only
theorem law_forList' {xs : List β} {f : (b : β) → b ∈ xs → α → Sem (ForInStep α)} (init : α) (h : ∀ b m a, Law P TT (f b m a)) : Law P TT (forIn' xs init f) := by
  induction xs generalizing init with
  | nil => exact law_pure
  | cons x xs ih =>
    rw [List.forIn'_cons]
    refine law_bind (h _ _ _) fun s => ?_
    cases s with
    | done b => exact law_pure
    | yield b => exact ih b fun b m a => h _ _ _
theorem law_forRange' {r : Std.Legacy.Range} {f : (i : Nat) → i ∈ r → α → Sem (ForInStep α)} (init : α) (h : ∀ b m a, Law P TT (f b m a)) : Law P TT (forIn' r init f) := by
  rw [Std.Legacy.Range.forIn'_eq_forIn'_range']
  exact law_forList' init fun b m a => h _ _ _
theorem law_pieces {ln : Bool} {cs : Array Bool} {ts : Array TypeId} {vs : Array Value} : Law P TT (Builtin.pieces ln cs ts vs) := by
  unfold Builtin.pieces
  repeat' first
    | with_reducible exact law_pure
    | with_reducible exact law_unsupported
    | with_reducible exact law_stuck
    | with_reducible exact law_printOne
    | with_reducible refine law_bind ?_ fun _ => ?_
    | with_reducible refine law_ite ?_ ?_
    | with_reducible refine law_forArr _ fun _ _ => ?_
    | with_reducible refine law_forRange' _ fun _ _ _ => ?_
    | split
    | dsimp only
theorem law_piece {ps : Array Value} {M : Next → Prop} : Law P M (Extern.PrintPieces.piece #[] #[] (#[.bool true] ++ ps)) := by
  unfold Extern.PrintPieces.piece Extern.PrintPieces.held
  rw [show (#[Value.bool true] ++ ps)[0]? = some (.bool true) by simp [Array.getElem?_append]]
  dsimp only
  cases hp : (#[Value.bool true] ++ ps)[1]? with
  | none => exact Law.halt
  | some v =>
    cases v with
    | string p =>
      dsimp only
      split
      · exact Law.halt
      · rw [if_pos rfl]
        -- behind the first mark nothing is ever kept: the write ends it
        have wr : ∀ (f : Unit → Sem Next), NLoud P ((writeFd 2 p).bind f) := fun f => NLoud.write
        have wl : ∀ (f : Unit → Sem Next), Law P M ((writeFd 2 p).bind f) := fun f => Law.write
        have k2 : ∀ (f : Unit → Sem Next), NLoud P ((mark .enable).bind fun _ => (writeFd 2 p).bind f) := fun f => NLoud.mark (wr f)
        have l2 : ∀ (f : Unit → Sem Next), Law P M ((mark .enable).bind fun _ => (writeFd 2 p).bind f) := fun f => Law.mark (wl f) (wr f)
        have blk : NLoud P (Sem.halt .blocked : Sem Next) := fun w es mu h => h
        refine Law.mark ?_ ?_
        · refine Law.program (Law.load fun v => ?_)
          cases v with
          | bool b =>
            cases b with
            | true => exact Law.halt
            | false =>
              show Law P M (if _ then _ else _)
              split
              · exact Law.program (Law.store (l2 _))
              · exact l2 _
          | _ => exact Law.halt
        · refine fun w es mu => ?_
          refine NLoud.load (P := P) (m := .atomic) (a := printLock P) (fun v => ?_) w es mu
          cases v with
          | bool b =>
            cases b with
            | true => exact blk
            | false =>
              show NLoud P (if _ then _ else _)
              split
              · exact fun w es mu => NLoud.store (m := .atomic) (a := printLock P) (v := .bool true) (k2 _) w es mu
              · exact k2 _
          | _ => exact fun w es mu h => h
    | _ => exact Law.halt
theorem law_movedNumber {t : TypeId} {a b : Value} : Law P TT (movedNumber t a b) := by
  unfold movedNumber
  repeat' first
    | with_reducible exact law_pure
    | with_reducible exact law_pure
    | with_reducible exact law_unsupported
    | with_reducible exact law_asNumber
    | with_reducible exact law_behindNumber
    | with_reducible exact law_underlying
    | with_reducible exact law_unsafeAdd_
    | with_reducible exact law_unsafePointer
    | with_reducible refine law_bind ?_ fun _ => ?_
    | with_reducible refine law_ite ?_ ?_
    | split
    | dsimp only
theorem law_movedPointer {t : TypeId} {a b : Value} : Law P TT (movedPointer t a b) := by
  unfold movedPointer
  repeat' first
    | with_reducible exact law_pure
    | with_reducible exact law_unsupported
    | with_reducible exact law_numberAt
    | with_reducible exact law_unsafeAdd_
    | with_reducible refine law_bind ?_ fun _ => ?_
    | with_reducible refine law_ite ?_ ?_
    | split
    | dsimp only
theorem law_eqGuard {op : BinOp} {t : TypeId} {x y : Operand} {a b : Value} : Law P TT (eqGuard op t x y a b) := by
  unfold eqGuard
  repeat' first
    | with_reducible exact law_pure
    | with_reducible exact law_pure
    | with_reducible exact law_program
    | with_reducible exact law_unsupported
    | with_reducible exact law_part
    | with_reducible exact law_eqGuardIn
    | with_reducible refine law_bind ?_ fun _ => ?_
    | with_reducible refine law_ite ?_ ?_
    | split
    | dsimp only
theorem law_binOp {op : BinOp} {t : TypeId} {a b : Value} : Law P TT (binOp op t a b) := by
  unfold binOp
  repeat' first
    | with_reducible exact law_pure
    | with_reducible exact law_pure
    | with_reducible exact law_stuck
    | with_reducible exact law_unsupported
    | with_reducible exact law_behindNumber
    | with_reducible exact law_underlying
    | with_reducible exact law_intArith
    | with_reducible exact law_intDiv
    | with_reducible exact law_intBits
    | with_reducible exact law_shift
    | with_reducible exact law_intCmp
    | with_reducible exact law_floatArith
    | with_reducible exact law_floatCmp
    | with_reducible exact law_stringOp
    | with_reducible exact law_addrSub
    | with_reducible exact law_addrCmp
    | with_reducible exact law_addrMod
    | with_reducible exact law_equal
    | with_reducible exact law_unsafePointer
    | with_reducible exact law_complexOp
    | with_reducible exact law_movedNumber
    | with_reducible exact law_movedPointer
    | with_reducible refine law_bind ?_ fun _ => ?_
    | with_reducible refine law_ite ?_ ?_
    | split
    | dsimp only
theorem law_convert {s d : TypeId} {a : Value} : Law P TT (convert s d a) := by
  unfold convert
  repeat' first
    | with_reducible exact law_pure
    | with_reducible exact law_pure
    | with_reducible exact law_stuck
    | with_reducible exact law_unsupported
    | with_reducible exact law_markStringish
    | with_reducible exact law_underlying
    | with_reducible exact law_slice
    | with_reducible exact law_intToInt
    | with_reducible exact law_intToFloat
    | with_reducible exact law_floatToInt
    | with_reducible exact law_floatToFloat
    | with_reducible exact law_complexToComplex
    | with_reducible exact law_intToString
    | with_reducible exact law_stringToBytes
    | with_reducible exact law_bytesToString
    | with_reducible exact law_stringToRunes
    | with_reducible exact law_runesToString
    | with_reducible exact law_unsafePointer
    | with_reducible refine law_bind ?_ fun _ => ?_
    | with_reducible refine law_ite ?_ ?_
    | split
    | dsimp only
theorem law_builtin {b : Builtin} {ts : Array TypeId} {t : TypeId} {cs : Array Bool} {args : Array Value} : Law P NxOk (builtin b ts t cs args) := by
  have pm : ∀ ln, Law P NxOk (Builtin.printMarked ln cs ts args) := fun ln => by
    unfold Builtin.printMarked
    refine lawb law_pieces fun ps => ?_
    split
    · exact Law.pure trivial
    · exact law_piece
  cases b <;> unfold builtin <;> first
    | exact pm _
    | exact Law.pure trivial
    | exact Law.halt
    | (refine lawb ?_ fun _ => Law.pure trivial
       first
         | with_reducible exact law_append_
         | with_reducible exact law_cap_
         | with_reducible exact law_clear_
         | with_reducible exact law_close_
         | with_reducible exact law_complex_
         | with_reducible exact law_copy_
         | with_reducible exact law_delete_
         | with_reducible exact law_imag_
         | with_reducible exact law_len_
         | with_reducible exact law_max_
         | with_reducible exact law_min_
         | with_reducible exact law_panic
         | with_reducible exact law_real_
         | with_reducible exact law_unsafeAdd_
         | with_reducible exact law_unsafeSlice_
         | with_reducible exact law_unsafeSliceData_
         | with_reducible exact law_unsafeString_
         | with_reducible exact law_unsafeStringData_
         | with_reducible exact law_typeInfo)
theorem law_callFunc (hb : Bodied P) {f : FuncId} {args : Array Value} : Law P NxOk (callFunc f args) := by
  unfold callFunc
  with_reducible refine lawp ?_
  cases hf : P.funcs[f]? with
  | none => exact Law.halt
  | some fn =>
    obtain ⟨h2, h1⟩ := hb fn (Array.mem_of_getElem? hf)
    dsimp only
    rw [if_neg (by simpa using h2)]
    by_cases hs : fn.body.isNone = true
    · obtain ⟨h3, h4⟩ := h1.resolve_left (by rw [Option.isNone_iff_eq_none] at hs; rw [hs]; simp)
      rw [if_pos hs]
      refine Law.markX ?_
      show Law P NxOk (match Extern.findNext fn with | some e => e args | _ => _)
      rw [h3]
      dsimp only
      cases he : Extern.find fn with
      | some e => exact lawb (h4 e he args) fun _ => Law.pure trivial
      | none =>
        show Law P NxOk (if _ then _ else _)
        split
        · exact Law.pure trivial
        · exact Law.halt
    · rw [if_neg hs]
      exact Law.pure trivial
theorem law_callMethod (hb : Bodied P) {v : Value} {s : String} {args : Array Value} : Law P NxOk (callMethod v s args) := by
  unfold callMethod
  split
  · with_reducible refine lawp (lawb law_method fun r => ?_)
    exact law_callFunc hb
  · exact law_rtpN
  · exact Law.halt
theorem law_yield {l : Nat} {args : Array Value} : Law P NxOk (Instr.yield l args) := by
  unfold Instr.yield
  refine lawb law_getLoop fun r => ?_
  dsimp only
  split
  · exact Law.bind (N := fun _ => True) Law.halt fun _ _ => Law.pure trivial
  · exact Law.pure trivial
theorem law_invoke (hb : Bodied P) {t : Target} {args : Array Value} : Law P NxOk (invoke t args) := by
  unfold invoke
  split
  · exact law_rtpN
  · exact law_builtin
  · exact law_callFunc hb
  · split
    · exact law_callMethod hb
    · exact Law.halt
  · split
    · refine lawb law_underlying fun d => ?_
      dsimp only
      split <;> exact law_callMethod hb
    · exact Law.halt
  · split
    · exact lawb law_receiverVia fun d => law_callFunc hb
    · exact Law.halt
  · exact law_yield
  · exact Law.halt
  · exact Law.pure rfl
theorem law_resolve {r : Operand → Value} {c : Call} {t : TypeId} : Law P TT (resolve r c t) := by
  unfold resolve Deferred.ofValue
  repeat' first
    | with_reducible exact law_pure
    | with_reducible exact law_stuck
    | with_reducible refine law_bind ?_ fun _ => ?_
    | with_reducible refine law_ite ?_ ?_
    | split
    | dsimp only
theorem law_execOp (hb : Bodied P) {r : Operand → Value} {o : Oper} : Law P NxOk (execOp r o) := by
  unfold execOp
  dsimp only
  cases o.op with
  | call c => exact lawb law_resolve fun d => law_invoke hb
  | go c => exact lawb law_resolve fun d => Law.pure trivial
  | defer c => exact lawb law_resolve fun d => Law.pure trivial
  | send ch x => exact Law.pure trivial
  | move x => exact Law.pure trivial
  | assign x => exact Law.pure trivial
  | recv t ch ok =>
    refine lawb law_underlying fun d => ?_
    split
    · exact lawb law_zeroValue fun z => Law.pure trivial
    · exact Law.halt
  | select cs bl => exact lawb (law_mapArr _ fun s => law_bind law_zeroValue fun z => law_pure) fun cs => Law.pure trivial
  | pick c a b => exact lawb law_asBool fun b => Law.pure trivial
  | nilCheck x =>
    dsimp only
    split
    · exact law_rtpN
    · exact law_rtpN
    · exact law_rtpN
    · split
      · exact law_rtpN
      · with_reducible refine lawp (lawb law_nilAhead fun b => ?_)
        split
        · exact Law.bind (N := fun _ => True) Law.halt fun _ _ => Law.pure trivial
        · exact Law.pure trivial
      · exact Law.pure trivial
    · exact Law.pure trivial
  | binOp op t x y yt => exact lawb (law_bind law_eqGuard fun _ => law_binOp) fun b => Law.pure trivial
  | _ =>
    refine lawb ?_ fun _ => Law.pure trivial
    first
      | with_reducible exact law_alloc
      | with_reducible exact law_box
      | with_reducible exact law_build
      | with_reducible exact law_buildSlice
      | with_reducible exact law_loadAt
      | with_reducible exact law_storeAt
      | with_reducible exact law_ready
      | with_reducible exact law_waits
      | with_reducible exact law_unary
      | with_reducible exact law_convert
      | with_reducible exact law_arrayAt
      | with_reducible exact law_makeInterface
      | with_reducible exact law_makeFunc
      | with_reducible exact law_makeMap
      | with_reducible exact law_makeChan
      | with_reducible exact law_makeSlice
      | with_reducible exact law_sliceAt
      | with_reducible exact law_fieldAt
      | with_reducible exact law_field
      | with_reducible exact law_indexAt
      | with_reducible exact law_index
      | with_reducible exact law_lookup
      | with_reducible exact law_mapUpdate
      | with_reducible exact law_mapEntry
      | with_reducible exact law_entryStore
      | with_reducible exact law_range
      | with_reducible exact law_next
      | with_reducible exact law_entry
      | with_reducible exact law_typeAssert
      | with_reducible exact law_extract
      | with_reducible exact law_panic
end
end Go.Proofs.Ytndncmjhpbjcoaa

/- The run-time's own functions without a body keep the law. -/
namespace Go.Proofs.Ytndncmjhpbjcoaa
open Go

def rtNames : List String := ["main.main", "gosem.cut", "(*internal/abi.Type).Align", "(internal/abi.Kind).String", "(runtime.errorString).Error", "(runtime.plainError).Error", "(runtime.errorAddressString).Error", "(runtime.boundsError).Error", "(*runtime.TypeAssertionError).Error", "(*runtime.PanicNilError).Error", "(internal/runtime/maps.unhashableTypeError).Error", "(runtime.errorString).RuntimeError", "(runtime.plainError).RuntimeError", "(runtime.errorAddressString).RuntimeError", "(runtime.boundsError).RuntimeError", "(*runtime.TypeAssertionError).RuntimeError", "(*runtime.PanicNilError).RuntimeError", "(internal/runtime/maps.unhashableTypeError).RuntimeError"]
def bodiedB (P : Program) : Bool := P.funcs.toList.all fun fn => fn.name != "runtime.NumGoroutine" && (fn.body.isSome || ((Extern.findNext fn).isNone && fn.origin == "" && rtNames.contains fn.name))
section
variable {P : Program}
theorem law_boundsError {args : Array Value} : Law P TT (Extern.RuntimeError.boundsError args) := by
  unfold Extern.RuntimeError.boundsError Extern.RuntimeError.text
  rcases args with ⟨_ | ⟨v, _ | ⟨v2, l⟩⟩⟩
  · exact law_stuck
  · cases v with
    | agg cs =>
      rcases cs with ⟨_ | ⟨a, _ | ⟨b, _ | ⟨c, _ | ⟨d, _ | ⟨e, l⟩⟩⟩⟩⟩⟩
      · exact law_stuck
      · first | exact law_stuck | (cases a <;> exact law_stuck)
      · first | exact law_stuck | (cases a <;> cases b <;> exact law_stuck)
      · first | exact law_stuck | (cases a <;> cases b <;> cases c <;> exact law_stuck)
      · cases a with
        | int ka x =>
          cases b with
          | int kb y =>
            cases c with
            | bool s =>
              cases d with
              | int kd code =>
                show Law P TT (match (if (s && decide (x < 0)) = true then Extern.RuntimeError.boundsNegErrorFmts else Extern.RuntimeError.boundsErrorFmts)[code.toNat]? with | some fmt => _ | none => _)
                split
                · exact law_pure
                · exact law_stuck
              | _ => exact law_stuck
            | _ => first | exact law_stuck | (cases d <;> exact law_stuck)
          | _ => first | exact law_stuck | (cases c <;> cases d <;> exact law_stuck)
        | _ => first | exact law_stuck | (cases b <;> cases c <;> cases d <;> exact law_stuck)
      · first | exact law_stuck | (cases a <;> cases b <;> cases c <;> cases d <;> exact law_stuck)
    | _ => exact law_stuck
  · first | exact law_stuck | (cases v <;> exact law_stuck)
theorem law_described {v : Value} : Law P TT (Extern.RuntimeError.described v) := by
  unfold Extern.RuntimeError.described
  repeat' first
    | with_reducible exact law_pure
    | with_reducible exact law_typeInfo
    | with_reducible exact law_typeStr
    | with_reducible exact law_program
    | with_reducible exact law_stuck
    | with_reducible refine law_bind ?_ fun _ => ?_
    | split
    | dsimp only
theorem law_pkgpathOf {v : TypeInfo} : Law P TT (Extern.RuntimeError.pkgpathOf v) := by
  unfold Extern.RuntimeError.pkgpathOf
  repeat' first
    | with_reducible exact law_pure
    | with_reducible exact law_typeInfo
    | with_reducible refine law_bind ?_ fun _ => ?_
    | split
    | dsimp only
theorem law_typeAssertionError {args : Array Value} : Law P TT (Extern.RuntimeError.typeAssertionError args) := by
  unfold Extern.RuntimeError.typeAssertionError Extern.RuntimeError.text
  repeat' first
    | with_reducible exact law_pure
    | with_reducible exact law_load
    | with_reducible exact law_described
    | with_reducible exact law_pkgpathOf
    | with_reducible exact law_asAddr
    | with_reducible exact law_asString
    | with_reducible exact law_rtp
    | with_reducible exact law_unsupported
    | with_reducible refine law_bind ?_ fun _ => ?_
    | with_reducible refine law_ite ?_ ?_
    | split
    | dsimp only
theorem law_unhashableTypeError {args : Array Value} : Law P TT (Extern.RuntimeError.unhashableTypeError args) := by
  unfold Extern.RuntimeError.unhashableTypeError Extern.RuntimeError.text
  rcases args with ⟨_ | ⟨v, _ | ⟨v2, l⟩⟩⟩
  · exact law_stuck
  · cases v with
    | agg cs =>
      rcases cs with ⟨_ | ⟨a, _ | ⟨b, l⟩⟩⟩
      · exact law_stuck
      · refine law_bind (law_described (v := a)) fun o => ?_
        cases o with
        | none => exact law_rtp
        | some o => exact law_pure
      · first | exact law_stuck | (cases a <;> exact law_stuck)
    | _ => exact law_stuck
  · first | exact law_stuck | (cases v <;> exact law_stuck)
set_option maxRecDepth 100000 in
theorem law_rtFind {fn : Func} (h1 : fn.origin = "") (h2 : fn.name ∈ rtNames) : ∀ e, Extern.find fn = some e → ∀ args, Law P TT (e args) := by
  have nil : ∀ {e}, Extern.find fn = none → Extern.find fn = some e → ∀ args, Law P TT (e args) := fun {e} h he => by rw [h] at he; cases he
  have one : ∀ {e}, (∀ args, Law P TT (e args)) → Extern.find fn = some e → ∀ e2, Extern.find fn = some e2 → ∀ args, Law P TT (e2 args) := fun {e} he h e2 h2 => by rw [h] at h2; cases h2; exact he
  have nothing : ∀ args, Law P TT (Extern.RuntimeError.nothing args) := fun args => law_pure
  simp only [rtNames, List.mem_cons, List.not_mem_nil, or_false] at h2
  rcases h2 with h | h | h | h | h | h | h | h | h | h | h | h | h | h | h | h | h | h
  · exact fun e => nil (by unfold Extern.find; rw [h, h1]; rfl)
  · exact fun e => nil (by unfold Extern.find; rw [h, h1]; rfl)
  · exact fun e => nil (by unfold Extern.find; rw [h, h1]; rfl)
  · exact one (e := fun args => do pure (strVal (Extern.Rtype.kindName (← asInt (args.getD 0 (.tuple #[]))).toNat))) (fun args => law_bind law_asInt fun _ => law_pure) (by unfold Extern.find; rw [h, h1]; rfl)
  · exact one (e := fun args => do pure (.string ("runtime error: ".toUTF8 ++ (← asString (args.getD 0 (.tuple #[])))))) (fun args => law_bind law_asString fun _ => law_pure) (by unfold Extern.find; rw [h, h1]; rfl)
  · exact one (e := fun args => do pure (.string (← asString (args.getD 0 (.tuple #[]))))) (fun args => law_bind law_asString fun _ => law_pure) (by unfold Extern.find; rw [h, h1]; rfl)
  · exact one (e := fun args => do pure (.string ("runtime error: ".toUTF8 ++ (← asString ((← asAgg (args.getD 0 (.tuple #[]))).getD 0 (.tuple #[])))))) (fun args => law_bind law_asAgg fun _ => law_bind law_asString fun _ => law_pure) (by unfold Extern.find; rw [h, h1]; rfl)
  · exact one (e := Extern.RuntimeError.boundsError) (fun args => law_boundsError) (by unfold Extern.find; rw [h, h1]; rfl)
  · exact one (e := Extern.RuntimeError.typeAssertionError) (fun args => law_typeAssertionError) (by unfold Extern.find; rw [h, h1]; rfl)
  · exact one (e := fun _ => Extern.RuntimeError.text "runtime error: panic called with nil argument") (fun args => law_pure) (by unfold Extern.find; rw [h, h1]; rfl)
  · exact one (e := Extern.RuntimeError.unhashableTypeError) (fun args => law_unhashableTypeError) (by unfold Extern.find; rw [h, h1]; rfl)
  all_goals exact one (e := Extern.RuntimeError.nothing) nothing (by unfold Extern.find; rw [h, h1]; rfl)
theorem bodied_of (h : bodiedB P = true) : Bodied P := by
  intro fn hf
  have := (List.all_eq_true.1 h) fn (Array.mem_toList_iff.2 hf)
  simp only [Bool.and_eq_true, Bool.or_eq_true, bne_iff_ne, ne_eq, beq_iff_eq] at this
  refine ⟨this.1, this.2.imp id fun ⟨⟨a, b⟩, c⟩ => ⟨by simpa using a, law_rtFind b (by simpa using c)⟩⟩
end
end Go.Proofs.Ytndncmjhpbjcoaa

/- States of a run of its own from which no frame of the call is ever come to again. -/
namespace Go.Proofs.Ytndncmjhpbjcoaa
open Go Go.Conc

def base1 (P : Program) : Frame := { fn := P.funcs.size, tmps := #[], todo := [.call { target := .collected 0, args := #[] } false "fmt's door" #[]], defers := [], mode := .run, kind := .normal }
section
variable {P : Program}
def Gone (P : Program) (g : Goroutine) : Prop := ∀ n w fr cs w2, runN P n (solo g w) ≠ .next (lone fr (cs ++ [base1 P]) w2)
theorem step_blocked {g : Goroutine} {w : World} (h : g.status = .blocked ∨ g.status = .waiting ∨ g.status = .finished) : (∃ o w', step P (solo g w) = .ended o w') ∨ step P (solo g w) = .next (solo g w) := by
  have hm : (∃ o w', move P (solo g w) = .machine (.ended o w')) ∨ move P (solo g w) = .machine (.next (solo g w)) := by
    rcases h with h | h | h <;> simp [move, ask, askOn, solo, runnable_eq, due, ahead, Goroutine.canRun, List.range_succ, choose, pure, Sem.run, Question.forced, h]
    all_goals split <;> simp
  unfold step stepT
  rcases hm with ⟨o, w', hm⟩ | hm
  · rw [hm]; exact .inl ⟨o, w', rfl⟩
  · rw [hm]; exact .inr rfl
theorem gone_blocked {g : Goroutine} (h : g.status = .blocked ∨ g.status = .waiting ∨ g.status = .finished) : Gone P g := by
  intro n
  induction n with
  | zero =>
    intro w fr cs w2 e
    simp only [runN, Stepped.next.injEq, solo, lone, Machine.mk.injEq, Array.mk.injEq, List.cons.injEq] at e
    rw [e.2.1.1] at h
    rcases h with h | h | h <;> cases h
  | succ n ih =>
    intro w fr cs w2 e
    simp only [runN] at e
    rcases step_blocked (P := P) (w := w) h with ⟨o, w', hs⟩ | hs
    · rw [hs] at e; cases e
    · rw [hs] at e; exact ih w fr cs w2 e
theorem gone_next {g : Goroutine} (h0 : g.status = .running) (h1 : g.callers = [] ∨ g.dying ≠ none) (h : ∀ w, (∃ o w' es, stepG P true g w = .ended o w' es) ∨ ∃ g' w' es, stepG P true g w = .go g' w' es ∧ Gone P g') : Gone P g := by
  intro n
  cases n with
  | zero =>
    intro w fr cs w2 e
    simp only [runN, Stepped.next.injEq, solo, lone, Machine.mk.injEq, Array.mk.injEq, List.cons.injEq] at e
    rw [e.2.1.1] at h1
    rcases h1 with h1 | h1
    · simp at h1
    · exact h1 rfl
  | succ n =>
    intro w fr cs w2 e
    simp only [runN] at e
    rcases h w with ⟨o, w', es, hs⟩ | ⟨g', w', es, hs, hb⟩
    · have : step P (solo g w) = .ended o w' := by
        rw [step, stepT_solo h0]
        have := runT_many_ended (P := P) (gs := #[g]) (w := w) (sl := none) (i := 0) (by simp) (show stepG P (0 == 0) g w = _ from hs)
        unfold crowd at this
        unfold solo
        rw [this]
      rw [this] at e; cases e
    · rw [step_solo_go h0 hs] at e
      exact hb n w' fr cs w2 e
theorem gone_base {f : Frame} (h : f = base1 P ∨ (∃ v, f = (base1 P).finish v) ∨ ∃ c, f = (base1 P).raise c) : Gone P { frame := f, callers := [], status := .running, dying := none } := by
  refine gone_next rfl (.inl rfl) fun w => .inl ?_
  rcases h with rfl | ⟨v, rfl⟩ | ⟨c, rfl⟩
  · exact ⟨_, _, _, by simp [stepG, stepG.exec, base1, stepG.apply, invoke, stuck, Sem.runT]; rfl⟩
  · have hn : Extern.next "fmt's door" = none := by decide +kernel
    exact ⟨_, _, _, by simp only [base1, Frame.finish, stepG, stepG.exec, hn, Option.elim]; rfl⟩
  · have hc : ((base1 P).raise c).catches P = true := by
      simp only [Frame.catches, base1, Frame.raise]
      rw [show P.funcs[P.funcs.size]? = none from by simp]
      decide +kernel
    have hm2 : ((base1 P).raise c).mode = .panicking c := rfl
    have hd2 : ((base1 P).raise c).defers = [] := rfl
    exact ⟨_, w, #[], by simp [stepG, unwind, hc, hm2, hd2]; rfl⟩
theorem gone_pieces {fr : Frame} (l : List ByteArray) : ∀ f : Fatal, f.pieces = l → Gone P { frame := fr, callers := [], status := .running, dying := some { todo := [], texts := [], calling := false, pending := "", runtimeError := false, fatal := some f } } := by
  induction l with
  | nil =>
    intro f hp
    refine gone_next rfl (.inl rfl) fun w => .inl ?_
    have hs : stepG P true { frame := fr, callers := [], status := .running, dying := some { todo := [], texts := [], calling := false, pending := "", runtimeError := false, fatal := some f } } w = writeOn P fr { todo := [], texts := [], calling := false, pending := "", runtimeError := false, fatal := some f } f w := rfl
    rw [hs]
    unfold writeOn
    rw [hp]
    exact ⟨_, _, _, rfl⟩
  | cons piece rest ih =>
    intro f hp
    refine gone_next rfl (.inl rfl) fun w => ?_
    have hs : stepG P true { frame := fr, callers := [], status := .running, dying := some { todo := [], texts := [], calling := false, pending := "", runtimeError := false, fatal := some f } } w = writeOn P fr { todo := [], texts := [], calling := false, pending := "", runtimeError := false, fatal := some f } f w := rfl
    rw [hs]
    unfold writeOn
    rw [hp]
    dsimp only
    split
    · exact .inr ⟨_, _, _, rfl, ih _ rfl⟩
    · exact .inr ⟨_, _, _, rfl, gone_blocked (.inl rfl)⟩
    · exact .inl ⟨_, _, _, rfl⟩
    · exact .inl ⟨_, _, _, rfl⟩
theorem gone_throw {fr : Frame} {f : Fatal} : Gone P { frame := fr, callers := [], status := .running, dying := some { todo := [], texts := [], calling := false, pending := "", runtimeError := false, fatal := some f } } := gone_pieces _ f rfl
end
end Go.Proofs.Ytndncmjhpbjcoaa

/- A step of goroutine 0 alone, with a base below its frames, is its step in whatever world has the same memory, without the base. -/
namespace Go.Proofs.Ytndncmjhpbjcoaa
open Go Go.Conc

def okItemL : Item → Prop
  | .call _ _ _ _ => False
  | .extern _ _ => False
  | _ => True
def CleanF (fr : Frame) : Prop := ∀ i ∈ fr.todo, okItemL i
def CleanS (cs : List Frame) : Prop := ∀ fr ∈ cs, CleanF fr
structure Fol (v v' : World) (n : Nat) (es : Array Event) : Prop where
  tape : v'.tape = v.tape
  drawn : v'.drawn = v.drawn + n
  size : v.heap.size ≤ v'.heap.size
  os : v'.os = v.os
  out : v'.output = v.output
  evs : ∀ e ∈ es, EvK v'.heap.size e
theorem Fol.refl (v : World) : Fol v v 0 #[] := ⟨rfl, rfl, Nat.le_refl _, rfl, rfl, fun e he => by simp at he⟩
section
variable {P : Program}
def Out (P : Program) (F : List Frame → World → GStep) (v : World) : GStep → Prop
  | .ended _ _ _ => True
  | .spawn _ _ _ _ => True
  | .go g v' es => Gone P g ∨ ∃ fr cs n, g = G fr (cs ++ [base1 P]) ∧ CleanF fr ∧ CleanS cs ∧ Fol v v' n es ∧ ∀ B, B = [] ∨ B = [base1 P] → ∀ t d o u, o.env = v.os.env → Agree v n t d → F B (v.wi t d o u) = .go (G fr (cs ++ B)) (v'.wi t (d + n) o u) es
  | .comm g cases bl sh v' es => ∃ fr cs n, g = G fr (cs ++ [base1 P]) ∧ CleanF fr ∧ CleanS cs ∧ Fol v v' n es ∧ ∀ B, B = [] ∨ B = [base1 P] → ∀ t d o u, o.env = v.os.env → Agree v n t d → F B (v.wi t d o u) = .comm (G fr (cs ++ B)) cases bl sh (v'.wi t (d + n) o u) es
  | .coroswitch g c x v' es => x = true ∧ ∃ fr cs n, g = G fr (cs ++ [base1 P]) ∧ CleanF fr ∧ CleanS cs ∧ Fol v v' n es ∧ ∀ B, B = [] ∨ B = [base1 P] → ∀ t d o u, o.env = v.os.env → Agree v n t d → F B (v.wi t d o u) = .coroswitch (G fr (cs ++ B)) c true (v'.wi t (d + n) o u) es
  | _ => False
def Sim (P : Program) (F : List Frame → World → GStep) : Prop := ∀ v, Mute v.os → Out P F v (F [base1 P] v)
theorem Sim.ended {F : List Frame → World → GStep} (h : ∀ B w, ∃ o w' es, F B w = .ended o w' es) : Sim P F := fun v _ => by
  obtain ⟨o, w', es, e⟩ := h [base1 P] v
  rw [e]; trivial
theorem Sim.go {F : List Frame → World → GStep} {fr : Frame} {cs : List Frame} (h : ∀ B w, F B w = .go (G fr (cs ++ B)) w #[]) (hf : CleanF fr) (hc : CleanS cs) : Sim P F := fun v _ => by
  rw [h]
  exact .inr ⟨fr, cs, 0, rfl, hf, hc, Fol.refl v, fun B _ t d o u _ _ => by rw [h]; simp⟩
theorem Sim.gone {F : List Frame → World → GStep} (h : ∀ w, ∃ g w' es, F [base1 P] w = .go g w' es ∧ Gone P g) : Sim P F := fun v _ => by
  obtain ⟨g, w', es, e, hg⟩ := h v
  rw [e]; exact .inl hg
theorem Sim.cong {F F' : List Frame → World → GStep} (h : Sim P F) (e : ∀ B w, F' B w = F B w) : Sim P F' := by
  have : F' = F := funext fun B => funext fun w => e B w
  rw [this]; exact h
theorem Out.after {F F1 : List Frame → World → GStep} {v v1 : World} {n : Nat} {es : Array Event} {s : GStep} (h : Out P F1 v1 s) (hf : Fol v v1 n es) (he : ∀ B t d o u, o.env = v.os.env → Agree v n t d → F B (v.wi t d o u) = GStep.after es (F1 B (v1.wi t (d + n) o u))) : Out P F v (GStep.after es s) := by
  have comb : ∀ {v2 : World} {m : Nat} {es2 : Array Event}, Fol v1 v2 m es2 → Fol v v2 (n + m) (es ++ es2) := fun {v2 m es2} k => ⟨k.tape.trans hf.tape, by rw [k.drawn, hf.drawn]; omega, Nat.le_trans hf.size k.size, k.os.trans hf.os, k.out.trans hf.out, fun e hm => by
    rcases Array.mem_append.1 hm with z | z
    · exact (hf.evs e z).mono k.size
    · exact k.evs e z⟩
  have agr : ∀ {m : Nat} {t : TpL} {d : Nat}, Agree v (n + m) t d → Agree v n t d ∧ Agree v1 m t (d + n) := fun {m t d} k => ⟨fun i hi q => k i (by omega) q, fun i hi q => by rw [show d + n + i = d + (n + i) by omega, k (n + i) (by omega) q, hf.tape, hf.drawn, Nat.add_assoc]⟩
  cases s with
  | go g v2 es2 =>
    rcases h with h | ⟨fr, cs, m, h1, h2, h3, h4, h5⟩
    · exact .inl h
    · exact .inr ⟨fr, cs, n + m, h1, h2, h3, comb h4, fun B hB t d o u ho ha => by rw [he B t d o u ho (agr ha).1, h5 B hB t (d + n) o u (by rw [hf.os]; exact ho) (agr ha).2, Nat.add_assoc]; rfl⟩
  | comm g cases bl sh v2 es2 =>
    obtain ⟨fr, cs, m, h1, h2, h3, h4, h5⟩ := h
    exact ⟨fr, cs, n + m, h1, h2, h3, comb h4, fun B hB t d o u ho ha => by rw [he B t d o u ho (agr ha).1, h5 B hB t (d + n) o u (by rw [hf.os]; exact ho) (agr ha).2, Nat.add_assoc]; rfl⟩
  | coroswitch g c x v2 es2 =>
    obtain ⟨hx, fr, cs, m, h1, h2, h3, h4, h5⟩ := h
    exact ⟨hx, fr, cs, n + m, h1, h2, h3, comb h4, fun B hB t d o u ho ha => by rw [he B t d o u ho (agr ha).1, h5 B hB t (d + n) o u (by rw [hf.os]; exact ho) (agr ha).2, Nat.add_assoc]; rfl⟩
  | _ => exact h
theorem Sim.run {α : Type} {x : Sem α} {N : α → Prop} (hx : Law P N x) {E : Result α → Array Event → Array Event} {K : List Frame → Result α → GStep}
    (hE1 : ∀ r es, ∀ e ∈ E r es, e ∈ es) (hE2 : ∀ r es t d o u, E (r.wi t d o u) es = E r es)
    (hok : ∀ a, N a → Sim P fun B w => K B (.ok a w))
    (hhot : ∀ h : Halt, h.hot → (Sim P fun B w => K B (.halt h w)) ∧ (h.loud ∨ (∀ w es, E (.halt h w) es = #[]) ∨ ∀ B w, ∃ o w' es, K B (.halt h w) = .ended o w' es))
    (hcold : ∀ (h : Halt) w, ¬ h.hot → (∃ o w' es, K [base1 P] (.halt h w) = .ended o w' es) ∨ ∃ g w' es, K [base1 P] (.halt h w) = .go g w' es ∧ Gone P g) :
    Sim P fun B w => GStep.after (E (x.runT P w #[]).1 (x.runT P w #[]).2) (K B (x.runT P w #[]).1) := by
  obtain ⟨F, hF⟩ : ∃ F : List Frame → World → GStep, F = fun B w => GStep.after (E (x.runT P w #[]).1 (x.runT P w #[]).2) (K B (x.runT P w #[]).1) := ⟨_, rfl⟩
  rw [← hF]
  have hv : ∀ B w, F B w = GStep.after (E (x.runT P w #[]).1 (x.runT P w #[]).2) (K B (x.runT P w #[]).1) := fun B w => by rw [hF]
  clear hF
  intro v mu
  rcases hx v #[] mu with ⟨n, h1, h2, h3, h4, h5, h6, h7, h8⟩ | hc
  · cases hr : x.runT P v #[] with
    | mk r es =>
      rw [hr] at h1 h2 h3 h4 h5 h6 h7 h8
      rw [hv, hr]
      have evs : r.loud → ∀ e ∈ E r es, EvK r.w.heap.size e := fun hl e he => (h6 hl e (hE1 r es e he)).resolve_left (by simp)
      cases r with
      | ok a v1 =>
        simp only [resw_ok] at h1 h2 h3 h4 h5
        exact (hok a (h7 a v1 rfl) v1 (by rw [h4]; exact mu)).after ⟨h1, h2, h3, h4, h5, evs trivial⟩ fun B t d o u ho ha => by rw [hv, h8 t d o u ho ha, hE2]; rfl
      | halt h v1 =>
        simp only [resw_halt] at h1 h2 h3 h4 h5
        by_cases hh : h.hot
        · obtain ⟨k1, k2⟩ := hhot h hh
          rcases k2 with k2 | k2 | k2
          · exact (k1 v1 (by rw [h4]; exact mu)).after ⟨h1, h2, h3, h4, h5, evs k2⟩ fun B t d o u ho ha => by rw [hv, h8 t d o u ho ha, hE2]; rfl
          · exact (k1 v1 (by rw [h4]; exact mu)).after ⟨h1, h2, h3, h4, h5, fun e he => by rw [k2] at he; simp at he⟩ fun B t d o u ho ha => by rw [hv, h8 t d o u ho ha, hE2]; rfl
          · obtain ⟨o, w', es', e⟩ := k2 [base1 P] v1
            simp only [e]; exact trivial
        · rcases hcold h v1 hh with ⟨o, w', es', e⟩ | ⟨g, w', es', e, hg⟩
          · simp only [e]; exact trivial
          · simp only [e]; exact .inl hg
  · cases hr : x.runT P v #[] with
    | mk r es =>
      rw [hr] at hc
      rw [hv, hr]
      cases r with
      | ok a v1 => exact absurd trivial hc
      | halt h v1 =>
        rcases hcold h v1 hc with ⟨o, w', es', e⟩ | ⟨g, w', es', e, hg⟩
        · simp only [e]; exact trivial
        · simp only [e]; exact .inl hg
theorem Sim.runF {α : Type} {F : List Frame → World → GStep} {x : Sem α} {N : α → Prop} (hx : Law P N x) {E : Result α → Array Event → Array Event} {K : List Frame → Result α → GStep}
    (heq : ∀ B w, F B w = GStep.after (E (x.runT P w #[]).1 (x.runT P w #[]).2) (K B (x.runT P w #[]).1))
    (hE1 : ∀ r es, ∀ e ∈ E r es, e ∈ es) (hE2 : ∀ r es t d o u, E (r.wi t d o u) es = E r es)
    (hok : ∀ a, N a → Sim P fun B w => K B (.ok a w))
    (hhot : ∀ h : Halt, h.hot → (Sim P fun B w => K B (.halt h w)) ∧ (h.loud ∨ (∀ w es, E (.halt h w) es = #[]) ∨ ∀ B w, ∃ o w' es, K B (.halt h w) = .ended o w' es))
    (hcold : ∀ (h : Halt) w, ¬ h.hot → (∃ o w' es, K [base1 P] (.halt h w) = .ended o w' es) ∨ ∃ g w' es, K [base1 P] (.halt h w) = .go g w' es ∧ Gone P g) : Sim P F := (Sim.run hx hE1 hE2 hok hhot hcold).cong heq
theorem CleanF.finish {fr : Frame} (h : CleanF fr) (v : Value) : CleanF (fr.finish v) := by
  intro i hi
  unfold Frame.finish at hi
  split at hi
  · rename_i ops j rest k e
    simp only [List.mem_cons] at hi
    rcases hi with rfl | hi
    · trivial
    · exact h i (by rw [e]; simp [hi])
  · rename_i l k e
    simp only [List.mem_cons] at hi
    rcases hi with rfl | hi
    · trivial
    · exact h i (by rw [e]; simp [hi])
  · rename_i k e
    exact h i (by rw [e]; simp [hi])
  · rename_i k e
    have hz := h _ (by rw [e]; exact List.mem_cons_self ..)
    exact False.elim hz
  · rename_i k e
    have hz := h _ (by rw [e]; exact List.mem_cons_self ..)
    exact False.elim hz
  · exact h i hi
theorem CleanF.raise {fr : Frame} (h : CleanF fr) (c : List PanicEntry) : CleanF (fr.raise c) := by
  intro i hi
  unfold Frame.raise at hi
  split at hi <;> exact h i hi
theorem CleanF.enter (P : Program) (f : FuncId) (args : Array Value) (k : CallKind) : CleanF (Frame.enter P f args k) := by
  intro i hi
  simp only [Frame.enter, List.mem_singleton] at hi
  rw [hi]; trivial
theorem CleanF.round (l : Nat) (f : FuncId) (ts : Array Value) (a b : Code) (k : CallKind) : CleanF (Frame.round l f ts a b k) := by
  intro i hi
  simp only [Frame.round, List.mem_cons, List.not_mem_nil, or_false] at hi
  rcases hi with rfl | rfl | rfl <;> trivial
theorem CleanS.cons {fr : Frame} {cs : List Frame} (h : CleanF fr) (hs : CleanS cs) : CleanS (fr :: cs) := by
  intro x hx
  rcases List.mem_cons.1 hx with rfl | hx
  · exact h
  · exact hs x hx
end
end Go.Proofs.Ytndncmjhpbjcoaa

/- The parts of a step: the return, the operation, the deferred call. -/
namespace Go.Proofs.Ytndncmjhpbjcoaa
open Go Go.Conc

section
variable {P : Program}
theorem after_nil (s : GStep) : GStep.after #[] s = s := by cases s <;> simp [GStep.after]
theorem seen_empty (P : Program) (fn : FuncId) : seen P fn #[] = #[] := rfl
theorem sim_doReturn {fr : Frame} {cs : List Frame} {v : Value} (hc : CleanS cs) : Sim P fun B w => doReturn P true fr (cs ++ B) none v w := by
  cases cs with
  | nil =>
    refine Sim.gone fun w => ?_
    have key : ∃ f, doReturn P true fr ([] ++ [base1 P]) none v w = .go { frame := f, callers := [], status := .running, dying := none } w #[] ∧ (f = base1 P ∨ (∃ v, f = (base1 P).finish v) ∨ ∃ c, f = (base1 P).raise c) := by
      unfold doReturn
      cases hk : fr.kind with
      | normal => exact ⟨_, rfl, .inr (.inl ⟨v, rfl⟩)⟩
      | wrapped => exact ⟨_, rfl, .inr (.inl ⟨v, rfl⟩)⟩
      | early => exact ⟨_, rfl, .inl rfl⟩
      | deferred => exact ⟨_, rfl, .inl rfl⟩
      | report => exact ⟨_, rfl, .inl rfl⟩
    obtain ⟨f, e, hf⟩ := key
    exact ⟨_, _, _, e, gone_base hf⟩
  | cons c cs =>
    have hcf : CleanF c := hc c (by simp)
    have hcs : CleanS cs := fun x hx => hc x (by simp [hx])
    cases hk : fr.kind with
    | normal => exact Sim.go (fr := c.finish v) (cs := cs) (fun B w => by simp [doReturn, hk, G]) (hcf.finish v) hcs
    | wrapped => exact Sim.go (fr := c.finish v) (cs := cs) (fun B w => by simp [doReturn, hk, G]) (hcf.finish v) hcs
    | early => exact Sim.go (fr := c) (cs := cs) (fun B w => by simp [doReturn, hk, G]) hcf hcs
    | deferred =>
      have key : ∃ c2 : Frame, (∀ (B : List Frame) (w : World), doReturn P true fr (c :: cs ++ B) none v w = .go (G c2 (cs ++ B)) w #[]) ∧ c2.todo = c.todo := by
        refine ⟨_, fun B w => by simp only [doReturn, List.cons_append, hk]; rfl, ?_⟩
        repeat' split
        all_goals rfl
      obtain ⟨c2, h2, ht⟩ := key
      exact Sim.go h2 (fun i hi => hcf i (by rw [← ht]; exact hi)) hcs
    | report =>
      have key : ∃ c2 : Frame, (∀ (B : List Frame) (w : World), doReturn P true fr (c :: cs ++ B) none v w = .go (G c2 (cs ++ B)) w #[]) ∧ c2.todo = c.todo := by
        refine ⟨_, fun B w => by simp only [doReturn, List.cons_append, hk]; rfl, ?_⟩
        repeat' split
        all_goals rfl
      obtain ⟨c2, h2, ht⟩ := key
      exact Sim.go h2 (fun i hi => hcf i (by rw [← ht]; exact hi)) hcs
/-! ### recover -/
theorem tryRecover_base (fr : Frame) (cs : List Frame) : tryRecover fr (cs ++ [base1 P]) = (tryRecover fr cs).map fun x => (x.1, x.2 ++ [base1 P]) := by
  induction cs generalizing fr with
  | nil =>
    cases hk : fr.kind <;> simp [tryRecover, hk, base1]
  | cons c cs ih =>
    cases hk : fr.kind with
    | deferred =>
      simp only [tryRecover, hk, List.cons_append]
      split <;> rfl
    | wrapped =>
      simp only [tryRecover, hk, List.cons_append]
      rw [ih]
      cases tryRecover c cs <;> rfl
    | _ => simp [tryRecover, hk]
theorem tryRecoverLoop_base (l : Nat) (cs : List Frame) : tryRecoverLoop l (cs ++ [base1 P]) = (tryRecoverLoop l cs).map fun x => (x.1, x.2 ++ [base1 P]) := by
  induction cs generalizing l with
  | nil => simp [tryRecoverLoop, base1]
  | cons c cs ih =>
    simp only [List.cons_append, tryRecoverLoop]
    split
    · rw [ih]; cases tryRecoverLoop _ cs <;> rfl
    · split
      · rw [tryRecover_base]; cases tryRecover c cs <;> rfl
      · rw [ih]; cases tryRecoverLoop _ cs <;> rfl
    · rw [ih]; cases tryRecoverLoop _ cs <;> rfl
theorem tryRecover_clean {fr : Frame} {cs : List Frame} (hc : CleanS cs) {v : Value} {cs2 : List Frame} (h : tryRecover fr cs = some (v, cs2)) : CleanS cs2 := by
  induction cs generalizing fr v cs2 with
  | nil => cases hk : fr.kind <;> simp [tryRecover, hk] at h
  | cons c cs ih =>
    have hcf : CleanF c := hc c (by simp)
    have hcs : CleanS cs := fun x hx => hc x (by simp [hx])
    cases hk : fr.kind with
    | deferred =>
      simp only [tryRecover, hk] at h
      split at h
      · cases h; exact CleanS.cons (fun i hi => hcf i hi) hcs
      · cases h
    | wrapped =>
      simp only [tryRecover, hk] at h
      cases hr : tryRecover c cs with
      | none => rw [hr] at h; cases h
      | some r => rw [hr] at h; cases h; exact CleanS.cons hcf (ih hcs hr)
    | _ => simp [tryRecover, hk] at h
theorem tryRecoverLoop_clean {l : Nat} {cs : List Frame} (hc : CleanS cs) {v : Value} {cs2 : List Frame} (h : tryRecoverLoop l cs = some (v, cs2)) : CleanS cs2 := by
  induction cs generalizing l v cs2 with
  | nil => simp [tryRecoverLoop] at h
  | cons c cs ih =>
    have hcf : CleanF c := hc c (by simp)
    have hcs : CleanS cs := fun x hx => hc x (by simp [hx])
    simp only [tryRecoverLoop] at h
    have fin : ∀ {r : Option (Value × List Frame)}, (∀ v2 c2, r = some (v2, c2) → CleanS c2) → (r.map fun x => (x.1, c :: x.2)) = some (v, cs2) → CleanS cs2 := fun {r} hr hm => by
      cases r with
      | none => cases hm
      | some y => cases hm; exact CleanS.cons hcf (hr y.1 y.2 rfl)
    split at h
    · exact fin (fun v2 c2 e => ih hcs e) h
    · split at h
      · exact fin (fun v2 c2 e => tryRecover_clean hcs e) h
      · exact fin (fun v2 c2 e => ih hcs e) h
    · exact fin (fun v2 c2 e => ih hcs e) h
end
end Go.Proofs.Ytndncmjhpbjcoaa

/- The step of goroutine 0: with a base below its frames alone, or without in whatever world has the same memory. -/
namespace Go.Proofs.Ytndncmjhpbjcoaa
open Go Go.Conc

def Ready (P : Program) : Prop := P.follows .staticDataAhead = true ∧ ∀ g, P.stepOf g = none
def readyB (P : Program) : Bool := P.follows .staticDataAhead && P.funcs.toList.all fun fn => ((fn.body.map readies).getD []).isEmpty
section
variable {P : Program}
theorem ready_of (h : readyB P = true) : Ready P := by
  simp only [readyB, Bool.and_eq_true] at h
  refine ⟨h.1, fun g => ?_⟩
  unfold Program.stepOf
  rw [Array.findIdx?_eq_none_iff]
  intro fn hf
  have := (List.all_eq_true.1 h.2) fn (Array.mem_toList_iff.2 hf)
  cases hb : fn.body with
  | none => simp
  | some c =>
    rw [hb] at this
    simp only [Option.map_some, Option.getD_some, List.isEmpty_iff] at this
    simp [this]
theorem apply_split (fr : Frame) (cs : List Frame) (x : Sem Next) (w : World) : stepG.apply P true fr cs none x w =
    GStep.after (seen P fr.fn (if fr.kind == .early then #[] else match (x.runT P w #[]).1 with | .halt .blocked _ | .halt .waiting _ | .halt (.unsupported (.initOrder _)) _ => #[] | _ => (x.runT P w #[]).2))
      (match (x.runT P w #[]).1 with | .ok a w1 => stepG.apply P true fr cs none (Sem.pure a) w1 | .halt h w1 => stepG.apply P true fr cs none (Sem.halt h) w1) := by
  have e : ∀ (k : Bool), (if k = true then (#[] : Array Event) else #[]) = #[] := fun k => by cases k <;> rfl
  cases hr : x.runT P w #[] with
  | mk r es =>
    cases r with
    | ok a w1 =>
      simp only [stepG.apply, if_true, hr, Sem.runT, seen_empty, after_nil, e]
    | halt h w1 =>
      cases h with
      | unsupported u => cases u <;> simp only [stepG.apply, if_true, hr, Sem.runT, seen_empty, after_nil, e]
      | _ => simp only [stepG.apply, if_true, hr, Sem.runT, seen_empty, after_nil, e]
theorem gone_endThrow (fr : Frame) (m : String) (w : World) : ∃ g w' es, endThrow fr m w = .go g w' es ∧ Gone P g := ⟨_, _, _, rfl, gone_throw⟩
theorem endFatal_gone (fr : Frame) (cs : List Frame) (m : String) (w : World) : (∃ o w' es, endFatal P fr cs none m w = .ended o w' es) ∨ ∃ g w' es, endFatal P fr cs none m w = .go g w' es ∧ Gone P g := by
  unfold endFatal
  dsimp only
  split
  · exact .inr ⟨_, _, _, rfl, gone_throw⟩
  · exact .inl ⟨_, _, _, rfl⟩
  · exact .inl ⟨_, _, _, rfl⟩
theorem sim_apply (hr : Ready P) {x : Sem Next} (hx : Law P NxOk x) {fr : Frame} {cs : List Frame} (hf : CleanF fr) (hc : CleanS cs) : Sim P fun B w => stepG.apply P true fr (cs ++ B) none x w := by
  have e1 : ∀ (k : Bool), (if k = true then (#[] : Array Event) else #[]) = #[] := fun k => by cases k <;> rfl
  refine (Sim.run (x := x) (N := NxOk) hx (E := fun r es => seen P fr.fn (if fr.kind == .early then #[] else match r with | .halt .blocked _ | .halt .waiting _ | .halt (.unsupported (.initOrder _)) _ => #[] | _ => es))
    (K := fun B r => match r with | .ok a w1 => stepG.apply P true fr (cs ++ B) none (Sem.pure a) w1 | .halt h w1 => stepG.apply P true fr (cs ++ B) none (Sem.halt h) w1) ?_ ?_ ?_ ?_ ?_).cong fun B w => apply_split fr (cs ++ B) x w
  · intro r es e he
    have h1 := mem_seen he
    split at h1
    · simp at h1
    · split at h1 <;> first | exact h1 | simp at h1
  · intro r es t d o u
    cases r with
    | ok a w => rfl
    | halt h w => cases h with
      | unsupported uu => cases uu <;> rfl
      | _ => rfl
  · intro a ha
    cases a with
    | value v => exact Sim.go (fr := fr.finish v) (cs := cs) (fun B w => by simp [stepG.apply, Sem.runT, seen_empty, after_nil, G]) (hf.finish v) hc
    | skip => exact Sim.go (fr := fr.finish undef) (cs := cs) (fun B w => by simp [stepG.apply, Sem.runT, seen_empty, after_nil, G]) (hf.finish undef) hc
    | enter f args =>
      refine Sim.go (fr := Frame.enter P f args .normal) (cs := fr :: cs) (fun B w => ?_) (CleanF.enter P f args .normal) (CleanS.cons hf hc)
      simp only [stepG.apply, Sem.runT, seen_empty, after_nil, e1, if_true]
      split
      · rename_i e
        have := hf _ (by rw [e]; exact List.mem_cons_self ..)
        exact this.elim
      · rfl
    | round l f ts a b => exact Sim.go (fr := Frame.round l f ts a b .normal) (cs := fr :: cs) (fun B w => by simp [stepG.apply, Sem.runT, seen_empty, after_nil, G]) (CleanF.round l f ts a b .normal) (CleanS.cons hf hc)
    | defer dd => exact Sim.go (fr := ({ fr with defers := dd :: fr.defers } : Frame).finish undef) (cs := cs) (fun B w => by simp [stepG.apply, Sem.runT, seen_empty, after_nil, G]) (CleanF.finish (fr := { fr with defers := dd :: fr.defers }) hf undef) hc
    | recover =>
      intro v mu
      have fin : ∀ (tr : List Frame → Option (Value × List Frame)), (∀ B w, stepG.apply P true fr (cs ++ B) none (Sem.pure .recover) w = match tr (cs ++ B) with | some (v, c2) => .go (G (fr.finish v) c2) w #[] | none => .go (G (fr.finish .nilIface) (cs ++ B)) w #[]) →
          tr (cs ++ [base1 P]) = (tr cs).map (fun x => (x.1, x.2 ++ [base1 P])) → (∀ v c2, tr cs = some (v, c2) → CleanS c2) → Out P (fun B w => stepG.apply P true fr (cs ++ B) none (Sem.pure .recover) w) v (stepG.apply P true fr (cs ++ [base1 P]) none (Sem.pure .recover) v) := fun tr e h1 h2 => by
        rw [e, h1]
        cases ht : tr cs with
        | none => exact .inr ⟨fr.finish .nilIface, cs, 0, rfl, hf.finish _, hc, Fol.refl v, fun B hB t d o u _ _ => by
          have e0 := e B (v.wi t d o u)
          rcases hB with rfl | rfl
          · rw [List.append_nil, ht] at e0; simp only [List.append_nil]; rw [e0]; rfl
          · rw [h1, ht] at e0; simp only; rw [e0]; rfl⟩
        | some r => exact .inr ⟨fr.finish r.1, r.2, 0, rfl, hf.finish _, h2 r.1 r.2 ht, Fol.refl v, fun B hB t d o u _ _ => by
          have e0 := e B (v.wi t d o u)
          rcases hB with rfl | rfl
          · rw [List.append_nil, ht] at e0; simp only [List.append_nil]; rw [e0]; rfl
          · rw [h1, ht] at e0; simp only; rw [e0]; rfl⟩
      cases hro : fr.roundOf with
      | none => exact fin (tryRecover fr) (fun B w => by simp only [stepG.apply, Sem.runT, seen_empty, after_nil, e1, if_true, hro]; cases tryRecover fr (cs ++ B) <;> rfl) (tryRecover_base fr cs) fun v c2 h => tryRecover_clean hc h
      | some l =>
        cases hfo : P.follows .rangeFuncRecover with
        | true => exact fin (tryRecover fr) (fun B w => by simp only [stepG.apply, Sem.runT, seen_empty, after_nil, e1, if_true, hro, hfo]; cases tryRecover fr (cs ++ B) <;> rfl) (tryRecover_base fr cs) fun v c2 h => tryRecover_clean hc h
        | false => exact fin (tryRecoverLoop l) (fun B w => by simp only [stepG.apply, Sem.runT, seen_empty, after_nil, e1, if_true, hro, hfo, Bool.false_eq_true, if_false]; cases tryRecoverLoop l (cs ++ B) <;> rfl) (tryRecoverLoop_base l cs) fun v c2 h => tryRecoverLoop_clean hc h
    | spawn dd =>
      intro v mu
      have e : (∃ g w' es, stepG.apply P true fr (cs ++ [base1 P]) none (Sem.pure (.spawn dd)) v = .go g w' es ∧ Gone P g) ∨ ∃ g c w' es, stepG.apply P true fr (cs ++ [base1 P]) none (Sem.pure (.spawn dd)) v = .spawn g c w' es := by
        simp only [stepG.apply, Sem.runT, seen_empty, after_nil, e1, if_true]
        repeat' split
        all_goals first
          | exact .inl (gone_endThrow ..)
          | exact .inr ⟨_, _, _, _, rfl⟩
      rcases e with ⟨g, w', es, e, hg⟩ | ⟨g, c, w', es, e⟩
      · simp only [e]; exact .inl hg
      · simp only [e]; exact trivial
    | comm cases bl sh =>
      intro v mu
      have e : ∀ B w, stepG.apply P true fr (cs ++ B) none (Sem.pure (.comm cases bl sh)) w = .comm (G fr (cs ++ B)) cases bl sh w #[] := fun B w => by simp [stepG.apply, Sem.runT, seen_empty, after_nil, G]
      simp only [e]
      exact ⟨fr, cs, 0, rfl, hf, hc, Fol.refl v, fun B _ t d o u _ _ => by simp⟩
    | coroswitch c ex =>
      intro v mu
      have e : ∀ B w, stepG.apply P true fr (cs ++ B) none (Sem.pure (.coroswitch c ex)) w = .coroswitch (G fr (cs ++ B)) c ex w #[] := fun B w => by simp [stepG.apply, Sem.runT, seen_empty, after_nil, G]
      simp only [e]
      obtain rfl : ex = true := ha
      exact ⟨rfl, fr, cs, 0, rfl, hf, hc, Fol.refl v, fun B _ t d o u _ _ => by simp⟩
    | _ => exact ha.elim
  · intro h hh
    cases h with
    | panic v => exact ⟨Sim.go (fr := fr.raise [{ v, recovered := false }]) (cs := cs) (fun B w => by simp [stepG.apply, Sem.runT, seen_empty, after_nil, G]) (hf.raise _) hc, .inl trivial⟩
    | goexit => exact ⟨Sim.go (fr := fr.raise [goexitEntry]) (cs := cs) (fun B w => by simp [stepG.apply, Sem.runT, seen_empty, after_nil, G]) (hf.raise _) hc, .inl trivial⟩
    | unsupported uu =>
      cases uu with
      | initOrder g =>
        have e : ∀ B w, ∃ o w' es, stepG.apply P true fr (cs ++ B) none (Sem.halt (.unsupported (.initOrder g))) w = .ended o w' es := fun B w => by
          simp [stepG.apply, Sem.runT, seen_empty, after_nil, early, hr.1, hr.2]
        exact ⟨Sim.ended e, .inr (.inr e)⟩
      | _ => exact hh.elim
    | _ => exact hh.elim
  · intro h w hh
    cases h with
    | blocked => exact .inr ⟨_, _, _, by simp [stepG.apply, Sem.runT, seen_empty, after_nil]; exact ⟨rfl, rfl, rfl⟩, gone_blocked (.inl rfl)⟩
    | waiting => exact .inr ⟨_, _, _, by simp [stepG.apply, Sem.runT, seen_empty, after_nil]; exact ⟨rfl, rfl, rfl⟩, gone_blocked (.inr (.inl rfl))⟩
    | exit c => exact .inl (by simp [stepG.apply, Sem.runT, seen_empty, after_nil])
    | fatal m =>
      have e : stepG.apply P true fr (cs ++ [base1 P]) none (Sem.halt (.fatal m)) w = endFatal P fr (cs ++ [base1 P]) none m w := by simp [stepG.apply, Sem.runT, seen_empty, after_nil]
      simp only [e]
      exact endFatal_gone ..
    | throw m =>
      have e : stepG.apply P true fr (cs ++ [base1 P]) none (Sem.halt (.throw m)) w = endThrow fr m w := by simp [stepG.apply, Sem.runT, seen_empty, after_nil]
      simp only [e]
      exact .inr (gone_endThrow ..)
    | unsupported uu =>
      cases uu with
      | initOrder g => exact absurd trivial hh
      | _ => exact .inl (by simp [stepG.apply, Sem.runT, seen_empty, after_nil])
    | stuck s => exact .inl (by simp [stepG.apply, Sem.runT, seen_empty, after_nil])
    | _ => exact absurd trivial hh
end
end Go.Proofs.Ytndncmjhpbjcoaa
