/- One text out of several: RenA RenB RenC RenD RenE RenF RenG RenH RenI RenJ RenK RenL RenM. -/
import Derived.Laws.Sem
import Derived.RunT
import Derived.Calls
import Derived.Conc.Own
import Derived.Conc.Listed
set_option linter.all false
/- A goroutine's own run, carried over to memory whose blocks bear other numbers: the relation on values, on what an operation does, on worlds; an operation that is carried out here is carried out there. -/
namespace Go.Proofs.Ytndncmjhpbjcoaa

abbrev Ren := Nat → Nat → Prop
def Ren.le (ρ σ : Ren) : Prop := ∀ r s, ρ r s → σ r s
theorem Ren.le_refl (ρ : Ren) : ρ.le ρ := fun _ _ h => h
theorem Ren.le_trans {ρ σ τ : Ren} (h : ρ.le σ) (k : σ.le τ) : ρ.le τ := fun r s x => k r s (h r s x)
def ADR (ρ : Ren) (a b : Addr) : Prop := ρ a.block b.block ∧ a.off = b.off ∧ a.spot = b.spot
theorem ADR.mono {ρ σ : Ren} {a b : Addr} (h : ADR ρ a b) (l : ρ.le σ) : ADR σ a b := ⟨l _ _ h.1, h.2⟩
theorem ADR.add {ρ : Ren} {a b : Addr} (h : ADR ρ a b) (n : Nat) : ADR ρ (a.add n) (b.add n) := by
  obtain ⟨h1, h2, h3⟩ := h
  unfold Addr.add
  split
  · exact ⟨h1, h2, h3⟩
  · exact ⟨h1, by simp [h2], rfl⟩
class FnsOk where
  ok : FuncId → Prop
variable [FnsOk]
inductive VR (ρ : Ren) : Value → Value → Prop
  | bool (b : Bool) : VR ρ (.bool b) (.bool b)
  | int (k : IntKind) (n : Int) : VR ρ (.int k n) (.int k n)
  | string (s : ByteArray) : VR ρ (.string s) (.string s)
  | nil : VR ρ (.pointer none) (.pointer none)
  | ptr {a b : Addr} (h : ADR ρ a b) : VR ρ (.pointer (some a)) (.pointer (some b))
  | slice0 (n c : Nat) : VR ρ (.slice none n c) (.slice none n c)
  | slice {a b : Addr} (h : ADR ρ a b) (n c : Nat) : VR ρ (.slice (some a) n c) (.slice (some b) n c)
  | func (f : FuncId) {xs ys cs ds : Array Value} (hf : FnsOk.ok f) (h1 : xs.size = ys.size) (h2 : cs.size = ds.size) (h3 : ∀ (i : Nat) (a b : Value), xs[i]? = some a → ys[i]? = some b → VR ρ a b) (h4 : ∀ (i : Nat) (a b : Value), cs[i]? = some a → ds[i]? = some b → VR ρ a b) : VR ρ (.func (.func f) xs cs) (.func (.func f) ys ds)
  | nilFunc : VR ρ .nilFunc .nilFunc
  | nilIface : VR ρ .nilIface .nilIface
  | agg {cs ds : Array Value} (h : cs.size = ds.size) (h2 : ∀ (i : Nat) (a b : Value), cs[i]? = some a → ds[i]? = some b → VR ρ a b) : VR ρ (.agg cs) (.agg ds)
  | tuple {cs ds : Array Value} (h : cs.size = ds.size) (h2 : ∀ (i : Nat) (a b : Value), cs[i]? = some a → ds[i]? = some b → VR ρ a b) : VR ρ (.tuple cs) (.tuple ds)
theorem VR.mono {ρ σ : Ren} {v u : Value} (h : VR ρ v u) (l : ρ.le σ) : VR σ v u := by
  induction h with
  | bool b => exact .bool b
  | int k n => exact .int k n
  | string s => exact .string s
  | nil => exact .nil
  | ptr h => exact .ptr (h.mono l)
  | slice0 n c => exact .slice0 n c
  | slice h n c => exact .slice (h.mono l) n c
  | func f hf h1 h2 _ _ i3 i4 => exact .func f hf h1 h2 i3 i4
  | nilFunc => exact .nilFunc
  | nilIface => exact .nilIface
  | agg h _ i => exact .agg h i
  | tuple h _ i => exact .tuple h i
def AR (ρ : Ren) (cs ds : Array Value) : Prop := cs.size = ds.size ∧ ∀ (i : Nat) (a b : Value), cs[i]? = some a → ds[i]? = some b → VR ρ a b
def LR (ρ : Ren) (cs ds : List Value) : Prop := cs.length = ds.length ∧ ∀ (i : Nat) (a b : Value), cs[i]? = some a → ds[i]? = some b → VR ρ a b
section
variable {ρ σ : Ren} {cs ds es fs : Array Value}
theorem AR.mono (h : AR ρ cs ds) (l : ρ.le σ) : AR σ cs ds := ⟨h.1, fun i a b x y => (h.2 i a b x y).mono l⟩
theorem AR.nil : AR ρ #[] #[] := ⟨rfl, fun i a b x _ => by simp at x⟩
theorem AR.get (h : AR ρ cs ds) {i : Nat} {a : Value} (x : cs[i]? = some a) : ∃ b, ds[i]? = some b ∧ VR ρ a b := by
  have hi : i < ds.size := by rw [← h.1]; exact (Array.getElem?_eq_some_iff.1 x).1
  exact ⟨ds[i], Array.getElem?_eq_getElem hi, h.2 i _ _ x (Array.getElem?_eq_getElem hi)⟩
theorem AR.none (h : AR ρ cs ds) {i : Nat} (x : cs[i]? = none) : ds[i]? = none := by
  rw [Array.getElem?_eq_none_iff] at x ⊢
  have := h.1
  omega
theorem AR.getD (h : AR ρ cs ds) {u v : Value} (hv : VR ρ u v) (i : Nat) : VR ρ (cs.getD i u) (ds.getD i v) := by
  have hg : ∀ (xs : Array Value) (z : Value), xs.getD i z = (xs[i]?).getD z := fun xs z => by simp
  rw [hg, hg]
  cases hc : cs[i]? with
  | none => rw [h.none hc]; exact hv
  | some a =>
    obtain ⟨b, hb, hab⟩ := h.get hc
    rw [hb]
    exact hab
theorem AR.set (h : AR ρ cs ds) {u v : Value} (hv : VR ρ u v) (i : Nat) : AR ρ (cs.setIfInBounds i u) (ds.setIfInBounds i v) := by
  refine ⟨by simp [h.1], fun j a b x y => ?_⟩
  rw [Array.getElem?_setIfInBounds] at x y
  by_cases e : i = j
  · subst e
    simp only [if_true] at x y
    split at x
    · split at y
      · cases x; cases y; exact hv
      · cases y
    · cases x
  · rw [if_neg e] at x y
    exact h.2 j a b x y
theorem AR.push (h : AR ρ cs ds) {u v : Value} (hv : VR ρ u v) : AR ρ (cs.push u) (ds.push v) := by
  refine ⟨by simp [h.1], fun j a b x y => ?_⟩
  rw [Array.getElem?_push] at x y
  rw [h.1] at x
  by_cases e : j = ds.size
  · rw [if_pos e] at x y
    cases x; cases y; exact hv
  · rw [if_neg e] at x y
    exact h.2 j a b x y
theorem AR.append (h : AR ρ cs ds) (k : AR ρ es fs) : AR ρ (cs ++ es) (ds ++ fs) := by
  refine ⟨by simp [h.1, k.1], fun j a b x y => ?_⟩
  rw [Array.getElem?_append] at x y
  rw [h.1] at x
  split at x
  · rename_i hl
    rw [if_pos hl] at y
    exact h.2 j a b x y
  · rename_i hl
    rw [if_neg hl] at y
    exact k.2 _ a b x y
theorem AR.extract (h : AR ρ cs ds) (i j : Nat) : AR ρ (cs.extract i j) (ds.extract i j) := by
  refine ⟨by simp [h.1], fun k a b x y => ?_⟩
  rw [Array.getElem?_extract] at x y
  rw [h.1] at x
  split at x
  · rename_i hl
    rw [if_pos hl] at y
    exact h.2 _ a b x y
  · cases x
theorem AR.list (h : AR ρ cs ds) : LR ρ cs.toList ds.toList := ⟨by simp [h.1], fun i a b x y => h.2 i a b (by simpa using x) (by simpa using y)⟩
theorem LR.arr {xs ys : List Value} (h : LR ρ xs ys) : AR ρ xs.toArray ys.toArray := ⟨by simp [h.1], fun i a b x y => h.2 i a b (by simpa using x) (by simpa using y)⟩
theorem LR.cons_inv {x : Value} {xs ys : List Value} (h : LR ρ (x :: xs) ys) : ∃ y zs, ys = y :: zs ∧ VR ρ x y ∧ LR ρ xs zs := by
  cases ys with
  | nil => cases h.1
  | cons y zs => exact ⟨y, zs, rfl, h.2 0 x y rfl rfl, by simpa using h.1, fun i a b p q => h.2 (i + 1) a b (by simpa using p) (by simpa using q)⟩
theorem LR.nil_inv {ys : List Value} (h : LR ρ [] ys) : ys = [] := by
  cases ys with
  | nil => rfl
  | cons y zs => cases h.1
theorem LR.mono {xs ys : List Value} (h : LR ρ xs ys) (l : ρ.le σ) : LR σ xs ys := ⟨h.1, fun i a b x y => (h.2 i a b x y).mono l⟩
theorem VR.cells {v u : Value} (h : VR ρ v u) : AR ρ v.cells u.cells := by
  have one : ∀ {x y : Value}, VR ρ x y → AR ρ #[x] #[y] := fun {x y} k => by simpa using (AR.nil (ρ := ρ)).push k
  cases h with
  | agg h h2 => exact ⟨h, h2⟩
  | bool b => exact one (.bool b)
  | int k n => exact one (.int k n)
  | string s => exact one (.string s)
  | nil => exact one .nil
  | ptr h => exact one (.ptr h)
  | slice0 n c => exact one (.slice0 n c)
  | slice h n c => exact one (.slice h n c)
  | func f hf h1 h2 h3 h4 => exact one (.func f hf h1 h2 h3 h4)
  | nilFunc => exact one .nilFunc
  | nilIface => exact one .nilIface
  | tuple h h2 => exact one (.tuple h h2)
end
inductive Flat : Value → Prop
  | bool (b : Bool) : Flat (.bool b)
  | int (k : IntKind) (n : Int) : Flat (.int k n)
  | string (s : ByteArray) : Flat (.string s)
  | nil : Flat (.pointer none)
  | slice0 (n c : Nat) : Flat (.slice none n c)
  | func (f : FuncId) (hf : FnsOk.ok f) : Flat (.func (.func f) #[] #[])
  | nilFunc : Flat .nilFunc
  | nilIface : Flat .nilIface
  | agg {cs : Array Value} (h : ∀ v ∈ cs, Flat v) : Flat (.agg cs)
  | tuple {cs : Array Value} (h : ∀ v ∈ cs, Flat v) : Flat (.tuple cs)
theorem Flat.rel {v : Value} (h : Flat v) (ρ : Ren) : VR ρ v v := by
  induction h with
  | bool b => exact .bool b
  | int k n => exact .int k n
  | string s => exact .string s
  | nil => exact .nil
  | slice0 n c => exact .slice0 n c
  | func f hf => exact .func f hf rfl rfl (fun i a b x _ => by simp at x) (fun i a b x _ => by simp at x)
  | nilFunc => exact .nilFunc
  | nilIface => exact .nilIface
  | agg _ ih =>
    refine .agg rfl (fun i a b x y => ?_)
    rw [x] at y
    cases y
    exact ih a (Array.mem_of_getElem? x)
  | tuple _ ih =>
    refine .tuple rfl (fun i a b x y => ?_)
    rw [x] at y
    cases y
    exact ih a (Array.mem_of_getElem? x)

/-! ### worlds -/
def PfR (ρ : Ren) (cs ds : Array Value) : Prop := cs.size ≤ ds.size ∧ ∀ (i : Nat) (a b : Value), cs[i]? = some a → ds[i]? = some b → VR ρ a b
section
variable {ρ σ : Ren} {cs ds : Array Value}
theorem AR.pr (h : AR ρ cs ds) : PfR ρ cs ds := ⟨Nat.le_of_eq h.1, h.2⟩
theorem PfR.mono (h : PfR ρ cs ds) (l : ρ.le σ) : PfR σ cs ds := ⟨h.1, fun i a b x y => (h.2 i a b x y).mono l⟩
theorem PfR.get (h : PfR ρ cs ds) {i : Nat} {a : Value} (x : cs[i]? = some a) : ∃ b, ds[i]? = some b ∧ VR ρ a b := by
  have hi : i < ds.size := Nat.lt_of_lt_of_le (Array.getElem?_eq_some_iff.1 x).1 h.1
  exact ⟨ds[i], Array.getElem?_eq_getElem hi, h.2 i _ _ x (Array.getElem?_eq_getElem hi)⟩
theorem PfR.set (h : PfR ρ cs ds) {u v : Value} (hv : VR ρ u v) (i : Nat) : PfR ρ (cs.setIfInBounds i u) (ds.setIfInBounds i v) := by
  refine ⟨by simp [h.1], fun j a b x y => ?_⟩
  rw [Array.getElem?_setIfInBounds] at x y
  split at x
  · rename_i e
    subst e
    split at x
    · rw [if_pos rfl] at y
      split at y
      · cases x; cases y; exact hv
      · cases y
    · cases x
  · rename_i e
    rw [if_neg e] at y
    exact h.2 j a b x y
end
def ShR (x y : Option (TypeId × Nat)) : Prop := (x = none ∧ y = none) ∨ ∃ t n m, x = some (t, n) ∧ y = some (t, m) ∧ n ≤ m
structure WR (G : Nat) (F : Nat → Prop) (ρ : Ren) (w W : World) : Prop where
  fn : ∀ r s s', ρ r s → ρ r s' → s = s'
  inj : ∀ r r' s, ρ r s → ρ r' s → r = r'
  lo : ∀ r s, ρ r s → r < w.heap.size ∧ s < W.heap.size ∧ G ≤ r ∧ G ≤ s
  old : ∀ r, F r → r < w.heap.size
  bot : G ≤ w.heap.size ∧ G ≤ W.heap.size
  obj : ∀ r s, ρ r s → (∃ cs ds t fz, w.heap[r]? = some (.cells cs t fz) ∧ W.heap[s]? = some (.cells ds t (0, 0)) ∧ PfR ρ cs ds ∧ (F r → fz.1 = 0 ∧ cs.size ≤ fz.2) ∧ (¬ F r → fz = (0, 0))) ∨ (∃ a b l, w.heap[r]? = some (.number a l) ∧ W.heap[s]? = some (.number b l) ∧ ADR ρ a b)
def TapeR (w W : World) : Prop := ∀ j q, w.tape (w.drawn + j) q = W.tape (W.drawn + j) q

def tameH : Halt → Bool
  | .panic _ | .stuck _ => true
  | .unsupported (.initOrder _) => false
  | .unsupported _ => true
  | _ => false
def HaltsT {α : Type} (P : Program) (x : Sem α) (w : World) : Prop := ∃ h w1, x.run P w = .halt h w1 ∧ tameH h = true
/-! ### what an operation does -/
section
variable (P : Program) (F : Nat → Prop)
inductive SR {α β : Type} (A : Ren → α → β → Prop) : Ren → Sem α → Sem β → Prop
  | pure {ρ : Ren} {a : α} {b : β} (h : A ρ a b) : SR A ρ (.pure a) (.pure b)
  | load {ρ : Ren} {a b : Addr} {k : Value → Sem α} {l : Value → Sem β} (h : ADR ρ a b) (hk : ∀ σ, ρ.le σ → ∀ v u, VR σ v u → SR A σ (k v) (l u)) : SR A ρ (.load .plain a k) (.load .plain b l)
  | store {ρ : Ren} {a b : Addr} {v u : Value} {k : Sem α} {l : Sem β} (h : ADR ρ a b) (hv : VR ρ v u) (hk : SR A ρ k l) : SR A ρ (.store .plain a v k) (.store .plain b u l)
  | new {ρ : Ren} {cs ds : Array Value} {t : TypeId} {k : Nat → Sem α} {l : Nat → Sem β} (h : AR ρ cs ds) (hk : ∀ σ, ρ.le σ → ∀ r s, σ r s → SR A σ (k r) (l s)) : SR A ρ (.new (.cells cs t (0, 0)) k) (.new (.cells ds t (0, 0)) l)
  | number {ρ : Ren} {a b : Addr} {z : Bool} {k : Nat → Sem α} {l : Nat → Sem β} (h : ADR ρ a b) (hk : ∀ σ, ρ.le σ → ∀ r s, σ r s → SR A σ (k r) (l s)) : SR A ρ (.new (.number a z) k) (.new (.number b z) l)
  | shape {ρ : Ren} {r s : Nat} {k : Option (TypeId × Nat) → Sem α} {l : Option (TypeId × Nat) → Sem β} (h : ρ r s) (hk : ∀ x y, ShR x y → SR A ρ (k x) (l y)) : SR A ρ (.shape r k) (.shape s l)
  | getObj {ρ : Ren} {r s : Nat} {k : Obj → Sem α} {l : Obj → Sem β} (h : ρ r s) (hk : ∀ σ, ρ.le σ → ∀ a b z, ADR σ a b → SR A σ (k (.number a z)) (l (.number b z))) : SR A ρ (.getObj r k) (.getObj s l)
  | choose {ρ : Ren} {q : Question} {k : Nat → Sem α} {l : Nat → Sem β} (hk : ∀ n, SR A ρ (k n) (l n)) : SR A ρ (.choose q k) (.choose q l)
  | program {ρ : Ren} {k : Program → Sem α} {l : Program → Sem β} (hk : SR A ρ (k P) (l P)) : SR A ρ (.program k) (.program l)
  | mark {ρ : Ren} {k : Sem α} {l : Sem β} (hk : SR A ρ k l) : SR A ρ (.mark .noRoom k) (.mark .noRoom l)
  | dead {ρ : Ren} {x : Sem α} {y : Sem β} (h : ∀ σ, ρ.le σ → ∀ w W, WR P.globals.size F σ w W → HaltsT P x w) : SR A ρ x y
end
section
variable {P : Program} {F : Nat → Prop} {α β γ δ : Type}
theorem SR.halt {A : Ren → α → β → Prop} {ρ : Ren} {h : Halt} {y : Sem β} (ht : tameH h = true := by rfl) : SR P F A ρ (.halt h) y := .dead fun σ _ w W _ => ⟨h, w, rfl, ht⟩
theorem SR.bind {A : Ren → α → β → Prop} {B : Ren → γ → δ → Prop} {ρ : Ren} {x : Sem α} {y : Sem β} {f : α → Sem γ} {g : β → Sem δ} (h : SR P F A ρ x y) (hf : ∀ σ, ρ.le σ → ∀ a b, A σ a b → SR P F B σ (f a) (g b)) : SR P F B ρ (x.bind f) (y.bind g) := by
  induction h with
  | pure h => exact hf _ (Ren.le_refl _) _ _ h
  | load h _ ih => exact .load h fun σ l v u hv => ih σ l v u hv fun τ k => hf τ (Ren.le_trans l k)
  | store h hv _ ih => exact .store h hv (ih hf)
  | new h _ ih => exact .new h fun σ l r s hr => ih σ l r s hr fun τ k => hf τ (Ren.le_trans l k)
  | number h _ ih => exact .number h fun σ l r s hr => ih σ l r s hr fun τ k => hf τ (Ren.le_trans l k)
  | shape h _ ih => exact .shape h fun z y hz => ih z y hz hf
  | getObj h _ ih => exact .getObj h fun σ l a b z hz => ih σ l a b z hz fun τ k => hf τ (Ren.le_trans l k)
  | choose _ ih => exact .choose fun n => ih n hf
  | program _ ih => exact .program (ih hf)
  | mark _ ih => exact .mark (ih hf)
  | dead h =>
    refine .dead (fun σ l w W hw => ?_)
    rename_i xx yy
    obtain ⟨hh, w1, h1, h2⟩ := h σ l w W hw
    refine ⟨hh, w1, ?_, h2⟩
    rw [Sem.run_bind', h1, Result.andThen_halt]
def EvR (σ : Ren) (F : Nat → Prop) (e : Event) : Prop :=
  (∃ a r, e.loc = .cell a ∧ σ r a.block ∧ (e.write = true → ¬ F r) ∧ e.sync = false) ∨ (∃ s r, e = ⟨.obj s, false, false⟩ ∧ σ r s) ∨ e = ⟨.mark .noRoom, false, true⟩
structure DoneR (F : Nat → Prop) (ρ σ : Ren) (w w1 W W1 : World) : Prop where
  le : ρ.le σ
  size : W.heap.size ≤ W1.heap.size
  lsize : w.heap.size ≤ w1.heap.size
  tape : W1.tape = W.tape
  ltape : w1.tape = w.tape
  os : W1.os = W.os
  output : W1.output = W.output
  block : ∀ s, s < W.heap.size → (¬ ∃ r, ρ r s ∧ ¬ F r) → W1.heap[s]? = W.heap[s]?
  fresh : ∀ r s, σ r s → ρ r s ∨ (W.heap.size ≤ s ∧ w.heap.size ≤ r)
  all : ∀ s, W.heap.size ≤ s → s < W1.heap.size → ∃ r, σ r s ∧ w.heap.size ≤ r
section
variable {F : Nat → Prop} {ρ σ τ : Ren} {w w1 w2 W W1 W2 : World}
theorem DoneR.refl (F : Nat → Prop) (ρ : Ren) (w W : World) : DoneR F ρ ρ w w W W := ⟨Ren.le_refl _, Nat.le_refl _, Nat.le_refl _, rfl, rfl, rfl, rfl, fun _ _ _ => rfl, fun _ _ h => .inl h, fun s h1 h2 => absurd h2 (by omega)⟩
theorem DoneR.trans (h : DoneR F ρ σ w w1 W W1) (k : DoneR F σ τ w1 w2 W1 W2) : DoneR F ρ τ w w2 W W2 :=
  ⟨Ren.le_trans h.le k.le, Nat.le_trans h.size k.size, Nat.le_trans h.lsize k.lsize, k.tape.trans h.tape, k.ltape.trans h.ltape, k.os.trans h.os, k.output.trans h.output, fun s hs hn => by
    have h1 := h.size
    rw [k.block s (by omega) (fun ⟨r, h2, h3⟩ => by
      rcases h.fresh r s h2 with h4 | h4
      · exact hn ⟨r, h4, h3⟩
      · omega)]
    exact h.block s hs hn, fun r s x => by
    have h1 := h.size
    have h2 := h.lsize
    rcases k.fresh r s x with h3 | h3
    · exact h.fresh r s h3
    · exact .inr ⟨by omega, by omega⟩, fun s h1 h2 => by
    rcases Nat.lt_or_ge s W1.heap.size with h3 | h3
    · obtain ⟨r, h4, h5⟩ := h.all s h1 h3
      exact ⟨r, k.le _ _ h4, h5⟩
    · obtain ⟨r, h4, h5⟩ := k.all s h3 h2
      have := h.lsize
      exact ⟨r, h4, by omega⟩⟩
end
end
section
variable {P : Program} {F : Nat → Prop} {G : Nat} {ρ σ : Ren} {w W : World}
theorem WR.cell (h : WR G F ρ w W) {a b : Addr} (hab : ADR ρ a b) {v : Value} (hv : w.cell? a = some v) : ∃ u, W.cell? b = some u ∧ VR ρ v u := by
  obtain ⟨h1, h2, h3⟩ := hab
  unfold World.cell? at hv ⊢
  rcases h.obj _ _ h1 with ⟨cs, ds, t, fz, k1, k2, k3, -, -⟩ | ⟨x, y, l, k1, k2, -⟩
  · rw [k1] at hv
    rw [k2]
    simp only [← h3, ← h2] at hv ⊢
    split at hv
    · cases hv
    · rename_i hs
      rw [if_neg hs]
      exact k3.get hv
  · rw [k1] at hv
    cases hv
theorem WR.far (h : WR G F ρ w W) {a b : Addr} (hab : ADR ρ a b) (m : Bool) : ∃ e, World.farLoad P w a m = .error e := by
  unfold World.farLoad
  rcases h.obj _ _ hab.1 with ⟨cs, ds, t, fz, k1, -⟩ | ⟨x, y, l, k1, -⟩ <;> rw [k1] <;> exact ⟨_, rfl⟩
theorem WR.farS (h : WR G F ρ w W) {a b : Addr} (hab : ADR ρ a b) (v : Value) (m : Bool) : ∃ e, World.farStore P w a v m = .error e := by
  unfold World.farStore
  rcases h.obj _ _ hab.1 with ⟨cs, ds, t, fz, k1, -⟩ | ⟨x, y, l, k1, -⟩ <;> rw [k1] <;> exact ⟨_, rfl⟩
theorem WR.shape (h : WR G F ρ w W) {r s : Nat} (hr : ρ r s) : ShR (w.shape? r) (W.shape? s) := by
  unfold World.shape?
  rcases h.obj _ _ hr with ⟨cs, ds, t, fz, k1, k2, k3, -⟩ | ⟨x, y, l, k1, k2, -⟩
  · rw [k1, k2]
    exact .inr ⟨t, _, _, rfl, rfl, k3.1⟩
  · rw [k1, k2]
    exact .inl ⟨rfl, rfl⟩
theorem heap_set (w : World) (a : Addr) (v : Value) (r : Nat) : (w.setCell a v).heap[r]? = if a.block = r then (w.heap[r]?).map (fun | .cells c elem frozen => .cells (if a.spot.isSome then c else c.setIfInBounds a.off v) elem frozen | o => o) else w.heap[r]? := by
  simp only [World.setCell, Array.getElem?_modify]
  split <;> rfl
theorem WR.store (h : WR G F ρ w W) {a b : Addr} (hab : ADR ρ a b) {v u : Value} (hv : VR ρ v u) (hF : ¬ F a.block) : WR G F ρ (w.setCell a v) (W.setCell b u) := by
  have s1 : (w.setCell a v).heap.size = w.heap.size := by simp [World.setCell]
  have s2 : (W.setCell b u).heap.size = W.heap.size := by simp [World.setCell]
  refine ⟨h.fn, h.inj, fun r s x => by rw [s1, s2]; exact h.lo r s x, fun r x => by rw [s1]; exact h.old r x, by rw [s1, s2]; exact h.bot, fun r s x => ?_⟩
  rw [heap_set, heap_set]
  by_cases e : a.block = r
  · have e2 : b.block = s := by subst e; exact h.fn _ _ _ hab.1 x
    rw [if_pos e, if_pos e2]
    rcases h.obj r s x with ⟨cs, ds, t, fz, k1, k2, k3, k4, k5⟩ | ⟨c, d, l, k1, k2, k3⟩
    · rw [k1, k2]
      refine .inl ⟨_, _, t, fz, rfl, rfl, ?_, fun hf => absurd (e ▸ hf) hF, k5⟩
      rw [hab.2.2, hab.2.1]
      split
      · exact k3
      · exact k3.set hv _
    · rw [k1, k2]
      exact .inr ⟨c, d, l, rfl, rfl, k3⟩
  · have e2 : ¬ b.block = s := fun e2 => e (h.inj _ _ _ hab.1 (e2 ▸ x))
    rw [if_neg e, if_neg e2]
    exact h.obj r s x
def Ren.more (ρ : Ren) (r s : Nat) : Ren := fun i j => ρ i j ∨ (i = r ∧ j = s)
theorem Ren.le_more (ρ : Ren) (r s : Nat) : ρ.le (ρ.more r s) := fun _ _ h => .inl h
def ObR (ρ : Ren) (o p : Obj) : Prop := (∃ cs ds t, o = .cells cs t (0, 0) ∧ p = .cells ds t (0, 0) ∧ AR ρ cs ds) ∨ (∃ a b l, o = .number a l ∧ p = .number b l ∧ ADR ρ a b)
theorem WR.push (h : WR G F ρ w W) {o p : Obj} (ho : ObR ρ o p) : WR G F (ρ.more w.heap.size W.heap.size) { w with heap := w.heap.push o } { W with heap := W.heap.push p } := by
  have hn : ∀ r s, ρ r s → r ≠ w.heap.size ∧ s ≠ W.heap.size := fun r s x => by have := h.lo r s x; omega
  have hG := h.bot
  refine ⟨fun r s s' x y => ?_, fun r r' s x y => ?_, fun r s x => ?_, fun r x => ?_, by simp only [Array.size_push]; omega, fun r s x => ?_⟩
  · rcases x with x | ⟨x1, x2⟩ <;> rcases y with y | ⟨y1, y2⟩
    · exact h.fn r s s' x y
    · exact absurd y1 (hn _ _ x).1
    · exact absurd x1 (hn _ _ y).1
    · omega
  · rcases x with x | ⟨x1, x2⟩ <;> rcases y with y | ⟨y1, y2⟩
    · exact h.inj r r' s x y
    · exact absurd y2 (hn _ _ x).2
    · exact absurd x2 (hn _ _ y).2
    · omega
  · simp only [Array.size_push]
    rcases x with x | ⟨x1, x2⟩
    · have := h.lo r s x; omega
    · omega
  · have := h.old r x
    simp only [Array.size_push]; omega
  · rcases x with x | ⟨rfl, rfl⟩
    · have hl := h.lo r s x
      have e1 : (w.heap.push o)[r]? = w.heap[r]? := by rw [Array.getElem?_push, if_neg (by omega)]
      have e2 : (W.heap.push p)[s]? = W.heap[s]? := by rw [Array.getElem?_push, if_neg (by omega)]
      simp only [e1, e2]
      rcases h.obj r s x with ⟨cs, ds, t, fz, k1, k2, k3, k4, k5⟩ | ⟨c, d, l, k1, k2, k3⟩
      · exact .inl ⟨cs, ds, t, fz, k1, k2, k3.mono (ρ.le_more _ _), k4, k5⟩
      · exact .inr ⟨c, d, l, k1, k2, k3.mono (ρ.le_more _ _)⟩
    · have e1 : (w.heap.push o)[w.heap.size]? = some o := by simp
      have e2 : (W.heap.push p)[W.heap.size]? = some p := by simp
      simp only [e1, e2]
      rcases ho with ⟨cs, ds, t, rfl, rfl, k⟩ | ⟨a, b, l, rfl, rfl, k⟩
      · exact .inl ⟨cs, ds, t, (0, 0), rfl, rfl, (k.mono (ρ.le_more _ _)).pr, fun hf => absurd (h.old _ hf) (by omega), fun _ => rfl⟩
      · exact .inr ⟨a, b, l, rfl, rfl, k.mono (ρ.le_more _ _)⟩
theorem DoneR.push (F : Nat → Prop) (ρ : Ren) (w W : World) (o p : Obj) : DoneR F ρ (ρ.more w.heap.size W.heap.size) w { w with heap := w.heap.push o } W { W with heap := W.heap.push p } := by
  refine ⟨ρ.le_more _ _, by simp, by simp, rfl, rfl, rfl, rfl, fun s hs _ => by simp only [Array.getElem?_push]; rw [if_neg (by omega)], fun r s x => ?_, fun s h1 h2 => ?_⟩
  · rcases x with x | ⟨rfl, rfl⟩
    · exact .inl x
    · exact .inr ⟨Nat.le_refl _, Nat.le_refl _⟩
  · simp only [Array.size_push] at h2
    exact ⟨w.heap.size, .inr ⟨rfl, by omega⟩, Nat.le_refl _⟩
theorem DoneR.store {a b : Addr} (hab : ADR ρ a b) (hF : ¬ F a.block) (v u : Value) : DoneR F ρ ρ w (w.setCell a v) W (W.setCell b u) := by
  refine ⟨Ren.le_refl _, by simp [World.setCell], by simp [World.setCell], rfl, rfl, rfl, rfl, fun s hs hn => ?_, fun r s x => .inl x, fun s h1 h2 => ?_⟩
  · rw [heap_set, if_neg]
    rintro rfl
    exact hn ⟨_, hab.1, hF⟩
  · have s2 : (W.setCell b u).heap.size = W.heap.size := by simp [World.setCell]
    omega
end
theorem TapeR.draw {w W : World} (h : TapeR w W) : TapeR { w with drawn := w.drawn + 1 } { W with drawn := W.drawn + 1 } := fun j q => by
  have := h (1 + j) q
  simpa [Nat.add_assoc] using this
theorem SR.run {P : Program} {F : Nat → Prop} {α β : Type} {A : Ren → α → β → Prop} {ρ : Ren} {x : Sem α} {y : Sem β} (h : SR P F A ρ x y) :
    ∀ (w W : World) (es Es : Array Event) (a : α) (w1 : World) (es1 : Array Event), WR P.globals.size F ρ w W → TapeR w W → x.runT P w es = (.ok a w1, es1) →
      ∃ (σ : Ren) (b : β) (W1 : World) (X : List Event), y.runT P W Es = (.ok b W1, Es ++ X.toArray) ∧ (∀ e ∈ X, EvR σ F e) ∧ A σ a b ∧ WR P.globals.size F σ w1 W1 ∧ TapeR w1 W1 ∧ DoneR F ρ σ w w1 W W1 := by
  induction h with
  | pure h =>
    intro w W es Es a w1 es1 hw ht hr
    rename_i ρ0 a0 b0
    simp only [Sem.runT] at hr ⊢
    injection hr with h1 h2
    injection h1 with h1 h3
    subst h1 h3
    exact ⟨_, _, _, [], by simp, by simp, h, hw, ht, DoneR.refl _ _ _ _⟩
  | load h hk ih =>
    intro w W es Es a w1 es1 hw ht hr
    rename_i ρ0 a0 b0 k l
    simp only [Sem.runT] at hr ⊢
    cases hc : w.cell? a0 with
    | none =>
      obtain ⟨e, he⟩ := WR.far (P := P) hw h (Mode.plain == Mode.atomic)
      rw [hc] at hr
      simp only [he] at hr
      cases hr
    | some v =>
      obtain ⟨u, hu, hvu⟩ := hw.cell h hc
      rw [hc] at hr
      simp only at hr
      obtain ⟨σ, b, W1, X, h1, h2, h3, h4, h5, h6⟩ := ih _ (Ren.le_refl _) v u hvu w W _ (Es.push ⟨.cell b0, false, false⟩) a w1 es1 hw ht hr
      refine ⟨σ, b, W1, ⟨.cell b0, false, false⟩ :: X, ?_, ?_, h3, h4, h5, h6⟩
      · rw [hu]
        simp only [show (Mode.plain == Mode.atomic) = false from rfl]
        rw [h1]
        simp
      · intro e he
        rw [List.mem_cons] at he
        rcases he with rfl | he
        · exact .inl ⟨b0, a0.block, rfl, h6.le _ _ h.1, fun h => (by cases h), rfl⟩
        · exact h2 e he
  | store h hv hk ih =>
    intro w W es Es a w1 es1 hw ht hr
    rename_i ρ0 a0 b0 v u k l
    have key : (∀ (cs : Array Value), v ≠ .agg cs ∧ v ≠ .tuple cs) → (∀ (cs : Array Value), u ≠ .agg cs ∧ u ≠ .tuple cs) → _ := fun hv1 hu1 => by
      have e1 : (Sem.store Mode.plain a0 v k).runT P w es = match w.cell? a0 with
          | some _ => if w.frozen? a0 then (.halt (.unsupported (.unsafePointer "a write to bytes that a string shares")) w, es) else k.runT P (w.setCell a0 v) (es.push ⟨.cell a0, true, Mode.plain == .atomic⟩)
          | none => match w.farStore P a0 v (Mode.plain == .atomic) with
            | .ok (w, touched) => k.runT P w (es ++ touched.toArray.map (⟨.cell ·, true, Mode.plain == .atomic⟩))
            | .error h => (.halt h w, es) := by
        cases v <;> first | rfl | exact absurd rfl (hv1 _).1 | exact absurd rfl (hv1 _).2
      have e2 : (Sem.store Mode.plain b0 u l).runT P W Es = match W.cell? b0 with
          | some _ => if W.frozen? b0 then (.halt (.unsupported (.unsafePointer "a write to bytes that a string shares")) W, Es) else l.runT P (W.setCell b0 u) (Es.push ⟨.cell b0, true, Mode.plain == .atomic⟩)
          | none => match W.farStore P b0 u (Mode.plain == .atomic) with
            | .ok (w, touched) => l.runT P w (Es ++ touched.toArray.map (⟨.cell ·, true, Mode.plain == .atomic⟩))
            | .error h => (.halt h W, Es) := by
        cases u <;> first | rfl | exact absurd rfl (hu1 _).1 | exact absurd rfl (hu1 _).2
      exact And.intro e1 e2
    have kinds : (∀ (cs : Array Value), v ≠ .agg cs ∧ v ≠ .tuple cs) ∧ (∀ (cs : Array Value), u ≠ .agg cs ∧ u ≠ .tuple cs) := by
      cases hv with
      | agg _ _ => simp only [Sem.runT] at hr; cases hr
      | tuple _ _ => simp only [Sem.runT] at hr; cases hr
      | _ => exact ⟨fun cs => ⟨fun h => (by cases h), fun h => (by cases h)⟩, fun cs => ⟨fun h => (by cases h), fun h => (by cases h)⟩⟩
    obtain ⟨e1, e2⟩ := key kinds.1 kinds.2
    rw [e1] at hr
    rw [e2]
    cases hc : w.cell? a0 with
    | none =>
      obtain ⟨e, he⟩ := WR.farS (P := P) hw h v (Mode.plain == Mode.atomic)
      rw [hc] at hr
      simp only [he] at hr
      cases hr
    | some v0 =>
      obtain ⟨u0, hu0, -⟩ := hw.cell h hc
      rw [hc] at hr
      simp only at hr
      have hF : ¬ F a0.block := fun hf => by
        rcases hw.obj _ _ h.1 with ⟨cs, ds, t, fz, k1, k2, k3, k4, -⟩ | ⟨x, y, z, k1, -⟩
        · have h9 : w.frozen? a0 = true := by
            unfold World.frozen?
            rw [k1]
            have h8 := k4 hf
            have h7 : a0.off < cs.size := by
              unfold World.cell? at hc
              rw [k1] at hc
              simp only at hc
              split at hc
              · cases hc
              · exact (Array.getElem?_eq_some_iff.1 hc).1
            obtain ⟨lo, hi⟩ := fz
            simp only at h8
            simp only [Bool.and_eq_true, decide_eq_true_eq]
            omega
          rw [h9] at hr
          simp at hr
        · unfold World.cell? at hc
          rw [k1] at hc
          cases hc
      have hfr : w.frozen? a0 = false := by
        cases hq : w.frozen? a0 with
        | false => rfl
        | true => rw [hq] at hr; simp at hr
      have hfR : W.frozen? b0 = false := by
        unfold World.frozen?
        rcases hw.obj _ _ h.1 with ⟨cs, ds, t, fz, k1, k2, k3, k4, -⟩ | ⟨x, y, z, k1, k2, -⟩ <;> rw [k2] <;> simp
      rw [hfr] at hr
      simp only [Bool.false_eq_true, if_false] at hr
      obtain ⟨σ, b, W1, X, h1, h2, h3, h4, h5, h6⟩ := ih (w.setCell a0 v) (W.setCell b0 u) _ (Es.push ⟨.cell b0, true, false⟩) a w1 es1 (hw.store h hv hF) ht hr
      refine ⟨σ, b, W1, ⟨.cell b0, true, false⟩ :: X, ?_, ?_, h3, h4, h5, (DoneR.store h hF v u).trans h6⟩
      · rw [hu0]
        simp only [hfR, Bool.false_eq_true, if_false, show (Mode.plain == Mode.atomic) = false from rfl]
        rw [h1]
        simp
      · intro e he
        rw [List.mem_cons] at he
        rcases he with rfl | he
        · exact .inl ⟨b0, a0.block, rfl, h6.le _ _ h.1, fun _ => hF, rfl⟩
        · exact h2 e he
  | new h hk ih =>
    intro w W es Es a w1 es1 hw ht hr
    simp only [Sem.runT] at hr ⊢
    obtain ⟨σ, b, W1, X, h1, h2, h3, h4, h5, h6⟩ := ih _ (Ren.le_more _ w.heap.size W.heap.size) _ _ (.inr ⟨rfl, rfl⟩) _ _ _ Es a w1 es1 (hw.push (.inl ⟨_, _, _, rfl, rfl, h⟩)) ht hr
    exact ⟨σ, b, W1, X, h1, h2, h3, h4, h5, (DoneR.push F _ w W _ _).trans h6⟩
  | number h hk ih =>
    intro w W es Es a w1 es1 hw ht hr
    simp only [Sem.runT] at hr ⊢
    obtain ⟨σ, b, W1, X, h1, h2, h3, h4, h5, h6⟩ := ih _ (Ren.le_more _ w.heap.size W.heap.size) _ _ (.inr ⟨rfl, rfl⟩) _ _ _ Es a w1 es1 (hw.push (.inr ⟨_, _, _, rfl, rfl, h⟩)) ht hr
    exact ⟨σ, b, W1, X, h1, h2, h3, h4, h5, (DoneR.push F _ w W _ _).trans h6⟩
  | shape h hk ih =>
    intro w W es Es a w1 es1 hw ht hr
    simp only [Sem.runT] at hr ⊢
    exact ih _ _ (hw.shape h) w W es Es a w1 es1 hw ht hr
  | getObj h hk ih =>
    intro w W es Es a w1 es1 hw ht hr
    rename_i ρ0 r s k l
    simp only [Sem.runT] at hr ⊢
    rcases hw.obj _ _ h with ⟨cs, ds, t, fz, k1, k2, -⟩ | ⟨x, y, z, k1, k2, k3⟩
    · rw [k1] at hr
      cases hr
    · rw [k1] at hr
      rw [k2]
      simp only at hr ⊢
      obtain ⟨σ, b, W1, X, h1, h2, h3, h4, h5, h6⟩ := ih _ (Ren.le_refl _) x y z k3 w W _ (Es.push ⟨.obj s, false, false⟩) a w1 es1 hw ht hr
      refine ⟨σ, b, W1, ⟨.obj s, false, false⟩ :: X, ?_, ?_, h3, h4, h5, h6⟩
      · rw [show Obj.isChan (.number y z) = false from rfl, h1]
        simp
      · intro e he
        rw [List.mem_cons] at he
        rcases he with rfl | he
        · exact .inr (.inl ⟨s, r, rfl, h6.le _ _ h⟩)
        · exact h2 e he
  | choose hk ih =>
    intro w W es Es a w1 es1 hw ht hr
    rename_i ρ0 q k l
    simp only [Sem.runT] at hr ⊢
    split at hr
    · rename_i hf
      rw [if_pos hf]
      exact ih 0 w W es Es a w1 es1 hw ht hr
    · rename_i hf
      rw [if_neg hf]
      have h0 := ht 0 q
      simp only [Nat.add_zero] at h0
      rw [← h0]
      obtain ⟨σ, b, W1, X, h1, h2, h3, h4, h5, h6⟩ := ih _ { w with drawn := w.drawn + 1 } { W with drawn := W.drawn + 1 } es Es a w1 es1 ⟨hw.fn, hw.inj, hw.lo, hw.old, hw.bot, hw.obj⟩ ht.draw hr
      exact ⟨σ, b, W1, X, h1, h2, h3, h4, h5, ⟨h6.le, h6.size, h6.lsize, h6.tape, h6.ltape, h6.os, h6.output, h6.block, h6.fresh, h6.all⟩⟩
  | program hk ih =>
    intro w W es Es a w1 es1 hw ht hr
    simp only [Sem.runT] at hr ⊢
    exact ih w W es Es a w1 es1 hw ht hr
  | mark hk ih =>
    intro w W es Es a w1 es1 hw ht hr
    simp only [Sem.runT] at hr ⊢
    obtain ⟨σ, b, W1, X, h1, h2, h3, h4, h5, h6⟩ := ih w W _ (Es.push ⟨.mark .noRoom, false, true⟩) a w1 es1 hw ht hr
    refine ⟨σ, b, W1, ⟨.mark .noRoom, false, true⟩ :: X, by rw [h1]; simp, ?_, h3, h4, h5, h6⟩
    intro e he
    rw [List.mem_cons] at he
    rcases he with rfl | he
    · exact .inr (.inr rfl)
    · exact h2 e he
  | dead h =>
    intro w W es Es a w1 es1 hw ht hr
    rename_i ρ0 x0 y0
    obtain ⟨hh, w2, h1, -⟩ := h _ (Ren.le_refl _) w W hw
    have h9 := Sem.runT_fst P x0 w es
    rw [hr, h1] at h9
    cases h9
theorem SR.tame {P : Program} {F : Nat → Prop} {α β : Type} {A : Ren → α → β → Prop} {ρ : Ren} {x : Sem α} {y : Sem β} (h : SR P F A ρ x y) :
    ∀ (w W : World) (hh : Halt) (w1 : World), WR P.globals.size F ρ w W → x.run P w = .halt hh w1 → tameH hh = true := by
  induction h with
  | pure h =>
    intro w W hh w1 hw hr
    simp only [Sem.run] at hr
    cases hr
  | load h hk ih =>
    intro w W hh w1 hw hr
    rename_i ρ0 a0 b0 k l
    simp only [Sem.run] at hr
    cases hc : w.cell? a0 with
    | none =>
      rw [hc] at hr
      simp only at hr
      unfold World.farLoad at hr
      rcases hw.obj _ _ h.1 with ⟨cs, ds, t, fz, k1, -⟩ | ⟨x, y, l, k1, -⟩ <;> rw [k1] at hr <;> simp only [World.noCell, k1] at hr <;> cases hr <;> rfl
    | some v =>
      obtain ⟨u, hu, hvu⟩ := hw.cell h hc
      rw [hc] at hr
      exact ih _ (Ren.le_refl _) v u hvu w W hh w1 hw hr
  | store h hv hk ih =>
    intro w W hh w1 hw hr
    rename_i ρ0 a0 b0 v u k l
    have body : (match w.cell? a0 with
          | some _ => if w.frozen? a0 then Result.halt (.unsupported (.unsafePointer "a write to bytes that a string shares")) w else k.run P (w.setCell a0 v)
          | none => match w.farStore P a0 v (Mode.plain == Mode.atomic) with
            | .ok (w, _) => k.run P w
            | .error h => Result.halt h w) = Result.halt hh w1 → tameH hh = true := fun hr => by
      cases hc : w.cell? a0 with
      | none =>
        rw [hc] at hr
        simp only at hr
        unfold World.farStore at hr
        rcases hw.obj _ _ h.1 with ⟨cs, ds, t, fz, k1, -⟩ | ⟨x, y, l, k1, -⟩ <;> rw [k1] at hr <;> simp only [World.noCell, k1] at hr <;> cases hr <;> rfl
      | some v0 =>
        rw [hc] at hr
        simp only at hr
        split at hr
        · cases hr; rfl
        · rename_i hfr
          have hF : ¬ F a0.block := fun hf => hfr (by
            rcases hw.obj _ _ h.1 with ⟨cs, ds, t, fz, k1, k2, k3, k4, -⟩ | ⟨x, y, z, k1, -⟩
            · unfold World.frozen?
              rw [k1]
              have h8 := k4 hf
              have h7 : a0.off < cs.size := by
                unfold World.cell? at hc
                rw [k1] at hc
                simp only at hc
                split at hc
                · cases hc
                · exact (Array.getElem?_eq_some_iff.1 hc).1
              obtain ⟨lo, hi⟩ := fz
              simp only at h8
              simp only [Bool.and_eq_true, decide_eq_true_eq]
              omega
            · unfold World.cell? at hc
              rw [k1] at hc
              cases hc)
          exact ih (w.setCell a0 v) (W.setCell b0 u) hh w1 (hw.store h hv hF) hr
    cases hv with
    | agg _ _ => simp only [Sem.run] at hr; cases hr; rfl
    | tuple _ _ => simp only [Sem.run] at hr; cases hr; rfl
    | _ => exact body hr
  | new h hk ih =>
    intro w W hh w1 hw hr
    simp only [Sem.run] at hr
    exact ih _ (Ren.le_more _ w.heap.size W.heap.size) _ _ (.inr ⟨rfl, rfl⟩) _ _ hh w1 (hw.push (.inl ⟨_, _, _, rfl, rfl, h⟩)) hr
  | number h hk ih =>
    intro w W hh w1 hw hr
    simp only [Sem.run] at hr
    exact ih _ (Ren.le_more _ w.heap.size W.heap.size) _ _ (.inr ⟨rfl, rfl⟩) _ _ hh w1 (hw.push (.inr ⟨_, _, _, rfl, rfl, h⟩)) hr
  | shape h hk ih =>
    intro w W hh w1 hw hr
    simp only [Sem.run] at hr
    exact ih _ _ (hw.shape h) w W hh w1 hw hr
  | getObj h hk ih =>
    intro w W hh w1 hw hr
    rename_i ρ0 r s k l
    simp only [Sem.run] at hr
    rcases hw.obj _ _ h with ⟨cs, ds, t, fz, k1, k2, -⟩ | ⟨x, y, z, k1, k2, k3⟩
    · rw [k1] at hr
      cases hr
      rfl
    · rw [k1] at hr
      exact ih _ (Ren.le_refl _) x y z k3 w W hh w1 hw hr
  | choose hk ih =>
    intro w W hh w1 hw hr
    rename_i ρ0 q k l
    simp only [Sem.run] at hr
    split at hr
    · exact ih 0 w W hh w1 hw hr
    · exact ih _ { w with drawn := w.drawn + 1 } W hh w1 ⟨hw.fn, hw.inj, hw.lo, hw.old, hw.bot, hw.obj⟩ hr
  | program hk ih =>
    intro w W hh w1 hw hr
    simp only [Sem.run] at hr
    exact ih w W hh w1 hw hr
  | mark hk ih =>
    intro w W hh w1 hw hr
    simp only [Sem.run] at hr
    exact ih w W hh w1 hw hr
  | dead h =>
    intro w W hh w1 hw hr
    rename_i ρ0 x0 y0
    obtain ⟨h2, w2, h3, h4⟩ := h _ (Ren.le_refl _) w W hw
    rw [hr] at h3
    cases h3
    exact h4
end Go.Proofs.Ytndncmjhpbjcoaa

/- The operations that a goroutine's own run is made of, each carried over to renamed memory. -/
namespace Go.Proofs.Ytndncmjhpbjcoaa

variable [FnsOk]
section
variable {P : Program} {F : Nat → Prop} {α β γ δ : Type} {ρ : Ren}
theorem sr_bnd {A : Ren → α → β → Prop} {B : Ren → γ → δ → Prop} {x : Sem α} {y : Sem β} {f : α → Sem γ} {g : β → Sem δ} (h : SR P F A ρ x y) (hf : ∀ σ, ρ.le σ → ∀ a b, A σ a b → SR P F B σ (f a) (g b)) : SR P F B ρ (x >>= f) (y >>= g) := SR.bind h hf
theorem sr_pur {A : Ren → α → β → Prop} {a : α} {b : β} (h : A ρ a b) : SR P F A ρ (Pure.pure a : Sem α) (Pure.pure b : Sem β) := .pure h
theorem sr_stuck {A : Ren → α → β → Prop} {s : String} {y : Sem β} : SR P F A ρ (Go.stuck s : Sem α) y := SR.halt
theorem sr_unsup {A : Ren → α → β → Prop} {s : Unsupported} {y : Sem β} (hs : tameH (.unsupported s) = true := by rfl) : SR P F A ρ (Go.unsupported s : Sem α) y := SR.halt hs
theorem sr_never {A : Ren → α → β → Prop} {x : Sem α} {y : Sem β} (h : ∀ w, HaltsT P x w) : SR P F A ρ x y := .dead fun _ _ w _ _ => h w
def RuntimeError.short : RuntimeError → Bool
  | .bounds .. | .error _ | .plain _ | .nilDeref | .unhashable _ => true
  | _ => false
theorem never_rt {e : RuntimeError} (he : RuntimeError.short e = true) : ∀ w, HaltsT P (runtimePanic e : Sem γ) w := fun w => by
  cases e <;> first | (cases he; done) | exact ⟨_, _, rfl, rfl⟩
theorem sr_rtPanic {A : Ren → α → β → Prop} {e : RuntimeError} {y : Sem β} (he : RuntimeError.short e = true) : SR P F A ρ (runtimePanic e : Sem α) y := sr_never (never_rt he)
theorem never_left {x : Sem α} {f : α → Sem γ} (h : ∀ w, HaltsT P x w) : ∀ w, HaltsT P (x >>= f) w := fun w => by
  obtain ⟨hh, w1, h1, h2⟩ := h w
  refine ⟨hh, w1, ?_, h2⟩
  rw [show (x >>= f) = x.bind f from rfl, Sem.run_bind', h1, Result.andThen_halt]
theorem never_bind {x : Sem α} {f : α → Sem γ} (hx : ∀ w, ∃ a w1, x.run P w = .ok a w1) (h : ∀ a w, HaltsT P (f a) w) : ∀ w, HaltsT P (x >>= f) w := fun w => by
  obtain ⟨a, w1, h1⟩ := hx w
  obtain ⟨hh, w2, h2, h3⟩ := h a w1
  refine ⟨hh, w2, ?_, h3⟩
  rw [show (x >>= f) = x.bind f from rfl, Sem.run_bind', h1, Result.andThen_ok]
  exact h2
theorem never_unsup {u : Unsupported} (hu : tameH (.unsupported u) = true := by rfl) : ∀ w, HaltsT P (Go.unsupported u : Sem γ) w := fun _ => ⟨_, _, rfl, hu⟩
theorem never_stuck {u : String} : ∀ w, HaltsT P (Go.stuck u : Sem γ) w := fun _ => ⟨_, _, rfl, rfl⟩
def EqR {α : Type} : Ren → α → α → Prop := fun _ a b => a = b
theorem sr_prog : SR P F (fun _ a b => a = P ∧ b = P) ρ program program := .program (.pure ⟨rfl, rfl⟩)
theorem sr_info (t : TypeId) : SR P F (fun _ a b => a = b ∧ P.info? t = some a) ρ (typeInfo t) (typeInfo t) := by
  unfold typeInfo
  refine sr_bnd sr_prog ?_
  rintro σ l a b ⟨ha, hb⟩
  rw [ha, hb]
  cases h : P.info? t with
  | none => exact sr_stuck
  | some i => exact sr_pur ⟨rfl, rfl⟩
theorem sr_under (t : TypeId) : SR P F (fun _ a b => a = b ∧ P.underlying t = some a) ρ (underlying t) (underlying t) := by
  unfold underlying
  refine sr_bnd sr_prog ?_
  rintro σ l a b ⟨ha, hb⟩
  rw [ha, hb]
  cases h : P.underlying t with
  | none => exact sr_stuck
  | some i => exact sr_pur ⟨rfl, rfl⟩
theorem sr_size (t : TypeId) : SR P F EqR ρ (sizeOf t) (sizeOf t) := by
  unfold sizeOf
  refine sr_bnd (sr_info t) ?_
  rintro σ l a b ⟨rfl, -⟩
  exact sr_pur rfl
def ZeroFlat (P : Program) (t : TypeId) : Prop := ∀ i v, P.info? t = some i → i.zero = some v → Flat v
theorem sr_zero {t : TypeId} (hz : ZeroFlat P t) : SR P F (fun σ a b => VR σ a b) ρ (zeroValue t) (zeroValue t) := by
  unfold zeroValue
  refine sr_bnd (sr_info t) ?_
  rintro σ l a b ⟨rfl, hi⟩
  cases h : a.zero with
  | none => exact sr_unsup
  | some v => exact sr_pur ((hz a v hi h).rel σ)
theorem sr_isAgg (t : TypeId) : SR P F EqR ρ (isAgg t) (isAgg t) := by
  unfold Go.isAgg
  refine sr_bnd (sr_under t) ?_
  rintro σ l a b ⟨rfl, -⟩
  cases a <;> exact sr_pur rfl
theorem sr_ld {a b : Addr} (h : ADR ρ a b) : SR P F VR ρ (load a) (load b) := .load h fun _ _ _ _ hv => .pure hv
theorem sr_lcf : ∀ (n : Nat) {ρ : Ren} {a b : Addr} (i : Nat) {cs ds : Array Value}, ADR ρ a b → AR ρ cs ds → SR P F AR ρ (loadCellsFrom a i n cs) (loadCellsFrom b i n ds)
  | 0, _, _, _, _, _, _, _, h => sr_pur h
  | n + 1, _, _, _, i, _, _, hab, h => by
    unfold loadCellsFrom
    refine sr_bnd (sr_ld (hab.add i)) ?_
    intro σ l v u hv
    exact sr_lcf n (i + 1) (hab.mono l) ((h.mono l).push hv)
theorem sr_lcs {a b : Addr} (n : Nat) (h : ADR ρ a b) : SR P F AR ρ (loadCells a n) (loadCells b n) := sr_lcf n 0 h AR.nil
theorem sr_lvar (t : TypeId) {a b : Addr} (h : ADR ρ a b) : SR P F VR ρ (loadVar t a) (loadVar t b) := by
  unfold loadVar
  refine sr_bnd (sr_isAgg t) ?_
  rintro σ l x y hxy
  cases hxy
  cases x with
  | false => exact sr_ld (h.mono l)
  | true =>
    refine sr_bnd (sr_size t) ?_
    rintro τ k n m hnm
    cases hnm
    refine sr_bnd (sr_lcs n ((h.mono l).mono k)) ?_
    intro υ _ cs ds hc
    exact sr_pur (.agg hc.1 hc.2)
theorem sr_st {a b : Addr} {v u : Value} (h : ADR ρ a b) (hv : VR ρ v u) : SR P F (fun _ _ _ => True) ρ (store a v) (store b u) := .store h hv (.pure trivial)
theorem sr_scs : ∀ (vs us : List Value) {ρ : Ren} {a b : Addr} (i : Nat), ADR ρ a b → LR ρ vs us → SR P F (fun _ _ _ => True) ρ (storeCells a vs i) (storeCells b us i)
  | [], us, _, _, _, _, _, h => by
    rw [h.nil_inv]
    exact sr_pur trivial
  | v :: vs, us, _, _, _, i, hab, h => by
    obtain ⟨u, us', rfl, hv, hr⟩ := h.cons_inv
    unfold storeCells
    refine sr_bnd (sr_st (hab.add i) hv) ?_
    intro σ l _ _ _
    exact sr_scs vs us' (i + 1) (hab.mono l) (hr.mono l)
theorem sr_svar (t : TypeId) {a b : Addr} {v u : Value} (h : ADR ρ a b) (hv : VR ρ v u) : SR P F (fun _ _ _ => True) ρ (storeVar t a v) (storeVar t b u) := by
  unfold storeVar
  refine sr_bnd (sr_size t) ?_
  rintro σ l n m hnm
  cases hnm
  have hc := (hv.mono l).cells
  rw [← hc.1]
  split
  · exact sr_stuck
  · exact sr_scs _ _ 0 (h.mono l) hc.list
theorem sr_row (t : TypeId) {cs ds : Array Value} (h : AR ρ cs ds) : SR P F ADR ρ (newRow t cs) (newRow t ds) := by
  unfold newRow newObj
  refine sr_bnd (A := fun σ r s => σ r s) (.new h fun σ l r s hr => .pure hr) ?_
  intro σ l r s hr
  exact sr_pur ⟨hr, rfl, rfl⟩
theorem sr_nvar (t : TypeId) {v u : Value} (h : VR ρ v u) : SR P F ADR ρ (newVar t v) (newVar t u) := sr_row t h.cells
theorem sr_intOf {v u : Value} (h : VR ρ v u) : SR P F (fun _ a b => a = b ∧ v = .int a.1 a.2 ∧ u = .int a.1 a.2) ρ (asIntOf v) (asIntOf u) := by
  cases h <;> first | exact sr_pur ⟨rfl, rfl, rfl⟩ | exact sr_stuck | exact sr_unsup
theorem sr_int {v u : Value} (h : VR ρ v u) : SR P F (fun _ a b => a = b ∧ ∃ k, v = .int k a ∧ u = .int k a) ρ (asInt v) (asInt u) := by
  unfold asInt
  refine sr_bnd (sr_intOf h) ?_
  rintro σ l a b ⟨rfl, h1, h2⟩
  exact sr_pur ⟨rfl, _, h1, h2⟩
theorem sr_boolOf {v u : Value} (h : VR ρ v u) : SR P F EqR ρ (asBool v) (asBool u) := by
  cases h <;> first | exact sr_pur rfl | exact sr_stuck
theorem sr_sure {v u : Value} (h : VR ρ v u) : SR P F ADR ρ (Instr.sureAddr v) (Instr.sureAddr u) := by
  cases h <;> first | (refine sr_pur ?_; assumption) | exact sr_stuck
/-! ### the operations -/
theorem sr_alloc {t : TypeId} (hz : ZeroFlat P t) : SR P F VR ρ (Instr.alloc t true (.tuple #[])) (Instr.alloc t true (.tuple #[])) := by
  unfold Instr.alloc
  refine sr_bnd (sr_zero hz) ?_
  intro σ l v u hv
  refine sr_bnd (sr_nvar t hv) ?_
  intro τ k a b hab
  exact sr_pur (.ptr hab)
theorem sr_box (t : TypeId) {v u : Value} (h : VR ρ v u) : SR P F VR ρ (Instr.box t v) (Instr.box t u) := by
  unfold Instr.box
  refine sr_bnd (sr_nvar t h) ?_
  intro τ k a b hab
  exact sr_pur (.ptr hab)
theorem sr_loadAt (t : TypeId) {v u : Value} (h : VR ρ v u) : SR P F VR ρ (Instr.loadAt t v) (Instr.loadAt t u) := by
  unfold Instr.loadAt
  refine sr_bnd (sr_sure h) ?_
  intro τ k a b hab
  exact sr_lvar t hab
theorem sr_storeAt (t : TypeId) {v u x y : Value} (h : VR ρ v u) (hx : VR ρ x y) : SR P F (fun _ _ _ => True) ρ (Instr.storeAt t v x) (Instr.storeAt t u y) := by
  unfold Instr.storeAt
  refine sr_bnd (sr_sure h) ?_
  intro τ k a b hab
  exact sr_svar t hab (hx.mono k)
theorem sr_view {r s : Nat} (h : ρ r s) : SR P F (fun _ a b => a = none ∧ b = none) ρ (viewAt r) (viewAt s) := by
  unfold viewAt
  refine sr_bnd (A := fun _ => ShR) (.shape h fun x y hxy => .pure hxy) ?_
  rintro σ l a b hab
  rcases hab with ⟨rfl, rfl⟩ | ⟨_, _, _, rfl, rfl, _⟩
  rotate_left
  · exact sr_pur ⟨rfl, rfl⟩
  · exact sr_bnd (A := fun τ o p => ∃ a b z, o = .number a z ∧ p = .number b z ∧ ADR τ a b) (.getObj (l _ _ h) fun τ k a b z hz => .pure ⟨a, b, z, rfl, rfl, hz⟩) fun τ k o p ⟨a, b, z, e1, e2, e3⟩ => by rw [e1, e2]; exact sr_pur ⟨rfl, rfl⟩
theorem sr_numAt {r s : Nat} (h : ρ r s) : SR P F (fun σ a b => (a = none ∧ b = none) ∨ ∃ x y z, a = some (x, z) ∧ b = some (y, z) ∧ ADR σ x y) ρ (numberAt r) (numberAt s) := by
  unfold numberAt
  refine sr_bnd (A := fun _ => ShR) (.shape h fun x y hxy => .pure hxy) ?_
  rintro σ l a b hab
  rcases hab with ⟨rfl, rfl⟩ | ⟨_, _, _, rfl, rfl, _⟩
  rotate_left
  · exact sr_pur (.inl ⟨rfl, rfl⟩)
  · exact sr_bnd (A := fun τ o p => ∃ a b z, o = .number a z ∧ p = .number b z ∧ ADR τ a b) (.getObj (l _ _ h) fun τ k a b z hz => .pure ⟨a, b, z, rfl, rfl, hz⟩) fun τ k o p ⟨a, b, z, e1, e2, e3⟩ => by rw [e1, e2]; exact sr_pur (.inr ⟨a, b, z, rfl, rfl, e3⟩)
theorem sr_behind {a b : Addr} (h : ADR ρ a b) : SR P F (fun σ x y => ADR σ x.1 y.1 ∧ x.2 = y.2) ρ (behindNumber a) (behindNumber b) := by
  unfold behindNumber
  refine sr_bnd (sr_numAt h.1) ?_
  rintro σ l x y (⟨rfl, rfl⟩ | ⟨p, q, z, rfl, rfl, hpq⟩)
  · exact sr_pur ⟨h.mono l, rfl⟩
  · exact sr_pur ⟨hpq, rfl⟩
theorem sr_asNum {a b : Addr} (h : ADR ρ a b) (z : Bool) : SR P F VR ρ (asNumber a z) (asNumber b z) := by
  unfold asNumber newObj
  refine sr_bnd (A := fun σ r s => σ r s) (.number h fun σ l r s hr => .pure hr) ?_
  intro σ l r s hr
  exact sr_pur (.ptr ⟨hr, rfl, rfl⟩)
theorem sr_byteOf {a b : Addr} (h : ADR ρ a b) : SR P F EqR ρ (byteOf a) (byteOf b) := by
  obtain ⟨h1, h2, h3⟩ := h
  unfold byteOf
  rw [← h2, ← h3]
  cases hs : a.spot with
  | some s => exact sr_pur rfl
  | none =>
    refine sr_bnd sr_prog ?_
    rintro σ l p q ⟨hp, hq⟩
    rw [hp, hq]
    unfold noView
    refine sr_bnd (A := fun _ _ _ => True) (sr_bnd (sr_view (l _ _ h1)) ?_) ?_
    · rintro τ k x y ⟨rfl, rfl⟩
      exact sr_pur trivial
    · intro τ k _ _ _
      refine sr_bnd (A := fun _ => ShR) (.shape (k _ _ (l _ _ h1)) fun x y hxy => .pure hxy) ?_
      rintro υ m x y hxy
      rcases hxy with ⟨rfl, rfl⟩ | ⟨ty, _, _, rfl, rfl, _⟩
      · exact sr_stuck
      · dsimp only
        split
        · exact sr_pur rfl
        · cases hb : byteOfCell P P.depth ty (a.off % P.cellsOf ty) with
          | none => exact sr_stuck
          | some n => exact sr_pur rfl
theorem sr_partAt {a b : Addr} (h : ADR ρ a b) (n m : Nat) : SR P F ADR ρ (partAt a n m) (partAt b n m) := by
  unfold partAt
  refine sr_bnd (sr_byteOf h) ?_
  rintro σ l x y hxy
  cases hxy
  have hp : ADR σ { block := a.block, off := a.off + n } { block := b.block, off := b.off + n } := ⟨l _ _ h.1, by simp [h.2.1], rfl⟩
  refine sr_bnd (sr_byteOf hp) ?_
  rintro τ k z w hzw
  cases hzw
  refine sr_pur ?_
  split
  · exact hp.mono k
  · exact ⟨k _ _ hp.1, hp.2.1, rfl⟩
theorem sr_fieldPlace {a b : Addr} (h : ADR ρ a b) (f : Field) : SR P F ADR ρ (fieldPlace a f) (fieldPlace b f) := by
  unfold fieldPlace
  refine sr_bnd (sr_size _) ?_
  rintro σ l x y hxy
  cases hxy
  split
  · exact sr_partAt (h.mono l) _ _
  · exact sr_pur ((h.mono l).add _)
theorem sr_fieldAt (s : TypeId) {v u : Value} (h : VR ρ v u) (i : Nat) : SR P F VR ρ (Instr.fieldAt s v i) (Instr.fieldAt s u i) := by
  unfold Instr.fieldAt
  refine sr_bnd (sr_under s) ?_
  rintro σ l x y ⟨rfl, -⟩
  cases x <;> first | exact sr_stuck | skip
  rename_i fields
  dsimp only
  cases fields[i]? with
  | none => exact sr_stuck
  | some f =>
    refine sr_bnd (sr_sure (h.mono l)) ?_
    intro τ k a b hab
    refine sr_bnd (sr_fieldPlace hab f) ?_
    intro υ m c d hcd
    exact sr_pur (.ptr hcd)
theorem sr_bounds {A : Ren → α → β → Prop} {k : IntKind} {x y : Int} {c : BoundsCode} {z : Sem β} : SR P F A ρ (boundsPanic k x y c : Sem α) z := sr_never fun w => by
  unfold boundsPanic
  split
  · exact never_bind (fun w => ⟨_, _, rfl⟩) (fun a w => never_rt rfl w) w
  · exact never_bind (fun w => ⟨_, _, rfl⟩) (fun a w => never_rt rfl w) w
end
end Go.Proofs.Ytndncmjhpbjcoaa

/- More operations, carried over to renamed memory: making, appending, arithmetic, calls. -/
namespace Go.Proofs.Ytndncmjhpbjcoaa

variable [FnsOk]
section
variable {P : Program} {F : Nat → Prop} {α β γ δ : Type} {ρ : Ren}
theorem sr_rtBind {A : Ren → γ → δ → Prop} {e : RuntimeError} (he : RuntimeError.short e = true) {f : α → Sem γ} {y : Sem δ} : SR P F A ρ (runtimePanic e >>= f) y := sr_never (never_left (never_rt he))
theorem flat_cells {v : Value} (h : Flat v) : ∀ c ∈ v.cells, Flat c := by
  have one : ∀ {x : Value}, Flat x → ∀ c ∈ #[x], Flat c := fun {x} k c hc => by
    simp at hc
    rw [hc]
    exact k
  cases h with
  | agg h => exact h
  | bool b => exact one (.bool b)
  | int k n => exact one (.int k n)
  | string s => exact one (.string s)
  | nil => exact one .nil
  | slice0 n c => exact one (.slice0 n c)
  | func f hf => exact one (.func f hf)
  | nilFunc => exact one .nilFunc
  | nilIface => exact one .nilIface
  | tuple h => exact one (.tuple h)
theorem flat_arr {cs : Array Value} (h : ∀ c ∈ cs, Flat c) : AR ρ cs cs := ⟨rfl, fun i a b x y => by
  rw [x] at y
  cases y
  exact (h a (Array.mem_of_getElem? x)).rel ρ⟩
theorem flat_default : Flat (default : Value) := .bool _
theorem flat_get {cs : Array Value} (h : ∀ c ∈ cs, Flat c) (i : Nat) : Flat cs[i]! := by
  rw [getElem!_def]
  cases hc : cs[i]? with
  | none => exact flat_default
  | some v => exact h v (Array.mem_of_getElem? hc)
theorem flat_map {cs : Array Value} (h : ∀ c ∈ cs, Flat c) (n : Nat) (f : Nat → Nat) : ∀ c ∈ (Array.range n).map (fun i => cs[f i]!), Flat c := by
  intro c hc
  rw [Array.mem_map] at hc
  obtain ⟨i, -, rfl⟩ := hc
  exact flat_get h _
theorem sr_zeroF {t : TypeId} (hz : ZeroFlat P t) : SR P F (fun _ a b => a = b ∧ Flat a) ρ (zeroValue t) (zeroValue t) := by
  unfold zeroValue
  refine sr_bnd (sr_info t) ?_
  rintro σ l a b ⟨rfl, hi⟩
  cases h : a.zero with
  | none => exact sr_unsup
  | some v => exact sr_pur ⟨rfl, hz a v hi h⟩
theorem sr_room (n : Nat) : SR P F (fun _ _ _ => True) ρ (askRoom n) (askRoom n) := by
  unfold askRoom
  split
  · exact .mark (.pure trivial)
  · exact sr_pur trivial
theorem sr_choose (q : Question) : SR P F EqR ρ (choose q) (choose q) := .choose fun _ => .pure rfl
theorem sr_makeSlice (t : TypeId) (hz : ∀ e, P.underlying t = some (.slice e) → ZeroFlat P e) {v u x y : Value} (h : VR ρ v u) (k : VR ρ x y) : SR P F VR ρ (Instr.makeSlice t v x) (Instr.makeSlice t u y) := by
  unfold Instr.makeSlice
  refine sr_bnd (sr_under t) ?_
  rintro σ1 l1 d d' ⟨rfl, hd⟩
  cases d <;> first | exact sr_stuck | skip
  rename_i elem
  dsimp only
  refine sr_bnd (sr_int (h.mono l1)) ?_
  rintro σ2 l2 n n' ⟨rfl, -⟩
  refine sr_bnd (sr_int ((k.mono l1).mono l2)) ?_
  rintro σ3 l3 c c' ⟨rfl, -⟩
  refine sr_bnd (sr_info elem) ?_
  rintro σ4 l4 i i' ⟨rfl, -⟩
  split
  · split
    · exact sr_rtBind rfl
    · split
      · exact sr_rtBind rfl
      · refine sr_bnd (sr_choose _) ?_
        intro _ _ _ _ _
        exact sr_rtBind rfl
  · refine sr_bnd (sr_room _) ?_
    intro σ5 l5 _ _ _
    refine sr_bnd (sr_size elem) ?_
    rintro σ6 l6 m m' hm
    cases hm
    split
    · refine sr_bnd (A := EqR) (sr_pur rfl) ?_
      rintro σ7 l7 z z' hz
      cases hz
      rename_i he
      refine sr_bnd (A := ADR) (sr_row elem ⟨rfl, fun i a b x y => ?_⟩) ?_
      · rw [he] at x
        simp at x
      · intro σ8 l8 a b hab
        exact sr_pur (.slice hab _ _)
    · refine sr_bnd (sr_zeroF (hz elem hd)) ?_
      rintro σ7 l7 z z' ⟨rfl, hzz⟩
      refine sr_bnd (A := fun _ a b => a = b ∧ ∀ c ∈ a, Flat c) (sr_pur ⟨rfl, flat_cells hzz⟩) ?_
      rintro σ8 l8 y y' ⟨rfl, hyy⟩
      refine sr_bnd (A := ADR) (sr_row elem (flat_arr (flat_map hyy _ _))) ?_
      intro σ8 l8 a b hab
      exact sr_pur (.slice hab _ _)
/-! append -/
theorem flat_zeroCells {cs : Array Value} (h : ∀ c ∈ cs, Flat c) (n : Nat) : ∀ c ∈ Builtin.zeroCells cs n, Flat c := flat_map h _ _
theorem sr_firstCells (size n : Nat) {v u : Value} (h : VR ρ v u) : SR P F AR ρ (Builtin.firstCells size n v) (Builtin.firstCells size n u) := by
  cases h with
  | slice h k c => exact sr_lcs _ h
  | slice0 k c => exact sr_pur AR.nil
  | string s =>
    refine sr_pur (flat_arr ?_)
    intro c hc
    rw [Array.mem_map] at hc
    obtain ⟨b, -, rfl⟩ := hc
    exact .int _ _
  | _ => exact sr_stuck
theorem sr_lenOf {v u : Value} (h : VR ρ v u) : SR P F EqR ρ (Builtin.lenOf v) (Builtin.lenOf u) := by
  cases h <;> first | exact sr_pur rfl | exact sr_stuck
theorem ok_bind {x : Sem α} {f : α → Sem γ} (hx : ∀ w, ∃ a w1, x.run P w = .ok a w1) (h : ∀ a w, ∃ b w1, (f a).run P w = .ok b w1) : ∀ w, ∃ b w1, (x >>= f).run P w = .ok b w1 := fun w => by
  obtain ⟨a, w1, h1⟩ := hx w
  obtain ⟨b, w2, h2⟩ := h a w1
  refine ⟨b, w2, ?_⟩
  rw [show (x >>= f) = x.bind f from rfl, Sem.run_bind', h1, Result.andThen_ok]
  exact h2
theorem ok_pure (a : α) : ∀ w, ∃ b w1, (Pure.pure a : Sem α).run P w = .ok b w1 := fun w => ⟨a, w, rfl⟩
theorem ok_holds (a : Addr) (n : Nat) : ∀ w, ∃ b w1, (Builtin.holdsCells a n).run P w = .ok b w1 := by
  unfold Builtin.holdsCells
  refine ok_bind (fun w => ⟨_, _, rfl⟩) fun x => ?_
  cases x <;> exact ok_pure _
theorem ok_mayShare (size sLen n : Nat) (base : Option Addr) (x : Value) : ∀ w, ∃ b w1, (Builtin.mayShare size sLen n base x).run P w = .ok b w1 := by
  unfold Builtin.mayShare
  have tail : ∀ there : Bool, ∀ w, ∃ b w1, ((if !there then Pure.pure true else match x with
      | .slice (some b) _ _ => do Pure.pure (!(← Builtin.holdsCells b (n * size)) || base.any (·.block == b.block))
      | _ => Pure.pure false : Sem Bool)).run P w = .ok b w1 := fun there => by
    split
    · exact ok_pure _
    · split
      · exact ok_bind (ok_holds _ _) fun _ => ok_pure _
      · exact ok_pure _
  cases base with
  | none => exact ok_bind (ok_pure _) tail
  | some a =>
    refine ok_bind (ok_holds _ _) fun b => ?_
    refine ok_bind (fun w => ⟨_, _, rfl⟩) fun c => ?_
    exact ok_bind (ok_pure _) tail
def appTail (elem : TypeId) (size : Nat) (base : Option Addr) (sLen sCap : Nat) (x : Value) : Sem Value := do
  let n ← Builtin.lenOf x
  if sLen + n ≤ sCap then
    let new ← Builtin.firstCells size n x
    if let some a := base then storeCells (a.add (sLen * size)) new.toList
    Pure.pure (.slice base (sLen + n) sCap)
  else
    if ((sLen + n : Nat) : Int) > IntKind.i64.max ∧ (false = true ∨ (← typeInfo elem).bytes = 0) then runtimePanic (.error "growslice: len out of range")
    if Builtin.nextslicecap (sLen + n) sCap * (← typeInfo elem).bytes > 2 ^ 48 then (do
      if !(← Builtin.mayShare size sLen n base x) then mark .noRoom
      unsupported (.resourceLimit "append: a slice or a string whose bytes no memory bears"))
    let newCap ← choose (.appendCap (sLen + n) sCap elem)
    askRoom (newCap * (← typeInfo elem).bytes)
    let old ← Builtin.firstCells size sLen (.slice base sLen sCap)
    let new ← Builtin.firstCells size n x
    let rest := Builtin.zeroCells (← zeroValue elem).cells (newCap - (sLen + n))
    Pure.pure (.slice (some (← newRow elem (old ++ new ++ rest))) (sLen + n) newCap)
theorem sr_appTail (elem : TypeId) (hz : ZeroFlat P elem) (size sLen sCap : Nat) {base base' : Option Addr} {x y : Value} (hb : VR ρ (.slice base sLen sCap) (.slice base' sLen sCap)) (hx : VR ρ x y) : SR P F VR ρ (appTail elem size base sLen sCap x) (appTail elem size base' sLen sCap y) := by
  unfold appTail
  refine sr_bnd (sr_lenOf hx) ?_
  rintro σ l n n' hn
  cases hn
  have hb1 := hb.mono l
  have hx1 := hx.mono l
  clear hb hx
  have fin : ∀ τ, σ.le τ → SR P F VR τ (do
      let newCap ← choose (.appendCap (sLen + n) sCap elem)
      askRoom (newCap * (← typeInfo elem).bytes)
      let old ← Builtin.firstCells size sLen (.slice base sLen sCap)
      let new ← Builtin.firstCells size n x
      let rest := Builtin.zeroCells (← zeroValue elem).cells (newCap - (sLen + n))
      Pure.pure (.slice (some (← newRow elem (old ++ new ++ rest))) (sLen + n) newCap)) (do
      let newCap ← choose (.appendCap (sLen + n) sCap elem)
      askRoom (newCap * (← typeInfo elem).bytes)
      let old ← Builtin.firstCells size sLen (.slice base' sLen sCap)
      let new ← Builtin.firstCells size n y
      let rest := Builtin.zeroCells (← zeroValue elem).cells (newCap - (sLen + n))
      Pure.pure (.slice (some (← newRow elem (old ++ new ++ rest))) (sLen + n) newCap)) := fun τ lt => by
    refine sr_bnd (sr_choose _) ?_
    rintro τ1 k1 c c' hc
    cases hc
    refine sr_bnd (sr_info elem) ?_
    rintro τ2 k2 i i' ⟨rfl, -⟩
    refine sr_bnd (sr_room _) ?_
    intro τ3 k3 _ _ _
    refine sr_bnd (sr_firstCells size sLen ((((hb1.mono lt).mono k1).mono k2).mono k3)) ?_
    intro τ4 k4 o o' ho
    refine sr_bnd (sr_firstCells size n (((((hx1.mono lt).mono k1).mono k2).mono k3).mono k4)) ?_
    intro τ5 k5 m m' hm
    refine sr_bnd (sr_zeroF hz) ?_
    rintro τ6 k6 z z' ⟨rfl, hzz⟩
    refine sr_bnd (sr_row elem ((((ho.mono k5).mono k6).append (hm.mono k6)).append (flat_arr (flat_zeroCells (flat_cells hzz) _)))) ?_
    intro τ7 k7 a b hab
    exact sr_pur (.slice hab _ _)
  split
  · refine sr_bnd (sr_firstCells size n hx1) ?_
    intro τ k o o' ho
    have hb2 := hb1.mono k
    cases hb2 with
    | slice0 => exact sr_pur (.slice0 _ _)
    | slice h =>
      refine sr_bnd (sr_scs _ _ 0 (h.add _) ho.list) ?_
      intro υ k2 _ _ _
      exact sr_pur (.slice (h.mono k2) _ _)
  · refine sr_bnd (sr_info elem) ?_
    rintro τ k i i' ⟨rfl, -⟩
    dsimp only
    split
    · exact sr_rtBind rfl
    · refine sr_bnd (sr_info elem) ?_
      rintro υ k2 j j' ⟨rfl, -⟩
      split
      · refine sr_never (never_left (never_bind (ok_mayShare _ _ _ _ _) fun a => ?_))
        split
        · exact never_bind (fun w => ⟨_, _, rfl⟩) fun _ => never_unsup
        · exact never_unsup
      · exact fin υ (Ren.le_trans k k2)
theorem sr_append (ts : Array TypeId) (t : TypeId) (hz : ∀ s e, ts[0]? = some s → P.underlying s = some (.slice e) → ZeroFlat P e) (hn : ∀ s k, ts[1]? = some s → P.underlying s ≠ some (.int k)) {cs ds : Array Value} (h : AR ρ cs ds) : SR P F VR ρ (Builtin.append_ ts t cs) (Builtin.append_ ts t ds) := by
  unfold Builtin.append_
  cases h0 : cs[0]? with
  | none => cases ts[0]? <;> exact sr_stuck
  | some s =>
    obtain ⟨s', h0', hs⟩ := h.get h0
    cases h1 : cs[1]? with
    | none => cases ts[0]? <;> exact sr_stuck
    | some x =>
      obtain ⟨x', h1', hx⟩ := h.get h1
      rw [h0', h1']
      cases ht : ts[0]? with
      | none => exact sr_stuck
      | some sT =>
        dsimp only
        refine sr_bnd (sr_under sT) ?_
        rintro σ1 l1 d d' ⟨rfl, hd⟩
        cases d <;> first | exact sr_stuck | skip
        rename_i elem
        dsimp only
        have hs1 := hs.mono l1
        have hx1 := hx.mono l1
        clear hs hx h0 h0' h1 h1' h
        have hze := hz sT elem ht hd
        have main : ∀ (base base' : Option Addr) (sLen sCap : Nat), VR σ1 (.slice base sLen sCap) (.slice base' sLen sCap) → ∀ (σ : Ren), σ1.le σ → ∀ size : Nat, SR P F VR σ (appTail elem size base sLen sCap x) (appTail elem size base' sLen sCap x') := fun base base' sLen sCap hb σ l2 size => sr_appTail elem hze size sLen sCap (hb.mono l2) (hx1.mono l2)
        cases hs1 <;> first | exact sr_stuck | skip
        all_goals
          dsimp only
          refine sr_bnd (sr_size elem) ?_
          rintro σ2 l2 size size' hsz
          cases hsz
          cases hxt : ts[1]? with
          | none =>
            dsimp only
            refine sr_bnd (A := fun _ a b => a = false ∧ b = false) (sr_pur ⟨rfl, rfl⟩) ?_
            rintro σ3 l3 zz zz' ⟨rfl, rfl⟩
            first
              | exact main _ _ _ _ (.slice0 _ _) σ3 (Ren.le_trans l2 l3) size
              | exact main _ _ _ _ (.slice (by assumption) _ _) σ3 (Ren.le_trans l2 l3) size
          | some xT =>
            dsimp only
            refine sr_bnd (sr_under xT) ?_
            rintro σ3 l3 dx dx' ⟨rfl, hdx⟩
            refine sr_bnd (A := fun _ a b => a = false ∧ b = false) (sr_pur ?_) ?_
            · cases dx <;> first | exact ⟨rfl, rfl⟩ | exact absurd hdx (hn xT _ hxt)
            rintro σ4 l4 zz zz' ⟨rfl, rfl⟩
            first
              | exact main _ _ _ _ (.slice0 _ _) σ4 (Ren.le_trans (Ren.le_trans l2 l3) l4) size
              | exact main _ _ _ _ (.slice (by assumption) _ _) σ4 (Ren.le_trans (Ren.le_trans l2 l3) l4) size
end
end Go.Proofs.Ytndncmjhpbjcoaa

/- The rest of the operations, carried over to renamed memory; an operation as a whole. -/
namespace Go.Proofs.Ytndncmjhpbjcoaa

variable [FnsOk]
section
variable {P : Program} {F : Nat → Prop} {α β γ δ : Type} {ρ : Ren}
def idxJp (t : TypeId) (k : IntKind) (i : Int) : Option Addr × Nat × TypeId → Sem Value
  | (base, len, elem) => do
    let tiny := len ≤ 1 && (match ← underlying t with | .array .. => true | _ => false)
    match base with
    | some a =>
      if 0 ≤ i ∧ i < len then Pure.pure (.pointer (some (a.add (i.toNat * (← sizeOf elem)))))
      else if tiny then unsupported (.noEntry "op/indexAddr.an index out of range at an array of length 0 or 1 (ledger 616)")
      else boundsPanic k i len .index
    | none => boundsPanic k i 0 .index
theorem sr_idxJp (t : TypeId) (k : IntKind) (i : Int) (len : Nat) (elem : TypeId) {base base' : Option Addr} (h : VR ρ (.pointer base) (.pointer base')) : SR P F VR ρ (idxJp t k i (base, len, elem)) (idxJp t k i (base', len, elem)) := by
  unfold idxJp
  refine sr_bnd (sr_under t) ?_
  rintro σ1 l1 d d' ⟨rfl, -⟩
  have h1 := h.mono l1
  clear h
  cases h1 with
  | nil => exact sr_bounds
  | ptr hab =>
    dsimp only
    split
    · refine sr_bnd (sr_size elem) ?_
      rintro σ2 l2 m m' hm
      cases hm
      exact sr_pur (.ptr ((hab.mono l2).add _))
    · repeat' split
      all_goals first | exact sr_unsup | exact sr_bounds
theorem sr_index (t : TypeId) {v u x y : Value} (h : VR ρ v u) (hx : VR ρ x y) : SR P F VR ρ (Instr.indexAt t v x) (Instr.indexAt t u y) := by
  unfold Instr.indexAt
  refine sr_bnd (sr_intOf hx) ?_
  rintro σ l ⟨k, i⟩ b ⟨rfl, -, -⟩
  refine sr_bnd (sr_under t) ?_
  rintro σ1 l1 d d' ⟨rfl, -⟩
  have h1 := (h.mono l).mono l1
  clear h
  have fin : ∀ (τ : Ren) (len : Nat) (elem : TypeId) (base base' : Option Addr), VR τ (.pointer base) (.pointer base') → SR P F VR τ ((Pure.pure (base, len, elem) : Sem (Option Addr × Nat × TypeId)) >>= idxJp t k i) ((Pure.pure (base', len, elem) : Sem (Option Addr × Nat × TypeId)) >>= idxJp t k i) := fun τ len elem base base' hb => sr_idxJp t k i len elem hb
  cases d
  case array len elem =>
    refine sr_bnd (sr_sure h1) ?_
    intro σ2 l2 a b hab
    exact fin σ2 len elem (some a) (some b) (.ptr hab)
  case slice elem =>
    cases h1 with
    | slice0 n c => exact fin σ1 n elem none none .nil
    | slice hab n c => exact fin σ1 n elem _ _ (.ptr hab)
    | _ => exact sr_never (never_left never_stuck)
  all_goals exact sr_never (never_left never_stuck)
theorem sr_len (ts : Array TypeId) (t : TypeId) {cs ds : Array Value} (h : AR ρ cs ds) : SR P F VR ρ (Builtin.len_ ts t cs) (Builtin.len_ ts t ds) := by
  unfold Builtin.len_
  cases ht : ts[0]? with
  | none => exact sr_stuck
  | some T =>
    cases h0 : cs[0]? with
    | none => exact sr_stuck
    | some x =>
      obtain ⟨y, h0', hx⟩ := h.get h0
      rw [h0']
      dsimp only
      refine sr_bnd (sr_under T) ?_
      rintro σ l d d' ⟨rfl, -⟩
      have hx1 := hx.mono l
      clear hx h0 h0'
      cases d
      case pointer e =>
        dsimp only
        refine sr_bnd (sr_under e) ?_
        rintro σ2 l2 d d' ⟨rfl, -⟩
        cases d <;> first | exact sr_stuck | exact sr_pur (.int _ _)
      all_goals
        cases hx1 <;> first | exact sr_stuck | exact sr_pur (.int _ _)
theorem sr_min2 {v u x y : Value} (h : VR ρ v u) (k : VR ρ x y) : SR P F VR ρ (Builtin.min2 v x) (Builtin.min2 u y) := by
  have sl : ∀ (a b : ByteArray), SR P F VR ρ (do Pure.pure (.string (if ← asBool (← Op.stringOp .leq a b) then a else b))) (do Pure.pure (.string (if ← asBool (← Op.stringOp .leq a b) then a else b))) := fun a b => by
    refine sr_bnd (A := VR) (sr_pur (.bool _)) ?_
    intro σ l p q hpq
    refine sr_bnd (sr_boolOf hpq) ?_
    intro τ m c d hcd
    cases hcd
    exact sr_pur (by split <;> exact .string _)
  cases h <;> cases k <;> first
    | exact sr_stuck
    | exact sr_unsup
    | exact sr_pur (.int _ _)
    | exact sl _ _
theorem sr_foldM : ∀ (xs ys : List Value) {ρ : Ren} {v u : Value}, VR ρ v u → LR ρ xs ys → SR P F VR ρ (xs.foldlM Builtin.min2 v) (ys.foldlM Builtin.min2 u)
  | [], ys, _, _, _, h, k => by
    rw [k.nil_inv]
    exact sr_pur h
  | x :: xs, ys, _, _, _, h, k => by
    obtain ⟨y, ys', rfl, hxy, hr⟩ := k.cons_inv
    rw [List.foldlM_cons, List.foldlM_cons]
    refine sr_bnd (sr_min2 h hxy) ?_
    intro σ l a b hab
    exact sr_foldM xs ys' hab (hr.mono l)
theorem sr_min (ts : Array TypeId) (t : TypeId) {cs ds : Array Value} (h : AR ρ cs ds) : SR P F VR ρ (Builtin.min_ ts t cs) (Builtin.min_ ts t ds) := by
  unfold Builtin.min_
  have hl := h.list
  revert hl
  generalize cs.toList = xs
  generalize ds.toList = ys
  intro hl
  cases xs with
  | nil => rw [hl.nil_inv]; exact sr_stuck
  | cons x xs =>
    obtain ⟨y, ys', rfl, hxy, hr⟩ := hl.cons_inv
    exact sr_foldM xs ys' hxy hr
theorem sr_unary (op : UnOp) {v u : Value} (h : VR ρ v u) (hop : op = .neg ∨ op = .not) : SR P F VR ρ (Op.unary op v) (Op.unary op u) := by
  rcases hop with rfl | rfl <;> cases h <;> first
    | exact sr_stuck
    | exact sr_unsup
    | exact sr_pur (.int _ _)
    | exact sr_pur (.bool _)
/-! literals -/
theorem set_cells : ∀ (xs ys : List Value) (off j : Nat) {cs ds : Array Value}, LR ρ xs ys → AR ρ cs ds → AR ρ ((xs.zipIdx j).foldl (fun cs (c, j) => cs.setIfInBounds (off + j) c) cs) ((ys.zipIdx j).foldl (fun cs (c, j) => cs.setIfInBounds (off + j) c) ds)
  | [], ys, off, j, cs, ds, h, k => by
    rw [h.nil_inv]
    exact k
  | x :: xs, ys, off, j, cs, ds, h, k => by
    obtain ⟨y, ys', rfl, hxy, hr⟩ := h.cons_inv
    simp only [List.zipIdx_cons, List.foldl_cons]
    exact set_cells xs ys' off (j + 1) hr (k.set hxy _)
def PR (ρ : Ren) (xs ys : List (Nat × Value)) : Prop := xs.length = ys.length ∧ ∀ (i : Nat) (a b : Nat × Value), xs[i]? = some a → ys[i]? = some b → a.1 = b.1 ∧ VR ρ a.2 b.2
theorem PR.cons_inv {x : Nat × Value} {xs ys : List (Nat × Value)} (h : PR ρ (x :: xs) ys) : ∃ y zs, ys = y :: zs ∧ x.1 = y.1 ∧ VR ρ x.2 y.2 ∧ PR ρ xs zs := by
  cases ys with
  | nil => cases h.1
  | cons y zs => exact ⟨y, zs, rfl, (h.2 0 x y rfl rfl).1, (h.2 0 x y rfl rfl).2, by simpa using h.1, fun i a b p q => h.2 (i + 1) a b (by simpa using p) (by simpa using q)⟩
theorem PR.mono {σ : Ren} {xs ys : List (Nat × Value)} (h : PR ρ xs ys) (l : ρ.le σ) : PR σ xs ys := ⟨h.1, fun i a b x y => ⟨(h.2 i a b x y).1, (h.2 i a b x y).2.mono l⟩⟩
theorem fill_rel (place : Nat → Option (Nat × Nat)) : ∀ (xs ys : List (Nat × Value)) {cs ds : Array Value}, PR ρ xs ys → AR ρ cs ds → (Instr.fill place cs xs = none ∧ Instr.fill place ds ys = none) ∨ ∃ c d, Instr.fill place cs xs = some c ∧ Instr.fill place ds ys = some d ∧ AR ρ c d
  | [], ys, cs, ds, h, k => by
    cases ys with
    | nil => exact .inr ⟨cs, ds, rfl, rfl, k⟩
    | cons y zs => cases h.1
  | x :: xs, ys, cs, ds, h, k => by
    obtain ⟨⟨i, u⟩, ys', rfl, h1, h2, hr⟩ := h.cons_inv
    obtain ⟨i', v⟩ := x
    obtain rfl : i' = i := h1
    simp only [Instr.fill]
    cases place i' with
    | none => exact .inl ⟨rfl, rfl⟩
    | some p =>
      obtain ⟨off, size⟩ := p
      have hc := h2.cells
      simp only [hc.1, k.1]
      split
      · exact .inl ⟨rfl, rfl⟩
      · refine fill_rel place xs ys' hr ?_
        have h9 := set_cells v.cells.toList u.cells.toList off 0 hc.list k
        rw [← Array.foldl_toList, ← Array.foldl_toList, Array.toList_zipIdx, Array.toList_zipIdx]
        exact h9
theorem PR.of {xs : Array (Nat × Operand)} {e1 e2 : Operand → Value} (h : ∀ x, VR ρ (e1 x) (e2 x)) : PR ρ (xs.map fun (i, x) => (i, e1 x)).toList (xs.map fun (i, x) => (i, e2 x)).toList := by
  refine ⟨by simp, fun i a b x y => ?_⟩
  rw [Array.toList_map, List.getElem?_map] at x y
  cases hc : xs.toList[i]? with
  | none => rw [hc] at x; cases x
  | some p =>
    rw [hc] at x y
    cases x
    cases y
    exact ⟨rfl, h _⟩
theorem sr_mapM {β' γ' : Type} (f : γ' → Sem β') (hf : ∀ c (ρ : Ren), SR P F EqR ρ (f c) (f c)) : ∀ (xs : List γ') {ρ : Ren}, SR P F EqR ρ (xs.mapM f) (xs.mapM f)
  | [], _ => sr_pur rfl
  | x :: xs, _ => by
    rw [List.mapM_cons]
    refine sr_bnd (hf x _) ?_
    rintro σ l a b hab
    cases hab
    refine sr_bnd (sr_mapM f hf xs) ?_
    rintro τ m c d hcd
    cases hcd
    exact sr_pur rfl
theorem sr_build (t : TypeId) (hz : ZeroFlat P t) {xs ys : Array (Nat × Value)} (h : PR ρ xs.toList ys.toList) : SR P F VR ρ (Instr.build t xs) (Instr.build t ys) := by
  unfold Instr.build
  refine sr_bnd (sr_zeroF hz) ?_
  rintro σ l z z' ⟨rfl, hzz⟩
  refine sr_bnd (sr_under t) ?_
  rintro σ1 l1 d d' ⟨rfl, -⟩
  have h1 := (h.mono l).mono l1
  have hc : ∀ τ : Ren, AR τ z.cells z.cells := fun τ => flat_arr (flat_cells hzz)
  clear h
  cases d <;> first | exact sr_stuck | skip
  case array n elem =>
    dsimp only
    refine sr_bnd (sr_size elem) ?_
    rintro σ2 l2 m m' hm
    cases hm
    rcases fill_rel (fun i => some (i * m, m)) _ _ (h1.mono l2) (hc σ2) with ⟨e1, e2⟩ | ⟨c, d, e1, e2, hcd⟩ <;> rw [e1, e2]
    · exact sr_stuck
    · exact sr_pur (.agg hcd.1 hcd.2)
  case struct fields =>
    dsimp only
    refine sr_bnd (A := EqR) ?_ ?_
    · rw [Array.mapM_eq_mapM_toList]
      refine sr_bnd (sr_mapM _ (fun c ρ => ?_) fields.toList) ?_
      · refine sr_bnd (sr_size _) ?_
        rintro τ m a b hab
        cases hab
        exact sr_pur rfl
      · rintro τ m a b hab
        cases hab
        exact sr_pur rfl
    rintro σ2 l2 m m' hm
    cases hm
    rcases fill_rel (fun i => m[i]?) _ _ (h1.mono l2) (hc σ2) with ⟨e1, e2⟩ | ⟨c, d, e1, e2, hcd⟩ <;> rw [e1, e2]
    · exact sr_stuck
    · exact sr_pur (.agg hcd.1 hcd.2)
theorem sr_buildSlice (t : TypeId) (n : Nat) (hz : ∀ e, P.underlying t = some (.slice e) → ZeroFlat P e) {xs ys : Array (Nat × Value)} (h : PR ρ xs.toList ys.toList) : SR P F VR ρ (Instr.buildSlice t n xs) (Instr.buildSlice t n ys) := by
  unfold Instr.buildSlice
  refine sr_bnd (sr_under t) ?_
  rintro σ1 l1 d d' ⟨rfl, hd⟩
  cases d <;> first | exact sr_stuck | skip
  rename_i elem
  dsimp only
  refine sr_bnd (sr_size elem) ?_
  rintro σ2 l2 m m' hm
  cases hm
  have h1 := (h.mono l1).mono l2
  clear h
  have fin : ∀ (τ : Ren) (zero : Array Value), σ2.le τ → AR τ ((Array.range (n * m)).map fun x => zero[x % zero.size]!) ((Array.range (n * m)).map fun x => zero[x % zero.size]!) → SR P F VR τ
      (match Instr.fill (fun i => some (i * m, m)) ((Array.range (n * m)).map fun x => zero[x % zero.size]!) xs.toList with
        | some cells => do
          let a ← newRow elem cells
          Pure.pure (.slice (some a) n n)
        | _ => Go.stuck "buildSlice: a part of the wrong size")
      (match Instr.fill (fun i => some (i * m, m)) ((Array.range (n * m)).map fun x => zero[x % zero.size]!) ys.toList with
        | some cells => do
          let a ← newRow elem cells
          Pure.pure (.slice (some a) n n)
        | _ => Go.stuck "buildSlice: a part of the wrong size") := fun τ zero lt hz0 => by
    rcases fill_rel (fun i => some (i * m, m)) _ _ (h1.mono lt) hz0 with ⟨e1, e2⟩ | ⟨c, d, e1, e2, hcd⟩ <;> rw [e1, e2]
    · exact sr_stuck
    · refine sr_bnd (sr_row elem hcd) ?_
      intro υ lu a b hab
      exact sr_pur (.slice hab _ _)
  split
  · exact sr_never (never_left never_unsup)
  · split
    · rename_i he
      refine sr_bnd (A := EqR) (sr_pur rfl) ?_
      rintro σ3 l3 zz zz' hzz
      cases hzz
      exact fin σ3 _ l3 ⟨rfl, fun i a b x y => by rw [he] at x; simp at x⟩
    · refine sr_bnd (sr_zeroF (hz elem hd)) ?_
      rintro σ3 l3 z z' ⟨rfl, hzz⟩
      refine sr_bnd (A := fun _ a b => a = b ∧ ∀ c ∈ a, Flat c) (sr_pur ⟨rfl, flat_cells hzz⟩) ?_
      rintro σ4 l4 y y' ⟨rfl, hyy⟩
      exact fin σ4 _ (Ren.le_trans l3 l4) (flat_arr (flat_map hyy _ _))
end
end Go.Proofs.Ytndncmjhpbjcoaa

/- Arithmetic, comparisons, calls, carried over to renamed memory; an operation as a whole. -/
namespace Go.Proofs.Ytndncmjhpbjcoaa

theorem cellAt_more {P : Program} {d e m m' off o : Nat} {b : Int} (h : cellAtBytes P d e m off b = some o) (hm : m ≤ m') : cellAtBytes P d e m' off b = some o := by
  unfold cellAtBytes at h ⊢
  simp only at h ⊢
  split at h
  · cases h
  · rename_i h0
    rw [if_neg h0]
    cases hb : byteOfCell P d e (off % P.cellsOf e) with
    | none => rw [hb] at h; cases h
    | some y =>
      rw [hb] at h
      simp only [Option.bind_eq_bind, Option.bind_some] at h ⊢
      split at h
      · cases h
      · rename_i h1
        have h2 : m * P.bytesOf e ≤ m' * P.bytesOf e := Nat.mul_le_mul_right _ hm
        have h3 : Int.ofNat (m * P.bytesOf e) ≤ Int.ofNat (m' * P.bytesOf e) := Int.ofNat_le.2 h2
        rw [if_neg (fun hx => h1 (by
          simp only [Bool.or_eq_true, decide_eq_true_eq] at hx ⊢
          exact hx.imp id fun hx => Int.le_trans h3 hx))]
        exact h
variable [FnsOk]
section
variable {P : Program} {F : Nat → Prop} {α β γ δ : Type} {ρ : Ren}
theorem sr_unsafeAdd (t : TypeId) {x x' y y' : Value} (hx : VR ρ x x') (hy : VR ρ y y') : SR P F VR ρ (Builtin.unsafeAdd_ #[] t #[x, y]) (Builtin.unsafeAdd_ #[] t #[x', y']) := by
  unfold Builtin.unsafeAdd_
  cases hx <;> first | exact sr_stuck | skip
  case nil =>
    dsimp only
    refine sr_bnd (sr_int hy) ?_
    rintro σ l n n' ⟨rfl, -⟩
    split
    · exact sr_unsup
    · split
      · exact sr_never (never_left never_unsup)
      · exact sr_unsup
  case ptr a b hab =>
    dsimp only
    refine sr_bnd (sr_int hy) ?_
    rintro σ l n n' ⟨rfl, -⟩
    have h1 := hab.mono l
    split
    · refine sr_bnd (sr_view h1.1) ?_
      rintro σ1 l1 p q ⟨rfl, rfl⟩
      exact sr_pur (.ptr (h1.mono l1))
    · split
      · exact sr_never (never_left never_unsup)
      · refine sr_bnd (A := fun _ => ShR) (.shape h1.1 fun x y hxy => .pure hxy) ?_
        rintro σ1 l1 p q hpq
        rcases hpq with ⟨rfl, rfl⟩ | ⟨ty, n1, n2, rfl, rfl, hle⟩
        · exact sr_unsup
        · dsimp only
          refine sr_bnd sr_prog ?_
          rintro σ2 l2 p q ⟨hp, hq⟩
          rw [hp, hq, h1.2.1]
          cases hcb : cellAtBytes P P.depth ty (n1 / P.cellsOf ty) b.off n with
          | none => exact sr_unsup
          | some off =>
            rw [cellAt_more hcb (Nat.div_le_div_right hle)]
            exact sr_pur (.ptr ⟨l2 _ _ (l1 _ _ h1.1), rfl, h1.2.2⟩)
theorem sr_moved {t : TypeId} {k : IntKind} (ht : P.underlying t = some (.int k)) {x x' y y' : Value} (hx : VR ρ x x') (hy : VR ρ y y') : SR P F VR ρ (movedNumber t x y) (movedNumber t x' y') := by
  unfold movedNumber
  refine sr_bnd (sr_under t) ?_
  rintro σ l d d' ⟨rfl, hd⟩
  rw [ht] at hd
  cases hd
  have hx1 := hx.mono l
  have hy1 := hy.mono l
  clear hx hy
  simp only [Bool.false_eq_true, if_false]
  cases hx1 with
  | ptr hab =>
    dsimp only
    refine sr_bnd (sr_behind hab) ?_
    rintro σ1 l1 ⟨a, z⟩ ⟨b, z'⟩ ⟨h1, h2⟩
    cases h2
    refine sr_bnd (sr_unsafeAdd t (.ptr h1) (hy1.mono l1)) ?_
    intro σ2 l2 u v huv
    cases huv with
    | ptr h => exact sr_asNum h _
    | bool b => exact sr_pur (.bool b)
    | int k n => exact sr_pur (.int k n)
    | string s => exact sr_pur (.string s)
    | nil => exact sr_pur .nil
    | slice0 n c => exact sr_pur (.slice0 n c)
    | slice h n c => exact sr_pur (.slice h n c)
    | func f hf h1 h2 h3 h4 => exact sr_pur (.func f hf h1 h2 h3 h4)
    | nilFunc => exact sr_pur .nilFunc
    | nilIface => exact sr_pur .nilIface
    | agg h h2 => exact sr_pur (.agg h h2)
    | tuple h h2 => exact sr_pur (.tuple h h2)
  | bool b => exact sr_unsafeAdd t (.bool b) hy1
  | int k n => exact sr_unsafeAdd t (.int k n) hy1
  | string s => exact sr_unsafeAdd t (.string s) hy1
  | nil => exact sr_unsafeAdd t .nil hy1
  | slice0 n c => exact sr_unsafeAdd t (.slice0 n c) hy1
  | slice h n c => exact sr_unsafeAdd t (.slice h n c) hy1
  | func f hf h1 h2 h3 h4 => exact sr_unsafeAdd t (.func f hf h1 h2 h3 h4) hy1
  | nilFunc => exact sr_unsafeAdd t .nilFunc hy1
  | nilIface => exact sr_unsafeAdd t .nilIface hy1
  | agg h h2 => exact sr_unsafeAdd t (.agg h h2) hy1
  | tuple h h2 => exact sr_unsafeAdd t (.tuple h h2) hy1
theorem halts_places {a b : Addr} {w : World} (hg : P.globals.size ≤ a.block) : HaltsT P (Op.twoPlaces a b) w := by
  unfold Op.twoPlaces
  refine ⟨.unsupported .addressObserved, w, ?_, rfl⟩
  rw [show ((program : Sem Program) >>= _) = (program : Sem Program).bind _ from rfl, Sem.run_bind']
  simp [program, Sem.run, hg, unsupported]
theorem sr_dead2 {A : Ren → γ → δ → Prop} {a a' b : Addr} {y : Sem δ} {f : Nat × Nat → Sem γ} (h : ADR ρ a a') : SR P F A ρ (Op.twoPlaces a b >>= f) y := by
  refine .dead fun σ l w W hw => ?_
  obtain ⟨hh, w1, h1, h2⟩ := halts_places (P := P) (b := b) (w := w) (hw.lo _ _ (l _ _ h.1)).2.2.1
  refine ⟨hh, w1, ?_, h2⟩
  rw [show (Op.twoPlaces a b >>= f) = (Op.twoPlaces a b).bind f from rfl, Sem.run_bind', h1, Result.andThen_halt]
theorem sr_stringOp (op : BinOp) (a b : ByteArray) : SR P F VR ρ (Op.stringOp op a b) (Op.stringOp op a b) := by
  unfold Op.stringOp
  cases op <;> first
    | exact sr_stuck
    | exact sr_pur (.bool _)
    | (dsimp only; split; exact sr_unsup; exact sr_pur (.string _))
theorem sr_intInt (op : BinOp) (t : TypeId) (k k' : IntKind) (a b : Int) (h : op ≠ .shl ∧ op ≠ .shr ∧ op ≠ .and ∧ op ≠ .or ∧ op ≠ .xor ∧ op ≠ .andNot) : SR P F VR ρ (binOp op t (.int k a) (.int k' b)) (binOp op t (.int k a) (.int k' b)) := by
  obtain ⟨h1, h2, h3, h4, h5, h6⟩ := h
  cases op <;> first
    | exact absurd rfl h1
    | exact absurd rfl h2
    | exact absurd rfl h3
    | exact absurd rfl h4
    | exact absurd rfl h5
    | exact absurd rfl h6
    | (simp only [binOp]; split; exact sr_stuck; first
        | exact sr_pur (.int _ _)
        | exact sr_pur (.bool _)
        | (simp only [Op.intDiv]; split; exact sr_rtPanic rfl; exact sr_pur (.int _ _)))
end
end Go.Proofs.Ytndncmjhpbjcoaa

/- Comparing, calling, and an operation as a whole, carried over to renamed memory. -/
namespace Go.Proofs.Ytndncmjhpbjcoaa

variable [FnsOk]
section
variable {P : Program} {F : Nat → Prop} {α β γ δ : Type} {ρ : Ren}
def IntT (P : Program) (t : TypeId) : Prop := (∃ k, P.underlying t = some (.int k)) ∧ ∀ i u, P.info? t = some i → i.desc ≠ .named "sync.copyChecker" u
def BoolT (P : Program) (t : TypeId) : Prop := P.underlying t = some .bool
def SliceT (P : Program) (t : TypeId) : Prop := ∃ e, P.underlying t = some (.slice e)
def EqT (P : Program) (t : TypeId) : Prop := IntT P t ∨ BoolT P t ∨ SliceT P t
theorem sr_ptrs {σ : Ren} {t : TypeId} (hcc : ∀ i u, P.info? t = some i → i.desc ≠ .named "sync.copyChecker" u) {a a' b b' : Addr} (ha : ADR σ a a') (hb : ADR σ b b') : SR P F EqR σ (do
      let (a, b) := ((← behindNumber a).1, (← behindNumber b).1)
      if a.block == b.block && a.block < (← program).globals.size then return (← byteOf a) == (← byteOf b)
      let .named "sync.copyChecker" _ := (← typeInfo t).desc | unsupported .addressObserved
      if a == b then Pure.pure true else unsupported .addressObserved) (do
      let (a, b) := ((← behindNumber a').1, (← behindNumber b').1)
      if a.block == b.block && a.block < (← program).globals.size then return (← byteOf a) == (← byteOf b)
      let .named "sync.copyChecker" _ := (← typeInfo t).desc | unsupported .addressObserved
      if a == b then Pure.pure true else unsupported .addressObserved) := by
  refine sr_bnd (sr_behind ha) ?_
  rintro σ1 l1 ⟨a, z⟩ ⟨a', z'⟩ ⟨h1, -⟩
  refine sr_bnd (sr_behind (hb.mono l1)) ?_
  rintro σ2 l2 ⟨b, y⟩ ⟨b', y'⟩ ⟨h2, -⟩
  refine .dead fun υ l3 w W hw => ?_
  have hg := (hw.lo _ _ (l3 _ _ (l2 _ _ h1.1))).2.2.1
  dsimp only
  have hp : ∀ {γ : Type} (f : Program → Sem γ), HaltsT P (f P) w → HaltsT P (program >>= f) w := fun {γ} f ⟨hh, w1, e1, e2⟩ => ⟨hh, w1, by
    rw [show (program >>= f) = (program : Sem Program).bind f from rfl, Sem.run_bind']
    exact e1, e2⟩
  refine hp _ ?_
  rw [if_neg (by simp; intro _; exact hg)]
  cases hi : P.info? t with
  | none =>
    have h0 : HaltsT P (typeInfo t) w := ⟨.stuck "no such type", w, by
      unfold typeInfo
      rw [show ((program : Sem Program) >>= _) = (program : Sem Program).bind _ from rfl, Sem.run_bind']
      simp only [program, Sem.run, Result.andThen_ok, hi]
      rfl, rfl⟩
    obtain ⟨hh, w1, e1, e2⟩ := h0
    refine ⟨hh, w1, ?_, e2⟩
    rw [show (typeInfo t >>= _) = (typeInfo t).bind _ from rfl, Sem.run_bind', e1, Result.andThen_halt]
  | some i =>
    refine ⟨.unsupported .addressObserved, w, ?_, rfl⟩
    have h0 : (typeInfo t).run P w = .ok i w := by
      unfold typeInfo
      rw [show ((program : Sem Program) >>= _) = (program : Sem Program).bind _ from rfl, Sem.run_bind']
      simp only [program, Sem.run, Result.andThen_ok, hi]
      rfl
    rw [show (typeInfo t >>= _) = (typeInfo t).bind _ from rfl, Sem.run_bind', h0, Result.andThen_ok]
    have hne := hcc i
    split
    · rename_i hd
      exact absurd hd (hne _ hi)
    · rfl
theorem sr_eqInt {t : TypeId} (ht : IntT P t) {x x' y y' : Value} (hx : VR ρ x x') (hy : VR ρ y y') : SR P F EqR ρ (Op.equal t x y) (Op.equal t x' y') := by
  obtain ⟨⟨k, hk⟩, hcc⟩ := ht
  unfold Op.equal
  rw [show Op.maxDepth = 9999 + 1 from rfl]
  unfold Op.equalIn
  refine sr_bnd (sr_under t) ?_
  rintro σ l d d' ⟨rfl, hd⟩
  rw [hk] at hd
  cases hd
  have hx1 := hx.mono l
  have hy1 := hy.mono l
  clear hx hy
  cases hx1 with
  | ptr ha =>
    cases hy1 with
    | ptr hb => exact sr_ptrs hcc ha hb
    | int k n => rcases n with (_ | m) | m <;> first | exact sr_pur rfl | exact sr_unsup
    | _ => exact sr_unsup
  | int k n =>
    cases hy1 with
    | ptr hb => rcases n with (_ | m) | m <;> first | exact sr_pur rfl | exact sr_unsup
    | int k n => dsimp only; split; exact sr_pur rfl; exact sr_stuck
    | nil => first | exact sr_unsup | (rcases n with (_ | m) | m <;> exact sr_unsup)
    | _ => first | exact sr_stuck | (rcases n with (_ | m) | m <;> exact sr_stuck)
  | nil => cases hy1 <;> first | exact sr_unsup | exact sr_stuck
  | _ => cases hy1 <;> first | exact sr_stuck | exact sr_unsup
theorem sr_eqBool {t : TypeId} (ht : BoolT P t) {x x' y y' : Value} (hx : VR ρ x x') (hy : VR ρ y y') : SR P F EqR ρ (Op.equal t x y) (Op.equal t x' y') := by
  unfold Op.equal
  rw [show Op.maxDepth = 9999 + 1 from rfl]
  unfold Op.equalIn
  refine sr_bnd (sr_under t) ?_
  rintro σ l d d' ⟨rfl, hd⟩
  rw [show P.underlying t = _ from ht] at hd
  cases hd
  have hx1 := hx.mono l
  have hy1 := hy.mono l
  clear hx hy
  cases hx1 <;> cases hy1 <;> first
    | exact sr_stuck
    | exact sr_pur rfl
theorem sr_eqSlice {t : TypeId} (ht : SliceT P t) {x x' y y' : Value} (hx : VR ρ x x') (hy : VR ρ y y') : SR P F EqR ρ (Op.equal t x y) (Op.equal t x' y') := by
  obtain ⟨e, he⟩ := ht
  unfold Op.equal
  rw [show Op.maxDepth = 9999 + 1 from rfl]
  unfold Op.equalIn
  refine sr_bnd (sr_under t) ?_
  rintro σ l d d' ⟨rfl, hd⟩
  rw [he] at hd
  cases hd
  have hx1 := hx.mono l
  have hy1 := hy.mono l
  clear hx hy
  cases hx1 <;> cases hy1 <;> first
    | exact sr_stuck
    | exact sr_pur rfl
theorem run_under {t : TypeId} {d : TypeDesc} (h : P.underlying t = some d) (w : World) : (underlying t).run P w = .ok d w := by
  simp only [underlying]
  rw [show ((program : Sem Program) >>= _) = (program : Sem Program).bind _ from rfl, Sem.run_bind']
  simp only [program, Sem.run, Result.andThen_ok, h]
  rfl
theorem equal_never {t : TypeId} (ht : EqT P t) {x y : Value} (hxy : (x = .nilIface ∧ y = .nilIface) ∨ ∃ a b, x = .agg a ∧ y = .agg b) : ∀ w, HaltsT P (Op.equal t x y) w := fun w => by
  unfold Op.equal
  rw [show Op.maxDepth = 9999 + 1 from rfl]
  unfold Op.equalIn
  rcases ht with ⟨⟨k, hk⟩, -⟩ | hb | ⟨e, he⟩
  · rcases hxy with ⟨rfl, rfl⟩ | ⟨a, b, rfl, rfl⟩ <;> exact ⟨_, w, by rw [show (underlying t >>= _) = (underlying t).bind _ from rfl, Sem.run_bind', run_under hk, Result.andThen_ok]; rfl, rfl⟩
  rotate_left
  · rcases hxy with ⟨rfl, rfl⟩ | ⟨a, b, rfl, rfl⟩ <;> exact ⟨_, w, by rw [show (underlying t >>= _) = (underlying t).bind _ from rfl, Sem.run_bind', run_under he, Result.andThen_ok]; rfl, rfl⟩
  · rcases hxy with ⟨rfl, rfl⟩ | ⟨a, b, rfl, rfl⟩ <;> exact ⟨_, w, by rw [show (underlying t >>= _) = (underlying t).bind _ from rfl, Sem.run_bind', run_under hb, Result.andThen_ok]; rfl, rfl⟩
theorem guard_ok {t : TypeId} (ht : EqT P t) {op : BinOp} (hop : op = .eql ∨ op = .neq) (o1 o2 : Operand) {x y : Value} (hxy : (x = .nilIface ∧ y = .nilIface) ∨ ∃ a b, x = .agg a ∧ y = .agg b) : ∀ w, ∃ a w1, (eqGuard op t o1 o2 x y).run P w = .ok a w1 := fun w => by
  have h9 : ∀ w, (Op.eqGuardIn Op.maxDepth t x y).run P w = .ok false w := fun w => by
    rw [show Op.maxDepth = 9999 + 1 from rfl]
    unfold Op.eqGuardIn
    rcases ht with ⟨⟨k, hk⟩, -⟩ | hb | ⟨e, he⟩
    · rw [show (underlying t >>= _) = (underlying t).bind _ from rfl, Sem.run_bind', run_under hk, Result.andThen_ok]
      rcases hxy with ⟨rfl, rfl⟩ | ⟨a, b, rfl, rfl⟩ <;> rfl
    rotate_left
    · rw [show (underlying t >>= _) = (underlying t).bind _ from rfl, Sem.run_bind', run_under he, Result.andThen_ok]
      rcases hxy with ⟨rfl, rfl⟩ | ⟨a, b, rfl, rfl⟩ <;> rfl
    · rw [show (underlying t >>= _) = (underlying t).bind _ from rfl, Sem.run_bind', run_under hb, Result.andThen_ok]
      rcases hxy with ⟨rfl, rfl⟩ | ⟨a, b, rfl, rfl⟩ <;> rfl
  have hb : ∀ {f : Bool → Sem Unit} w, (∃ a w1, (f false).run P w = .ok a w1) → ∃ a w1, (Op.eqGuardIn Op.maxDepth t x y >>= f).run P w = .ok a w1 := fun {f} w ⟨a, w1, e⟩ => ⟨a, w1, by
    rw [show (Op.eqGuardIn Op.maxDepth t x y >>= f) = (Op.eqGuardIn Op.maxDepth t x y).bind f from rfl, Sem.run_bind', h9, Result.andThen_ok]
    exact e⟩
  have hg : ∀ (c : Bool) (u : Unsupported) w, ∃ a w1, (if c then Pure.pure () else (do if ← Op.eqGuardIn Op.maxDepth t x y then Go.unsupported u) : Sem Unit).run P w = .ok a w1 := fun c u w => by
    cases c with
    | true => exact ⟨(), w, rfl⟩
    | false => exact hb w ⟨(), w, rfl⟩
  rcases hop with rfl | rfl <;> rcases hxy with ⟨rfl, rfl⟩ | ⟨a, b, rfl, rfl⟩
  · exact hg _ _ w
  · exact ok_bind (P := P) (fun w => ⟨P, w, rfl⟩) (fun p w => ok_bind (P := P) (fun w => ⟨P, w, rfl⟩) (fun q w => hg _ _ w) w) w
  · exact hg _ _ w
  · exact ok_bind (P := P) (fun w => ⟨P, w, rfl⟩) (fun p w => ok_bind (P := P) (fun w => ⟨P, w, rfl⟩) (fun q w => hg _ _ w) w) w
def okBin (P : Program) (op : BinOp) (t : TypeId) : Prop := ((op = .add ∨ op = .sub ∨ op = .quo ∨ op = .lss ∨ op = .leq ∨ op = .gtr ∨ op = .geq) ∧ ∃ k, P.underlying t = some (.int k)) ∨ ((op = .eql ∨ op = .neq) ∧ EqT P t)
theorem sr_cmp (op : BinOp) {a b a' b' : Addr} (ha : ADR ρ a a') (hb : ADR ρ b b') : SR P F VR ρ (do Op.addrCmp op (← behindNumber a).1 (← behindNumber b).1) (do Op.addrCmp op (← behindNumber a').1 (← behindNumber b').1) := by
  refine sr_bnd (sr_behind ha) ?_
  rintro σ1 l1 ⟨a, z⟩ ⟨a', z'⟩ ⟨h1, -⟩
  refine sr_bnd (sr_behind (hb.mono l1)) ?_
  rintro σ2 l2 ⟨b, y⟩ ⟨b', y'⟩ ⟨h2, -⟩
  unfold Op.addrCmp
  exact sr_dead2 (h1.mono l2)
theorem sr_sub (k : IntKind) {a b a' b' : Addr} (ha : ADR ρ a a') (hb : ADR ρ b b') : SR P F VR ρ (do Op.addrSub k (← behindNumber a).1 (← behindNumber b).1) (do Op.addrSub k (← behindNumber a').1 (← behindNumber b').1) := by
  refine sr_bnd (sr_behind ha) ?_
  rintro σ1 l1 ⟨a, z⟩ ⟨a', z'⟩ ⟨h1, -⟩
  refine sr_bnd (sr_behind (hb.mono l1)) ?_
  rintro σ2 l2 ⟨b, y⟩ ⟨b', y'⟩ ⟨h2, -⟩
  unfold Op.addrSub
  exact sr_dead2 (h1.mono l2)
theorem sr_movedIf {t : TypeId} {k : IntKind} (ht : P.underlying t = some (.int k)) {x x' y y' : Value} (hx : VR ρ x x') (hy : VR ρ y y') : SR P F VR ρ (do if (← underlying t) matches .unsafePointer then movedPointer t x y else movedNumber t x y) (do if (← underlying t) matches .unsafePointer then movedPointer t x' y' else movedNumber t x' y') := by
  refine sr_bnd (sr_under t) ?_
  rintro σ l d d' ⟨rfl, hd⟩
  rw [ht] at hd
  cases hd
  simp only [Bool.false_eq_true, if_false]
  exact sr_moved ht (hx.mono l) (hy.mono l)
theorem sr_arith {op : BinOp} {t : TypeId} (hop : op = .add ∨ op = .sub ∨ op = .quo ∨ op = .lss ∨ op = .leq ∨ op = .gtr ∨ op = .geq) {k : IntKind} (ht : P.underlying t = some (.int k)) {x x' y y' : Value} (hx : VR ρ x x') (hy : VR ρ y y') : SR P F VR ρ (binOp op t x y) (binOp op t x' y') := by
  cases hx with
  | int j n =>
    cases hy with
    | int j' n' => exact sr_intInt op t j j' n n' (by rcases hop with rfl | rfl | rfl | rfl | rfl | rfl | rfl <;> decide)
    | ptr h => rcases hop with rfl | rfl | rfl | rfl | rfl | rfl | rfl <;> first | exact sr_unsup | exact sr_moved ht (.ptr h) (.int _ _)
    | nil => rcases hop with rfl | rfl | rfl | rfl | rfl | rfl | rfl <;> first | exact sr_unsup | exact sr_moved ht .nil (.int _ _)
    | _ => rcases hop with rfl | rfl | rfl | rfl | rfl | rfl | rfl <;> exact sr_stuck
  | string s =>
    cases hy with
    | string s' => rcases hop with rfl | rfl | rfl | rfl | rfl | rfl | rfl <;> (simp only [binOp]; exact sr_stringOp _ _ _)
    | ptr h => rcases hop with rfl | rfl | rfl | rfl | rfl | rfl | rfl <;> exact sr_unsup
    | nil => rcases hop with rfl | rfl | rfl | rfl | rfl | rfl | rfl <;> exact sr_unsup
    | _ => rcases hop with rfl | rfl | rfl | rfl | rfl | rfl | rfl <;> exact sr_stuck
  | ptr h =>
    cases hy with
    | int j n => rcases hop with rfl | rfl | rfl | rfl | rfl | rfl | rfl <;> first | exact sr_unsup | exact sr_movedIf ht (.ptr h) (.int _ _) | exact sr_moved ht (.ptr h) (.int _ _)
    | ptr h2 => rcases hop with rfl | rfl | rfl | rfl | rfl | rfl | rfl <;> first | exact sr_unsup | exact sr_sub _ h h2 | exact sr_cmp _ h h2
    | _ => rcases hop with rfl | rfl | rfl | rfl | rfl | rfl | rfl <;> exact sr_unsup
  | nil =>
    cases hy with
    | int j n => rcases hop with rfl | rfl | rfl | rfl | rfl | rfl | rfl <;> first | exact sr_unsup | exact sr_movedIf ht .nil (.int _ _) | exact sr_moved ht .nil (.int _ _)
    | _ => rcases hop with rfl | rfl | rfl | rfl | rfl | rfl | rfl <;> exact sr_unsup
  | _ =>
    cases hy with
    | ptr h => rcases hop with rfl | rfl | rfl | rfl | rfl | rfl | rfl <;> exact sr_unsup
    | nil => rcases hop with rfl | rfl | rfl | rfl | rfl | rfl | rfl <;> exact sr_unsup
    | _ => rcases hop with rfl | rfl | rfl | rfl | rfl | rfl | rfl <;> exact sr_stuck
end
end Go.Proofs.Ytndncmjhpbjcoaa

/- An operation as a whole, carried over to renamed memory. -/
namespace Go.Proofs.Ytndncmjhpbjcoaa

variable [FnsOk]
section
variable {P : Program} {F : Nat → Prop} {α β γ δ : Type} {ρ : Ren}
theorem sr_eqOp {op : BinOp} (hop : op = .eql ∨ op = .neq) {t : TypeId} (ht : EqT P t) {x x' y y' : Value} (hx : VR ρ x x') (hy : VR ρ y y') : SR P F VR ρ (binOp op t x y) (binOp op t x' y') := by
  have hE : SR P F EqR ρ (Op.equal t x y) (Op.equal t x' y') := ht.elim (fun h => sr_eqInt h hx hy) fun h => h.elim (fun h => sr_eqBool h hx hy) fun h => sr_eqSlice h hx hy
  have h1 : SR P F VR ρ (do Pure.pure (.bool (← Op.equal t x y))) (do Pure.pure (.bool (← Op.equal t x' y'))) := sr_bnd hE fun σ l a b hab => by
    cases hab
    exact sr_pur (.bool _)
  have h2 : SR P F VR ρ (do Pure.pure (.bool (!(← Op.equal t x y)))) (do Pure.pure (.bool (!(← Op.equal t x' y')))) := sr_bnd hE fun σ l a b hab => by
    cases hab
    exact sr_pur (.bool _)
  cases hx with
  | int j n =>
    cases hy with
    | int j' n' => exact sr_intInt op t j j' n n' (by rcases hop with rfl | rfl <;> decide)
    | _ => rcases hop with rfl | rfl <;> first | exact h1 | exact h2
  | string s =>
    cases hy with
    | string s' => rcases hop with rfl | rfl <;> (simp only [binOp]; exact sr_stringOp _ _ _)
    | _ => rcases hop with rfl | rfl <;> first | exact h1 | exact h2
  | _ => cases hy <;> (rcases hop with rfl | rfl <;> first | exact h1 | exact h2)
theorem sr_bin {op : BinOp} {t : TypeId} (hb : okBin P op t) (o1 o2 : Operand) {x x' y y' : Value} (hx : VR ρ x x') (hy : VR ρ y y') : SR P F VR ρ (do eqGuard op t o1 o2 x y; binOp op t x y) (do eqGuard op t o1 o2 x' y'; binOp op t x' y') := by
  rcases hb with ⟨hop, k, ht⟩ | ⟨hop, ht⟩
  · have hg : ∀ a b, eqGuard op t o1 o2 a b = Pure.pure () := fun a b => by rcases hop with rfl | rfl | rfl | rfl | rfl | rfl | rfl <;> rfl
    rw [hg, hg]
    exact sr_arith hop ht hx hy
  · have hn : ∀ (x y : Value), ((x = .nilIface ∧ y = .nilIface) ∨ ∃ a b, x = .agg a ∧ y = .agg b) → ∀ w, HaltsT P (binOp op t x y) w := fun x y hxy => by
      have h9 := equal_never (P := P) ht hxy
      have e1 : ∀ w, HaltsT P (do Pure.pure (.bool (← Op.equal t x y)) : Sem Value) w := never_left h9
      have e2 : ∀ w, HaltsT P (do Pure.pure (.bool (!(← Op.equal t x y))) : Sem Value) w := never_left h9
      rcases hxy with ⟨rfl, rfl⟩ | ⟨a, b, rfl, rfl⟩ <;> rcases hop with rfl | rfl <;> first | exact e1 | exact e2
    have hm := sr_eqOp (F := F) hop ht hx hy
    by_cases hs : (x = .nilIface ∧ y = .nilIface) ∨ ∃ a b, x = .agg a ∧ y = .agg b
    · exact sr_never (never_bind (guard_ok ht hop o1 o2 hs) fun _ => hn x y hs)
    · have hg : ∀ {a a' b b' : Value}, VR ρ a a' → VR ρ b b' → ¬ ((a = .nilIface ∧ b = .nilIface) ∨ ∃ c d, a = .agg c ∧ b = .agg d) → eqGuard op t o1 o2 a b = Pure.pure () ∧ eqGuard op t o1 o2 a' b' = Pure.pure () := fun {a a' b b'} ha hb' h0 => by
        cases ha <;> cases hb' <;> first
          | exact absurd (.inl ⟨rfl, rfl⟩) h0
          | exact absurd (.inr ⟨_, _, rfl, rfl⟩) h0
          | (rcases hop with rfl | rfl <;> exact ⟨rfl, rfl⟩)
      rw [(hg hx hy hs).1, (hg hx hy hs).2]
      exact hm
inductive NR (ρ : Ren) : Next → Next → Prop
  | value {v u : Value} (h : VR ρ v u) : NR ρ (.value v) (.value u)
  | skip : NR ρ .skip .skip
  | enter (f : FuncId) {xs ys : Array Value} (hf : FnsOk.ok f) (h : AR ρ xs ys) : NR ρ (.enter f xs) (.enter f ys)
theorem sr_val {s s' : Sem Value} (h : SR P F VR ρ s s') : SR P F NR ρ (do Pure.pure (.value (← s))) (do Pure.pure (.value (← s'))) := sr_bnd h fun σ l a b hab => sr_pur (.value hab)
theorem sr_unit {s s' : Sem Unit} {A : Ren → Unit → Unit → Prop} (h : SR P F A ρ s s') : SR P F NR ρ (do s; Pure.pure .skip) (do s'; Pure.pure .skip) := sr_bnd h fun σ l a b hab => sr_pur .skip
def FnsBody (P : Program) : Prop := ∀ f, FnsOk.ok f → ∃ fn, P.funcs[f]? = some fn ∧ (fn.name == "runtime.NumGoroutine") = false ∧ fn.body.isNone = false
theorem sr_callFunc (hb : FnsBody P) {f : FuncId} (hf : FnsOk.ok f) {xs ys : Array Value} (h : AR ρ xs ys) : SR P F NR ρ (callFunc f xs) (callFunc f ys) := by
  obtain ⟨fn, h1, h2, h3⟩ := hb f hf
  unfold callFunc
  refine sr_bnd sr_prog ?_
  rintro σ l p q ⟨hp, hq⟩
  rw [hp, hq, h1]
  simp only [h2, h3, Bool.false_eq_true, if_false]
  exact sr_pur (.enter f hf (h.mono l))
theorem sr_callVal (hb : FnsBody P) {f g : Value} (h : VR ρ f g) {xs ys : Array Value} (k : AR ρ xs ys) : SR P F NR ρ (do let d ← Deferred.ofValue f xs; invoke d.target d.args) (do let d ← Deferred.ofValue g ys; invoke d.target d.args) := by
  cases h with
  | func f hf h1 h2 h3 h4 => exact sr_callFunc hb hf (AR.append (AR.append ⟨h1, h3⟩ k) ⟨h2, h4⟩)
  | nilFunc => exact sr_rtPanic (e := .nilDeref) rfl
  | _ => exact sr_never (never_left never_stuck)
def okX : Operand → Prop
  | .tmp _ => True
  | .const v => Flat v
  | .func f => FnsOk.ok f
  | .global _ => False
def okOp (P : Program) (o : Op) : Prop :=
  match o with
  | .move x | .assign x => okX x
  | .pick c a b => okX c ∧ okX a ∧ okX b
  | .alloc t => ZeroFlat P t
  | .box _ x => okX x
  | .build t parts => ZeroFlat P t ∧ ∀ p ∈ parts, okX p.2
  | .buildSlice t _ parts => (∀ e, P.underlying t = some (.slice e) → ZeroFlat P e) ∧ ∀ p ∈ parts, okX p.2
  | .load _ a => okX a
  | .store _ a x => okX a ∧ okX x
  | .nilCheck x => okX x
  | .binOp op t x y _ => okBin P op t ∧ okX x ∧ okX y
  | .unOp op _ x => (op = .neg ∨ op = .not) ∧ okX x
  | .makeSlice t l c => (∀ e, P.underlying t = some (.slice e) → ZeroFlat P e) ∧ okX l ∧ okX c
  | .fieldAddr _ x _ => okX x
  | .indexAddr _ x i => okX x ∧ okX i
  | .call c => (∀ x ∈ c.args, okX x) ∧
    match c.callee with
    | .value f => okX f
    | .builtin .append => (∀ s e, c.argTypes[0]? = some s → P.underlying s = some (.slice e) → ZeroFlat P e) ∧ ∀ s k, c.argTypes[1]? = some s → P.underlying s ≠ some (.int k)
    | .builtin .len | .builtin .min => True
    | _ => False
  | _ => False
theorem ar_map {e1 e2 : Operand → Value} (he : ∀ x, okX x → VR ρ (e1 x) (e2 x)) {xs : Array Operand} (h : ∀ x ∈ xs, okX x) : AR ρ (xs.map e1) (xs.map e2) := by
  refine ⟨by simp, fun i a b x y => ?_⟩
  rw [Array.getElem?_map] at x y
  cases hc : xs[i]? with
  | none => rw [hc] at x; cases x
  | some p =>
    rw [hc] at x y
    cases x
    cases y
    exact he p (h p (Array.mem_of_getElem? hc))
theorem pr_map {e1 e2 : Operand → Value} (he : ∀ x, okX x → VR ρ (e1 x) (e2 x)) {xs : Array (Nat × Operand)} (h : ∀ x ∈ xs, okX x.2) : PR ρ (xs.map fun (i, x) => (i, e1 x)).toList (xs.map fun (i, x) => (i, e2 x)).toList := by
  refine ⟨by simp, fun i a b x y => ?_⟩
  rw [Array.toList_map, List.getElem?_map] at x y
  cases hc : xs.toList[i]? with
  | none => rw [hc] at x; cases x
  | some p =>
    rw [hc] at x y
    cases x
    cases y
    exact ⟨rfl, he _ (h p (Array.mem_def.2 (List.mem_of_getElem? hc)))⟩
theorem sr_exec (hb : FnsBody P) {e1 e2 : Operand → Value} (he : ∀ x, okX x → VR ρ (e1 x) (e2 x)) {o : Oper} (ho : okOp P o.op) : SR P F NR ρ (execOp e1 o) (execOp e2 o) := by
  obtain ⟨dst, op, type, pos, after, guard⟩ := o
  simp only at ho
  unfold execOp
  cases op <;> first | exact ho.elim | skip
  case move x => exact sr_pur (.value (he x ho))
  case assign x => exact sr_pur (.value (he x ho))
  case pick c a b =>
    refine sr_bnd (sr_boolOf (he c ho.1)) ?_
    rintro σ l x y hxy
    cases hxy
    refine sr_pur (.value ?_)
    split
    · exact (he a ho.2.1).mono l
    · exact (he b ho.2.2).mono l
  case alloc t => exact sr_val (sr_alloc ho)
  case box t x => exact sr_val (sr_box t (he x ho))
  case build t parts => exact sr_val (sr_build t ho.1 (pr_map he ho.2))
  case buildSlice t n parts => exact sr_val (sr_buildSlice t n ho.1 (pr_map he ho.2))
  case load t a => exact sr_val (sr_loadAt t (he a ho))
  case store t a x => exact sr_unit (sr_storeAt t (he a ho.1) (he x ho.2))
  case nilCheck x =>
    have hx := he x ho
    dsimp only
    revert hx
    generalize e1 x = v
    generalize e2 x = u
    intro hx
    cases hx <;> first
      | exact sr_rtPanic (e := .nilDeref) rfl
      | (refine sr_pur (.value ?_); constructor <;> assumption)
      | (refine sr_pur (.value ?_); constructor)
  case binOp op t x y yt => exact sr_val (sr_bin ho.1 x y (he x ho.2.1) (he y ho.2.2))
  case unOp op t x => exact sr_val (sr_unary op (he x ho.2) ho.1)
  case makeSlice t l c => exact sr_val (sr_makeSlice t ho.1 (he l ho.2.1) (he c ho.2.2))
  case fieldAddr s x f => exact sr_val (sr_fieldAt s (he x ho) f)
  case indexAddr t x i => exact sr_val (sr_index t (he x ho.1) (he i ho.2))
  case call c =>
    obtain ⟨callee, args, argTypes⟩ := c
    obtain ⟨ha, hc⟩ := ho
    have hm := ar_map he ha
    cases callee with
    | value f => exact sr_callVal hb (he f hc) hm
    | builtin b =>
      cases b <;> first | exact hc.elim | skip
      · exact sr_val (sr_append argTypes type hc.1 hc.2 hm)
      · exact sr_val (sr_len argTypes type hm)
      · exact sr_val (sr_min argTypes type hm)
    | _ => exact hc.elim
end
end Go.Proofs.Ytndncmjhpbjcoaa

/- One step of a goroutine's own, as one operation; carried over to renamed memory. -/
namespace Go.Proofs.Ytndncmjhpbjcoaa

variable [FnsOk]
section
variable {P : Program} {F : Nat → Prop} {α β γ δ : Type} {ρ : Ren}
def stepAt (P : Program) (fr : Frame) (cs : List Frame) (mode : FrameMode) (todo : List Item) : Sem (Frame × List Frame) :=
  match mode with
  | .panicking _ => stuck ""
  | .returning =>
    match cs, P.funcs[fr.fn]? with
    | c :: rest, some fn => do let v ← results fn fr.tmps; pure (c.finish v, rest)
    | _, _ => stuck ""
  | .run =>
    match todo with
    | [] | .code .ret :: _ => pure ({ fr with mode := .returning }, cs)
    | .code .skip :: k | .code (.label _) :: k | .inBlock _ :: k | .inScope _ :: k | .inRegion _ [] :: k => pure ({ fr with todo := k }, cs)
    | .code (.seq a b) :: k => pure ({ fr with todo := .code a :: .code b :: k }, cs)
    | .code (.cond c x y) :: k => do let t ← asBool (fr.eval c); pure ({ fr with todo := .code (if t then x else y) :: k }, cs)
    | .code (.block id c) :: k => pure ({ fr with todo := .code c :: .inBlock id :: k }, cs)
    | .code (.loop c) :: k | .inLoop c :: k => pure ({ fr with todo := .code c :: .inLoop c :: k }, cs)
    | .code (.scope c) :: k => pure ({ fr with todo := .code c :: .inScope c :: k }, cs)
    | .code (.exit id) :: k =>
      match exitTo id k with
      | some k' => pure ({ fr with todo := k' }, cs)
      | none => stuck ""
    | .code (.region id ops false) :: k => pure ({ fr with todo := .inRegion ops (List.range ops.size) :: k }, cs)
    | .code (.region id ops true) :: k => do
      let t ← choose (.order fr.fn id)
      pure ({ fr with todo := .inRegion ops (Region.schedule (P.follows .mixedOrders) ops t) :: k }, cs)
    | .inRegion ops (i :: _) :: _ =>
      match ops[i]? with
      | none => pure (fr.finish undef, cs)
      | some o =>
        if Region.wanted o (yielded ops fr.tmps) then do
          match ← execOp fr.eval o with
          | .value v => pure (fr.finish v, cs)
          | .skip => pure (fr.finish undef, cs)
          | .enter f args => pure (Frame.enter P f args .normal, fr :: cs)
          | _ => stuck ""
        else pure (fr.finish undef, cs)
    | _ => stuck ""
def stepSem (P : Program) (fr : Frame) (cs : List Frame) : Sem (Frame × List Frame) := stepAt P fr cs fr.mode fr.todo
def okCode (P : Program) : Code → Prop
  | .seq a b => okCode P a ∧ okCode P b
  | .cond c a b => okX c ∧ okCode P a ∧ okCode P b
  | .block _ c | .loop c | .scope c => okCode P c
  | .region _ ops _ => ∀ o ∈ ops, okOp P o.op
  | .exit _ | .ret | .skip | .label _ => True
  | _ => False
def okItem (P : Program) : Item → Prop
  | .code c | .inLoop c | .inScope c => okCode P c
  | .inBlock _ => True
  | .inRegion ops _ => ∀ o ∈ ops, okOp P o.op
  | _ => False
def FnsGood (P : Program) : Prop := ∀ f, FnsOk.ok f → ∃ fn c, P.funcs[f]? = some fn ∧ (fn.name == "runtime.NumGoroutine") = false ∧ fn.body = some c ∧ okCode P c ∧ ∀ r ∈ fn.results, ∃ t, r = .tmp t
theorem FnsGood.body (h : FnsGood P) : FnsBody P := fun f hf => by
  obtain ⟨fn, c, h1, h2, h3, -⟩ := h f hf
  exact ⟨fn, h1, h2, by rw [h3]; rfl⟩
structure FrR (P : Program) (ρ : Ren) (a b : Frame) : Prop where
  fn : b.fn = a.fn
  ok : FnsOk.ok a.fn
  tmps : AR ρ a.tmps b.tmps
  todo : b.todo = a.todo
  items : ∀ i ∈ a.todo, okItem P i
  defers : a.defers = [] ∧ b.defers = []
  mode : b.mode = a.mode
  plain : a.mode = .run ∨ a.mode = .returning
  kind : a.kind = .normal ∧ b.kind = .normal
  round : a.roundOf = none ∧ b.roundOf = none
theorem FrR.mono {σ : Ren} {a b : Frame} (h : FrR P ρ a b) (l : ρ.le σ) : FrR P σ a b := ⟨h.fn, h.ok, h.tmps.mono l, h.todo, h.items, h.defers, h.mode, h.plain, h.kind, h.round⟩
theorem undef_rel : VR ρ undef undef := .tuple rfl (fun i a b x _ => by simp at x)
theorem FrR.eval {a b : Frame} (h : FrR P ρ a b) (x : Operand) (hx : okX x) : VR ρ (a.eval x) (b.eval x) := by
  cases x with
  | tmp t => exact h.tmps.getD undef_rel t
  | const v => exact Flat.rel hx ρ
  | func f => exact .func f hx rfl rfl (fun i a b x _ => by simp at x) (fun i a b x _ => by simp at x)
  | global g => exact hx.elim
theorem exit_ok {id : Nat} : ∀ {k k' : List Item}, exitTo id k = some k' → (∀ i ∈ k, okItem P i) → ∀ i ∈ k', okItem P i
  | [], _, h, _ => by cases h
  | x :: k, k', h, hk => by
    have hrec : exitTo id k = some k' → ∀ i ∈ k', okItem P i := fun h => exit_ok h fun i hi => hk i (by simp [hi])
    cases x with
    | inBlock id' =>
      simp only [exitTo] at h
      split at h
      · cases h; exact fun i hi => hk i (by simp [hi])
      · exact hrec h
    | _ => exact hrec h
theorem FrR.finish {a b : Frame} (h : FrR P ρ a b) {v u : Value} (hv : VR ρ v u) (hr : ∃ ops l k, a.todo = .inRegion ops l :: k) : FrR P ρ (a.finish v) (b.finish u) := by
  obtain ⟨ops, l, k, ha⟩ := hr
  have hb : b.todo = .inRegion ops l :: k := h.todo.trans ha
  unfold Frame.finish
  rw [ha, hb]
  cases l with
  | nil => exact h
  | cons i rest =>
    have hi := h.items
    rw [ha] at hi
    refine ⟨h.fn, h.ok, ?_, rfl, ?_, h.defers, h.mode, h.plain, h.kind, h.round⟩
    · dsimp only
      split
      · exact h.tmps.set hv _
      · exact h.tmps
    · intro x hx
      rw [List.mem_cons] at hx
      rcases hx with rfl | hx
      · exact hi (.inRegion ops (i :: rest)) (by simp)
      · exact hi x (by simp [hx])
inductive UpR (P : Program) (ρ : Ren) : List Frame → List Frame → Prop
  | nil : UpR P ρ [] []
  | cons {a b : Frame} {as bs : List Frame} (h : FrR P ρ a b) (hr : ∃ ops l k, a.todo = .inRegion ops l :: k) (hm : a.mode = .run) (hs : UpR P ρ as bs) : UpR P ρ (a :: as) (b :: bs)
theorem UpR.mono {σ : Ren} {as bs : List Frame} (h : UpR P ρ as bs) (l : ρ.le σ) : UpR P σ as bs := by
  induction h with
  | nil => exact .nil
  | cons h hr hm _ ih => exact .cons (h.mono l) hr hm ih
def StR (P : Program) (ca cb : List Frame) (σ : Ren) (x y : Frame × List Frame) : Prop := ∃ as bs, x.2 = as ++ ca ∧ y.2 = bs ++ cb ∧ FrR P σ x.1 y.1 ∧ UpR P σ as bs
theorem FrR.withTodo {a b : Frame} (h : FrR P ρ a b) {k : List Item} (hk : ∀ i ∈ k, okItem P i) : FrR P ρ { a with todo := k } { b with todo := k } :=
  ⟨h.fn, h.ok, h.tmps, rfl, hk, h.defers, h.mode, h.plain, h.kind, h.round⟩
theorem sr_results {fn : Func} (hr : ∀ r ∈ fn.results, ∃ t, r = .tmp t) {xs ys : Array Value} (h : AR ρ xs ys) : SR P F VR ρ (results fn xs) (results fn ys) := by
  unfold results
  have hm : ∀ (rs : List ResultVar) {ρ : Ren}, (∀ r ∈ rs, ∃ t, r = .tmp t) → AR ρ xs ys → SR P F LR ρ (rs.mapM fun | .tmp t => (Pure.pure (xs.getD t undef) : Sem Value) | .cell a t => do loadVar t (← asAddr (xs.getD a undef))) (rs.mapM fun | .tmp t => (Pure.pure (ys.getD t undef) : Sem Value) | .cell a t => do loadVar t (← asAddr (ys.getD a undef))) := by
    intro rs
    induction rs with
    | nil => exact fun _ _ => sr_pur ⟨rfl, fun i a b x _ => by simp at x⟩
    | cons r rs ih =>
      intro ρ hr h
      obtain ⟨t, rfl⟩ := hr r (by simp)
      rw [List.mapM_cons, List.mapM_cons]
      refine sr_bnd (A := VR) (sr_pur (h.getD undef_rel t)) ?_
      intro σ l v u hv
      refine sr_bnd (ih (fun r hr' => hr r (by simp [hr'])) (h.mono l)) ?_
      intro τ m vs us hvs
      refine sr_pur ⟨by simp [hvs.1], fun i a b x y => ?_⟩
      cases i with
      | zero => simp at x y; rw [← x, ← y]; exact hv.mono m
      | succ i => exact hvs.2 i a b (by simpa using x) (by simpa using y)
  refine sr_bnd (A := AR) ?_ ?_
  · rw [Array.mapM_eq_mapM_toList, Array.mapM_eq_mapM_toList]
    refine sr_bnd (hm fn.results.toList (fun r hr' => hr r (by simpa using hr')) h) ?_
    intro σ l vs us hv
    exact sr_pur hv.arr
  · intro σ l vs us hv
    refine sr_pur ?_
    have h1 := hv.1
    split
    · rename_i h2
      rw [dif_pos (by omega)]
      exact hv.2 0 _ _ (Array.getElem?_eq_getElem (by omega)) (Array.getElem?_eq_getElem (by omega))
    · rename_i h2
      rw [dif_neg (by omega)]
      exact .tuple hv.1 hv.2
theorem sr_step (hg : FnsGood P) {a b : Frame} (h : FrR P ρ a b) {as bs : List Frame} (hu : UpR P ρ as bs) (ca cb : List Frame) (hne : a.mode = .returning → as ≠ []) : SR P F (StR P ca cb) ρ (stepSem P a (as ++ ca)) (stepSem P b (bs ++ cb)) := by
  obtain ⟨fn, c, g1, g2, g3, g4, g5⟩ := hg _ h.ok
  unfold stepSem
  rw [h.mode]
  rcases h.plain with hm | hm
  · rw [hm, h.todo]
    have hi := h.items
    have keep : ∀ (k : List Item), (∀ i ∈ k, okItem P i) → SR P F (StR P ca cb) ρ (Pure.pure ({ a with todo := k }, as ++ ca)) (Pure.pure ({ b with todo := k }, bs ++ cb)) := fun k hk => sr_pur ⟨as, bs, rfl, rfl, h.withTodo hk, hu⟩
    have leave : SR P F (StR P ca cb) ρ (Pure.pure ({ a with mode := .returning }, as ++ ca)) (Pure.pure ({ b with mode := .returning }, bs ++ cb)) :=
      sr_pur ⟨as, bs, rfl, rfl, ⟨h.fn, h.ok, h.tmps, h.todo, h.items, h.defers, rfl, .inr rfl, h.kind, h.round⟩, hu⟩
    cases ht : a.todo with
    | nil => exact leave
    | cons x k =>
      rw [ht] at hi
      have hx := hi x (by simp)
      have hk : ∀ i ∈ k, okItem P i := fun i hi' => hi i (by simp [hi'])
      have cons2 : ∀ (i j : Item), okItem P i → okItem P j → ∀ z ∈ i :: j :: k, okItem P z := fun i j hi hj z hz => by
        simp only [List.mem_cons] at hz
        rcases hz with rfl | rfl | hz
        · exact hi
        · exact hj
        · exact hk z hz
      cases x with
      | inBlock id => exact keep k hk
      | inLoop c => exact keep _ (cons2 _ _ hx hx)
      | inScope c => exact keep k hk
      | inRegion ops l =>
        cases l with
        | nil => exact keep k hk
        | cons i rest =>
          have fin : ∀ {σ : Ren} {v u : Value}, ρ.le σ → VR σ v u → SR P F (StR P ca cb) σ (Pure.pure (a.finish v, as ++ ca)) (Pure.pure (b.finish u, bs ++ cb)) := fun {σ v u} l hv => sr_pur ⟨as, bs, rfl, rfl, (h.mono l).finish hv ⟨_, _, _, ht⟩, hu.mono l⟩
          simp only [stepAt]
          cases ho : ops[i]? with
          | none => exact fin (Ren.le_refl _) undef_rel
          | some o =>
            have hy : yielded ops b.tmps = yielded ops a.tmps := by
              funext j
              unfold yielded
              cases (ops[j]?).bind (·.dst) with
              | none => rfl
              | some d =>
                simp only [Option.bind_some]
                cases hd : a.tmps[d]? with
                | none => rw [h.tmps.none hd]
                | some v =>
                  obtain ⟨u, hu', hv⟩ := h.tmps.get hd
                  rw [hu']
                  cases hv <;> rfl
            dsimp only
            rw [hy]
            split
            · refine sr_bnd (sr_exec hg.body h.eval (hx o (Array.mem_of_getElem? ho))) ?_
              intro σ l n m hn
              cases hn with
              | value hv => exact fin l hv
              | skip => exact fin l undef_rel
              | enter f hf hargs =>
                refine sr_pur ⟨a :: as, b :: bs, rfl, rfl, ?_, .cons (h.mono l) ⟨_, _, _, ht⟩ hm (hu.mono l)⟩
                obtain ⟨fn', c', e1, e2, e3, e4, e5⟩ := hg f hf
                refine ⟨rfl, hf, ?_, rfl, ?_, ⟨rfl, rfl⟩, rfl, .inl rfl, ⟨rfl, rfl⟩, ⟨rfl, rfl⟩⟩
                · simp only [Frame.enter, hargs.1]
                  refine hargs.append ⟨rfl, fun i x y hx hy => ?_⟩
                  rw [Array.getElem?_replicate] at hx hy
                  split at hx
                  · rename_i hl
                    rw [if_pos hl] at hy
                    cases hx; cases hy
                    exact undef_rel
                  · cases hx
                · intro i hi
                  simp only [Frame.enter, e1, Option.bind_some, e3, Option.getD_some, List.mem_singleton] at hi
                  rw [hi]
                  exact e4
            · exact fin (Ren.le_refl _) undef_rel
      | code c =>
        cases c with
        | seq x y => exact keep _ (cons2 _ _ hx.1 hx.2)
        | cond c x y =>
          refine sr_bnd (sr_boolOf (h.eval c hx.1)) ?_
          rintro σ l t t' htt
          cases htt
          refine sr_pur ⟨as, bs, rfl, rfl, (h.mono l).withTodo ?_, hu.mono l⟩
          intro z hz
          rw [List.mem_cons] at hz
          rcases hz with rfl | hz
          · cases t
            · exact hx.2.2
            · exact hx.2.1
          · exact hk z hz
        | block id c => exact keep _ (cons2 _ _ hx trivial)
        | loop c => exact keep _ (cons2 _ _ hx hx)
        | scope c => exact keep _ (cons2 _ _ hx hx)
        | exit id =>
          simp only [stepAt]
          cases he : exitTo id k with
          | none => exact sr_stuck
          | some k' => exact keep k' (exit_ok he hk)
        | region id ops d =>
          have one : ∀ (l : List Nat), ∀ z ∈ Item.inRegion ops l :: k, okItem P z := fun l z hz => by
            rw [List.mem_cons] at hz
            rcases hz with rfl | hz
            · exact hx
            · exact hk z hz
          cases d with
          | false => exact keep _ (one _)
          | true =>
            simp only [stepAt]
            rw [show Question.order b.fn id = Question.order a.fn id by rw [h.fn]]
            refine sr_bnd (sr_choose _) ?_
            rintro σ l t t' htt
            cases htt
            exact sr_pur ⟨as, bs, rfl, rfl, (h.mono l).withTodo (one _), hu.mono l⟩
        | ret => exact leave
        | skip => exact keep k hk
        | label l => exact keep k hk
        | _ => exact hx.elim
      | _ => exact hx.elim
  · rw [hm]
    cases hu with
    | nil => exact absurd rfl (hne hm)
    | cons h2 hr hm2 hs =>
      simp only [stepAt, List.cons_append]
      rw [h.fn, g1]
      dsimp only
      refine sr_bnd (sr_results g5 h.tmps) ?_
      intro σ l v u hv
      exact sr_pur ⟨_, _, rfl, rfl, (h2.mono l).finish hv hr, hs.mono l⟩
end
end Go.Proofs.Ytndncmjhpbjcoaa

/- The operation that stands for a step is the step. -/
namespace Go.Proofs.Ytndncmjhpbjcoaa
open Go.Conc (G)

variable {P : Program}
theorem seen_nil (fn : FuncId) : seen P fn #[] = #[] := rfl
theorem runT_pure {α : Type} (a : α) (w : World) : (Pure.pure a : Sem α).runT P w #[] = (.ok a w, #[]) := rfl
theorem runT_bind_ok {α β : Type} {x : Sem α} {f : α → Sem β} : ∀ {w : World} {es es1 : Array Event} {b : β} {w1 : World}, (x.bind f).runT P w es = (.ok b w1, es1) → ∃ a w2 es2, x.runT P w es = (.ok a w2, es2) ∧ (f a).runT P w2 es2 = (.ok b w1, es1) := by
  induction x with
  | pure a => exact fun h => ⟨_, _, _, rfl, h⟩
  | load m a k ih =>
    intro w es es1 b w1 h
    simp only [Sem.bind, Sem.runT] at h ⊢
    split at h
    · exact ih _ h
    · split at h
      · exact ih _ h
      · cases h
  | store m a v k ih =>
    intro w es es1 b w1 h
    cases v <;> simp only [Sem.bind, Sem.runT] at h ⊢ <;> first
      | (cases h; done)
      | (split at h
         · split at h
           · cases h
           · rename_i hz
             rw [if_neg hz]
             exact ih h
         · split at h
           · exact ih h
           · cases h)
  | new o k ih => intro w es es1 b w1 h; exact ih _ h
  | shape r k ih => intro w es es1 b w1 h; exact ih _ h
  | freeze a n k ih => intro w es es1 b w1 h; exact ih h
  | frozen a k ih => intro w es es1 b w1 h; exact ih _ h
  | getObj r k ih =>
    intro w es es1 b w1 h
    simp only [Sem.bind, Sem.runT] at h ⊢
    split at h
    · cases h
    · exact ih _ h
    · cases h
  | setObj r o k ih =>
    intro w es es1 b w1 h
    simp only [Sem.bind, Sem.runT] at h ⊢
    split at h
    · cases h
    · exact ih h
    · cases h
  | choose q k ih =>
    intro w es es1 b w1 h
    simp only [Sem.bind, Sem.runT] at h ⊢
    split at h
    · rename_i hz
      rw [if_pos hz]
      exact ih _ h
    · rename_i hz
      rw [if_neg hz]
      exact ih _ h
  | sys c k ih => intro w es es1 b w1 h; exact ih _ h
  | program k ih => intro w es es1 b w1 h; exact ih _ h
  | mark m k ih => intro w es es1 b w1 h; exact ih h
  | halt hh => intro w es es1 b w1 h; simp only [Sem.bind, Sem.runT] at h; cases h
theorem stepG_sem {main : Bool} {fr : Frame} {cs : List Frame} {w : World} (hk : fr.kind = .normal) (hr : fr.roundOf = none) (hd : fr.mode = .returning → fr.defers = []) {fr' : Frame} {cs' : List Frame} {w1 : World} {es : Array Event}
    (h : (stepSem P fr cs).runT P w #[] = (.ok (fr', cs') w1, es)) : stepG P main (G fr cs) w = .go (G fr' cs') w1 (seen P fr.fn es) := by
  obtain ⟨fn, tmps, todo, defers, mode, kind, roundOf⟩ := fr
  simp only at hk hr hd
  subst hk hr
  unfold stepSem at h
  simp only at h
  have pur : ∀ {a : Frame × List Frame}, (Pure.pure a : Sem (Frame × List Frame)).runT P w #[] = (.ok (fr', cs') w1, es) → a = (fr', cs') ∧ w = w1 ∧ es = #[] := fun {a} h => by
    rw [runT_pure] at h
    simp only [Prod.mk.injEq, Result.ok.injEq] at h
    exact ⟨h.1.1, h.1.2, h.2.symm⟩
  cases mode with
  | panicking c => simp [stepAt, stuck, Sem.runT] at h
  | returning =>
    have hd' := hd rfl
    subst hd'
    cases cs with
    | nil => simp [stepAt, stuck, Sem.runT] at h
    | cons c rest =>
      cases hf : P.funcs[fn]? with
      | none => simp [stepAt, hf, stuck, Sem.runT] at h
      | some f =>
        simp only [stepAt, hf] at h
        obtain ⟨v, w2, es2, h1, h2⟩ := runT_bind_ok h
        have h3 : (Sem.pure (c.finish v, rest)).runT P w2 es2 = (.ok (fr', cs') w1, es) := h2
        simp only [Sem.runT, Prod.mk.injEq, Result.ok.injEq] at h3
        obtain ⟨⟨⟨rfl, rfl⟩, rfl⟩, rfl⟩ := h3
        simp only [G, stepG, unwind, hf]
        rw [h1]
        simp [GStep.after, doReturn]
  | run =>
    cases todo with
    | nil =>
      obtain ⟨e, rfl, rfl⟩ := pur h
      cases e
      simp [G, stepG, stepG.exec, seen_nil]
    | cons x k =>
      cases x with
      | inBlock id => obtain ⟨e, rfl, rfl⟩ := pur h; cases e; simp [G, stepG, stepG.exec, seen_nil]
      | inLoop c => obtain ⟨e, rfl, rfl⟩ := pur h; cases e; simp [G, stepG, stepG.exec, seen_nil]
      | inScope c => obtain ⟨e, rfl, rfl⟩ := pur h; cases e; simp [G, stepG, stepG.exec, seen_nil]
      | inRegion ops l =>
        cases l with
        | nil => obtain ⟨e, rfl, rfl⟩ := pur h; cases e; simp [G, stepG, stepG.exec, seen_nil]
        | cons i rest =>
          simp only [stepAt] at h
          cases ho : ops[i]? with
          | none =>
            rw [ho] at h
            obtain ⟨e, rfl, rfl⟩ := pur h
            cases e
            simp [G, stepG, stepG.exec, ho, seen_nil]
          | some o =>
            rw [ho] at h
            simp only at h
            split at h
            · rename_i hw
              obtain ⟨n, w2, es2, h1, h2⟩ := runT_bind_ok h
              have hev : ∀ (t : List Item), ({ fn := fn, tmps := tmps, todo := t, defers := defers, mode := FrameMode.run, kind := CallKind.normal, roundOf := none } : Frame).eval = ({ fn := fn, tmps := tmps, todo := Item.inRegion ops (i :: rest) :: k, defers := defers, mode := FrameMode.run, kind := CallKind.normal, roundOf := none } : Frame).eval := fun t => by funext x; cases x <;> rfl
              cases n with
              | value v =>
                have h3 : (Sem.pure (_, cs)).runT P w2 es2 = (.ok (fr', cs') w1, es) := h2
                simp only [Sem.runT, Prod.mk.injEq, Result.ok.injEq] at h3
                obtain ⟨⟨⟨rfl, rfl⟩, rfl⟩, rfl⟩ := h3
                (simp only [G, stepG, stepG.exec, ho, Option.map_some, hw, Option.getD_some, if_true, stepG.oper, Frame.oper?, stepG.apply]; rw [h1]; rfl)
              | skip =>
                have h3 : (Sem.pure (_, cs)).runT P w2 es2 = (.ok (fr', cs') w1, es) := h2
                simp only [Sem.runT, Prod.mk.injEq, Result.ok.injEq] at h3
                obtain ⟨⟨⟨rfl, rfl⟩, rfl⟩, rfl⟩ := h3
                (simp only [G, stepG, stepG.exec, ho, Option.map_some, hw, Option.getD_some, if_true, stepG.oper, Frame.oper?, stepG.apply]; rw [h1]; rfl)
              | enter f args =>
                have h3 : (Sem.pure (_, _ :: cs)).runT P w2 es2 = (.ok (fr', cs') w1, es) := h2
                simp only [Sem.runT, Prod.mk.injEq, Result.ok.injEq] at h3
                obtain ⟨⟨⟨rfl, rfl⟩, rfl⟩, rfl⟩ := h3
                (simp only [G, stepG, stepG.exec, ho, Option.map_some, hw, Option.getD_some, if_true, stepG.oper, Frame.oper?, stepG.apply]; rw [h1]; rfl)
              | _ => simp [stuck, Sem.runT] at h2
            · rename_i hw
              obtain ⟨e, rfl, rfl⟩ := pur h
              cases e
              simp [G, stepG, stepG.exec, ho, hw, seen_nil]
      | code c =>
        cases c with
        | seq a b => obtain ⟨e, rfl, rfl⟩ := pur h; cases e; simp [G, stepG, stepG.exec, seen_nil]
        | cond c x y =>
          simp only [stepAt] at h
          cases hc : ({ fn := fn, tmps := tmps, todo := Item.code (Code.cond c x y) :: k, defers := defers, mode := FrameMode.run, kind := CallKind.normal, roundOf := none } : Frame).eval c with
          | bool t =>
            rw [hc] at h
            have h3 : (Sem.pure (_, cs)).runT P w #[] = (.ok (fr', cs') w1, es) := h
            simp only [Sem.runT, Prod.mk.injEq, Result.ok.injEq] at h3
            obtain ⟨⟨⟨rfl, rfl⟩, rfl⟩, rfl⟩ := h3
            simp [G, stepG, stepG.exec, hc, seen_nil]
          | _ => rw [hc] at h; cases h
        | block id c => obtain ⟨e, rfl, rfl⟩ := pur h; cases e; simp [G, stepG, stepG.exec, seen_nil]
        | loop c => obtain ⟨e, rfl, rfl⟩ := pur h; cases e; simp [G, stepG, stepG.exec, seen_nil]
        | scope c => obtain ⟨e, rfl, rfl⟩ := pur h; cases e; simp [G, stepG, stepG.exec, seen_nil]
        | exit id =>
          simp only [stepAt] at h
          cases he : exitTo id k with
          | none => rw [he] at h; simp [stuck, Sem.runT] at h
          | some k' =>
            rw [he] at h
            obtain ⟨e, rfl, rfl⟩ := pur h
            cases e
            simp [G, stepG, stepG.exec, he, seen_nil]
        | region id ops d =>
          cases d with
          | false => obtain ⟨e, rfl, rfl⟩ := pur h; cases e; simp [G, stepG, stepG.exec, seen_nil]
          | true =>
            simp only [stepAt] at h
            obtain ⟨t, w2, es2, h1, h2⟩ := runT_bind_ok h
            have h3 : (Sem.pure (_, cs)).runT P w2 es2 = (.ok (fr', cs') w1, es) := h2
            simp only [Sem.runT, Prod.mk.injEq, Result.ok.injEq] at h3
            obtain ⟨⟨⟨rfl, rfl⟩, rfl⟩, rfl⟩ := h3
            have h4 : (choose (.order fn id)).run P w = .ok t w2 := by
              have := Sem.runT_fst P (choose (.order fn id)) w #[]
              rw [h1] at this
              exact this.symm
            have h5 : es2 = #[] := by
              simp only [choose, Sem.runT] at h1
              split at h1 <;> (simp only [Sem.runT, Prod.mk.injEq] at h1; exact h1.2.symm)
            subst h5
            simp [G, stepG, stepG.exec, h4, seen_nil]
        | ret => obtain ⟨e, rfl, rfl⟩ := pur h; cases e; simp [G, stepG, stepG.exec, seen_nil]
        | skip => obtain ⟨e, rfl, rfl⟩ := pur h; cases e; simp [G, stepG, stepG.exec, seen_nil]
        | label l => obtain ⟨e, rfl, rfl⟩ := pur h; cases e; simp [G, stepG, stepG.exec, seen_nil]
        | _ => simp [stepAt, stuck, Sem.runT] at h
      | _ => simp [stepAt, stuck, Sem.runT] at h
end Go.Proofs.Ytndncmjhpbjcoaa

/- A goroutine's own run, alone: whatever is drawn at each step, it ends as its contract says. -/
namespace Go.Proofs.Ytndncmjhpbjcoaa
open Go.Conc (G)

def _root_.Go.World.rt (w : World) (t : Nat → Question → Nat) (d : Nat) : World := { w with tape := t, drawn := d }
def DrawLoc {α : Type} (P : Program) (x : Sem α) (w : World) (es : Array Event) (a : α) (w1 : World) (es1 : Array Event) : Prop :=
  w1.tape = w.tape ∧ w.drawn ≤ w1.drawn ∧ ∀ t d, (∀ i, i < w1.drawn - w.drawn → ∀ q, t (d + i) q = w.tape (w.drawn + i) q) → x.runT P (w.rt t d) es = (.ok a (w1.rt t (d + (w1.drawn - w.drawn))), es1)
variable [FnsOk]
theorem SR.loc {P : Program} {F : Nat → Prop} {α β : Type} {A : Ren → α → β → Prop} {ρ : Ren} {x : Sem α} {y : Sem β} (h : SR P F A ρ x y) :
    ∀ (w W : World) (es : Array Event) (a : α) (w1 : World) (es1 : Array Event), WR P.globals.size F ρ w W → x.runT P w es = (.ok a w1, es1) → DrawLoc P x w es a w1 es1 := by
  induction h with
  | pure h =>
    intro w W es a w1 es1 hw hr
    simp only [Sem.runT, Prod.mk.injEq, Result.ok.injEq] at hr
    obtain ⟨⟨rfl, rfl⟩, rfl⟩ := hr
    exact ⟨rfl, Nat.le_refl _, fun t d _ => by simp [Sem.runT, World.rt]⟩
  | load h hk ih =>
    intro w W es a w1 es1 hw hr
    rename_i ρ0 a0 b0 k l
    simp only [Sem.runT] at hr
    cases hc : w.cell? a0 with
    | none =>
      obtain ⟨e, he⟩ := WR.far (P := P) hw h (Mode.plain == Mode.atomic)
      rw [hc] at hr
      simp only [he] at hr
      cases hr
    | some v =>
      obtain ⟨u, hu, hvu⟩ := hw.cell h hc
      rw [hc] at hr
      obtain ⟨h1, h2, h3⟩ := ih _ (Ren.le_refl _) v u hvu w W _ a w1 es1 hw hr
      refine ⟨h1, h2, fun t d ht => ?_⟩
      simp only [Sem.runT]
      rw [show (w.rt t d).cell? a0 = some v from hc]
      exact h3 t d ht
  | store h hv hk ih =>
    intro w W es a w1 es1 hw hr
    rename_i ρ0 a0 b0 v u k l
    have kinds : ∀ (cs : Array Value), v ≠ .agg cs ∧ v ≠ .tuple cs := by
      cases hv with
      | agg _ _ => simp only [Sem.runT] at hr; cases hr
      | tuple _ _ => simp only [Sem.runT] at hr; cases hr
      | _ => exact fun cs => ⟨fun h => (by cases h), fun h => (by cases h)⟩
    have e1 : ∀ (w : World), (Sem.store Mode.plain a0 v k).runT P w es = match w.cell? a0 with
        | some _ => if w.frozen? a0 then (.halt (.unsupported (.unsafePointer "a write to bytes that a string shares")) w, es) else k.runT P (w.setCell a0 v) (es.push ⟨.cell a0, true, Mode.plain == .atomic⟩)
        | none => match w.farStore P a0 v (Mode.plain == .atomic) with
          | .ok (w, touched) => k.runT P w (es ++ touched.toArray.map (⟨.cell ·, true, Mode.plain == .atomic⟩))
          | .error h => (.halt h w, es) := fun w => by
      cases v <;> first | rfl | exact absurd rfl (kinds _).1 | exact absurd rfl (kinds _).2
    rw [e1] at hr
    cases hc : w.cell? a0 with
    | none =>
      obtain ⟨e, he⟩ := WR.farS (P := P) hw h v (Mode.plain == Mode.atomic)
      rw [hc] at hr
      simp only [he] at hr
      cases hr
    | some v0 =>
      rw [hc] at hr
      simp only at hr
      have hF : ¬ F a0.block := fun hf => by
        rcases hw.obj _ _ h.1 with ⟨cs, ds, t, fz, k1, k2, k3, k4, -⟩ | ⟨x, y, z, k1, -⟩
        · have h9 : w.frozen? a0 = true := by
            unfold World.frozen?
            rw [k1]
            have h8 := k4 hf
            have h7 : a0.off < cs.size := by
              unfold World.cell? at hc
              rw [k1] at hc
              simp only at hc
              split at hc
              · cases hc
              · exact (Array.getElem?_eq_some_iff.1 hc).1
            obtain ⟨lo, hi⟩ := fz
            simp only at h8
            simp only [Bool.and_eq_true, decide_eq_true_eq]
            omega
          rw [h9] at hr
          simp at hr
        · unfold World.cell? at hc
          rw [k1] at hc
          cases hc
      have hfr : w.frozen? a0 = false := by
        cases hq : w.frozen? a0 with
        | false => rfl
        | true => rw [hq] at hr; simp at hr
      rw [hfr] at hr
      simp only [Bool.false_eq_true, if_false] at hr
      obtain ⟨h1, h2, h3⟩ := ih (w.setCell a0 v) (W.setCell b0 u) _ a w1 es1 (hw.store h hv hF) hr
      refine ⟨h1, h2, fun t d ht => ?_⟩
      rw [e1, show (w.rt t d).cell? a0 = some v0 from hc]
      simp only
      rw [show (w.rt t d).frozen? a0 = false from hfr]
      simp only [Bool.false_eq_true, if_false]
      exact h3 t d ht
  | new h hk ih =>
    intro w W es a w1 es1 hw hr
    simp only [Sem.runT] at hr
    obtain ⟨h1, h2, h3⟩ := ih _ (Ren.le_more _ w.heap.size W.heap.size) _ _ (.inr ⟨rfl, rfl⟩) _ _ _ a w1 es1 (hw.push (.inl ⟨_, _, _, rfl, rfl, h⟩)) hr
    exact ⟨h1, h2, fun t d ht => h3 t d ht⟩
  | number h hk ih =>
    intro w W es a w1 es1 hw hr
    simp only [Sem.runT] at hr
    obtain ⟨h1, h2, h3⟩ := ih _ (Ren.le_more _ w.heap.size W.heap.size) _ _ (.inr ⟨rfl, rfl⟩) _ _ _ a w1 es1 (hw.push (.inr ⟨_, _, _, rfl, rfl, h⟩)) hr
    exact ⟨h1, h2, fun t d ht => h3 t d ht⟩
  | shape h hk ih =>
    intro w W es a w1 es1 hw hr
    simp only [Sem.runT] at hr
    exact ih _ _ (hw.shape h) w W es a w1 es1 hw hr
  | getObj h hk ih =>
    intro w W es a w1 es1 hw hr
    rename_i ρ0 r s k l
    simp only [Sem.runT] at hr
    rcases hw.obj _ _ h with ⟨cs, ds, t, fz, k1, k2, -⟩ | ⟨x, y, z, k1, k2, k3⟩
    · rw [k1] at hr
      cases hr
    · rw [k1] at hr
      obtain ⟨h1, h2, h3⟩ := ih _ (Ren.le_refl _) x y z k3 w W _ a w1 es1 hw hr
      refine ⟨h1, h2, fun t d ht => ?_⟩
      simp only [Sem.runT]
      rw [show (w.rt t d).heap[r]? = some (.number x z) from k1]
      exact h3 t d ht
  | choose hk ih =>
    intro w W es a w1 es1 hw hr
    rename_i ρ0 q k l
    simp only [Sem.runT] at hr
    split at hr
    · rename_i hf
      obtain ⟨h1, h2, h3⟩ := ih 0 w W es a w1 es1 hw hr
      exact ⟨h1, h2, fun t d ht => by simp only [Sem.runT]; rw [if_pos hf]; exact h3 t d ht⟩
    · rename_i hf
      obtain ⟨h1, h2, h3⟩ := ih _ { w with drawn := w.drawn + 1 } W es a w1 es1 ⟨hw.fn, hw.inj, hw.lo, hw.old, hw.bot, hw.obj⟩ hr
      simp only at h2
      refine ⟨h1, by omega, fun t d ht => ?_⟩
      simp only [Sem.runT]
      rw [if_neg hf]
      have h0 := ht 0 (by omega) q
      simp only [Nat.add_zero] at h0
      rw [show (w.rt t d).tape (w.rt t d).drawn q = w.tape w.drawn q from h0]
      have h4 := h3 t (d + 1) (fun i hi q' => by
        have := ht (i + 1) (by simp only at hi; omega) q'
        simpa [Nat.add_assoc, Nat.add_comm 1 i] using this)
      have e1 : d + 1 + (w1.drawn - (w.drawn + 1)) = d + (w1.drawn - w.drawn) := by omega
      simp only at h4
      rw [e1] at h4
      exact h4
  | program hk ih =>
    intro w W es a w1 es1 hw hr
    simp only [Sem.runT] at hr
    exact ih w W es a w1 es1 hw hr
  | mark hk ih =>
    intro w W es a w1 es1 hw hr
    simp only [Sem.runT] at hr
    obtain ⟨h1, h2, h3⟩ := ih w W _ a w1 es1 hw hr
    exact ⟨h1, h2, fun t d ht => h3 t d ht⟩
  | dead h =>
    intro w W es a w1 es1 hw hr
    rename_i ρ0 x0 y0
    obtain ⟨hh, w2, h1, -⟩ := h _ (Ren.le_refl _) w W hw
    have h9 := Sem.runT_fst P x0 w es
    rw [hr, h1] at h9
    cases h9
end Go.Proofs.Ytndncmjhpbjcoaa

/- A call that ends as its contract says whatever the tape: it ends so whatever is drawn step by step. -/
namespace Go.Proofs.Ytndncmjhpbjcoaa
open Go.Conc (G)

def base0 (P : Program) : Frame := { fn := P.funcs.size, tmps := #[], todo := [.call { target := .nil, args := #[] } false "fmt's door" #[]], defers := [], mode := .run, kind := .normal }
theorem lone_inj {fr fr2 : Frame} {cs cs2 : List Frame} {w w2 : World} (h : lone fr cs w = lone fr2 cs2 w2) : fr = fr2 ∧ cs = cs2 ∧ w = w2 := by
  simp only [lone, Machine.mk.injEq, Array.mk.injEq, List.cons.injEq, Goroutine.mk.injEq, and_true, true_and] at h
  exact ⟨h.2.1, h.2.2, h.1⟩
section
variable {P : Program}
theorem base_catches (c : List PanicEntry) : ((base0 P).raise c).catches P = true := by
  simp only [Frame.catches, base0, Frame.raise]
  rw [show P.funcs[P.funcs.size]? = none from by simp]
  decide +kernel
theorem doomed {up : List Frame} : ∀ {fr : Frame} {w : World} (n : Nat) {c : List PanicEntry}, fr.mode = .panicking c → fr.defers = [] → (∃ f, P.funcs[fr.fn]? = some f) → (∀ x ∈ up, x.defers = [] ∧ ∃ f, P.funcs[x.fn]? = some f) →
    ∀ fr2 w2, runN P n (lone fr (up ++ [base0 P]) w) = .next (lone fr2 [base0 P] w2) → fr2.mode ≠ .returning := by
  induction up with
  | nil =>
    intro fr w n c hm hd ⟨f, hf⟩ _ fr2 w2 hr
    cases n with
    | zero =>
      simp only [runN, Stepped.next.injEq] at hr
      obtain ⟨rfl, -, -⟩ := lone_inj hr
      rw [hm]
      exact fun h => by cases h
    | succ n =>
      have hs : step P (lone fr ([] ++ [base0 P]) w) = .next (lone ((base0 P).raise c) [] w) := step_lone_go (by
        obtain ⟨fn, tmps, todo, defers, mode, kind, roundOf⟩ := fr
        simp only at hm hd hf
        subst hm hd
        simp [stepG, unwind, Frame.catches, hf])
      simp only [runN, hs] at hr
      cases n with
      | zero =>
        simp only [runN, Stepped.next.injEq] at hr
        obtain ⟨-, h2, -⟩ := lone_inj hr
        cases h2
      | succ n =>
        have hs2 : ∃ o w3, step P (lone ((base0 P).raise c) [] w) = .ended o w3 := ⟨_, _, step_lone_ended (by
          have hc := base_catches (P := P) c
          have hm2 : ((base0 P).raise c).mode = .panicking c := rfl
          have hd2 : ((base0 P).raise c).defers = [] := rfl
          simp [stepG, unwind, hc, hm2, hd2]
          exact ⟨rfl, rfl⟩)⟩
        obtain ⟨o, w3, hs2⟩ := hs2
        simp only [runN, hs2] at hr
        cases hr
  | cons x up ih =>
    intro fr w n c hm hd ⟨f, hf⟩ hu fr2 w2 hr
    cases n with
    | zero =>
      simp only [runN, Stepped.next.injEq] at hr
      obtain ⟨rfl, -, -⟩ := lone_inj hr
      rw [hm]
      exact fun h => by cases h
    | succ n =>
      have hs : step P (lone fr (x :: up ++ [base0 P]) w) = .next (lone (x.raise c) (up ++ [base0 P]) w) := step_lone_go (by
        obtain ⟨fn, tmps, todo, defers, mode, kind, roundOf⟩ := fr
        simp only at hm hd hf
        subst hm hd
        simp [stepG, unwind, Frame.catches, hf])
      simp only [runN, hs] at hr
      obtain ⟨hx, hf2⟩ := hu x (by simp)
      have hm2 : ∃ c2, (x.raise c).mode = .panicking c2 := by
        unfold Frame.raise
        split
        · exact ⟨_, rfl⟩
        · exact ⟨_, rfl⟩
      have hd2 : (x.raise c).defers = [] := by
        unfold Frame.raise
        split <;> exact hx
      have hfn : (x.raise c).fn = x.fn := by
        unfold Frame.raise
        split <;> rfl
      obtain ⟨c2, hm2⟩ := hm2
      exact ih n hm2 hd2 (by rw [hfn]; exact hf2) (fun y hy => hu y (by simp [hy])) fr2 w2 hr
end
theorem ok_mapTmp {P : Program} (xs : Array Value) (g : ResultVar → Sem Value) (hg : ∀ t, g (ResultVar.tmp t) = Sem.pure (xs.getD t undef)) : ∀ (rs : List ResultVar), (∀ r ∈ rs, ∃ t, r = ResultVar.tmp t) → ∀ (w : World), ∃ vs, (rs.mapM g).run P w = Result.ok vs w
  | [], _, w => ⟨[], rfl⟩
  | r :: rs, h, w => by
    obtain ⟨t, rfl⟩ := h r (by simp)
    obtain ⟨vs, hv⟩ := ok_mapTmp xs g hg rs (fun r hr => h r (by simp [hr])) w
    refine ⟨xs.getD t undef :: vs, ?_⟩
    rw [List.mapM_cons, hg]
    show Sem.run P (Sem.bind (Sem.pure (xs.getD t undef)) _) w = _
    rw [Sem.run_bind']
    simp only [Sem.run, Result.andThen_ok]
    show Sem.run P (Sem.bind (rs.mapM g) _) w = _
    rw [Sem.run_bind', hv, Result.andThen_ok]
    rfl
theorem ok_results {P : Program} {fn : Func} (h : ∀ r ∈ fn.results, ∃ t, r = ResultVar.tmp t) (xs : Array Value) (w : World) : ∃ v, (results fn xs).run P w = .ok v w := by
  have key : ∀ (g : ResultVar → Sem Value), (∀ t, g (ResultVar.tmp t) = Sem.pure (xs.getD t undef)) → ∃ v, Sem.run P (Sem.bind (Sem.bind (fn.results.toList.mapM g) fun a => Sem.pure a.toArray) fun vs => Sem.pure (if h : vs.size = 1 then vs[0] else Value.tuple vs)) w = .ok v w := fun g hg => by
    obtain ⟨vs, hv⟩ := ok_mapTmp (P := P) xs g hg fn.results.toList (fun r hr => h r (by simpa using hr)) w
    refine ⟨if h : vs.toArray.size = 1 then vs.toArray[0] else .tuple vs.toArray, ?_⟩
    rw [Sem.run_bind', Sem.run_bind', hv, Result.andThen_ok]
    rfl
  unfold results
  rw [Array.mapM_eq_mapM_toList, map_eq_pure_bind]
  exact key _ fun t => rfl
variable [FnsOk]
section
variable {P : Program} {F : Nat → Prop} {ρ : Ren}
theorem stepG_dead (hg : FnsGood P) {a b : Frame} (h : FrR P ρ a b) {as bs : List Frame} (hu : UpR P ρ as bs) (ca : List Frame) (hne : a.mode = .returning → as ≠ []) {w W : World} (hw : WR P.globals.size F ρ w W) {hh : Halt} {w1 : World}
    (hx : (stepSem P a (as ++ ca)).run P w = .halt hh w1) : (∃ o w2 es, stepG P true (G a (as ++ ca)) w = .ended o w2 es) ∨ ∃ c w2 es, stepG P true (G a (as ++ ca)) w = .go (G (a.raise c) (as ++ ca)) w2 es := by
  have ht := (sr_step (F := F) hg h hu ca [] hne).tame w W hh w1 hw hx
  obtain ⟨fn, c, g1, g2, g3, g4, g5⟩ := hg _ h.ok
  have hi := h.items
  have hex : ∀ ops i rest k o, a.todo = .inRegion ops (i :: rest) :: k → ops[i]? = some o → ∀ n w2, (execOp a.eval o).run P w = .ok n w2 → (∃ v, n = .value v) ∨ n = .skip ∨ ∃ f args, n = .enter f args := fun ops i rest k o ht ho n w2 hr => by
    have hsr := sr_exec (F := F) hg.body h.eval ((hi (.inRegion ops (i :: rest)) (by rw [ht]; simp)) o (Array.mem_of_getElem? ho))
    have hq : ∃ es, (execOp a.eval o).runT P w #[] = (.ok n w2, es) := by
      cases hz : (execOp a.eval o).runT P w #[] with
      | mk r es =>
        have := Sem.runT_fst P (execOp a.eval o) w #[]
        rw [hz, hr] at this
        exact ⟨es, by rw [← this]⟩
    obtain ⟨es, hq⟩ := hq
    have hsr2 := hsr.run (w.rt w.tape w.drawn) (W.rt w.tape w.drawn) #[] #[] n w2 es ⟨hw.fn, hw.inj, hw.lo, hw.old, hw.bot, hw.obj⟩ (fun j q => rfl) hq
    obtain ⟨σ, m, W1, X, -, -, hn, -⟩ := hsr2
    cases hn with
    | value h => exact .inl ⟨_, rfl⟩
    | skip => exact .inr (.inl rfl)
    | enter f hf h => exact .inr (.inr ⟨_, _, rfl⟩)
  obtain ⟨bd, ba⟩ := h.defers
  have hmode := h.plain
  have hk := h.kind.1
  have hr := h.round.1
  have hi2 := hi
  clear h hu
  obtain ⟨fn, tmps, todo, defers, mode, kind, roundOf⟩ := a
  simp only at bd hk hr hmode hi hex hne g1
  subst bd hk hr
  unfold stepSem at hx
  simp only at hx
  rcases hmode with rfl | rfl
  · cases todo with
    | nil => cases hx
    | cons x k =>
      have hx0 := hi x (by simp)
      cases x with
      | inBlock id => cases hx
      | inLoop c => cases hx
      | inScope c => cases hx
      | inRegion ops l =>
        cases l with
        | nil => cases hx
        | cons i rest =>
          simp only [stepAt] at hx
          cases ho : ops[i]? with
          | none => rw [ho] at hx; cases hx
          | some o =>
            rw [ho] at hx
            simp only at hx
            split at hx
            · rename_i hwt
              rw [show ∀ (f : Next → Sem (Frame × List Frame)) (x : Sem Next), (x >>= f) = x.bind f from fun _ _ => rfl, Sem.run_bind'] at hx
              have hx1 := hx
              cases he : (execOp ({ fn := fn, tmps := tmps, todo := Item.inRegion ops (i :: rest) :: k, defers := [], mode := FrameMode.run, kind := CallKind.normal, roundOf := none } : Frame).eval o).run P w with
              | ok n w2 =>
                rw [he, Result.andThen_ok] at hx1
                rcases hex ops i rest k o rfl ho n w2 he with ⟨v, rfl⟩ | rfl | ⟨f, args, rfl⟩ <;> cases hx1
              | halt h2 w2 =>
                rw [he, Result.andThen_halt] at hx1
                cases hx1
                cases hz : (execOp ({ fn := fn, tmps := tmps, todo := Item.inRegion ops (i :: rest) :: k, defers := [], mode := FrameMode.run, kind := CallKind.normal, roundOf := none } : Frame).eval o).runT P w #[] with
                | mk r es =>
                  have hzz := Sem.runT_fst P (execOp ({ fn := fn, tmps := tmps, todo := Item.inRegion ops (i :: rest) :: k, defers := [], mode := FrameMode.run, kind := CallKind.normal, roundOf := none } : Frame).eval o) w #[]
                  rw [hz, he] at hzz
                  simp only at hzz
                  subst hzz
                  cases hh with
                  | panic v =>
                    exact .inr ⟨[{ v, recovered := false }], w1, _, (by simp only [G, stepG, stepG.exec, ho, Option.map_some, hwt, Option.getD_some, if_true, stepG.oper, Frame.oper?, stepG.apply]; rw [hz]; rfl)⟩
                  | stuck s =>
                    exact .inl ⟨.stuck s _, w1, _, (by simp only [G, stepG, stepG.exec, ho, Option.map_some, hwt, Option.getD_some, if_true, stepG.oper, Frame.oper?, stepG.apply]; rw [hz]; rfl)⟩
                  | unsupported u =>
                    cases u with
                    | initOrder g => cases ht
                    | _ =>
                      exact .inl ⟨.unsupported _ _, w1, _, (by simp only [G, stepG, stepG.exec, ho, Option.map_some, hwt, Option.getD_some, if_true, stepG.oper, Frame.oper?, stepG.apply]; rw [hz]; rfl)⟩
                  | _ => cases ht
            · cases hx
      | code c =>
        cases c with
        | seq a b => cases hx
        | cond c x y =>
          simp only [stepAt] at hx
          cases hc : ({ fn := fn, tmps := tmps, todo := Item.code (Code.cond c x y) :: k, defers := [], mode := FrameMode.run, kind := CallKind.normal, roundOf := none } : Frame).eval c with
          | bool t => rw [hc] at hx; cases hx
          | _ =>
            exact .inl ⟨.stuck "cond: bool expected" _, w, #[], (by simp only [G, stepG, stepG.exec, hc]; rfl)⟩
        | block id c => cases hx
        | loop c => cases hx
        | scope c => cases hx
        | exit id =>
          simp only [stepAt] at hx
          cases he : exitTo id k with
          | none =>
            exact .inl ⟨.stuck "exit, goto: no such block or label" _, w, #[], (by simp only [G, stepG, stepG.exec, he, Option.elim]; rfl)⟩
          | some k' => rw [he] at hx; cases hx
        | region id ops d =>
          cases d with
          | false => cases hx
          | true =>
            simp only [stepAt] at hx
            rw [show ∀ (f : Nat → Sem (Frame × List Frame)) (x : Sem Nat), (x >>= f) = x.bind f from fun _ _ => rfl, Sem.run_bind'] at hx
            have hx1 := hx
            have hok : ∃ t w2, (choose (.order fn id)).run P w = .ok t w2 := by
              simp only [choose, Sem.run]
              split <;> exact ⟨_, _, rfl⟩
            obtain ⟨t, w2, hok⟩ := hok
            rw [hok, Result.andThen_ok] at hx1
            cases hx1
        | ret => cases hx
        | skip => cases hx
        | label l => cases hx
        | _ => exact hx0.elim
      | _ => exact hx0.elim
  · cases as with
    | nil => exact absurd rfl (hne rfl)
    | cons c rest =>
      simp only [stepAt, List.cons_append, g1] at hx
      rw [show ∀ (f : Value → Sem (Frame × List Frame)) (x : Sem Value), (x >>= f) = x.bind f from fun _ _ => rfl, Sem.run_bind'] at hx
      have hx1 := hx
      cases he : (results _ tmps).run P w with
      | ok v w2 => rw [he, Result.andThen_ok] at hx1; cases hx1
      | halt h2 w2 =>
        obtain ⟨v, hv⟩ := ok_results g5 tmps w
        rw [hv] at he
        cases he
end
end Go.Proofs.Ytndncmjhpbjcoaa

/- The states that a run of its own comes to, whatever is drawn at each step: each can go on, and none goes on for ever. -/
namespace Go.Proofs.Ytndncmjhpbjcoaa
open Go.Conc (G)

abbrev Tp := Nat → Question → Nat
theorem chain_of_not_acc {α : Type} {r : α → α → Prop} {a : α} (h : ¬ Acc r a) : ∃ f : Nat → α, f 0 = a ∧ ∀ n, r (f (n + 1)) (f n) := by
  have step : ∀ x : { x // ¬ Acc r x }, ∃ y : { y // ¬ Acc r y }, r y.1 x.1 := fun ⟨x, hx⟩ => Classical.byContradiction fun hn => hx (Acc.intro x fun y hy => Classical.byContradiction fun hy2 => hn ⟨⟨y, hy2⟩, hy⟩)
  let g : Nat → { x // ¬ Acc r x } := fun n => Nat.rec ⟨a, h⟩ (fun _ x => Classical.choose (step x)) n
  exact ⟨fun n => (g n).1, rfl, fun n => Classical.choose_spec (step (g n))⟩
def glue (T : Tp) (D : Nat) (t : Tp) (d : Nat) : Tp := fun x => if x < D then T x else t (d + (x - D))
variable [FnsOk]
section
variable (P : Program) (F : Nat → Prop) (f : FuncId) (args : Array Value) (w0 : World)
def startM (T : Tp) : Machine := lone (Frame.enter P f args .normal) [base0 P] (w0.rt T 0)
abbrev LS := Frame × List Frame × World
def DoneS (s : LS) : Prop := s.1.mode = .returning ∧ s.2.1 = [base0 P]
def Pth (k : Nat) (T : Tp) (D : Nat) (s : LS) : Prop := ∀ T' : Tp, (∀ x, x < D → T' x = T x) → runN P k (startM P f args w0 T') = .next (lone s.1 s.2.1 (s.2.2.rt T' D)) ∧
  ∀ i, i < k → ∀ fr2 w2, runN P i (startM P f args w0 T') = .next (lone fr2 [base0 P] w2) → fr2.mode ≠ .returning
def GoodS (s : LS) : Prop := ∃ (ρ : Ren) (b : Frame) (as bs : List Frame) (W : World), s.2.1 = as ++ [base0 P] ∧ FrR P ρ s.1 b ∧ UpR P ρ as bs ∧ WR P.globals.size F ρ s.2.2 W
def NxS (s' s : LS) : Prop := GoodS P F s ∧ ¬ DoneS P s ∧ ∃ t d es, (stepSem P s.1 s.2.1).runT P (s.2.2.rt t d) #[] = (.ok (s'.1, s'.2.1) s'.2.2, es)
def EndsS (R : Value → World → Prop) : Prop := ∀ T : Tp, ∃ n fr w' v, runN P n (startM P f args w0 T) = .next (lone fr [base0 P] w') ∧ fr.mode = .returning ∧ (∃ fn, P.funcs[fr.fn]? = some fn ∧ (results fn fr.tmps).run P w' = .ok v w') ∧ R v w'
variable {P F f args w0}
theorem WR.rt {G : Nat} {ρ : Ren} {w W : World} (h : WR G F ρ w W) (t : Tp) (d : Nat) : WR G F ρ (w.rt t d) W := ⟨h.fn, h.inj, h.lo, h.old, h.bot, h.obj⟩
theorem GoodS.loc (hg : FnsGood P) {s : LS} (h : GoodS P F s) (hd : ¬ DoneS P s) {t : Tp} {d : Nat} {r : Frame × List Frame} {w1 : World} {es : Array Event} (hr : (stepSem P s.1 s.2.1).runT P (s.2.2.rt t d) #[] = (.ok r w1, es)) : DrawLoc P (stepSem P s.1 s.2.1) (s.2.2.rt t d) #[] r w1 es := by
  obtain ⟨ρ, b, as, bs, W, hs, hf, hu, hw⟩ := h
  have hne : s.1.mode = .returning → as ≠ [] := fun hm ha => hd ⟨hm, by rw [hs, ha]; rfl⟩
  have := (sr_step (F := F) hg hf hu [base0 P] [] hne).loc (s.2.2.rt t d) W #[] r w1 es (hw.rt t d)
  rw [hs] at hr ⊢
  exact this hr
theorem GoodS.plain {s : LS} (h : GoodS P F s) : s.1.kind = .normal ∧ s.1.roundOf = none ∧ s.1.defers = [] := by
  obtain ⟨ρ, b, as, bs, W, hs, hf, hu, hw⟩ := h
  exact ⟨hf.kind.1, hf.round.1, hf.defers.1⟩
theorem Pth.start : Pth P f args w0 0 (fun _ _ => 0) 0 (Frame.enter P f args .normal, [base0 P], w0) := fun T' _ => ⟨rfl, fun i hi => absurd hi (by omega)⟩
theorem Pth.ext (hg : FnsGood P) {k : Nat} {T : Tp} {D : Nat} {s : LS} (h : Pth P f args w0 k T D s) (hG : GoodS P F s) (hd : ¬ DoneS P s) {t : Tp} {d : Nat} {s' : LS} {es : Array Event} (hr : (stepSem P s.1 s.2.1).runT P (s.2.2.rt t d) #[] = (.ok (s'.1, s'.2.1) s'.2.2, es)) :
    Pth P f args w0 (k + 1) (glue T D t d) (D + (s'.2.2.drawn - d)) s' := by
  obtain ⟨l1, l2, l3⟩ := hG.loc hg hd hr
  obtain ⟨p1, p2, p3⟩ := hG.plain
  intro T' hT
  obtain ⟨h1, h2⟩ := h T' (fun x hx => by rw [hT x (by omega), glue, if_pos hx])
  have h3 := l3 T' D (fun i hi q => by
    have hi2 : i < s'.2.2.drawn - d := hi
    rw [hT (D + i) (by omega), glue, if_neg (by omega), show D + i - D = i by omega]
    rfl)
  have h4 : step P (lone s.1 s.2.1 (s.2.2.rt T' D)) = .next (lone s'.1 s'.2.1 (s'.2.2.rt T' (D + (s'.2.2.drawn - d)))) := step_lone_go (by
    have := stepG_sem (main := true) p1 p2 (fun _ => p3) h3
    rw [show ({ frame := s.1, callers := s.2.1, status := GoStatus.running, dying := none } : Goroutine) = G s.1 s.2.1 from rfl, show s.2.2.rt T' D = (s.2.2.rt t d).rt T' D from rfl, this]
    rfl)
  refine ⟨?_, fun i hi fr2 w2 hr2 => ?_⟩
  · rw [runN_add, h1]
    simp only [runN, h4]
  · rcases Nat.lt_or_ge i k with hik | hik
    · exact h2 i hik fr2 w2 hr2
    · obtain rfl : i = k := by omega
      rw [h1] at hr2
      simp only [Stepped.next.injEq] at hr2
      obtain ⟨rfl, e2, -⟩ := lone_inj hr2
      exact fun hm => hd ⟨hm, e2⟩
theorem prog (hg : FnsGood P) {R : Value → World → Prop} (hC : EndsS P f args w0 R) {k : Nat} {T : Tp} {D : Nat} {s : LS} (h : Pth P f args w0 k T D s) (hG : GoodS P F s) (hd : ¬ DoneS P s) (t : Tp) (d : Nat) :
    ∃ r w1 es, (stepSem P s.1 s.2.1).runT P (s.2.2.rt t d) #[] = (.ok r w1, es) := by
  cases hr : (stepSem P s.1 s.2.1).runT P (s.2.2.rt t d) #[] with
  | mk r es =>
    cases r with
    | ok r w1 => exact ⟨r, w1, es, rfl⟩
    | halt hh w1 =>
      exfalso
      obtain ⟨T2, hT2⟩ : ∃ T2, T2 = glue T D t d := ⟨_, rfl⟩
      have hTt : ∀ i, T2 (D + i) = t (d + i) := fun i => by rw [hT2, glue, if_neg (by omega), show D + i - D = i by omega]
      obtain ⟨h1, h2⟩ := h T2 (fun x hx => by rw [hT2, glue, if_pos hx])
      have hhalt : ∃ h2 w2, (stepSem P s.1 s.2.1).run P (s.2.2.rt T2 D) = .halt h2 w2 := by
        cases hq : (stepSem P s.1 s.2.1).runT P (s.2.2.rt T2 D) #[] with
        | mk r2 es2 =>
          have hz := Sem.runT_fst P (stepSem P s.1 s.2.1) (s.2.2.rt T2 D) #[]
          rw [hq] at hz
          simp only at hz
          cases r2 with
          | halt h2 w2 => exact ⟨h2, w2, hz.symm⟩
          | ok r2 w2 =>
            obtain ⟨-, -, l3⟩ := hG.loc hg hd hq
            have := l3 t d (fun i _ q => by rw [← hTt i]; rfl)
            rw [show (s.2.2.rt T2 D).rt t d = s.2.2.rt t d from rfl, hr] at this
            cases this
      obtain ⟨hq, w2, hq2⟩ := hhalt
      obtain ⟨ρ, b, as, bs, W, hs, hf, hu, hw⟩ := hG
      have hne : s.1.mode = .returning → as ≠ [] := fun hm ha => hd ⟨hm, by rw [hs, ha]; rfl⟩
      rw [hs] at hq2
      have hdead := stepG_dead hg hf hu [base0 P] hne (hw.rt T2 D) hq2
      obtain ⟨n, fr, w', v, e1, e2, -⟩ := hC T2
      have hnk : k < n := by
        rcases Nat.lt_trichotomy n k with x | x | x
        · exact absurd e2 (h2 n x fr w' e1)
        · subst x
          rw [h1] at e1
          simp only [Stepped.next.injEq] at e1
          obtain ⟨rfl, e3, -⟩ := lone_inj e1
          exact absurd ⟨e2, e3⟩ hd
        · exact x
      obtain ⟨m, rfl⟩ : ∃ m, n = k + (m + 1) := ⟨n - k - 1, by omega⟩
      rw [runN_add, h1] at e1
      simp only [runN] at e1
      rcases hdead with ⟨o, w3, es3, hx⟩ | ⟨c, w3, es3, hx⟩
      · rw [hs, step_lone_ended (o := o) (w' := w3) (by
          rw [show ({ frame := s.1, callers := as ++ [base0 P], status := GoStatus.running, dying := none } : Goroutine) = G s.1 (as ++ [base0 P]) from rfl, hx]; rfl)] at e1
        cases e1
      · rw [hs, step_lone_go (fr' := s.1.raise c) (cs' := as ++ [base0 P]) (w' := w3) (by
          rw [show ({ frame := s.1, callers := as ++ [base0 P], status := GoStatus.running, dying := none } : Goroutine) = G s.1 (as ++ [base0 P]) from rfl, hx]; rfl)] at e1
        simp only at e1
        have hm : (s.1.raise c).mode = .panicking c := by
          unfold Frame.raise
          rcases hf.plain with x | x <;> rw [x]
        have hdf : (s.1.raise c).defers = [] := by unfold Frame.raise; split <;> exact hf.defers.1
        have hfn : (s.1.raise c).fn = s.1.fn := by unfold Frame.raise; split <;> rfl
        obtain ⟨fn0, c0, g1, -⟩ := hg _ hf.ok
        have hup : ∀ {as bs : List Frame}, UpR P ρ as bs → ∀ x ∈ as, x.defers = [] ∧ ∃ f, P.funcs[x.fn]? = some f := fun {as bs} hu => by
          induction hu with
          | nil => exact fun x hx => by simp at hx
          | cons h _ _ _ ih =>
            intro x hx
            rw [List.mem_cons] at hx
            rcases hx with rfl | hx
            · obtain ⟨fn1, c1, k1, -⟩ := hg _ h.ok
              exact ⟨h.defers.1, fn1, k1⟩
            · exact ih x hx
        exact doomed m hm hdf ⟨fn0, by rw [hfn]; exact g1⟩ (hup hu) fr w' e1 e2
theorem acc (hg : FnsGood P) {R : Value → World → Prop} (hC : EndsS P f args w0 R) : Acc (NxS P F) (Frame.enter P f args .normal, [base0 P], w0) := by
  refine Classical.byContradiction fun hn => ?_
  obtain ⟨g, g0, hs⟩ := chain_of_not_acc hn
  have ht : ∀ k, ∃ t d, ∃ es, (stepSem P (g k).1 (g k).2.1).runT P ((g k).2.2.rt t d) #[] = (.ok ((g (k + 1)).1, (g (k + 1)).2.1) (g (k + 1)).2.2, es) := fun k => (hs k).2.2
  let t : Nat → Tp := fun k => Classical.choose (ht k)
  let d : Nat → Nat := fun k => Classical.choose (Classical.choose_spec (ht k))
  have htd : ∀ k, ∃ es, (stepSem P (g k).1 (g k).2.1).runT P ((g k).2.2.rt (t k) (d k)) #[] = (.ok ((g (k + 1)).1, (g (k + 1)).2.1) (g (k + 1)).2.2, es) := fun k => Classical.choose_spec (Classical.choose_spec (ht k))
  let TD : Nat → Tp × Nat := fun n => Nat.rec (fun _ _ => 0, 0) (fun k x => (glue x.1 x.2 (t k) (d k), x.2 + ((g (k + 1)).2.2.drawn - d k))) n
  have hTD : ∀ k, TD (k + 1) = (glue (TD k).1 (TD k).2 (t k) (d k), (TD k).2 + ((g (k + 1)).2.2.drawn - d k)) := fun k => rfl
  have hP : ∀ k, Pth P f args w0 k (TD k).1 (TD k).2 (g k) := by
    intro k
    induction k with
    | zero => rw [g0]; exact Pth.start
    | succ k ih =>
      obtain ⟨es, he⟩ := htd k
      rw [hTD]
      exact ih.ext hg (hs k).1 (hs k).2.1 he
  have hmono : ∀ k m, k ≤ m → (TD k).2 ≤ (TD m).2 := by
    intro k m hkm
    induction hkm with
    | refl => exact Nat.le_refl _
    | step _ ih => rw [hTD]; simp only; omega
  have hst : ∀ k m, k ≤ m → ∀ x, x < (TD k).2 → (TD m).1 x = (TD k).1 x := by
    intro k m hkm
    induction hkm with
    | refl => exact fun _ _ => rfl
    | @step m hkm ih =>
      intro x hx
      have := hmono k m hkm
      rw [hTD]
      simp only [glue]
      rw [if_pos (by omega)]
      exact ih x hx
  let T : Tp := fun x => open Classical in if h : ∃ k, x < (TD k).2 then (TD (Classical.choose h)).1 x else fun _ => 0
  have hT : ∀ k x, x < (TD k).2 → T x = (TD k).1 x := by
    intro k x hx
    have h : ∃ k, x < (TD k).2 := ⟨k, hx⟩
    have e : T x = (TD (Classical.choose h)).1 x := dif_pos h
    rw [e]
    rcases Nat.le_total (Classical.choose h) k with l | l
    · exact (hst _ _ l x (Classical.choose_spec h)).symm
    · exact hst _ _ l x hx
  obtain ⟨n, fr, w', v, e1, e2, -⟩ := hC T
  obtain ⟨h1, -⟩ := hP n T (hT n)
  rw [h1] at e1
  simp only [Stepped.next.injEq] at e1
  obtain ⟨rfl, e3, -⟩ := lone_inj e1
  exact (hs n).2.1 ⟨e2, e3⟩
end
end Go.Proofs.Ytndncmjhpbjcoaa

/- A call, in company: what a contract says of a run alone holds beside others who leave its memory alone. -/
namespace Go.Proofs.Ytndncmjhpbjcoaa
open Go.Conc (G)

section
variable {P : Program}
theorem base_ends (v : Value) (w : World) : ∃ o w3, step P (lone ((base0 P).finish v) [] w) = .ended o w3 := by
  have hn : Extern.next "fmt's door" = none := by decide +kernel
  exact ⟨_, _, step_lone_ended (by
    simp only [base0, Frame.finish, stepG, stepG.exec, hn, Option.elim]
    rfl)⟩
theorem done_last {fr : Frame} {w : World} {v : Value} (h : fr.leaving P w (.returned v)) : ∀ m fr2 w2, runN P (m + 1) (lone fr [base0 P] w) ≠ .next (lone fr2 [base0 P] w2) := by
  intro m fr2 w2 hr
  simp only [runN, step_leave_returned h] at hr
  cases m with
  | zero =>
    simp only [runN, Stepped.next.injEq] at hr
    obtain ⟨-, h2, -⟩ := lone_inj hr
    cases h2
  | succ m =>
    obtain ⟨o, w3, hs⟩ := base_ends (P := P) v w
    simp only [runN, hs] at hr
    cases hr
end
/-! ### a goroutine with memory of its own, in company -/
structure Keep (S O : Nat → Prop) (W W1 : World) : Prop where
  block : ∀ b, b < W.heap.size → S b ∨ O b → W1.heap[b]? = W.heap[b]?
  size : W.heap.size ≤ W1.heap.size
def EvO (S O : Nat → Prop) (e : Event) : Prop :=
  (∃ a, e.loc = .cell a ∧ e.sync = false ∧ (O a.block ∨ (S a.block ∧ e.write = false))) ∨ (∃ s, e = ⟨.obj s, false, false⟩ ∧ (O s ∨ S s)) ∨ e = ⟨.mark .noRoom, false, true⟩
def grow (O : Nat → Prop) (W W2 : World) : Nat → Prop := fun b => O b ∨ (W.heap.size ≤ b ∧ b < W2.heap.size)
structure OwnStep (S O : Nat → Prop) (W W2 : World) (es : Array Event) : Prop where
  size : W.heap.size ≤ W2.heap.size
  tape : W2.tape = W.tape
  os : W2.os = W.os
  output : W2.output = W.output
  block : ∀ b, b < W.heap.size → ¬ O b → W2.heap[b]? = W.heap[b]?
  evs : ∀ e ∈ es, EvO S (grow O W W2) e
inductive Co (P : Program) (main : Bool) (S : Nat → Prop) (Stop : (Nat → Prop) → Goroutine → World → Prop) : (Nat → Prop) → Goroutine → World → Prop
  | stop {O : Nat → Prop} {g : Goroutine} {W : World} (h : ∀ W1, Keep S O W W1 → Stop O g W1) : Co P main S Stop O g W
  | step {O : Nat → Prop} {g : Goroutine} {W : World} (hr : g.status = .running) (hp : ∀ W1, Keep S O W W1 → ∃ g' W2 es, stepG P main g W1 = .go g' W2 es ∧ OwnStep S O W1 W2 es)
      (h : ∀ W1, Keep S O W W1 → ∀ g' W2 es, stepG P main g W1 = .go g' W2 es → Co P main S Stop (grow O W1 W2) g' W2) : Co P main S Stop O g W
theorem Keep.trans {S O : Nat → Prop} {W W1 W2 : World} (h : Keep S O W W1) (k : Keep S O W1 W2) : Keep S O W W2 := ⟨fun b hb hs => (k.block b (by have := h.size; omega) hs).trans (h.block b hb hs), Nat.le_trans h.size k.size⟩
theorem Co.rely {P : Program} {main : Bool} {S O : Nat → Prop} {Stop : (Nat → Prop) → Goroutine → World → Prop} {g : Goroutine} {W W1 : World} (h : Co P main S Stop O g W) (k : Keep S O W W1) : Co P main S Stop O g W1 := by
  cases h with
  | stop h => exact .stop fun W2 k2 => h W2 (k.trans k2)
  | step hr hp h => exact .step hr (fun W2 k2 => hp W2 (k.trans k2)) fun W2 k2 => h W2 (k.trans k2)
variable [FnsOk]
section
variable {P : Program} {F : Nat → Prop} {f : FuncId} {args : Array Value} {w0 : World}
theorem ends_of_calls {R : Value → World → Prop} (h : ∀ T : Tp, Calls P f args (w0.rt T 0) fun e w' => ∃ v, e = .returned v ∧ R v w') : EndsS P f args w0 R := fun T => by
  obtain ⟨e, w', fr, ⟨v, rfl, hR⟩, ⟨n, hn⟩, hf, hl⟩ := h T [base0 P]
  obtain ⟨h1, h2, h3, fn, h4, h5⟩ := hl
  exact ⟨n, fr, w', v, hn, h1, ⟨fn, h4, h5⟩, hR⟩
theorem done_val {R : Value → World → Prop} (hC : EndsS P f args w0 R) {k : Nat} {T : Tp} {D : Nat} {s : LS} (h : Pth P f args w0 k T D s) (hG : GoodS P F s) (hd : DoneS P s) (hg : FnsGood P) : ∃ v fn, P.funcs[s.1.fn]? = some fn ∧ (results fn s.1.tmps).run P (s.2.2.rt T D) = .ok v (s.2.2.rt T D) ∧ R v (s.2.2.rt T D) := by
  obtain ⟨h1, h2⟩ := h T (fun _ _ => rfl)
  obtain ⟨n, fr, w', v, e1, e2, ⟨fn, e3, e4⟩, e5⟩ := hC T
  obtain ⟨p1, p2, p3⟩ := hG.plain
  obtain ⟨ρ, b, as, bs, W, hs, hf, -⟩ := hG
  obtain ⟨fn0, c0, g1, -, -, -, g5⟩ := hg _ hf.ok
  rcases Nat.lt_trichotomy n k with x | x | x
  · exact absurd e2 (h2 n x fr w' e1)
  · subst x
    rw [h1] at e1
    simp only [Stepped.next.injEq] at e1
    obtain ⟨rfl, -, rfl⟩ := lone_inj e1
    exact ⟨v, fn, e3, e4, e5⟩
  · exfalso
    obtain ⟨m, rfl⟩ : ∃ m, n = k + (m + 1) := ⟨n - k - 1, by omega⟩
    rw [runN_add, h1] at e1
    simp only at e1
    rw [hd.2] at e1
    obtain ⟨u, hu⟩ := ok_results (P := P) g5 s.1.tmps (s.2.2.rt T D)
    exact done_last (v := u) ⟨hd.1, p3, p1, fn0, g1, hu⟩ m fr w' e1
theorem Co.one {P : Program} {main : Bool} {S O : Nat → Prop} {Stop : (Nat → Prop) → Goroutine → World → Prop} {g : Goroutine} {W : World} (hr : g.status = .running) (h : ∀ W1, Keep S O W W1 → ∃ g' W2 es, stepG P main g W1 = .go g' W2 es ∧ OwnStep S O W1 W2 es ∧ Co P main S Stop (grow O W1 W2) g' W2) : Co P main S Stop O g W :=
  .step hr (fun W1 k => by obtain ⟨g', W2, es, h1, h2, -⟩ := h W1 k; exact ⟨g', W2, es, h1, h2⟩) fun W1 k g' W2 es e => by
    obtain ⟨g2, W3, es2, h1, -, h3⟩ := h W1 k
    rw [h1] at e
    cases e
    exact h3
structure Kp (S O0 : Nat → Prop) (F : Nat → Prop) (ρ0 : Ren) (W0 : World) (ρ : Ren) (O : Nat → Prop) (W : World) : Prop where
  own : ∀ r s, ρ r s → ¬ F r → O s
  sh : ∀ r s, ρ r s → F r → S s ∨ O s
  old : ∀ s, O0 s → O s
  size : W0.heap.size ≤ W.heap.size
  new : ∀ r s, ρ r s → ρ0 r s ∨ W0.heap.size ≤ s
  le : ρ0.le ρ
  kept : ∀ b, b < W0.heap.size → S b ∨ O0 b → (¬ ∃ r, ρ0 r b ∧ ¬ F r) → W.heap[b]? = W0.heap[b]?
theorem WR.keep {G : Nat} {F : Nat → Prop} {ρ : Ren} {w W W1 : World} {S O : Nat → Prop} (h : WR G F ρ w W) (ho : ∀ r s, ρ r s → ¬ F r → O s) (hs : ∀ r s, ρ r s → F r → S s ∨ O s) (k : Keep S O W W1) : WR G F ρ w W1 := by
  have hb : ∀ r s, ρ r s → W1.heap[s]? = W.heap[s]? := fun r s x => k.block s (h.lo r s x).2.1 (by
    rcases Classical.em (F r) with y | y
    · exact hs r s x y
    · exact .inr (ho r s x y))
  refine ⟨h.fn, h.inj, fun r s x => ?_, h.old, ?_, fun r s x => ?_⟩
  · have := h.lo r s x
    have := k.size
    omega
  · have := h.bot
    have := k.size
    omega
  · rw [hb r s x]
    exact h.obj r s x
theorem map_rel {ρ : Ren} {xs ys : Array Value} (h : AR ρ xs ys) (g g' : ResultVar → Sem Value) (hg : ∀ t, g (ResultVar.tmp t) = Sem.pure (xs.getD t undef)) (hg' : ∀ t, g' (ResultVar.tmp t) = Sem.pure (ys.getD t undef)) : ∀ (rs : List ResultVar), (∀ r ∈ rs, ∃ t, r = ResultVar.tmp t) →
    ∃ vs us, rs.mapM g = Sem.pure vs ∧ rs.mapM g' = Sem.pure us ∧ LR ρ vs us
  | [], _ => ⟨[], [], rfl, rfl, rfl, fun i a b x _ => by simp at x⟩
  | r :: rs, hr => by
    obtain ⟨t, rfl⟩ := hr r (by simp)
    obtain ⟨vs, us, e1, e2, e3⟩ := map_rel h g g' hg hg' rs fun r h => hr r (by simp [h])
    refine ⟨xs.getD t undef :: vs, ys.getD t undef :: us, ?_, ?_, by simp [e3.1], fun i a b x y => ?_⟩
    · rw [List.mapM_cons, hg, e1]
      rfl
    · rw [List.mapM_cons, hg', e2]
      rfl
    · cases i with
      | zero => simp only [List.getElem?_cons_zero, Option.some.injEq] at x y; rw [← x, ← y]; exact h.getD undef_rel t
      | succ i => exact e3.2 i a b (by simpa using x) (by simpa using y)
theorem results_rel {ρ : Ren} {fn : Func} (hr : ∀ r ∈ fn.results, ∃ t, r = ResultVar.tmp t) {xs ys : Array Value} (h : AR ρ xs ys) : ∃ v u, results fn xs = Sem.pure v ∧ results fn ys = Sem.pure u ∧ VR ρ v u := by
  have key : ∀ (g g' : ResultVar → Sem Value), (∀ t, g (ResultVar.tmp t) = Sem.pure (xs.getD t undef)) → (∀ t, g' (ResultVar.tmp t) = Sem.pure (ys.getD t undef)) →
      ∃ v u, Sem.bind (Sem.bind (fn.results.toList.mapM g) fun a => Sem.pure a.toArray) (fun vs => Sem.pure (if h : vs.size = 1 then vs[0] else Value.tuple vs)) = Sem.pure v ∧ Sem.bind (Sem.bind (fn.results.toList.mapM g') fun a => Sem.pure a.toArray) (fun vs => Sem.pure (if h : vs.size = 1 then vs[0] else Value.tuple vs)) = Sem.pure u ∧ VR ρ v u := fun g g' hg hg' => by
    obtain ⟨vs, us, e1, e2, e3⟩ := map_rel h g g' hg hg' fn.results.toList (fun r hr' => hr r (by simpa using hr'))
    rw [e1, e2]
    refine ⟨_, _, rfl, rfl, ?_⟩
    have e4 := e3.arr
    split
    · rename_i h2
      rw [dif_pos (by rw [← e4.1]; exact h2)]
      exact e4.2 0 _ _ (Array.getElem?_eq_getElem (by omega)) (Array.getElem?_eq_getElem (by rw [← e4.1]; omega))
    · rename_i h2
      rw [dif_neg (by rw [← e4.1]; exact h2)]
      exact .tuple e4.1 e4.2
  unfold results
  rw [Array.mapM_eq_mapM_toList, Array.mapM_eq_mapM_toList, map_eq_pure_bind, map_eq_pure_bind]
  exact key _ _ (fun t => rfl) fun t => rfl
theorem co_call {main : Bool} {S O0 : Nat → Prop} {Stop : (Nat → Prop) → Goroutine → World → Prop} {R : Value → World → Prop} {ρ0 : Ren} {W0 : World} {args' : Array Value} (hg : FnsGood P) (hf : FnsOk.ok f) (hC : EndsS P f args w0 R)
    (hargs : AR ρ0 args args') (hw : WR P.globals.size F ρ0 w0 W0) (hO : ∀ r s, ρ0 r s → ¬ F r → O0 s) (hS : ∀ r s, ρ0 r s → F r → S s ∨ O0 s) (c : Frame) (cb : List Frame)
    (hstop : ∀ (v u : Value) (w' W' : World) (ρ : Ren) (O : Nat → Prop), R v w' → VR ρ v u → WR P.globals.size F ρ w' W' → Kp S O0 F ρ0 W0 ρ O W' → Co P main S Stop O (G (c.finish u) cb) W') :
    Co P main S Stop O0 (G (Frame.enter P f args' .normal) (c :: cb)) W0 := by
  have main' : ∀ s : LS, Acc (NxS P F) s → ∀ (k : Nat) (T : Tp) (D : Nat) (ρ : Ren) (b : Frame) (as bs : List Frame) (W : World) (O : Nat → Prop), Pth P f args w0 k T D s → s.2.1 = as ++ [base0 P] → FrR P ρ s.1 b → UpR P ρ as bs → WR P.globals.size F ρ s.2.2 W → Kp S O0 F ρ0 W0 ρ O W →
      Co P main S Stop O (G b (bs ++ c :: cb)) W := by
    intro s hs
    induction hs with
    | intro s _ ih =>
      intro k T D ρ b as bs W O hP hcs hfr hup hwr hk
      have hG : GoodS P F s := ⟨ρ, b, as, bs, W, hcs, hfr, hup, hwr⟩
      by_cases hd : DoneS P s
      · -- it returns
        obtain ⟨v, fn, e1, e2, e3⟩ := done_val hC hP hG hd hg
        obtain rfl : as = [] := by
          have h1 := hcs
          rw [hd.2] at h1
          cases as with
          | nil => rfl
          | cons x xs => simp at h1
        cases hup
        obtain ⟨fn0, c0, g1, -, -, -, g5⟩ := hg _ hfr.ok
        rw [g1] at e1
        cases e1
        refine Co.one rfl fun W1 k1 => ?_
        have hw1 := hwr.keep hk.own hk.sh k1
        obtain ⟨v2, u, r1, r2, hr2⟩ := results_rel g5 hfr.tmps
        rw [r1] at e2
        simp only [Sem.run, Result.ok.injEq] at e2
        obtain ⟨rfl, -⟩ := e2
        have hr1 : (results fn b.tmps).runT P W1 #[] = (.ok u W1, #[]) := by rw [r2]; rfl
        refine ⟨G (c.finish u) cb, W1, #[], ?_, ?_, ?_⟩
        · have hbm : b.mode = .returning := hfr.mode.trans hd.1
          have hbd := hfr.defers.2
          have hbk := hfr.kind.2
          have hbf := hfr.fn
          obtain ⟨fn, tmps, todo, defers, mode, kind, roundOf⟩ := b
          simp only at hbm hbd hbk hbf hr1
          subst hbm hbd hbk hbf
          simp only [G, stepG, unwind, g1, List.nil_append]
          rw [hr1]
          simp [GStep.after, doReturn, seen]
        · exact ⟨Nat.le_refl _, rfl, rfl, rfl, fun _ _ _ => rfl, fun e he => by simp at he⟩
        · refine hstop v2 u (s.2.2.rt T D) W1 ρ _ e3 hr2 (hw1.rt T D) ⟨fun r s x y => .inl (hk.own r s x y), fun r s x y => (hk.sh r s x y).imp id .inl, fun s x => .inl (hk.old s x), Nat.le_trans hk.size k1.size, hk.new, hk.le, fun b hb hsb hnb => ?_⟩
          rw [k1.block b (by have := hk.size; omega) (hsb.imp id (hk.old b))]
          exact hk.kept b hb hsb hnb
      · -- it goes on
        refine Co.one rfl fun W1 k1 => ?_
        have hw1 := hwr.keep hk.own hk.sh k1
        have hne : s.1.mode = .returning → as ≠ [] := fun hm ha => hd ⟨hm, by rw [hcs, ha]; rfl⟩
        obtain ⟨r, w1, es, hr⟩ := prog hg hC hP hG hd W1.tape W1.drawn
        have hr' := hr
        rw [hcs] at hr'
        obtain ⟨σ, y, W2, X, q1, q2, q3, q4, q5, q6⟩ := (sr_step (F := F) hg hfr hup [base0 P] (c :: cb) hne).run (s.2.2.rt W1.tape W1.drawn) W1 #[] #[] r w1 es (hw1.rt W1.tape W1.drawn) (fun j q => rfl) hr'
        obtain ⟨as2, bs2, y1, y2, y3, y4⟩ := q3
        obtain ⟨b2, cs2⟩ := y
        simp only at y2 y3
        subst y2
        have hst := stepG_sem (main := main) hfr.kind.2 hfr.round.2 (fun _ => hfr.defers.2) q1
        have hkp : Kp S O0 F ρ0 W0 σ (grow O W1 W2) W2 := by
          refine ⟨fun r q x y => ?_, fun r q x y => ?_, fun q x => .inl (hk.old q x), Nat.le_trans (Nat.le_trans hk.size k1.size) q6.size, fun r q x => ?_, Ren.le_trans hk.le q6.le, fun b hb hsb hnb => ?_⟩
          · rcases q6.fresh r q x with z | z
            · exact .inl (hk.own r q z y)
            · exact .inr ⟨z.1, (q4.lo r q x).2.1⟩
          · rcases q6.fresh r q x with z | z
            · exact (hk.sh r q z y).imp id .inl
            · have h8 := hwr.old r y
              have h9 : s.2.2.heap.size ≤ r := z.2
              omega
          · rcases q6.fresh r q x with z | z
            · exact hk.new r q z
            · have := hk.size
              have := k1.size
              exact .inr (by omega)
          · have hs1 : b < W1.heap.size := by have := hk.size; have := k1.size; omega
            rw [q6.block b hs1 (fun ⟨r, z1, z2⟩ => by
              rcases hk.new r b z1 with z3 | z3
              · exact hnb ⟨r, z3, z2⟩
              · omega), k1.block b (by have := hk.size; omega) (hsb.imp id (hk.old b))]
            exact hk.kept b hb hsb hnb
        refine ⟨_, W2, _, hst, ⟨q6.size, q6.tape, q6.os, q6.output, fun b hb hnb => q6.block b hb fun ⟨r, z1, z2⟩ => hnb (hk.own r b z1 z2), fun e he => ?_⟩, ?_⟩
        · have he2 := Conc.mem_seen he
          rcases q2 e (by simpa using he2) with ⟨a, r, z1, z2, z3, z4⟩ | ⟨s', r, z1, z2⟩ | z
          · refine .inl ⟨a, z1, z4, ?_⟩
            rcases Classical.em (F r) with z5 | z5
            · rcases hkp.sh r _ z2 z5 with z6 | z6
              · refine .inr ⟨z6, ?_⟩
                cases hb : e.write with
                | false => rfl
                | true => exact absurd z5 (z3 hb)
              · exact .inl z6
            · exact .inl (hkp.own r _ z2 z5)
          · refine .inr (.inl ⟨s', z1, ?_⟩)
            rcases Classical.em (F r) with z5 | z5
            · exact (hkp.sh r _ z2 z5).elim .inr .inl
            · exact .inl (hkp.own r _ z2 z5)
          · exact .inr (.inr z)
        · exact ih (r.1, r.2, w1) ⟨hG, hd, _, _, es, hr⟩ (k + 1) _ _ σ b2 as2 bs2 W2 _ (hP.ext hg hG hd (s' := (r.1, r.2, w1)) hr) y1 y3 y4 q4 hkp
  have hent : FrR P ρ0 (Frame.enter P f args .normal) (Frame.enter P f args' .normal) := by
    obtain ⟨fn', c', e1, e2, e3, e4, e5⟩ := hg f hf
    refine ⟨rfl, hf, ?_, rfl, ?_, ⟨rfl, rfl⟩, rfl, .inl rfl, ⟨rfl, rfl⟩, ⟨rfl, rfl⟩⟩
    · simp only [Frame.enter, hargs.1]
      refine hargs.append ⟨rfl, fun i x y hx hy => ?_⟩
      rw [Array.getElem?_replicate] at hx hy
      split at hx
      · rename_i hl
        rw [if_pos hl] at hy
        cases hx; cases hy
        exact undef_rel
      · cases hx
    · intro i hi
      simp only [Frame.enter, e1, Option.bind_some, e3, Option.getD_some, List.mem_singleton] at hi
      rw [hi]
      exact e4
  exact main' _ (acc hg hC) 0 _ 0 ρ0 _ [] [] W0 O0 Pth.start rfl hent .nil hw ⟨hO, hS, fun s x => x, Nat.le_refl _, fun r s x => .inl x, Ren.le_refl _, fun b _ _ _ => rfl⟩
end
end Go.Proofs.Ytndncmjhpbjcoaa
