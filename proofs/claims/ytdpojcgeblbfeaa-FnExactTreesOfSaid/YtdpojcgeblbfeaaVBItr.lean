/- Ranges over slices.Backward: what such a value promises, and the law of a loop over one. -/
import Derived.RangeFuncNested
import Derived.Test.YtdpojcgeblbfeaaVBA
set_option linter.all false
namespace Go.Proofs.Ytdpojcgeblbfeaa
open Go.RowKit

structure Stq (B : Nat) (X Y : World) : Prop where
  os : Y.os = X.os
  tape : Y.tape = X.tape
  output : Y.output = X.output
  size : X.heap.size ≤ Y.heap.size
  keep : ∀ (k : Nat) (o : Obj), X.heap[k]? = some o → o.isCells = true ∨ k < B → Y.heap[k]? = some o
section
variable {B B' n m : Nat} {X Y Z : World}
theorem Stq.refl (B : Nat) (X : World) : Stq B X X := ⟨rfl, rfl, rfl, Nat.le_refl _, fun _ _ h _ => h⟩
theorem Stq.trans (h : Stq B X Y) (k : Stq B Y Z) : Stq B X Z := ⟨k.os.trans h.os, k.tape.trans h.tape, k.output.trans h.output, Nat.le_trans h.size k.size, fun i o hi ho => k.keep i o (h.keep i o hi ho) ho⟩
theorem Stq.mono (h : Stq B X Y) (hB : B' ≤ B) : Stq B' X Y := ⟨h.os, h.tape, h.output, h.size, fun i o hi ho => h.keep i o hi (ho.imp id fun l => by omega)⟩
theorem Stq.of_below (h : Below X.heap.size X Y) (B : Nat) : Stq B X Y := ⟨h.os, h.tape, h.output, h.size, fun i _ hi _ => (h.block i (Array.getElem?_eq_some_iff.1 hi).1).trans hi⟩
theorem Stq.put {l : Nat} {o : Obj} (hl : X.heap[l]? = some o) (ho : o.isCells = false) (hB : B ≤ l) (o' : Obj) : Stq B X (X.putObj l o') :=
  ⟨rfl, rfl, rfl, by simp, fun k p hk hp => by
    by_cases e : k = l
    · subst e
      rw [hl] at hk
      cases hk
      rcases hp with hp | hp
      · rw [ho] at hp; cases hp
      · omega
    · exact (World.putObj_heap_other e).trans hk⟩
theorem Stq.below (h : Stq B X Y) (h1 : n ≤ B) (h2 : n ≤ X.heap.size) : Below n X Y := ⟨h.os, h.tape, h.output, h.size, fun k hk => by
  have hl : k < X.heap.size := by omega
  rw [h.keep k _ (Array.getElem?_eq_getElem hl) (.inr (by omega)), Array.getElem?_eq_getElem hl]⟩
theorem cells_at {a : Addr} {v : Value} (h : X.cell? a = some v) : ∃ cur t f, X.heap[a.block]? = some (.cells cur t f) := by
  unfold World.cell? at h
  cases ho : X.heap[a.block]? with
  | none => simp [ho] at h
  | some o => cases o <;> simp_all
theorem Stq.block {k : Nat} {cur : Array Value} {t : TypeId} {f : Nat × Nat} (hs : Stq B X Y) (h : X.heap[k]? = some (.cells cur t f)) : Y.heap[k]? = some (.cells cur t f) := hs.keep k _ h (.inl rfl)
theorem Stq.cell {a : Addr} {v : Value} (hs : Stq B X Y) (h : X.cell? a = some v) : Y.cell? a = some v := by
  obtain ⟨cur, t, f, hb⟩ := cells_at h
  rw [← h]
  exact World.cell?_of_block ((hs.keep _ _ hb (.inl rfl)).trans hb.symm)
theorem Stq.frozen {a : Addr} {v : Value} (hs : Stq B X Y) (h : X.cell? a = some v) : Y.frozen? a = X.frozen? a := by
  obtain ⟨cur, t, f, hb⟩ := cells_at h
  exact World.frozen?_of_block ((hs.keep _ _ hb (.inl rfl)).trans hb.symm)
structure RndB (n : Nat) (X Y : World) : Prop where
  size : X.heap.size ≤ Y.heap.size
  keep : ∀ (k : Nat) (o : Obj), X.heap[k]? = some o → o.isCells = false → n ≤ k → Y.heap[k]? = some o
theorem RndB.refl (n : Nat) (X : World) : RndB n X X := ⟨Nat.le_refl _, fun _ _ h _ _ => h⟩
theorem RndB.trans (h : RndB n X Y) (k : RndB n Y Z) : RndB n X Z := ⟨Nat.le_trans h.size k.size, fun i o hi ho hn => k.keep i o (h.keep i o hi ho hn) ho hn⟩
theorem RndB.mono (h : RndB n X Y) (hn : n ≤ m) : RndB m X Y := ⟨h.size, fun i o hi ho hm => h.keep i o hi ho (by omega)⟩
theorem RndB.of_below (h : Below X.heap.size X Y) (n : Nat) : RndB n X Y := ⟨h.size, fun i _ hi _ _ => (h.block i (Array.getElem?_eq_some_iff.1 hi).1).trans hi⟩
theorem RndB.put {l : Nat} {o : Obj} (_ : X.heap[l]? = some o) (hn : l < n) (o' : Obj) : RndB n X (X.putObj l o') :=
  ⟨by simp, fun k p hk hp hm => (World.putObj_heap_other (by omega)).trans hk⟩
theorem RndB.set {p : Addr} {v u : Value} (h : X.cell? p = some u) : RndB n X (X.setCell p v) := ⟨by simp [World.setCell], fun k o hk ho _ => by
  have : k ≠ p.block := fun e => by
    obtain ⟨cur, t, f, hb⟩ := cells_at h
    rw [← e, hk] at hb
    injection hb with hb
    rw [hb] at ho
    cases ho
  exact (Below.heap_setCell _ _ _ _ this).trans hk⟩
end
theorem RoundIn.anyB {m m' : Nat} {P : Program} {l : Nat} {f : FuncId} {tmps : Array Value} {assign body : Code} {w : World} {R : Ending → World → Prop}
    (h : RoundIn Fence.wide m P l f tmps assign body w R) : RoundIn Fence.wide m' P l f tmps assign body w R := ⟨h.1, fun c cs _ => h.2 c cs (room_wide _)⟩
theorem YieldAt.anyB {m m' : Nat} {P : Program} {l : Nat} {args : Array Value} {W : World} {R : Ending → World → Prop} (h : YieldAt Fence.wide m P l args W R) : YieldAt Fence.wide m' P l args W R := by
  obtain ⟨fn, tmps, assign, body, hy, hR⟩ := h
  exact ⟨fn, tmps, assign, body, hy, RoundIn.anyB hR⟩
theorem YieldAt.monoB {m : Nat} {P : Program} {l : Nat} {args : Array Value} {W : World} {R R' : Ending → World → Prop} (h : YieldAt Fence.wide m P l args W R) (hr : ∀ e w', R e w' → R' e w') : YieldAt Fence.wide m P l args W R' := by
  obtain ⟨fn, tmps, assign, body, hy, hR⟩ := h
  exact ⟨fn, tmps, assign, body, hy, hR.mono hr⟩
def ReadB (lb : Nat) (A : Option Addr) (n c t : Nat) (X : World) (u : Value) : Prop := X.cell? ⟨lb, 0, none⟩ = some (.slice A n c) ∧ ∃ b off, A = some ⟨b, off, none⟩ ∧ X.cell? ⟨b, off + (n - 1 - t), none⟩ = some u
theorem ReadB.stq {lb n c t B : Nat} {A : Option Addr} {X Y : World} {u : Value} (h : ReadB lb A n c t X u) (hs : Stq B X Y) : ReadB lb A n c t Y u := by
  obtain ⟨h1, b, off, h2, h3⟩ := h
  exact ⟨hs.cell h1, b, off, h2, hs.cell h3⟩
def AbdB (n : Nat) (J : Nat → World → Prop) : Prop := ∀ t X Y, J t X → Stq n X Y → J t Y
def RoundB (l m n lb c : Nat) (A : Option Addr) (J Jx : Nat → World → Prop) : Prop :=
  ∀ (t : Nat) (u : Value) (Y : World), J t Y → t < n → ReadB lb A n c t Y u →
    YieldAt Fence.wide 9 Try.prog l #[.int .i64 ((n - 1 - t : Nat) : Int), u] Y fun e Z => (e = .returned (.bool true) ∧ J (t + 1) Z ∧ RndB m Y Z) ∨ (e = .returned (.bool false) ∧ Jx (t + 1) Z ∧ RndB m Y Z)
def BIt (g : FuncId) (lb : Nat) (A : Option Addr) (n c : Nat) : Prop :=
  ∀ (l : Nat) (J Jx : Nat → World → Prop) (W : World), AbdB W.heap.size J → AbdB W.heap.size Jx → W.cell? ⟨lb, 0, none⟩ = some (.slice A n c) → (∀ t X, J t X → t < n → ∃ u, ReadB lb A n c t X u) → RoundB l W.heap.size n lb c A J Jx → J 0 W →
    Calls Try.prog g #[.func (.yield l) #[] #[], .pointer (some ⟨lb, 0, none⟩)] W fun e Z => (∃ v, e = .returned v) ∧ (J n Z ∨ ∃ t, Jx t Z)
def bPost (m : Nat) (I : Nat → World → Prop) (Ix : Code → Nat → World → Prop) (t : Nat) (Y : World) : Exit → Act → World → Prop
  | .normal, _, Z => RndB m Y Z ∧ I (t + 1) Z
  | .ret, _, Z => RndB m Y Z ∧ Ix .ret (t + 1) Z
  | .exit id, _, Z => RndB m Y Z ∧ Ix (.exit id) (t + 1) Z
  | .goto p, _, Z => RndB m Y Z ∧ Ix (.goto p) (t + 1) Z
  | .panic _, _, _ => False
  | .outgrown, _, _ => False
theorem range_back {n m : Nat} {gop : Operand} {p1 p2 : Tmp} {assign body : Code} {Q : Exit → Act → World → Prop} {a : Act} {w : World} {gf : FuncId} {lb c : Nat} {A : Option Addr}
    (hg : a.eval gop = .func (.func gf) #[] #[.pointer (some ⟨lb, 0, none⟩)]) (eg : ∀ args w, (callFunc gf args).run Try.prog w = .ok (.enter gf args) w) (hit : BIt gf lb A m c) (hlb : w.cell? ⟨lb, 0, none⟩ = some (.slice A m c))
    (I : Nat → World → Prop) (Ix : Code → Nat → World → Prop) (hI : AbdB w.heap.size I) (hIx : ∀ c, AbdB w.heap.size (Ix c)) (hrd : ∀ t X, I t X → t < m → ∃ u, ReadB lb A m c t X u) (h0 : I 0 w) (a₁ : Value → Value → Act)
    (hassign : ∀ (l : Nat) (v1 v2 : Value) (W : World) (K : Act → World → Prop), K (a₁ v1 v2) W → assign.wpIn (Fence.wide.inRound l) 9 Try.prog (Exit.then K (fun _ _ _ => False)) { tmps := (a.tmps.setIfInBounds p1 v1).setIfInBounds p2 v2, defers := [] } W)
    (hbody : ∀ (l t : Nat) (u : Value) (Y : World), w.heap.size < l → I t Y → t < m → ReadB lb A m c t Y u →
      body.wpIn (Fence.wide.inRound l) 9 Try.prog (bPost w.heap.size I Ix t Y) (a₁ (.int .i64 ((m - 1 - t : Nat) : Int)) u) Y)
    (hdone : ∀ Z, I m Z → Z.heap[w.heap.size]? = some (.deferred (some [])) → Q .normal { a with defers := { target := .collected w.heap.size, args := #[] } :: a.defers } Z)
    (hstop : ∀ (c : Code) (t : Nat) (Z : World), Ix c t Z → Z.heap[w.heap.size]? = some (.deferred (some [])) → c.wpIn Fence.wide n Try.prog Q { a with defers := { target := .collected w.heap.size, args := #[] } :: a.defers } Z) :
    (Code.rangeFunc gop #[p1, p2] assign body).wpIn Fence.wide n Try.prog Q a w := by
  refine wpIn_rangeFunc ?_
  intro fn hfn
  rw [show Fence.wide.round = none from rfl]
  obtain ⟨rec, hrec⟩ : ∃ rec : LoopState → Option Code → Loop, rec = fun st pe => { state := st, pending := pe, fn, tmps := a.tmps, params := #[p1, p2], assign, body, defers := w.heap.size } := ⟨_, rfl⟩
  obtain ⟨W1, hW1⟩ : ∃ W1, (w.alloc (.deferred (some []))).alloc (.loop (rec .ready none)) = W1 := ⟨_, rfl⟩
  have hL1 : W1.heap[w.heap.size + 1]? = some (.loop (rec .ready none)) := by
    rw [← hW1]; have := World.alloc_heap_new (w.alloc (.deferred (some []))) (.loop (rec .ready none)); rwa [World.size_alloc] at this
  have hK1 : W1.heap[w.heap.size]? = some (.deferred (some [])) := by
    rw [← hW1]; exact (Below.heap_alloc _ _ _ (by simp)).trans (World.alloc_heap_new w _)
  have hbW : Below w.heap.size w W1 := by rw [← hW1]; exact ((Below.refl _ w).alloc (Nat.le_refl _) _).alloc (by simp) _
  have hs1 : W1.heap.size = w.heap.size + 2 := by rw [← hW1]; simp
  have hI1 : I 0 W1 := hI 0 w W1 h0 (Stq.of_below hbW _)
  refine ⟨w.heap.size + 1, [{ target := .collected w.heap.size, args := #[] }], W1, { target := .fn (.func gf) #[.pointer (some ⟨lb, 0, none⟩)], args := #[.func (.yield (w.heap.size + 1)) #[] #[]] }, W1, gf,
    #[.func (.yield (w.heap.size + 1)) #[] #[], .pointer (some ⟨lb, 0, none⟩)], W1, ?_, ?_, ?_, ?_, fun h => (by cases h), ?_⟩
  · rw [← hW1, hrec]; exact run_enterLoop_outer _ _ _ _ _
  · simp only [resolve, hg]
    simp [go_sem]
  · intro f' _; trivial
  · simp [invoke, go_sem, eg]
  · refine (callsIn_wide.2 (hit (w.heap.size + 1)
      (fun t W => I t W ∧ W.heap[w.heap.size + 1]? = some (.loop (rec .ready none)) ∧ W.heap[w.heap.size]? = some (.deferred (some [])))
      (fun t W => ∃ c, Ix c t W ∧ W.heap[w.heap.size + 1]? = some (.loop (rec .done (some c))) ∧ W.heap[w.heap.size]? = some (.deferred (some [])))
      W1
      (fun t X Y h hs => ⟨hI t X Y h.1 (hs.mono (by omega)), hs.keep _ _ h.2.1 (.inr (by omega)), hs.keep _ _ h.2.2 (.inr (by omega))⟩)
      (fun t X Y h hs => by
        obtain ⟨c, h1, h2, h3⟩ := h
        exact ⟨c, hIx c t X Y h1 (hs.mono (by omega)), hs.keep _ _ h2 (.inr (by omega)), hs.keep _ _ h3 (.inr (by omega))⟩)
      ((Stq.of_below hbW 0).cell hlb) (fun t X h ht => hrd t X h.1 ht) ?_ ⟨hI1, hL1, hK1⟩)).mono ?_
    · rintro t u Y ⟨hi, hl, hk⟩ ht hu
      have hlt : w.heap.size + 1 < Y.heap.size := (Array.getElem?_eq_some_iff.1 hl).1
      have hy := run_yield (P := Try.prog) (args := #[.int .i64 ((m - 1 - t : Nat) : Int), u]) hl (by rw [hrec]; rfl)
      rw [hrec] at hy
      refine ⟨fn, _, assign, body, hy, RoundIn.anyB (roundIn_of_wpIn (n := 9) hfn ?_)⟩
      clear hy
      have hf0 : ({ tmps := (#[p1, p2].zip #[(Value.int .i64 ((m - 1 - t : Nat) : Int)), u]).foldl (fun t (p, v) => t.setIfInBounds p v) a.tmps, defers := [] } : Act) = { tmps := (a.tmps.setIfInBounds p1 (.int .i64 ((m - 1 - t : Nat) : Int))).setIfInBounds p2 u, defers := [] } := by simp
      refine cast (congrArg (fun z => assign.wpIn (Fence.wide.inRound (w.heap.size + 1)) 9 Try.prog _ z Y) hf0.symm) (hassign _ _ _ Y _ ?_)
      refine ⟨_, run_beginRound hl (by rw [hrec]), ?_⟩
      have hs2 : Stq w.heap.size Y (Y.putObj (w.heap.size + 1) (.loop { rec .ready none with state := .busy })) := Stq.put hl rfl (by omega) _
      have hl2 : (Y.putObj (w.heap.size + 1) (.loop { rec .ready none with state := .busy })).heap[w.heap.size + 1]? = some (.loop { rec .ready none with state := .busy }) := World.putObj_heap_same hlt
      have hk2 : (Y.putObj (w.heap.size + 1) (.loop { rec .ready none with state := .busy })).heap[w.heap.size]? = some (.deferred (some [])) := (World.putObj_heap_other (by omega)).trans hk
      have hr2 : RndB W1.heap.size Y (Y.putObj (w.heap.size + 1) (.loop { rec .ready none with state := .busy })) := RndB.put hl (by omega) _
      refine wpIn_mono (hbody _ t u _ (by omega) (hI _ _ _ hi hs2) ht (hu.stq hs2)) ?_
      have fin : ∀ (jump : Option Code) (Z : World), RndB w.heap.size (Y.putObj (w.heap.size + 1) (.loop { rec .ready none with state := .busy })) Z →
          (Instr.endRound (w.heap.size + 1) jump).run Try.prog Z = .ok (.bool jump.isNone) (Z.putObj (w.heap.size + 1) (.loop (rec (if jump.isNone then .ready else .done) jump))) ∧
          (Z.putObj (w.heap.size + 1) (.loop (rec (if jump.isNone then .ready else .done) jump))).heap[w.heap.size + 1]? = some (.loop (rec (if jump.isNone then .ready else .done) jump)) ∧
          (Z.putObj (w.heap.size + 1) (.loop (rec (if jump.isNone then .ready else .done) jump))).heap[w.heap.size]? = some (.deferred (some [])) ∧
          Stq w.heap.size Z (Z.putObj (w.heap.size + 1) (.loop (rec (if jump.isNone then .ready else .done) jump))) ∧
          RndB W1.heap.size Y (Z.putObj (w.heap.size + 1) (.loop (rec (if jump.isNone then .ready else .done) jump))) := fun jump Z hz => by
        have hl3 := hz.keep _ _ hl2 rfl (by omega)
        have hk3 := hz.keep _ _ hk2 rfl (by omega)
        have he := run_endRound (P := Try.prog) jump hl3
        rw [hrec] at he ⊢
        exact ⟨he, World.putObj_heap_same (Array.getElem?_eq_some_iff.1 hl3).1, (World.putObj_heap_other (by omega)).trans hk3, Stq.put hl3 rfl (by omega) _, (hr2.trans (hz.mono (by omega))).trans (RndB.put hl3 (by omega) _)⟩
      rintro e a3 Z hp
      cases e with
      | normal =>
        obtain ⟨hz, hi3⟩ := hp
        obtain ⟨h1, h2, h3, h4, h5⟩ := fin none Z hz
        exact ⟨_, _, h1, .inl ⟨rfl, ⟨hI _ _ _ hi3 h4, h2, h3⟩, h5⟩⟩
      | ret =>
        obtain ⟨hz, hi3⟩ := hp
        obtain ⟨h1, h2, h3, h4, h5⟩ := fin (some .ret) Z hz
        exact ⟨_, _, h1, .inr ⟨rfl, ⟨_, hIx _ _ _ _ hi3 h4, h2, h3⟩, h5⟩⟩
      | exit id =>
        obtain ⟨hz, hi3⟩ := hp
        obtain ⟨h1, h2, h3, h4, h5⟩ := fin (some (.exit id)) Z hz
        exact ⟨_, _, h1, .inr ⟨rfl, ⟨_, hIx _ _ _ _ hi3 h4, h2, h3⟩, h5⟩⟩
      | goto t =>
        obtain ⟨hz, hi3⟩ := hp
        obtain ⟨h1, h2, h3, h4, h5⟩ := fin (some (.goto t)) Z hz
        exact ⟨_, _, h1, .inr ⟨rfl, ⟨_, hIx _ _ _ _ hi3 h4, h2, h3⟩, h5⟩⟩
      | panic ch => exact hp.elim
      | outgrown => exact hp.elim
    · rintro e Z ⟨⟨v, rfl⟩, (⟨hi, hl, hk⟩ | ⟨t, c, hi, hl, hk⟩)⟩
      · exact ⟨none, _, by have := run_endLoop (P := Try.prog) hl (by rw [hrec]; simp); rw [hrec] at this; exact this, hdone _ (hI _ _ _ hi (Stq.put hl rfl (by omega) _)) ((World.putObj_heap_other (by omega)).trans hk)⟩
      · exact ⟨some c, _, by have := run_endLoop (P := Try.prog) hl (by rw [hrec]; simp); rw [hrec] at this; exact this, hstop c t _ (hIx c _ _ _ hi (Stq.put hl rfl (by omega) _)) ((World.putObj_heap_other (by omega)).trans hk)⟩
theorem mark_leaveB {n D B : Nat} {fn : Func} {tmps : Array Value} {R : Ending → World → Prop} {u : FrameMode} {w : World} (hu : u ≠ .run) (hB : B ≤ D) (hD : w.heap[D]? = some (.deferred (some []))) (h : ∀ w', Stq B w w' → LeavesInM Fence.wide n Try.prog fn tmps R [] u w') :
    LeavesInM Fence.wide n Try.prog fn tmps R [{ target := .collected D, args := #[] }] u w :=
  ⟨hu, .inl ⟨D, _, rfl, run_takeDeferred hD, h _ (Stq.put hD rfl hB _)⟩⟩
end Go.Proofs.Ytdpojcgeblbfeaa
