/- Iterators that yield rows of new memory: what such a value promises, and the law of a loop over one. -/
import Derived.RangeFuncNested
import Derived.Test.YtmehdngibbilaaaLBR
namespace Go.Proofs.Ytmehdngibbilaaa
open Go.RowKit

structure Stp (B : Nat) (X Y : World) : Prop where
  os : Y.os = X.os
  tape : Y.tape = X.tape
  output : Y.output = X.output
  size : X.heap.size ≤ Y.heap.size
  keep : ∀ (k : Nat) (o : Obj), X.heap[k]? = some o → o.isCells = true ∨ k < B → Y.heap[k]? = some o
section
variable {B B' n m : Nat} {X Y Z : World}
theorem Stp.refl (B : Nat) (X : World) : Stp B X X := ⟨rfl, rfl, rfl, Nat.le_refl _, fun _ _ h _ => h⟩
theorem Stp.trans (h : Stp B X Y) (k : Stp B Y Z) : Stp B X Z := ⟨k.os.trans h.os, k.tape.trans h.tape, k.output.trans h.output, Nat.le_trans h.size k.size, fun i o hi ho => k.keep i o (h.keep i o hi ho) ho⟩
theorem Stp.mono (h : Stp B X Y) (hB : B' ≤ B) : Stp B' X Y := ⟨h.os, h.tape, h.output, h.size, fun i o hi ho => h.keep i o hi (ho.imp id fun l => by omega)⟩
theorem Stp.of_below (h : Below X.heap.size X Y) (B : Nat) : Stp B X Y := ⟨h.os, h.tape, h.output, h.size, fun i _ hi _ => (h.block i (Array.getElem?_eq_some_iff.1 hi).1).trans hi⟩
theorem Stp.put {l : Nat} {o : Obj} (hl : X.heap[l]? = some o) (ho : o.isCells = false) (hB : B ≤ l) (o' : Obj) : Stp B X (X.putObj l o') :=
  ⟨rfl, rfl, rfl, by simp, fun k p hk hp => by
    by_cases e : k = l
    · subst e
      rw [hl] at hk
      cases hk
      rcases hp with hp | hp
      · rw [ho] at hp; cases hp
      · omega
    · exact (World.putObj_heap_other e).trans hk⟩
theorem Stp.below (h : Stp B X Y) (h1 : n ≤ B) (h2 : n ≤ X.heap.size) : Below n X Y := ⟨h.os, h.tape, h.output, h.size, fun k hk => by
  have hl : k < X.heap.size := by omega
  rw [h.keep k _ (Array.getElem?_eq_getElem hl) (.inr (by omega)), Array.getElem?_eq_getElem hl]⟩
def isRow (o : Obj) : Prop := ∃ (cur : Array Value) (t : TypeId) (f : Nat × Nat), o = .cells cur t f ∧ (((t = 27 ∨ t = 30) ∧ ∃ (A : Option Addr) (k c : Nat), cur[0]? = some (.slice A k c)) ∨ (t = 4 ∧ ∃ b : Bool, cur[0]? = some (.bool b)))
structure Rnd (q n B : Nat) (X Y : World) : Prop where
  size : X.heap.size ≤ Y.heap.size
  keep : ∀ (k : Nat) (o : Obj), X.heap[k]? = some o → (o.isCells = true ∧ ¬ isRow o ∧ k < B) ∨ (o.isCells = false ∧ n ≤ k) ∨ k < q → Y.heap[k]? = some o
variable {q : Nat}
theorem Rnd.refl (q n B : Nat) (X : World) : Rnd q n B X X := ⟨Nat.le_refl _, fun _ _ h _ => h⟩
theorem Rnd.trans (h : Rnd q n B X Y) (k : Rnd q n B Y Z) : Rnd q n B X Z := ⟨Nat.le_trans h.size k.size, fun i o hi ho => k.keep i o (h.keep i o hi ho) ho⟩
theorem Rnd.mono (h : Rnd q n B X Y) (hn : n ≤ m) : Rnd q m B X Y := ⟨h.size, fun i o hi ho => h.keep i o hi (ho.imp id fun p => p.imp (fun p => ⟨p.1, by omega⟩) id)⟩
theorem Rnd.less (h : Rnd q n B X Y) (hB : B' ≤ B) : Rnd q n B' X Y := ⟨h.size, fun i o hi ho => h.keep i o hi (ho.imp (fun p => ⟨p.1, p.2.1, by omega⟩) id)⟩
theorem Rnd.of_below (h : Below X.heap.size X Y) (q n B : Nat) : Rnd q n B X Y := ⟨h.size, fun i _ hi _ => (h.block i (Array.getElem?_eq_some_iff.1 hi).1).trans hi⟩
theorem Rnd.put {l : Nat} {o : Obj} (hl : X.heap[l]? = some o) (ho : o.isCells = false) (hn : l < n) (hq : q ≤ l) (o' : Obj) : Rnd q n B X (X.putObj l o') :=
  ⟨by simp, fun k p hk hp => by
    by_cases e : k = l
    · subst e
      rw [hl] at hk
      cases hk
      rcases hp with hp | hp | hp
      · rw [ho] at hp; cases hp.1
      · omega
      · omega
    · exact (World.putObj_heap_other e).trans hk⟩
theorem own_kept {base e s k : Nat} {v : Value} {xs : List Value} (h : X.ownsRow base e s v k xs) (hk : ∀ (j : Nat) (cur : Array Value), X.heap[j]? = some (.cells cur e (0, 0)) → Y.heap[j]? = some (.cells cur e (0, 0))) : Y.ownsRow base e s v k xs := by
  obtain ⟨h1, h2⟩ := h
  refine ⟨h1, ?_⟩
  rcases h2 with h2 | ⟨g, cap, cur, e1, h3, h4, h5⟩
  · exact .inl h2
  · exact .inr ⟨g, cap, cur, e1, h3, hk g cur h4, h5⟩
theorem own_stp {base e s k : Nat} {v : Value} {xs : List Value} (h : X.ownsRow base e s v k xs) (hs : Stp B X Y) : Y.ownsRow base e s v k xs := own_kept h fun j _ hj => hs.keep j _ hj (.inl rfl)
theorem box_stp {t : TypeId} {v : Value} {b : Nat} (h : Boxed X b t v) (hs : Stp B X Y) : Boxed Y b t v := hs.keep b _ h (.inl rfl)
theorem not_row {cur : Array Value} {t : TypeId} {f : Nat × Nat} (h1 : t ≠ 27) (h2 : t ≠ 30) (h3 : t ≠ 4 := by decide) : ¬ isRow (.cells cur t f) := by
  rintro ⟨c, t', f', e, ⟨ht, -⟩ | ⟨ht, -⟩⟩
  · injection e with _ e _
    subst e
    rcases ht with ht | ht
    · exact h1 ht
    · exact h2 ht
  · injection e with _ e _
    subst e
    exact h3 ht
theorem box_rnd {t : TypeId} {v : Value} {b : Nat} (h : Boxed X b t v) (hs : Rnd q n B X Y) (hb : b < B) (h1 : t ≠ 27) (h2 : t ≠ 30) (h3 : t ≠ 4 := by decide) : Boxed Y b t v := hs.keep b _ h (.inl ⟨rfl, not_row h1 h2 h3, hb⟩)
theorem cells_of {a : Addr} {v : Value} (h : X.cell? a = some v) : ∃ cur t f, X.heap[a.block]? = some (.cells cur t f) := by
  unfold World.cell? at h
  cases ho : X.heap[a.block]? with
  | none => simp [ho] at h
  | some o => cases o <;> simp_all
theorem Stp.cell {a : Addr} {v : Value} (h : X.cell? a = some v) (hs : Stp B X Y) : Y.cell? a = some v := by
  obtain ⟨cur, t, f, hb⟩ := cells_of h
  rw [← h]
  exact World.cell?_of_block ((hs.keep _ _ hb (.inl rfl)).trans hb.symm)
end
theorem RoundIn.any {m m' : Nat} {P : Program} {l : Nat} {f : FuncId} {tmps : Array Value} {assign body : Code} {w : World} {R : Ending → World → Prop}
    (h : RoundIn Fence.wide m P l f tmps assign body w R) : RoundIn Fence.wide m' P l f tmps assign body w R := ⟨h.1, fun c cs _ => h.2 c cs (room_wide _)⟩
theorem YieldAt.any {m m' : Nat} {P : Program} {l : Nat} {args : Array Value} {W : World} {R : Ending → World → Prop} (h : YieldAt Fence.wide m P l args W R) : YieldAt Fence.wide m' P l args W R := by
  obtain ⟨fn, tmps, assign, body, hy, hR⟩ := h
  exact ⟨fn, tmps, assign, body, hy, RoundIn.any hR⟩
theorem YieldAt.mono_ {m : Nat} {P : Program} {l : Nat} {args : Array Value} {W : World} {R R' : Ending → World → Prop} (h : YieldAt Fence.wide m P l args W R) (hr : ∀ e w', R e w' → R' e w') : YieldAt Fence.wide m P l args W R' := by
  obtain ⟨fn, tmps, assign, body, hy, hR⟩ := h
  exact ⟨fn, tmps, assign, body, hy, hR.mono hr⟩
def FreshRow (X Y : World) (b c : Nat) (r : List Int) : Prop := X.heap.size ≤ b ∧ QOwn Y X.heap.size (.slice (some ⟨b, 0, none⟩) r.length c) r
def RoundAt (l q n : Nat) (J Jx : Nat → World → Prop) (L : List (List Int)) : Prop :=
  ∀ (t : Nat) (r : List Int) (b c : Nat) (X Y : World), J t X → Stp n X Y → L[t]? = some r → FreshRow X Y b c r →
    YieldAt Fence.wide 9 Try.prog l #[.slice (some ⟨b, 0, none⟩) r.length c] Y fun e Z => (e = .returned (.bool true) ∧ J (t + 1) Z ∧ Rnd q n X.heap.size Y Z) ∨ (e = .returned (.bool false) ∧ Jx (t + 1) Z ∧ Rnd q n X.heap.size Y Z)
def Abd (n : Nat) (J : Nat → World → Prop) : Prop := ∀ t X Y, J t X → Stp n X Y → J t Y
def Itr (q : Nat) (g : FuncId) (lb : Array Value) (L : List (List Int)) (w : World) : Prop :=
  ∀ (l : Nat) (J Jx : Nat → World → Prop) (W : World), q ≤ W.heap.size → Below w.heap.size w W → Abd W.heap.size J → Abd W.heap.size Jx → RoundAt l q W.heap.size J Jx L → J 0 W →
    Calls Try.prog g (#[.func (.yield l) #[] #[]] ++ lb) W fun e Z => (∃ v, e = .returned v) ∧ (J L.length Z ∨ ∃ t, Jx t Z)
def itPost (q n B : Nat) (I : Nat → World → Prop) (Ix : Code → Nat → World → Prop) (t : Nat) (Y : World) : Exit → Act → World → Prop
  | .normal, _, Z => Rnd q n B Y Z ∧ I (t + 1) Z
  | .ret, _, Z => Rnd q n B Y Z ∧ Ix .ret (t + 1) Z
  | .exit id, _, Z => Rnd q n B Y Z ∧ Ix (.exit id) (t + 1) Z
  | .goto p, _, Z => Rnd q n B Y Z ∧ Ix (.goto p) (t + 1) Z
  | .panic _, _, _ => False
  | .outgrown, _, _ => False
theorem range_it {n q : Nat} {gop : Operand} {p : Tmp} {assign body : Code} {Q : Exit → Act → World → Prop} {a : Act} {w w0 : World} {gf : FuncId} {lb : Array Value} {L : List (List Int)}
    (hg : a.eval gop = .func (.func gf) #[] lb) (eg : ∀ args w, (callFunc gf args).run Try.prog w = .ok (.enter gf args) w) (hit : Itr q gf lb L w0) (hq : q ≤ w.heap.size) (hb0 : Below w0.heap.size w0 w)
    (I : Nat → World → Prop) (Ix : Code → Nat → World → Prop) (hI : Abd w.heap.size I) (hIx : ∀ c, Abd w.heap.size (Ix c)) (h0 : I 0 w) (a₁ : Value → Act)
    (hassign : ∀ (l : Nat) (v : Value) (W : World) (K : Act → World → Prop), K (a₁ v) W → assign.wpIn (Fence.wide.inRound l) 9 Try.prog (Exit.then K (fun _ _ _ => False)) { tmps := a.tmps.setIfInBounds p v, defers := [] } W)
    (hbody : ∀ (l t b c : Nat) (r : List Int) (X Y : World), w.heap.size < l → I t X → Stp w.heap.size X Y → L[t]? = some r → FreshRow X Y b c r →
      body.wpIn (Fence.wide.inRound l) 9 Try.prog (itPost q w.heap.size X.heap.size I Ix t Y) (a₁ (.slice (some ⟨b, 0, none⟩) r.length c)) Y)
    (hdone : ∀ Z, I L.length Z → Z.heap[w.heap.size]? = some (.deferred (some [])) → Q .normal { a with defers := { target := .collected w.heap.size, args := #[] } :: a.defers } Z)
    (hstop : ∀ (c : Code) (t : Nat) (Z : World), Ix c t Z → Z.heap[w.heap.size]? = some (.deferred (some [])) → c.wpIn Fence.wide n Try.prog Q { a with defers := { target := .collected w.heap.size, args := #[] } :: a.defers } Z) :
    (Code.rangeFunc gop #[p] assign body).wpIn Fence.wide n Try.prog Q a w := by
  refine wpIn_rangeFunc ?_
  intro fn hfn
  rw [show Fence.wide.round = none from rfl]
  obtain ⟨rec, hrec⟩ : ∃ rec : LoopState → Option Code → Loop, rec = fun st pe => { state := st, pending := pe, fn, tmps := a.tmps, params := #[p], assign, body, defers := w.heap.size } := ⟨_, rfl⟩
  obtain ⟨W1, hW1⟩ : ∃ W1, (w.alloc (.deferred (some []))).alloc (.loop (rec .ready none)) = W1 := ⟨_, rfl⟩
  have hL1 : W1.heap[w.heap.size + 1]? = some (.loop (rec .ready none)) := by
    rw [← hW1]; have := World.alloc_heap_new (w.alloc (.deferred (some []))) (.loop (rec .ready none)); rwa [World.size_alloc] at this
  have hK1 : W1.heap[w.heap.size]? = some (.deferred (some [])) := by
    rw [← hW1]; exact (Below.heap_alloc _ _ _ (by simp)).trans (World.alloc_heap_new w _)
  have hbW : Below w.heap.size w W1 := by rw [← hW1]; exact ((Below.refl _ w).alloc (Nat.le_refl _) _).alloc (by simp) _
  have hs1 : W1.heap.size = w.heap.size + 2 := by rw [← hW1]; simp
  have hI1 : I 0 W1 := hI 0 w W1 h0 (Stp.of_below hbW _)
  have hb1 : Below w0.heap.size w0 W1 := hb0.trans (hbW.mono hb0.size)
  refine ⟨w.heap.size + 1, [{ target := .collected w.heap.size, args := #[] }], W1, { target := .fn (.func gf) lb, args := #[.func (.yield (w.heap.size + 1)) #[] #[]] }, W1, gf,
    #[.func (.yield (w.heap.size + 1)) #[] #[]] ++ lb, W1, ?_, ?_, ?_, ?_, fun h => (by cases h), ?_⟩
  · rw [← hW1, hrec]; exact run_enterLoop_outer _ _ _ _ _
  · simp only [resolve, hg]
    simp [go_sem]
  · intro f' _; trivial
  · simp [invoke, go_sem, eg]
  · refine (callsIn_wide.2 (hit (w.heap.size + 1)
      (fun t W => I t W ∧ W.heap[w.heap.size + 1]? = some (.loop (rec .ready none)) ∧ W.heap[w.heap.size]? = some (.deferred (some [])))
      (fun t W => ∃ c, Ix c t W ∧ W.heap[w.heap.size + 1]? = some (.loop (rec .done (some c))) ∧ W.heap[w.heap.size]? = some (.deferred (some [])))
      W1 (by omega) hb1
      (fun t X Y h hs => ⟨hI t X Y h.1 (hs.mono (by omega)), hs.keep _ _ h.2.1 (.inr (by omega)), hs.keep _ _ h.2.2 (.inr (by omega))⟩)
      (fun t X Y h hs => by
        obtain ⟨c, h1, h2, h3⟩ := h
        exact ⟨c, hIx c t X Y h1 (hs.mono (by omega)), hs.keep _ _ h2 (.inr (by omega)), hs.keep _ _ h3 (.inr (by omega))⟩)
      ?_ ⟨hI1, hL1, hK1⟩)).mono ?_
    · rintro t r b c X Y ⟨hi, hl, hk⟩ hs hr hf
      replace hl := hs.keep _ _ hl (.inr (by omega))
      replace hk := hs.keep _ _ hk (.inr (by omega))
      have hlt : w.heap.size + 1 < Y.heap.size := (Array.getElem?_eq_some_iff.1 hl).1
      have hy := run_yield (P := Try.prog) (args := #[.slice (some ⟨b, 0, none⟩) r.length c]) hl (by rw [hrec]; rfl)
      rw [hrec] at hy
      refine ⟨fn, _, assign, body, hy, RoundIn.any (roundIn_of_wpIn (n := 9) hfn ?_)⟩
      clear hy
      have hf0 : ({ tmps := (#[p].zip #[(Value.slice (some ⟨b, 0, none⟩) r.length c)]).foldl (fun t (p, v) => t.setIfInBounds p v) a.tmps, defers := [] } : Act) = { tmps := a.tmps.setIfInBounds p (.slice (some ⟨b, 0, none⟩) r.length c), defers := [] } := by simp
      refine cast (congrArg (fun z => assign.wpIn (Fence.wide.inRound (w.heap.size + 1)) 9 Try.prog _ z Y) hf0.symm) (hassign _ _ Y _ ?_)
      refine ⟨_, run_beginRound hl (by rw [hrec]), ?_⟩
      have hs2 : Stp w.heap.size X (Y.putObj (w.heap.size + 1) (.loop { rec .ready none with state := .busy })) := (hs.mono (by omega)).trans (Stp.put hl rfl (by omega) _)
      have hl2 : (Y.putObj (w.heap.size + 1) (.loop { rec .ready none with state := .busy })).heap[w.heap.size + 1]? = some (.loop { rec .ready none with state := .busy }) := World.putObj_heap_same hlt
      have hk2 : (Y.putObj (w.heap.size + 1) (.loop { rec .ready none with state := .busy })).heap[w.heap.size]? = some (.deferred (some [])) := (World.putObj_heap_other (by omega)).trans hk
      have hf2 : FreshRow X (Y.putObj (w.heap.size + 1) (.loop { rec .ready none with state := .busy })) b c r := ⟨hf.1, own_stp hf.2 (Stp.put (B := 0) hl rfl (Nat.zero_le _) _)⟩
      have hr2 : Rnd q W1.heap.size X.heap.size Y (Y.putObj (w.heap.size + 1) (.loop { rec .ready none with state := .busy })) := Rnd.put hl rfl (by omega) (by omega) _
      refine wpIn_mono (hbody _ t b c r X _ (by omega) hi hs2 hr hf2) ?_
      have fin : ∀ (jump : Option Code) (Z : World), Rnd q w.heap.size X.heap.size (Y.putObj (w.heap.size + 1) (.loop { rec .ready none with state := .busy })) Z →
          (Instr.endRound (w.heap.size + 1) jump).run Try.prog Z = .ok (.bool jump.isNone) (Z.putObj (w.heap.size + 1) (.loop (rec (if jump.isNone then .ready else .done) jump))) ∧
          (Z.putObj (w.heap.size + 1) (.loop (rec (if jump.isNone then .ready else .done) jump))).heap[w.heap.size + 1]? = some (.loop (rec (if jump.isNone then .ready else .done) jump)) ∧
          (Z.putObj (w.heap.size + 1) (.loop (rec (if jump.isNone then .ready else .done) jump))).heap[w.heap.size]? = some (.deferred (some [])) ∧
          Stp w.heap.size Z (Z.putObj (w.heap.size + 1) (.loop (rec (if jump.isNone then .ready else .done) jump))) ∧
          Rnd q W1.heap.size X.heap.size Y (Z.putObj (w.heap.size + 1) (.loop (rec (if jump.isNone then .ready else .done) jump))) := fun jump Z hz => by
        have hl3 := hz.keep _ _ hl2 (.inr (.inl ⟨rfl, by omega⟩))
        have hk3 := hz.keep _ _ hk2 (.inr (.inl ⟨rfl, by omega⟩))
        have he := run_endRound (P := Try.prog) jump hl3
        rw [hrec] at he ⊢
        exact ⟨he, World.putObj_heap_same (Array.getElem?_eq_some_iff.1 hl3).1, (World.putObj_heap_other (by omega)).trans hk3, Stp.put hl3 rfl (by omega) _, (hr2.trans (hz.mono (by omega))).trans (Rnd.put hl3 rfl (by omega) (by omega) _)⟩
      rintro e a3 Z hp
      cases e with
      | normal =>
        obtain ⟨hz, hi3⟩ := hp
        obtain ⟨h1, h2, h3, h4, h5⟩ := fin none Z hz
        exact ⟨_, _, h1, .inl ⟨rfl, ⟨hI _ _ _ hi3 h4, h2, h3⟩, h5⟩⟩
      | ret =>
        obtain ⟨hz, hi3⟩ := hp
        obtain ⟨h1, h2, h3, h4, h5⟩ := fin (some .ret) Z hz
        exact ⟨_, _, h1, .inr ⟨rfl, ⟨_, hIx _ _ _ _ hi3 h4, h2, h3⟩, h5⟩⟩
      | exit id =>
        obtain ⟨hz, hi3⟩ := hp
        obtain ⟨h1, h2, h3, h4, h5⟩ := fin (some (.exit id)) Z hz
        exact ⟨_, _, h1, .inr ⟨rfl, ⟨_, hIx _ _ _ _ hi3 h4, h2, h3⟩, h5⟩⟩
      | goto t =>
        obtain ⟨hz, hi3⟩ := hp
        obtain ⟨h1, h2, h3, h4, h5⟩ := fin (some (.goto t)) Z hz
        exact ⟨_, _, h1, .inr ⟨rfl, ⟨_, hIx _ _ _ _ hi3 h4, h2, h3⟩, h5⟩⟩
      | panic ch => exact hp.elim
      | outgrown => exact hp.elim
    · rintro e Z ⟨⟨v, rfl⟩, (⟨hi, hl, hk⟩ | ⟨t, c, hi, hl, hk⟩)⟩
      · exact ⟨none, _, by have := run_endLoop (P := Try.prog) hl (by rw [hrec]; simp); rw [hrec] at this; exact this, hdone _ (hI _ _ _ hi (Stp.put hl rfl (by omega) _)) ((World.putObj_heap_other (by omega)).trans hk)⟩
      · exact ⟨some c, _, by have := run_endLoop (P := Try.prog) hl (by rw [hrec]; simp); rw [hrec] at this; exact this, hstop c t _ (hIx c _ _ _ hi (Stp.put hl rfl (by omega) _)) ((World.putObj_heap_other (by omega)).trans hk)⟩
end Go.Proofs.Ytmehdngibbilaaa
