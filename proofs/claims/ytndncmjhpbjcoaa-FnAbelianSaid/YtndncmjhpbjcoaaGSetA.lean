/- Stabilize: the sandpile's goroutine in company: what it owns, what it reads; firstUnstable and topple, called in company. -/
import Derived.Test.YtndncmjhpbjcoaaGRenU
import Derived.Test.YtndncmjhpbjcoaaGPilW
import Derived.Test.YtndncmjhpbjcoaaGTopX
import Derived.Test.YtndncmjhpbjcoaaGPilY
import Derived.Test.YtndncmjhpbjcoaaGPilD
set_option linter.all false
namespace Go.Proofs.Ytndncmjhpbjcoaa
open Go Go.Conc Go.RowKit

def Plain (D : Nat → Prop) (v : Value) : Prop := (∃ k x, v = .int k x) ∨ (∃ a, v = .pointer (some a) ∧ D a.block) ∨ ∃ A n c, v = .slice A n c ∧ ∀ a, A = some a → D a.block
section
variable {D : Nat → Prop} {v u : Value} {ρ : Ren} {G : Nat} {F : Nat → Prop} {w W' : World}
theorem Plain.vr (h : Plain D v) : VR (idR D) v v := by
  rcases h with ⟨k, x, rfl⟩ | ⟨a, rfl, ha⟩ | ⟨A, n, c, rfl, ha⟩
  · exact .int k x
  · exact .ptr ⟨⟨rfl, ha⟩, rfl, rfl⟩
  · cases A with
    | none => exact .slice0 n c
    | some a => exact .slice ⟨⟨rfl, ha a rfl⟩, rfl, rfl⟩ n c
theorem adr_back {a b : Addr} (h : ADR ρ a b) (hD : D a.block) (hl : (idR D).le ρ) (hf : ∀ r s s', ρ r s → ρ r s' → s = s') : b = a := by
  obtain ⟨h1, h2, h3⟩ := h
  have e := hf _ _ _ h1 (hl _ _ ⟨rfl, hD⟩)
  obtain ⟨b1, b2, b3⟩ := b
  obtain ⟨a1, a2, a3⟩ := a
  simp only at e h2 h3
  rw [e, ← h2, ← h3]
theorem Plain.back (h : Plain D v) (hv : VR ρ v u) (hl : (idR D).le ρ) (hf : ∀ r s s', ρ r s → ρ r s' → s = s') : u = v := by
  rcases h with ⟨k, x, rfl⟩ | ⟨a, rfl, ha⟩ | ⟨A, n, c, rfl, ha⟩
  · cases hv; rfl
  · cases hv with
    | ptr h => rw [adr_back h ha hl hf]
  · cases hv with
    | slice0 => rfl
    | slice h => rw [adr_back h (ha _ rfl) hl hf]
theorem WR.plain (h : WR G F ρ w W') (hl : (idR D).le ρ) {r : Nat} (hr : D r) {cs : Array Value} {t : TypeId} {z : Nat × Nat} (e : w.heap[r]? = some (.cells cs t z)) :
    ∃ ds : Array Value, W'.heap[r]? = some (.cells ds t (0, 0)) ∧ ∀ (i : Nat) (v : Value), cs[i]? = some v → Plain D v → ds[i]? = some v := by
  obtain ⟨ds, e1, e2⟩ := h.first (hl _ _ ⟨rfl, hr⟩) e
  refine ⟨ds, e1, fun i v hi hv => ?_⟩
  obtain ⟨u, hu, hvu⟩ := e2.get hi
  rw [hu, hv.back hvu hl h.fn]
end
def EdgeK (w : World) (A : Option Addr) (es : List (Int × Int)) : Prop := ∀ a, A = some a → ∃ cs t, w.heap[a.block]? = some (.cells cs t (0, 0)) ∧ ∀ i v, i < a.off + 2 * es.length → cs[i]? = some v → ∃ x, v = .int .i64 x
theorem EdgeK.keep {w w' : World} {A : Option Addr} {es : List (Int × Int)} (h : EdgeK w A es) (k : ∀ a, A = some a → w'.heap[a.block]? = w.heap[a.block]?) : EdgeK w' A es := fun a e => by
  obtain ⟨cs, t, h1, h2⟩ := h a e
  exact ⟨cs, t, (k a e).trans h1, h2⟩
theorem EdgeK.lt {w : World} {A : Option Addr} {es : List (Int × Int)} (h : EdgeK w A es) {a : Addr} (e : A = some a) : a.block < w.heap.size := by
  obtain ⟨cs, t, h1, -⟩ := h a e
  exact (Array.getElem?_eq_some_iff.1 h1).1
structure CI (S : Nat → Prop) (sp pb g M cg cA q B : Nat) (A : Option Addr) (es : List (Int × Int)) (P : List Int) (O : Nat → Prop) (W : World) : Prop where
  bw : B ≤ W.heap.size
  sand : ∃ ds : Array Value, W.heap[sp]? = some (.cells ds 78 (0, 0)) ∧ ds[0]? = some (.pointer (some ⟨pb, 0, none⟩)) ∧ ds[1]? = some (.int .i64 (q : Int))
  board : ∃ ds : Array Value, W.heap[pb]? = some (.cells ds 75 (0, 0)) ∧ ds[0]? = some (.slice A es.length cA) ∧ ds[1]? = some (.slice (some ⟨g, 0, none⟩) M cg)
  chips : ∃ (ds : Array Value) (t : TypeId), W.heap[g]? = some (.cells ds t (0, 0)) ∧ ∀ (i : Nat) (z : Int), P[i]? = some z → ds[i]? = some (Value.int .i64 z)
  own : O sp ∧ O pb ∧ O g
  ed : EdgeS W B A es
  ek : EdgeK W A es
  eS : ∀ a, A = some a → S a.block
section
variable {S : Nat → Prop} {sp pb g M cg cA q B : Nat} {A : Option Addr} {es : List (Int × Int)} {P : List Int} {O O' : Nat → Prop} {W W' : World}
theorem heap_lt {W : World} {b : Nat} {o : Obj} (h : W.heap[b]? = some o) : b < W.heap.size := (Array.getElem?_eq_some_iff.1 h).1
theorem CI.stable (h : CI S sp pb g M cg cA q B A es P O W) (k : Keep S O W W') (hO : ∀ b, O b → O' b) : CI S sp pb g M cg cA q B A es P O' W' := by
  obtain ⟨d1, e1, x1⟩ := h.sand
  obtain ⟨d2, e2, x2⟩ := h.board
  obtain ⟨d3, t3, e3, x3⟩ := h.chips
  have hk : ∀ a, A = some a → W'.heap[a.block]? = W.heap[a.block]? := fun a e => k.block _ (h.ek.lt e) (.inl (h.eS a e))
  refine ⟨Nat.le_trans h.bw k.size, ⟨d1, (k.block _ (heap_lt e1) (.inr h.own.1)).trans e1, x1⟩, ⟨d2, (k.block _ (heap_lt e2) (.inr h.own.2.1)).trans e2, x2⟩, ⟨d3, t3, (k.block _ (heap_lt e3) (.inr h.own.2.2)).trans e3, x3⟩, ⟨hO _ h.own.1, hO _ h.own.2.1, hO _ h.own.2.2⟩, fun hn => ?_, h.ek.keep hk, h.eS⟩
  obtain ⟨b, off, rfl, hb, hc⟩ := h.ed hn
  have e := hk _ rfl
  exact ⟨b, off, rfl, hb, fun i x hx => ⟨(World.cell?_of_block (a := ⟨b, off + i * 2, none⟩) e).trans (hc i x hx).1, (World.cell?_of_block (a := ⟨b, off + i * 2 + 1, none⟩) e).trans (hc i x hx).2⟩⟩
def pF (A : Option Addr) (b : Nat) : Prop := ∃ a, A = some a ∧ b = a.block
def pD (A : Option Addr) (sp pb g : Nat) (b : Nat) : Prop := b = sp ∨ b = pb ∨ b = g ∨ pF A b
def headK (A : Option Addr) (n : Nat) : Nat := match A with | some a => a.off + 2 * n | none => 0
def pK (A : Option Addr) (sp pb g M n : Nat) (b : Nat) : Nat := if b = sp then 2 else if b = pb then 2 else if b = g then M else headK A n
theorem cell_at {W : World} {b i : Nat} {cs : Array Value} {t : TypeId} {z : Nat × Nat} (h : W.heap[b]? = some (.cells cs t z)) : W.cell? ⟨b, i, none⟩ = cs[i]? := by
  unfold World.cell?
  rw [h]
  rfl
theorem two_cells0 {ds : Array Value} {x y : Value} (h0 : ds[0]? = some x) (h1 : ds[1]? = some y) : ds.extract 0 2 = #[x, y] := by
  obtain ⟨l⟩ := ds
  match l, h0, h1 with
  | a :: b :: l, h0, h1 =>
    simp only [List.getElem?_toArray, List.getElem?_cons_zero, List.getElem?_cons_succ, Option.some.injEq] at h0 h1
    subst h0 h1
    simp
structure Fix (S : Nat → Prop) (sp pb g M q B : Nat) (es : List (Int × Int)) : Prop where
  hS : ∀ b, S b → b < B
  bg : B ≤ g
  gp : g < pb
  ps : pb < sp
  n12 : es.length ≤ 12
  ed : ∀ e ∈ es, 0 ≤ e.1 ∧ e.1 < e.2 ∧ e.2 < (M : Int)
  m6 : M ≤ 6
  qm : q < M
  noG : Try.prog.globals.size = 0
theorem CI.handed (h : CI S sp pb g M cg cA q B A es P O W) (k : Fix S sp pb g M q B es) (hP : P.length = M) : Handed Try.prog.globals.size S O (pF A) (pD A sp pb g) (pK A sp pb g M es.length) W := by
  have hne : ∀ a, A = some a → a.block < B := fun a e => k.hS _ (h.eS a e)
  have k1 := k.bg
  have k2 := k.gp
  have k3 := k.ps
  refine ⟨fun r _ => by rw [k.noG]; exact Nat.zero_le _, fun r hr => .inr (.inr (.inr hr)), fun r ⟨a, e, hr⟩ => .inl (hr ▸ h.eS a e), fun r hr hF => ?_, fun r hr => ?_⟩
  · rcases hr with rfl | rfl | rfl | hr
    · exact h.own.1
    · exact h.own.2.1
    · exact h.own.2.2
    · exact absurd hr hF
  · rcases hr with rfl | rfl | rfl | ⟨a, e, rfl⟩
    · obtain ⟨ds, e1, e2, e3⟩ := h.sand
      refine ⟨ds, _, e1, fun i v hi hv => ?_⟩
      rw [pK, if_pos rfl] at hi
      match i, hi with
      | 0, _ => rw [e2] at hv; cases hv; exact Plain.vr (.inr (.inl ⟨_, rfl, .inr (.inl rfl)⟩))
      | 1, _ => rw [e3] at hv; cases hv; exact .int _ _
    · obtain ⟨ds, e1, e2, e3⟩ := h.board
      refine ⟨ds, _, e1, fun i v hi hv => ?_⟩
      rw [pK, if_neg (by omega), if_pos rfl] at hi
      match i, hi with
      | 0, _ => rw [e2] at hv; cases hv; exact Plain.vr (.inr (.inr ⟨_, _, _, rfl, fun a e => .inr (.inr (.inr ⟨a, e, rfl⟩))⟩))
      | 1, _ => rw [e3] at hv; cases hv; exact Plain.vr (.inr (.inr ⟨_, _, _, rfl, fun a e => by cases e; exact .inr (.inr (.inl rfl))⟩))
    · obtain ⟨ds, t, e1, e2⟩ := h.chips
      refine ⟨ds, _, e1, fun i v hi hv => ?_⟩
      rw [pK, if_neg (by omega), if_neg (by omega), if_pos rfl] at hi
      rw [e2 i _ (List.getElem?_eq_getElem (by omega))] at hv
      cases hv
      exact .int _ _
    · have hb := hne a e
      obtain ⟨cs, t, e1, e2⟩ := h.ek a e
      refine ⟨cs, t, e1, fun i v hi hv => ?_⟩
      rw [pK, if_neg (by omega), if_neg (by omega), if_neg (by omega), e] at hi
      change i < a.off + 2 * es.length at hi
      obtain ⟨x, rfl⟩ := e2 i v hi hv
      exact .int _ _
theorem CI.lone (h : CI S sp pb g M cg cA q B A es P O W) (k : Fix S sp pb g M q B es) (hP : P.length = M) (T : Tp) :
    Pile ((cutW (pF A) (pD A sp pb g) (pK A sp pb g M es.length) W).rt T 0) sp pb g M cg cA q A es P ∧ EdgeS ((cutW (pF A) (pD A sp pb g) (pK A sp pb g M es.length) W).rt T 0) B A es := by
  have hne : ∀ a, A = some a → a.block < B := fun a e => k.hS _ (h.eS a e)
  have k1 := k.bg
  have k2 := k.gp
  have k3 := k.ps
  have nF : ∀ b, B ≤ b → ¬ pF A b := fun b hb ⟨a, e, hr⟩ => by have := hne a e; omega
  obtain ⟨d1, e1, x1, y1⟩ := h.sand
  obtain ⟨d2, e2, x2, y2⟩ := h.board
  obtain ⟨d3, t3, e3, x3⟩ := h.chips
  refine ⟨⟨?_, ?_, ⟨?_, fun i z hz => ⟨?_, ?_⟩⟩⟩, fun hn => ?_⟩
  · show (cutW _ _ _ W).heap[sp]? = _
    rw [cutW_at (.inl rfl) e1, if_neg (nF _ (by omega)), pK, if_pos rfl, two_cells0 x1 y1]
  · show (cutW _ _ _ W).heap[pb]? = _
    rw [cutW_at (.inr (.inl rfl)) e2, if_neg (nF _ (by omega)), pK, if_neg (by omega), if_pos rfl, two_cells0 x2 y2]
  · show g < (cutW _ _ _ W).heap.size
    rw [cutW_size]
    exact heap_lt e3
  · refine cutW_cell (a := ⟨g, i, none⟩) (.inr (.inr (.inl rfl))) e3 ?_ rfl (x3 i z hz)
    rw [pK, if_neg (by show g ≠ sp; omega), if_neg (by show g ≠ pb; omega), if_pos rfl]
    have := (List.getElem?_eq_some_iff.1 hz).1
    show i < M
    omega
  · exact cutW_frozen (a := ⟨g, i, none⟩) (.inr (.inr (.inl rfl))) (nF g (by omega)) e3
  · obtain ⟨b, off, rfl, hb, hc⟩ := h.ed hn
    obtain ⟨cs, t, e4, x4⟩ := h.ek _ rfl
    have hK : pK (some ⟨b, off, none⟩) sp pb g M es.length b = off + 2 * es.length := by rw [pK, if_neg (by omega), if_neg (by omega), if_neg (by omega)]; rfl
    refine ⟨b, off, rfl, hb, fun i x hx => ?_⟩
    have hi := (List.getElem?_eq_some_iff.1 hx).1
    obtain ⟨c1, c2⟩ := hc i x hx
    rw [cell_at e4] at c1 c2
    exact ⟨cutW_cell (a := ⟨b, off + i * 2, none⟩) (.inr (.inr (.inr ⟨_, rfl, rfl⟩))) e4 (by show _ < pK _ _ _ _ _ _ b; rw [hK]; simp only; omega) rfl c1, cutW_cell (a := ⟨b, off + i * 2 + 1, none⟩) (.inr (.inr (.inr ⟨_, rfl, rfl⟩))) e4 (by show _ < pK _ _ _ _ _ _ b; rw [hK]; simp only; omega) rfl c2⟩
theorem CI.behind (h : CI S sp pb g M cg cA q B A es P O W) (k : Fix S sp pb g M q B es) {ρ : Ren} {w' : World} {P' : List Int} (hw : WR Try.prog.globals.size (pF A) ρ w' W') (hl : (idR (pD A sp pb g)).le ρ)
    (hO : ∀ b, O b → O' b) (hs : W.heap.size ≤ W'.heap.size) (hk : ∀ b, b < W.heap.size → S b ∨ O b → (pD A sp pb g b → pF A b) → W'.heap[b]? = W.heap[b]?)
    (h1 : ∀ b, b < W.heap.size → b ≠ g → w'.heap[b]? = (cutW (pF A) (pD A sp pb g) (pK A sp pb g M es.length) W).heap[b]?) (h2 : 0 < P'.length) (h3 : ∀ i z, P'[i]? = some z → w'.cell? ⟨g, i, none⟩ = some (.int .i64 z)) : CI S sp pb g M cg cA q B A es P' O' W' := by
  have hne : ∀ a, A = some a → a.block < B := fun a e => k.hS _ (h.eS a e)
  have k1 := k.bg
  have k2 := k.gp
  have k3 := k.ps
  have nF : ∀ b, B ≤ b → ¬ pF A b := fun b hb ⟨a, e, hr⟩ => by have := hne a e; omega
  obtain ⟨d1, e1, x1, y1⟩ := h.sand
  obtain ⟨d2, e2, x2, y2⟩ := h.board
  have hkk : ∀ a, A = some a → W'.heap[a.block]? = W.heap[a.block]? := fun a e => hk _ (h.ek.lt e) (.inl (h.eS a e)) fun _ => ⟨a, e, rfl⟩
  have f1 := h1 sp (heap_lt e1) (by omega)
  rw [cutW_at (.inl rfl) e1, if_neg (nF _ (by omega)), pK, if_pos rfl, two_cells0 x1 y1] at f1
  have f2 := h1 pb (heap_lt e2) (by omega)
  rw [cutW_at (.inr (.inl rfl)) e2, if_neg (nF _ (by omega)), pK, if_neg (by omega), if_pos rfl, two_cells0 x2 y2] at f2
  obtain ⟨s1, g1, p1⟩ := hw.plain hl (.inl rfl) f1
  obtain ⟨s2, g2, p2⟩ := hw.plain hl (.inr (.inl rfl)) f2
  have f3 : ∃ (cs : Array Value) (t : TypeId) (z : Nat × Nat), w'.heap[g]? = some (.cells cs t z) ∧ ∀ (i : Nat) (y : Int), P'[i]? = some y → cs[i]? = some (Value.int .i64 y) := by
    have h5 := h3 0 _ (List.getElem?_eq_getElem h2)
    unfold World.cell? at h5
    cases hh : w'.heap[g]? with
    | none => simp only [hh] at h5; cases h5
    | some o =>
      cases o with
      | cells cs t z => exact ⟨cs, t, z, rfl, fun i y hy => by rw [← cell_at hh]; exact h3 i y hy⟩
      | _ => simp only [hh] at h5; cases h5
  obtain ⟨cs, t, z, f3, f4⟩ := f3
  obtain ⟨s3, g3, p3⟩ := hw.plain hl (.inr (.inr (.inl rfl))) f3
  refine ⟨Nat.le_trans h.bw hs, ⟨s1, g1, p1 0 _ rfl (.inr (.inl ⟨_, rfl, .inr (.inl rfl)⟩)), p1 1 _ rfl (.inl ⟨_, _, rfl⟩)⟩, ⟨s2, g2, p2 0 _ rfl (.inr (.inr ⟨_, _, _, rfl, fun a e => .inr (.inr (.inr ⟨a, e, rfl⟩))⟩)), p2 1 _ rfl (.inr (.inr ⟨_, _, _, rfl, fun a e => by cases e; exact .inr (.inr (.inl rfl))⟩))⟩,
    ⟨s3, t, g3, fun i y hy => p3 i _ (f4 i y hy) (.inl ⟨_, _, rfl⟩)⟩, ⟨hO _ h.own.1, hO _ h.own.2.1, hO _ h.own.2.2⟩, fun hn => ?_, h.ek.keep hkk, h.eS⟩
  obtain ⟨b, off, rfl, hb, hc⟩ := h.ed hn
  have e := hkk _ rfl
  exact ⟨b, off, rfl, hb, fun i x hx => ⟨(World.cell?_of_block (a := ⟨b, off + i * 2, none⟩) e).trans (hc i x hx).1, (World.cell?_of_block (a := ⟨b, off + i * 2 + 1, none⟩) e).trans (hc i x hx).2⟩⟩
theorem ar_one {ρ : Ren} {x : Value} (h : VR ρ x x) : AR ρ #[x] #[x] := ⟨rfl, fun i a b p q => by
  match i with
  | 0 => simp at p q; subst p; subst q; exact h
  | i + 1 => simp at p⟩
theorem ar_two {ρ : Ren} {x y : Value} (h : VR ρ x x) (k : VR ρ y y) : AR ρ #[x, y] #[x, y] := ⟨rfl, fun i a b p q => by
  match i with
  | 0 => simp at p q; subst p; subst q; exact h
  | 1 => simp at p q; subst p; subst q; exact k
  | i + 2 => simp at p⟩
variable {main : Bool} {Stop : (Nat → Prop) → Goroutine → World → Prop}
theorem co_first (h : CI S sp pb g M cg cA q B A es P O W) (k : Fix S sp pb g M q B es) (hP : P.length = M) (c : Frame) (cb : List Frame)
    (hstop : ∀ O' W', CI S sp pb g M cg cA q B A es P O' W' → (∀ b, O b → O' b) → Co Try.prog main S Stop O' (G (c.finish (.int .i64 (unsI (unsF M q es P)))) cb) W') :
    Co Try.prog main S Stop O (G (Frame.enter Try.prog 61 #[.pointer (some ⟨sp, 0, none⟩)] .normal) (c :: cb)) W := by
  have hs0 : ∀ T, ((cutW (pF A) (pD A sp pb g) (pK A sp pb g M es.length) W).rt T 0).heap.size = W.heap.size := fun T => cutW_size
  refine co_callX (F := pF A) (D := pD A sp pb g) (K := pK A sp pb g M es.length) (R := fun v w' => v = .int .i64 (unsI (unsF M q es P)) ∧ ∀ b, b < W.heap.size → w'.heap[b]? = (cutW (pF A) (pD A sp pb g) (pK A sp pb g M es.length) W).heap[b]?) pile_good (show _ ∈ pileFns by decide) (fun T => ?_) (ar_one (Plain.vr (.inr (.inl ⟨_, rfl, .inl rfl⟩)))) (by rw [k.noG]; exact Nat.zero_le _) (h.handed k hP) c cb ?_
  · obtain ⟨l1, l2⟩ := h.lone k hP T
    refine (firstUnst_any sp pb g M cg cA q B A es P _ (by rw [hs0]; exact h.bw) k.n12 (fun e he => (k.ed e he).2.1) k.m6 hP l1 l2).mono ?_
    rintro e w' ⟨rfl, hb⟩
    exact ⟨_, rfl, rfl, fun b hb2 => hb.block b (by rw [hs0]; exact hb2)⟩
  · rintro v u w' W' ρ O' ⟨rfl, h1⟩ h2 h3 h4 h5 h6 h7
    cases h2
    refine hstop O' W' (h.behind k h3 h4 h5 h6 h7 (fun b hb _ => h1 b hb) (by have := k.qm; omega) fun i z hz => ?_) h5
    obtain ⟨ds, t, e3, x3⟩ := h.chips
    have k1 := k.gp
    have k2 := k.ps
    have h8 := cutW_cell (F := pF A) (D := pD A sp pb g) (K := pK A sp pb g M es.length) (a := ⟨g, i, none⟩) (.inr (.inr (.inl rfl))) e3 (by
      rw [pK, if_neg (by show g ≠ sp; omega), if_neg (by show g ≠ pb; omega), if_pos rfl]
      have := (List.getElem?_eq_some_iff.1 hz).1
      show i < M
      omega) rfl (x3 i z hz)
    exact (World.cell?_of_block (a := ⟨g, i, none⟩) (h1 g (heap_lt e3))).trans h8
theorem co_topple {f : Nat → Int} {v : Nat} (h : CI S sp pb g M cg cA q B A es (chipsOf M f) O W) (k : Fix S sp pb g M q B es) (c : Frame) (cb : List Frame)
    (hstop : ∀ O' W', CI S sp pb g M cg cA q B A es ((chipsOf M (fireF f v 1 es)).set q 0) O' W' → (∀ b, O b → O' b) → Co Try.prog main S Stop O' (G (c.finish (.tuple #[])) cb) W') :
    Co Try.prog main S Stop O (G (Frame.enter Try.prog 65 #[.pointer (some ⟨sp, 0, none⟩), .int .i64 (v : Int)] .normal) (c :: cb)) W := by
  have hs0 : ∀ T, ((cutW (pF A) (pD A sp pb g) (pK A sp pb g M es.length) W).rt T 0).heap.size = W.heap.size := fun T => cutW_size
  have hP := chipsOf_len M f
  refine co_callX (F := pF A) (D := pD A sp pb g) (K := pK A sp pb g M es.length) (R := fun u w' => u = .tuple #[] ∧ Chips w' g ((chipsOf M (fireF f v 1 es)).set q 0) ∧ ∀ b, b < W.heap.size → b ≠ g → w'.heap[b]? = (cutW (pF A) (pD A sp pb g) (pK A sp pb g M es.length) W).heap[b]?) pile_good (show _ ∈ pileFns by decide) (fun T => ?_) (ar_two (Plain.vr (.inr (.inl ⟨_, rfl, .inl rfl⟩))) (.int _ _)) (by rw [k.noG]; exact Nat.zero_le _) (h.handed k hP) c cb ?_
  · obtain ⟨l1, l2⟩ := h.lone k hP T
    refine (topple_any sp pb g M cg cA q v B A es f _ (by rw [hs0]; exact h.bw) k.bg k.n12 k.ed k.qm k.gp k.ps l1 l2).mono ?_
    rintro e w' ⟨rfl, hc, hm⟩
    exact ⟨_, rfl, rfl, hc, fun b hb2 hne => hm.block b (by rw [hs0]; exact hb2) (by omega)⟩
  · rintro u u2 w' W' ρ O' ⟨rfl, h0, h1⟩ h2 h3 h4 h5 h6 h7
    have hu : u2 = .tuple #[] := by
      cases h2 with
      | tuple hs _ => rename_i ys; exact congrArg Value.tuple (Array.eq_empty_of_size_eq_zero (by simpa using hs.symm))
    subst hu
    refine hstop O' W' (h.behind k h3 h4 h5 h6 h7 h1 (by rw [List.length_set, chipsOf_len]; have := k.qm; omega) fun i z hz => (h0.cell i z hz).1) h5
end
end Go.Proofs.Ytndncmjhpbjcoaa
