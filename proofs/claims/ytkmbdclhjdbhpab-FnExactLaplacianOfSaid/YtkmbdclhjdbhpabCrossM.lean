/- Crossing the edges of a layer: the plain math. -/
import Derived.Test.YtkmbdclhjdbhpabGraphS
import Derived.Test.YtkmbdclhjdbhpabMapDel
namespace Go.Proofs.Ytkmbdclhjdbhpab
open Go.RowKit

/-- an edge at a vertex of the layer -/
def Hit (ds : List Int) (L : Int) (e : Int × Int) : Prop := ds[e.1.toNat]? = some L ∨ ds[e.2.toNat]? = some L
/-- the vertex, if it was not reached, is in the next layer -/
def setIf (ds : List Int) (u : Nat) (x : Int) : List Int := if ds[u]? = some (-1) then ds.set u x else ds
theorem setIf_len (ds : List Int) (u : Nat) (x : Int) : (setIf ds u x).length = ds.length := by unfold setIf; split <;> simp
theorem setIf_keep {ds : List Int} {u k : Nat} {x y : Int} (h : ds[k]? = some y) (hy : y ≠ -1) : (setIf ds u x)[k]? = some y := by
  unfold setIf
  split
  · rename_i hu
    by_cases e : u = k
    · subst e
      rw [hu] at h
      injection h with h
      exact absurd h.symm hy
    · rw [List.getElem?_set_ne e]; exact h
  · exact h
theorem setIf_same {ds : List Int} {u : Nat} {x : Int} (h : ds[u]? = some (-1)) : (setIf ds u x)[u]? = some x := by
  unfold setIf
  rw [if_pos h, List.getElem?_set_self (List.getElem?_eq_some_iff.1 h).1]
theorem setIf_other {ds : List Int} {u k : Nat} {x : Int} (h : u ≠ k) : (setIf ds u x)[k]? = ds[k]? := by
  unfold setIf
  split
  · rw [List.getElem?_set_ne h]
  · rfl

/-- the edges struck so far -/
def Struck (es0 : List (Int × Int)) (ds : List Int) (L : Int) (left : Int × Int → Bool) (u : Nat) : Prop := ∃ e ∈ es0, left e = false ∧ Hit ds L e ∧ (e.1.toNat = u ∨ e.2.toNat = u)
structure Mid (es0 : List (Int × Int)) (ds : List Int) (L : Int) (sz0 : Nat) (left : Int × Int → Bool) (esc : List (Int × Int)) (dsc : List Int) (sz : Nat) : Prop where
  len : dsc.length = ds.length
  keep : ∀ (u : Nat) (x : Int), ds[u]? = some x → x ≠ -1 → dsc[u]? = some x
  new : ∀ u : Nat, ds[u]? = some (-1) → Struck es0 ds L left u → dsc[u]? = some (L + 1)
  old : ∀ u : Nat, ds[u]? = some (-1) → ¬ Struck es0 ds L left u → dsc[u]? = some (-1)
  rest : ∀ e, e ∈ esc ↔ e ∈ es0 ∧ (left e = true ∨ ¬ Hit ds L e)
  sub : ∀ e, left e = true → e ∈ es0
  size : sz ≤ sz0
  less : sz < sz0 ↔ ∃ e ∈ es0, left e = false ∧ Hit ds L e
section
variable {es0 esc : List (Int × Int)} {ds dsc : List Int} {L : Int} {sz0 sz : Nat} {left : Int × Int → Bool}
theorem Mid.start (es0 : List (Int × Int)) (ds : List Int) (L : Int) (sz0 : Nat) : Mid es0 ds L sz0 (fun e => es0.contains e) es0 ds sz0 where
  len := rfl
  keep := fun _ _ h _ => h
  new := fun u _ ⟨e, he, h, _⟩ => by simp [he] at h
  old := fun _ h _ => h
  rest := fun e => ⟨fun h => ⟨h, .inl (by simp [h])⟩, fun h => h.1⟩
  sub := fun e h => by simpa using h
  size := Nat.le_refl _
  less := ⟨fun h => absurd h (by omega), fun ⟨e, he, h, _⟩ => by simp [he] at h⟩
theorem strike_false (e f : Int × Int) : (left f && !(f == e)) = false ↔ left f = false ∨ f = e := by
  cases left f <;> simp
theorem Mid.same (h : Mid es0 ds L sz0 left esc dsc sz) (hL : 0 ≤ L) (u : Nat) : dsc[u]? = some L ↔ ds[u]? = some L := by
  constructor
  · intro g
    cases hd : ds[u]? with
    | none =>
      have h1 := List.getElem?_eq_none_iff.1 hd
      have h2 := (List.getElem?_eq_some_iff.1 g).1
      have := h.len
      omega
    | some x =>
      by_cases hx : x = -1
      · subst hx
        rcases Classical.em (Struck es0 ds L left u) with g2 | g2
        · rw [h.new u hd g2] at g; injection g with g; omega
        · rw [h.old u hd g2] at g; injection g with g; omega
      · rw [h.keep u x hd hx] at g; exact g
  · intro g
    exact h.keep u L g (by omega)
theorem Mid.skip (h : Mid es0 ds L sz0 left esc dsc sz) {e : Int × Int} (hn : ¬ Hit ds L e) : Mid es0 ds L sz0 (fun f => left f && !(f == e)) esc dsc sz := by
  have hs : ∀ u, Struck es0 ds L (fun f => left f && !(f == e)) u ↔ Struck es0 ds L left u := by
    intro u
    constructor
    · rintro ⟨f, hf, h1, h2, h3⟩
      rcases (strike_false e f).1 h1 with g | g
      · exact ⟨f, hf, g, h2, h3⟩
      · subst g; exact absurd h2 hn
    · rintro ⟨f, hf, h1, h2, h3⟩
      exact ⟨f, hf, (strike_false e f).2 (.inl h1), h2, h3⟩
  refine ⟨h.len, h.keep, fun u hu g => h.new u hu ((hs u).1 g), fun u hu g => h.old u hu (fun k => g ((hs u).2 k)), fun f => ?_, fun f g => ?_, h.size, h.less.trans ?_⟩
  · rw [h.rest f]
    constructor
    · rintro ⟨h1, h2⟩
      refine ⟨h1, ?_⟩
      by_cases hfe : f = e
      · subst hfe; exact .inr hn
      · rcases h2 with g | g
        · exact .inl (by simp [g, hfe])
        · exact .inr g
    · rintro ⟨h1, h2⟩
      refine ⟨h1, ?_⟩
      rcases h2 with g | g
      · simp only [Bool.and_eq_true] at g; exact .inl g.1
      · exact .inr g
  · simp only [Bool.and_eq_true] at g; exact h.sub f g.1
  · constructor
    · rintro ⟨f, hf, h1, h2⟩
      exact ⟨f, hf, (strike_false e f).2 (.inl h1), h2⟩
    · rintro ⟨f, hf, h1, h2⟩
      rcases (strike_false e f).1 h1 with g | g
      · exact ⟨f, hf, g, h2⟩
      · subst g; exact absurd h2 hn
theorem Mid.hit (h : Mid es0 ds L sz0 left esc dsc sz) {e : Int × Int} (he : left e = true) (hh : Hit ds L e) {sz' : Nat} (hz : sz' + 1 = sz) (hl : e.1.toNat < ds.length ∧ e.2.toNat < ds.length) (hL : 0 ≤ L) :
    Mid es0 ds L sz0 (fun f => left f && !(f == e)) (without esc e) (setIf (setIf dsc e.1.toNat (L + 1)) e.2.toNat (L + 1)) sz' := by
  have hin := h.sub e he
  have hs : ∀ u, Struck es0 ds L (fun f => left f && !(f == e)) u ↔ Struck es0 ds L left u ∨ e.1.toNat = u ∨ e.2.toNat = u := by
    intro u
    constructor
    · rintro ⟨f, hf, h1, h2, h3⟩
      rcases (strike_false e f).1 h1 with g | g
      · exact .inl ⟨f, hf, g, h2, h3⟩
      · subst g; exact .inr h3
    · rintro (⟨f, hf, h1, h2, h3⟩ | h3)
      · exact ⟨f, hf, (strike_false e f).2 (.inl h1), h2, h3⟩
      · exact ⟨e, hin, (strike_false e e).2 (.inr rfl), hh, h3⟩
  refine ⟨by rw [setIf_len, setIf_len, h.len], fun u x hu hx => setIf_keep (setIf_keep (h.keep u x hu hx) hx) hx, fun u hu g => ?_, fun u hu g => ?_, fun f => ?_, fun f g => ?_, by have := h.size; omega, ?_⟩
  · rcases (hs u).1 g with g | g
    · exact setIf_keep (setIf_keep (h.new u hu g) (by omega)) (by omega)
    · rcases Classical.em (Struck es0 ds L left u) with g2 | g2
      · exact setIf_keep (setIf_keep (h.new u hu g2) (by omega)) (by omega)
      · have ho := h.old u hu g2
        by_cases h1 : e.1.toNat = u
        · exact setIf_keep (by rw [h1]; exact setIf_same ho) (by omega)
        · rcases g with g | g
          · exact absurd g h1
          · rw [g]; exact setIf_same (by rw [setIf_other h1]; exact ho)
  · have g1 : ¬ Struck es0 ds L left u := fun k => g ((hs u).2 (.inl k))
    have g2 : ¬ e.1.toNat = u := fun k => g ((hs u).2 (.inr (.inl k)))
    have g3 : ¬ e.2.toNat = u := fun k => g ((hs u).2 (.inr (.inr k)))
    rw [setIf_other g3, setIf_other g2]
    exact h.old u hu g1
  · rw [mem_without, h.rest f]
    constructor
    · rintro ⟨⟨h1, h2⟩, h3⟩
      refine ⟨h1, ?_⟩
      rcases h2 with g | g
      · exact .inl (by simp [g, h3])
      · exact .inr g
    · rintro ⟨h1, h2⟩
      have hne : f ≠ e := by
        rintro rfl
        rcases h2 with g | g
        · simp at g
        · exact g hh
      refine ⟨⟨h1, ?_⟩, hne⟩
      rcases h2 with g | g
      · simp only [Bool.and_eq_true] at g; exact .inl g.1
      · exact .inr g
  · simp only [Bool.and_eq_true] at g; exact h.sub f g.1
  · refine ⟨fun _ => ⟨e, hin, (strike_false e e).2 (.inr rfl), hh⟩, fun _ => by have := h.size; omega⟩
end

/-- the state before a layer is crossed -/
structure Lay (N : Nat) (es : List (Int × Int)) (v : Int) (L : Nat) (ds : List Int) (cur : List (Int × Int)) : Prop where
  len : ds.length = N
  near : ∀ u : Nat, u < N → Near es v L u → ∃ d : Nat, d ≤ L ∧ ds[u]? = some (d : Int) ∧ Near es v d u ∧ ∀ d', d' < d → ¬ Near es v d' u
  far : ∀ u : Nat, u < N → ¬ Near es v L u → ds[u]? = some (-1)
  cur : ∀ e, e ∈ cur ↔ e ∈ es ∧ ∀ k, k < L → ¬ Near es v k e.1 ∧ ¬ Near es v k e.2
theorem near_zero {es : List (Int × Int)} {v u : Int} (h : Near es v 0 u) : u = v := by cases h; rfl
theorem Lay.start (N v : Nat) (es : List (Int × Int)) (hv : v < N) : Lay N es v 0 ((List.replicate N (-1)).set v 0) es where
  len := by simp
  near := fun u hu h => by
    have := near_zero h
    have huv : u = v := by omega
    subst huv
    exact ⟨0, Nat.le_refl _, by rw [List.getElem?_set_self (by simpa using hu)]; rfl, .start, fun d' h => absurd h (by omega)⟩
  far := fun u hu h => by
    have : v ≠ u := by rintro rfl; exact h .start
    rw [List.getElem?_set_ne this, List.getElem?_replicate, if_pos hu]
  cur := fun e => ⟨fun h => ⟨h, fun k hk => absurd hk (by omega)⟩, fun h => h.1⟩
section
variable {N L : Nat} {es cur esc : List (Int × Int)} {v : Int} {ds dsc : List Int} {sz0 sz : Nat} {left : Int × Int → Bool}
theorem Lay.hit (h : Lay N es v L ds cur) (hE : ∀ e ∈ es, 0 ≤ e.1 ∧ e.1.toNat < N ∧ 0 ≤ e.2 ∧ e.2.toNat < N) {e : Int × Int} (he : e ∈ cur) : Hit ds L e ↔ Near es v L e.1 ∨ Near es v L e.2 := by
  obtain ⟨h1, h2⟩ := (h.cur e).1 he
  obtain ⟨a0, a1, b0, b1⟩ := hE e h1
  have one : ∀ x : Int, 0 ≤ x → x.toNat < N → (∀ k, k < L → ¬ Near es v k x) → (ds[x.toNat]? = some (L : Int) ↔ Near es v L x) := by
    intro x hx0 hx1 hk
    have hc : ((x.toNat : Nat) : Int) = x := by omega
    constructor
    · intro g
      apply Classical.byContradiction
      intro hn
      rw [h.far x.toNat hx1 (by rw [hc]; exact hn)] at g
      injection g with g
      omega
    · intro g
      obtain ⟨d, hd, hds, hnd, _⟩ := h.near x.toNat hx1 (by rw [hc]; exact g)
      have : d = L := by
        apply Classical.byContradiction
        intro hne
        exact hk d (by omega) (by rw [hc] at hnd; exact hnd)
      rw [hds, this]
  unfold Hit
  rw [one e.1 a0 a1 (fun k hk => (h2 k hk).1), one e.2 b0 b1 (fun k hk => (h2 k hk).2)]
theorem Lay.edge (h : Lay N es v L ds cur) {a b : Int} (ha : Near es v L a) (hb : ¬ Near es v L b) (ht : Touch es a b) : ∃ e ∈ cur, (Near es v L e.1 ∨ Near es v L e.2) ∧ (e.1 = b ∨ e.2 = b) := by
  have hk : ∀ k, k < L → ¬ Near es v k a ∧ ¬ Near es v k b := fun k hk =>
    ⟨fun g => hb ((Near.step g ht).up (by omega)), fun g => hb (g.up (by omega))⟩
  rcases ht with g | g
  · exact ⟨(a, b), (h.cur _).2 ⟨g, hk⟩, .inl ha, .inr rfl⟩
  · exact ⟨(b, a), (h.cur _).2 ⟨g, fun k hk' => (hk k hk').symm⟩, .inr ha, .inl rfl⟩
theorem Lay.next (h : Lay N es v L ds cur) (hE : ∀ e ∈ es, 0 ≤ e.1 ∧ e.1.toNat < N ∧ 0 ≤ e.2 ∧ e.2.toNat < N) (hm : Mid cur ds L sz0 left esc dsc sz) (hl : ∀ e ∈ cur, left e = false) : Lay N es v (L + 1) dsc esc := by
  refine ⟨by rw [hm.len, h.len], fun u hu hn => ?_, fun u hu hn => ?_, fun e => ?_⟩
  · rcases Classical.em (Near es v L u) with g | g
    · obtain ⟨d, hd, hds, h3, h4⟩ := h.near u hu g
      exact ⟨d, by omega, hm.keep u _ hds (by omega), h3, h4⟩
    · have hds := h.far u hu g
      refine ⟨L + 1, Nat.le_refl _, ?_, hn, fun d' hd' k => g (k.up (by omega))⟩
      have hs : Struck cur ds L left u := by
        cases hn with
        | stay k => exact absurd k g
        | step ka ht =>
          obtain ⟨e, he, h1, h2⟩ := h.edge ka g ht
          refine ⟨e, he, hl e he, (h.hit hE he).2 h1, ?_⟩
          rcases h2 with h2 | h2
          · exact .inl (by rw [h2]; rfl)
          · exact .inr (by rw [h2]; rfl)
      have := hm.new u hds hs
      rw [this]
      simp
  · have g : ¬ Near es v L u := fun k => hn (k.stay)
    refine hm.old u (h.far u hu g) ?_
    rintro ⟨e, he, _, hh, hu2⟩
    have h1 := (h.hit hE he).1 hh
    obtain ⟨ein, _⟩ := (h.cur e).1 he
    obtain ⟨a0, a1, b0, b1⟩ := hE e ein
    rcases hu2 with hu2 | hu2
    · have e1 : e.1 = u := by omega
      rcases h1 with h1 | h1
      · rw [e1] at h1; exact g h1
      · exact hn (.step h1 (.inr (by rw [← e1]; exact ein)))
    · have e1 : e.2 = u := by omega
      rcases h1 with h1 | h1
      · exact hn (.step h1 (.inl (by rw [← e1]; exact ein)))
      · rw [e1] at h1; exact g h1
  · rw [hm.rest e]
    constructor
    · rintro ⟨hc, hh⟩
      obtain ⟨h1, h2⟩ := (h.cur e).1 hc
      have hnh : ¬ Hit ds L e := by
        rcases hh with g | g
        · rw [hl e hc] at g; cases g
        · exact g
      refine ⟨h1, fun k hk => ?_⟩
      rcases Nat.lt_or_ge k L with g | g
      · exact h2 k g
      · have : k = L := by omega
        subst this
        exact ⟨fun g => hnh ((h.hit hE hc).2 (.inl g)), fun g => hnh ((h.hit hE hc).2 (.inr g))⟩
    · rintro ⟨h1, h2⟩
      have hc := (h.cur e).2 ⟨h1, fun k hk => h2 k (by omega)⟩
      refine ⟨hc, .inr fun g => ?_⟩
      rcases (h.hit hE hc).1 g with g | g
      · exact (h2 L (by omega)).1 g
      · exact (h2 L (by omega)).2 g
theorem Lay.closed (h : Lay N es v L ds cur) (hE : ∀ e ∈ es, 0 ≤ e.1 ∧ e.1.toNat < N ∧ 0 ≤ e.2 ∧ e.2.toNat < N) (hm : Mid cur ds L sz0 left esc dsc sz) (hl : ∀ e ∈ cur, left e = false) (hz : ¬ sz < sz0) : ∀ k u, Near es v k u → Near es v L u := by
  have hno : ∀ e ∈ cur, ¬ (Near es v L e.1 ∨ Near es v L e.2) := fun e he g => hz (hm.less.2 ⟨e, he, hl e he, (h.hit hE he).2 g⟩)
  intro k u hk
  induction hk with
  | start => exact Near.start.up (Nat.zero_le _)
  | stay _ ih => exact ih
  | step _ ht ih =>
    apply Classical.byContradiction
    intro hb
    obtain ⟨e, he, h1, _⟩ := h.edge ih hb ht
    exact hno e he h1
end
end Go.Proofs.Ytkmbdclhjdbhpab
