/- One text out of several: MapDel CrossM Cross Repeat WalkL GraphI. -/
import Derived.Test.YtdpojcgeblbfeaaVBF
import Derived.Test.YtdpojcgeblbfeaaVBB
import Derived.Test.YtdpojcgeblbfeaaVBA
import Derived.Test.YtdpojcgeblbfeaaVSh
import Derived.Laws.CopyOwn
import Derived.Deep.RegionHeld3
set_option linter.all false
/- A map of edges with its size: ranging over it and deleting in the range. -/
namespace Go.Proofs.Ytdpojcgeblbfeaa
open Go.RowKit Go.Maps Go.WideMaps Go.WideElems Go.ChangeMaps
set_option maxRecDepth 100000

def without (es : List (Int × Int)) (e : Int × Int) : List (Int × Int) := es.filter fun f => !(f == e)
theorem mem_without {es : List (Int × Int)} {e f : Int × Int} : f ∈ without es e ↔ f ∈ es ∧ f ≠ e := by simp [without]
theorem Cnt.del {D : DataW Unit} {es : List (Int × Int)} {e : Int × Int} (h : Cnt D es) (he : WfE e) : Cnt (D.del (ek e)) (without es e) := by
  obtain ⟨h1, h2, h3⟩ := h
  refine ⟨h1.del _, ?_, ?_⟩
  · intro f hf
    by_cases hfe : f = e
    · subst hfe
      rw [atKey_del_same, List.count_eq_zero_of_not_mem (fun hm => (mem_without.1 hm).2 rfl)]
      rfl
    · rw [atKey_del_other (fun h => hfe (ek_inj hf he h)), h2 f hf, without, List.count_filter (by simp [hfe])]
  · intro f hf
    by_cases hfe : f = e
    · subst hfe
      rw [has_del_same]
      symm
      simp [without]
    · rw [has_del_other (fun h => hfe (ek_inj hf he h)), h3 f hf]
      rw [Bool.eq_iff_iff, List.contains_iff_mem, List.contains_iff_mem, mem_without]
      simp [hfe]

def MS (w : World) (B : Nat) (es : List (Int × Int)) (sz : Nat) : Prop := ∃ (n : Nat) (D : DataW Unit), w.ownsMap Try.prog 121 (plainElem Try.prog 3) B n D ∧ Cnt D es ∧ Maps.size D = sz
def RS (w : World) (B r : Nat) (es : List (Int × Int)) (left : Int × Int → Bool) (cnt sz : Nat) : Prop :=
  ∃ (n : Nat) (D : DataW Unit) (lf : Lit → Bool), w.ranges Try.prog 121 (plainElem Try.prog 3) B r n D lf cnt ∧ Cnt D es ∧ Maps.size D = sz ∧ ∀ e, WfE e → lf (ek e) = left e
section
variable {w w' : World} {B r cnt sz : Nat} {es : List (Int × Int)} {left : Int × Int → Bool}
theorem MS.kept {row : Option Nat} (h : MS w B es sz) (hg : w.grownBy w' row) (hne : some B ≠ row) : MS w' B es sz := by
  obtain ⟨n, D, h1, h2, h3⟩ := h
  exact ⟨n, D, h1.kept hg hne, h2, h3⟩
theorem MS.lt (h : MS w B es sz) : B < w.heap.size := by
  obtain ⟨n, D, h1, _, _⟩ := h
  exact h1.lt
theorem MS.alloc (h : MS w B es sz) (o : Obj) : MS (w.alloc o) B es sz := by
  obtain ⟨n, D, h1, h2, h3⟩ := h
  exact ⟨n, D, h1.alloc o, h2, h3⟩
theorem RS.ms (h : RS w B r es left cnt sz) : MS w B es sz := by
  obtain ⟨n, D, lf, h1, h2, h3, _⟩ := h
  exact ⟨n, D, h1.owns, h2, h3⟩
theorem RS.left_eq (h : RS w B r es left cnt sz) : w.rangeLeft B r = cnt := by
  obtain ⟨n, D, lf, h1, _⟩ := h
  exact h1.left_eq
theorem RS.lt (h : RS w B r es left cnt sz) : r < w.heap.size := by
  obtain ⟨n, D, lf, h1, _⟩ := h
  exact h1.lt
theorem RS.kept {row : Option Nat} (h : RS w B r es left cnt sz) (hg : w.grownBy w' row) (hb : some B ≠ row) (hr : some r ≠ row) : RS w' B r es left cnt sz := by
  obtain ⟨n, D, lf, h1, h2, h3, h4⟩ := h
  exact ⟨n, D, lf, h1.kept hg hb hr, h2, h3, h4⟩
theorem RS.alloc (h : RS w B r es left cnt sz) (o : Obj) : RS (w.alloc o) B r es left cnt sz := by
  obtain ⟨n, D, lf, h1, h2, h3, h4⟩ := h
  exact ⟨n, D, lf, h1.alloc o, h2, h3, h4⟩
theorem setCell_grown (w : World) (g i : Nat) (u : Value) : w.grownBy (w.setCell ⟨g, i, none⟩ u) (some g) :=
  ⟨rfl, rfl, rfl, by simp [World.setCell], fun k _ hk => Below.heap_setCell w ⟨g, i, none⟩ u k (fun e => hk (by rw [e]))⟩
theorem RS.set (h : RS w B r es left cnt sz) (g i : Nat) (u : Value) (hb : B ≠ g) (hr : r ≠ g) : RS (w.setCell ⟨g, i, none⟩ u) B r es left cnt sz :=
  h.kept (setCell_grown w g i u) (by simpa using hb) (by simpa using hr)
end
section
variable (w : World) {ops : Array Oper} {rest : List Oper} {o : Oper} {a : Act} {Q : Exit → Act → World → Prop}
theorem wp_range_ms (hg : o.guard = none) (m : Operand) (hop : o.op = Op.range 164 m) (B sz : Nat) (es : List (Int × Int)) (hm : a.eval m = .map (some B)) (h : MS w B es sz)
    (hK : ∀ w' cnt, RS w' B w.heap.size es (fun e => es.contains e) cnt sz → Below w.heap.size w w' → w'.heap.size = w.heap.size + 1 → wpList Try.prog ops Q rest (a.put o.dst (.pointer (some ⟨w.heap.size, 0, none⟩))) w') :
    wpList Try.prog ops Q (o :: rest) a w := by
  obtain ⟨n, D, h1, h3, h4⟩ := h
  exact wpList_range_own w hg m _ hop _ _ edgeKeyed Try.underlying164 _ B n D hm h1 fun w' q1 q2 q3 => hK w' _ ⟨n, D, _, q1, h3, h4, fun e he => h3.2.2 e he⟩ (below_none q2) q3
theorem wp_next_rs (hg : o.guard = none) (it : Operand) (hop : o.op = Op.next it false) (B r : Nat) (es : List (Int × Int)) (left : Int × Int → Bool) (cnt sz : Nat)
    (hit : a.eval it = .pointer (some ⟨r, 0, none⟩)) (h : RS w B r es left cnt sz)
    (hDone : (∀ e, WfE e → left e = false) → wpList Try.prog ops Q rest (a.put o.dst (.tuple #[.bool false])) w)
    (hMore : ∀ (e : Int × Int) (w' : World) (cnt' : Nat), WfE e → left e = true → RS w' B r es (fun f => left f && !(f == e)) cnt' sz → cnt' < cnt → w.grownBy w' (some r) → w'.heap.size = w.heap.size →
      (Instr.entry (.pointer (some ⟨r, 0, none⟩))).run Try.prog w' = .ok (.tuple #[.agg #[.int .i64 e.1, .int .i64 e.2], .int .i64 (es.count e)]) w' →
      wpList Try.prog ops Q rest (a.put o.dst (.tuple #[.bool true, .agg #[.int .i64 e.1, .int .i64 e.2], .int .i64 (es.count e)])) w') :
    wpList Try.prog ops Q (o :: rest) a w := by
  obtain ⟨n, D, lf, h1, h3, hsz, h4⟩ := h
  refine wpList_next_ranges w hg it hop 121 edgeKeyed (plainElem Try.prog 3) edgeV (Value.int .i64)
    (fun key kl hk => by obtain ⟨e, rfl, _, _⟩ := keyOf_edge_inv hk; exact ⟨e, rfl⟩) (fun v y hv => by obtain ⟨c, rfl, _⟩ := plainElem_int_inv Try.underlying3 hv; exact ⟨c, rfl⟩)
    B r n D lf cnt hit h1 (fun _ hl => hDone fun e he => by rw [← h4 e he]; exact hl _) ?_
  intro x c kl y w' cnt' hk hl hv hat hrg hlt hgr hsz' hen
  obtain ⟨e, ex, rfl, hwe⟩ := keyOf_edge_inv hk
  have hxe : x = e := by
    simp only [edgeV, Value.agg.injEq] at ex
    have := congrArg Array.toList ex
    simp at this
    exact Prod.ext this.1 this.2
  subst hxe
  obtain ⟨c', ec, rfl, hwc⟩ := plainElem_int_inv Try.underlying3 hv
  cases ec
  have hc : c = (es.count x : Int) := by
    have h5 := h3.2.1 x hwe
    rw [hat] at h5
    injection h5 with h5
    injection h5
  subst hc
  exact hMore x w' cnt' hwe (by rw [← h4 x hwe]; exact hl) ⟨n, D, _, hrg, h3, hsz, fun f hf => by simp only [h4 f hf, ek_same hwe hf]⟩ hlt hgr hsz' hen
theorem wp_delete_rs (hg : o.guard = none) (m x : Operand) (hop : o.op = Op.call { callee := Callee.builtin Builtin.delete, args := #[m, x], argTypes := #[164, 121] }) (B r : Nat) (es : List (Int × Int)) (left : Int × Int → Bool) (cnt sz : Nat)
    (hm : a.eval m = .map (some B)) (e : Int × Int) (hx : a.eval x = .agg #[.int .i64 e.1, .int .i64 e.2]) (he : WfE e) (hin : e ∈ es) (h : RS w B r es left cnt sz)
    (hK : ∀ w' cnt' sz', RS w' B r (without es e) (fun f => left f && !(f == e)) cnt' sz' → sz' + 1 = sz → cnt' ≤ cnt → w.grownBy w' (some B) → (∀ p, w'.frozen? p = w.frozen? p) → wpList Try.prog ops Q rest (a.put o.dst (.tuple #[])) w') :
    wpList Try.prog ops Q (o :: rest) a w := by
  obtain ⟨n, D, lf, h1, h3, hsz, h4⟩ := h
  refine wpList_delete_ranges w hg m x _ _ hop _ edgeKeyed Try.underlying164 _ B r n D lf cnt hm h1 (edgeV e) (ek e) hx (keyOf_edge he) ?_
  intro w' cnt' hrg hle ht
  refine hK w' cnt' (Maps.size (D.del (ek e))) ⟨n, _, _, hrg, h3.del he, rfl, fun f hf => by simp only [h4 f hf, ek_same he hf]⟩ ?_ hle ht.grown ht.frozen
  have := size_del (k := ek e) (h1.owns.tidy edgeKeyed)
  rw [h3.2.2 e he, if_pos (List.contains_iff_mem.2 hin), hsz] at this
  exact this
theorem wp_len_ms (hg : o.guard = none) (m : Operand) (hop : o.op = Op.call { callee := Callee.builtin Builtin.len, args := #[m], argTypes := #[164] }) (B sz : Nat) (es : List (Int × Int)) (hm : a.eval m = .map (some B)) (h : MS w B es sz)
    (hK : wpList Try.prog ops Q rest (a.put o.dst (.int .i64 (sz : Int))) w) : wpList Try.prog ops Q (o :: rest) a w := by
  obtain ⟨n, D, h1, h3, h4⟩ := h
  refine wpList_len_own w hg m _ hop _ _ Try.underlying164 _ B n D hm h1 ?_
  rw [h4]
  exact hK
end
end Go.Proofs.Ytdpojcgeblbfeaa

/- Crossing the edges of a layer: the plain math. -/
namespace Go.Proofs.Ytdpojcgeblbfeaa
open Go.RowKit

def Hit (ds : List Int) (L : Int) (e : Int × Int) : Prop := ds[e.1.toNat]? = some L ∨ ds[e.2.toNat]? = some L
def setIf (ds : List Int) (u : Nat) (x : Int) : List Int := if ds[u]? = some (-1) then ds.set u x else ds
theorem setIf_len (ds : List Int) (u : Nat) (x : Int) : (setIf ds u x).length = ds.length := by unfold setIf; split <;> simp
theorem setIf_keep {ds : List Int} {u k : Nat} {x y : Int} (h : ds[k]? = some y) (hy : y ≠ -1) : (setIf ds u x)[k]? = some y := by
  unfold setIf
  split
  · rename_i hu
    by_cases e : u = k
    · subst e
      rw [hu] at h
      injection h with h
      exact absurd h.symm hy
    · rw [List.getElem?_set_ne e]; exact h
  · exact h
theorem setIf_same {ds : List Int} {u : Nat} {x : Int} (h : ds[u]? = some (-1)) : (setIf ds u x)[u]? = some x := by
  unfold setIf
  rw [if_pos h, List.getElem?_set_self (List.getElem?_eq_some_iff.1 h).1]
theorem setIf_other {ds : List Int} {u k : Nat} {x : Int} (h : u ≠ k) : (setIf ds u x)[k]? = ds[k]? := by
  unfold setIf
  split
  · rw [List.getElem?_set_ne h]
  · rfl

def Struck (es0 : List (Int × Int)) (ds : List Int) (L : Int) (left : Int × Int → Bool) (u : Nat) : Prop := ∃ e ∈ es0, left e = false ∧ Hit ds L e ∧ (e.1.toNat = u ∨ e.2.toNat = u)
structure Mid (es0 : List (Int × Int)) (ds : List Int) (L : Int) (sz0 : Nat) (left : Int × Int → Bool) (esc : List (Int × Int)) (dsc : List Int) (sz : Nat) : Prop where
  len : dsc.length = ds.length
  keep : ∀ (u : Nat) (x : Int), ds[u]? = some x → x ≠ -1 → dsc[u]? = some x
  new : ∀ u : Nat, ds[u]? = some (-1) → Struck es0 ds L left u → dsc[u]? = some (L + 1)
  old : ∀ u : Nat, ds[u]? = some (-1) → ¬ Struck es0 ds L left u → dsc[u]? = some (-1)
  rest : ∀ e, e ∈ esc ↔ e ∈ es0 ∧ (left e = true ∨ ¬ Hit ds L e)
  sub : ∀ e, left e = true → e ∈ es0
  size : sz ≤ sz0
  less : sz < sz0 ↔ ∃ e ∈ es0, left e = false ∧ Hit ds L e
section
variable {es0 esc : List (Int × Int)} {ds dsc : List Int} {L : Int} {sz0 sz : Nat} {left : Int × Int → Bool}
theorem Mid.start (es0 : List (Int × Int)) (ds : List Int) (L : Int) (sz0 : Nat) : Mid es0 ds L sz0 (fun e => es0.contains e) es0 ds sz0 where
  len := rfl
  keep := fun _ _ h _ => h
  new := fun u _ ⟨e, he, h, _⟩ => by simp [he] at h
  old := fun _ h _ => h
  rest := fun e => ⟨fun h => ⟨h, .inl (by simp [h])⟩, fun h => h.1⟩
  sub := fun e h => by simpa using h
  size := Nat.le_refl _
  less := ⟨fun h => absurd h (by omega), fun ⟨e, he, h, _⟩ => by simp [he] at h⟩
theorem strike_false (e f : Int × Int) : (left f && !(f == e)) = false ↔ left f = false ∨ f = e := by
  cases left f <;> simp
theorem Mid.same (h : Mid es0 ds L sz0 left esc dsc sz) (hL : 0 ≤ L) (u : Nat) : dsc[u]? = some L ↔ ds[u]? = some L := by
  constructor
  · intro g
    cases hd : ds[u]? with
    | none =>
      have h1 := List.getElem?_eq_none_iff.1 hd
      have h2 := (List.getElem?_eq_some_iff.1 g).1
      have := h.len
      omega
    | some x =>
      by_cases hx : x = -1
      · subst hx
        rcases Classical.em (Struck es0 ds L left u) with g2 | g2
        · rw [h.new u hd g2] at g; injection g with g; omega
        · rw [h.old u hd g2] at g; injection g with g; omega
      · rw [h.keep u x hd hx] at g; exact g
  · intro g
    exact h.keep u L g (by omega)
theorem Mid.skip (h : Mid es0 ds L sz0 left esc dsc sz) {e : Int × Int} (hn : ¬ Hit ds L e) : Mid es0 ds L sz0 (fun f => left f && !(f == e)) esc dsc sz := by
  have hs : ∀ u, Struck es0 ds L (fun f => left f && !(f == e)) u ↔ Struck es0 ds L left u := by
    intro u
    constructor
    · rintro ⟨f, hf, h1, h2, h3⟩
      rcases (strike_false e f).1 h1 with g | g
      · exact ⟨f, hf, g, h2, h3⟩
      · subst g; exact absurd h2 hn
    · rintro ⟨f, hf, h1, h2, h3⟩
      exact ⟨f, hf, (strike_false e f).2 (.inl h1), h2, h3⟩
  refine ⟨h.len, h.keep, fun u hu g => h.new u hu ((hs u).1 g), fun u hu g => h.old u hu (fun k => g ((hs u).2 k)), fun f => ?_, fun f g => ?_, h.size, h.less.trans ?_⟩
  · rw [h.rest f]
    constructor
    · rintro ⟨h1, h2⟩
      refine ⟨h1, ?_⟩
      by_cases hfe : f = e
      · subst hfe; exact .inr hn
      · rcases h2 with g | g
        · exact .inl (by simp [g, hfe])
        · exact .inr g
    · rintro ⟨h1, h2⟩
      refine ⟨h1, ?_⟩
      rcases h2 with g | g
      · simp only [Bool.and_eq_true] at g; exact .inl g.1
      · exact .inr g
  · simp only [Bool.and_eq_true] at g; exact h.sub f g.1
  · constructor
    · rintro ⟨f, hf, h1, h2⟩
      exact ⟨f, hf, (strike_false e f).2 (.inl h1), h2⟩
    · rintro ⟨f, hf, h1, h2⟩
      rcases (strike_false e f).1 h1 with g | g
      · exact ⟨f, hf, g, h2⟩
      · subst g; exact absurd h2 hn
theorem Mid.hit (h : Mid es0 ds L sz0 left esc dsc sz) {e : Int × Int} (he : left e = true) (hh : Hit ds L e) {sz' : Nat} (hz : sz' + 1 = sz) (hl : e.1.toNat < ds.length ∧ e.2.toNat < ds.length) (hL : 0 ≤ L) :
    Mid es0 ds L sz0 (fun f => left f && !(f == e)) (without esc e) (setIf (setIf dsc e.1.toNat (L + 1)) e.2.toNat (L + 1)) sz' := by
  have hin := h.sub e he
  have hs : ∀ u, Struck es0 ds L (fun f => left f && !(f == e)) u ↔ Struck es0 ds L left u ∨ e.1.toNat = u ∨ e.2.toNat = u := by
    intro u
    constructor
    · rintro ⟨f, hf, h1, h2, h3⟩
      rcases (strike_false e f).1 h1 with g | g
      · exact .inl ⟨f, hf, g, h2, h3⟩
      · subst g; exact .inr h3
    · rintro (⟨f, hf, h1, h2, h3⟩ | h3)
      · exact ⟨f, hf, (strike_false e f).2 (.inl h1), h2, h3⟩
      · exact ⟨e, hin, (strike_false e e).2 (.inr rfl), hh, h3⟩
  refine ⟨by rw [setIf_len, setIf_len, h.len], fun u x hu hx => setIf_keep (setIf_keep (h.keep u x hu hx) hx) hx, fun u hu g => ?_, fun u hu g => ?_, fun f => ?_, fun f g => ?_, by have := h.size; omega, ?_⟩
  · rcases (hs u).1 g with g | g
    · exact setIf_keep (setIf_keep (h.new u hu g) (by omega)) (by omega)
    · rcases Classical.em (Struck es0 ds L left u) with g2 | g2
      · exact setIf_keep (setIf_keep (h.new u hu g2) (by omega)) (by omega)
      · have ho := h.old u hu g2
        by_cases h1 : e.1.toNat = u
        · exact setIf_keep (by rw [h1]; exact setIf_same ho) (by omega)
        · rcases g with g | g
          · exact absurd g h1
          · rw [g]; exact setIf_same (by rw [setIf_other h1]; exact ho)
  · have g1 : ¬ Struck es0 ds L left u := fun k => g ((hs u).2 (.inl k))
    have g2 : ¬ e.1.toNat = u := fun k => g ((hs u).2 (.inr (.inl k)))
    have g3 : ¬ e.2.toNat = u := fun k => g ((hs u).2 (.inr (.inr k)))
    rw [setIf_other g3, setIf_other g2]
    exact h.old u hu g1
  · rw [mem_without, h.rest f]
    constructor
    · rintro ⟨⟨h1, h2⟩, h3⟩
      refine ⟨h1, ?_⟩
      rcases h2 with g | g
      · exact .inl (by simp [g, h3])
      · exact .inr g
    · rintro ⟨h1, h2⟩
      have hne : f ≠ e := by
        rintro rfl
        rcases h2 with g | g
        · simp at g
        · exact g hh
      refine ⟨⟨h1, ?_⟩, hne⟩
      rcases h2 with g | g
      · simp only [Bool.and_eq_true] at g; exact .inl g.1
      · exact .inr g
  · simp only [Bool.and_eq_true] at g; exact h.sub f g.1
  · refine ⟨fun _ => ⟨e, hin, (strike_false e e).2 (.inr rfl), hh⟩, fun _ => by have := h.size; omega⟩
end

structure Lay (N : Nat) (es : List (Int × Int)) (v : Int) (L : Nat) (ds : List Int) (cur : List (Int × Int)) : Prop where
  len : ds.length = N
  near : ∀ u : Nat, u < N → Near es v L u → ∃ d : Nat, d ≤ L ∧ ds[u]? = some (d : Int) ∧ Near es v d u ∧ ∀ d', d' < d → ¬ Near es v d' u
  far : ∀ u : Nat, u < N → ¬ Near es v L u → ds[u]? = some (-1)
  cur : ∀ e, e ∈ cur ↔ e ∈ es ∧ ∀ k, k < L → ¬ Near es v k e.1 ∧ ¬ Near es v k e.2
theorem near_zero {es : List (Int × Int)} {v u : Int} (h : Near es v 0 u) : u = v := by cases h; rfl
theorem Lay.start (N v : Nat) (es : List (Int × Int)) (hv : v < N) : Lay N es v 0 ((List.replicate N (-1)).set v 0) es where
  len := by simp
  near := fun u hu h => by
    have := near_zero h
    have huv : u = v := by omega
    subst huv
    exact ⟨0, Nat.le_refl _, by rw [List.getElem?_set_self (by simpa using hu)]; rfl, .start, fun d' h => absurd h (by omega)⟩
  far := fun u hu h => by
    have : v ≠ u := by rintro rfl; exact h .start
    rw [List.getElem?_set_ne this, List.getElem?_replicate, if_pos hu]
  cur := fun e => ⟨fun h => ⟨h, fun k hk => absurd hk (by omega)⟩, fun h => h.1⟩
section
variable {N L : Nat} {es cur esc : List (Int × Int)} {v : Int} {ds dsc : List Int} {sz0 sz : Nat} {left : Int × Int → Bool}
theorem Lay.hit (h : Lay N es v L ds cur) (hE : ∀ e ∈ es, 0 ≤ e.1 ∧ e.1.toNat < N ∧ 0 ≤ e.2 ∧ e.2.toNat < N) {e : Int × Int} (he : e ∈ cur) : Hit ds L e ↔ Near es v L e.1 ∨ Near es v L e.2 := by
  obtain ⟨h1, h2⟩ := (h.cur e).1 he
  obtain ⟨a0, a1, b0, b1⟩ := hE e h1
  have one : ∀ x : Int, 0 ≤ x → x.toNat < N → (∀ k, k < L → ¬ Near es v k x) → (ds[x.toNat]? = some (L : Int) ↔ Near es v L x) := by
    intro x hx0 hx1 hk
    have hc : ((x.toNat : Nat) : Int) = x := by omega
    constructor
    · intro g
      apply Classical.byContradiction
      intro hn
      rw [h.far x.toNat hx1 (by rw [hc]; exact hn)] at g
      injection g with g
      omega
    · intro g
      obtain ⟨d, hd, hds, hnd, _⟩ := h.near x.toNat hx1 (by rw [hc]; exact g)
      have : d = L := by
        apply Classical.byContradiction
        intro hne
        exact hk d (by omega) (by rw [hc] at hnd; exact hnd)
      rw [hds, this]
  unfold Hit
  rw [one e.1 a0 a1 (fun k hk => (h2 k hk).1), one e.2 b0 b1 (fun k hk => (h2 k hk).2)]
theorem Lay.edge (h : Lay N es v L ds cur) {a b : Int} (ha : Near es v L a) (hb : ¬ Near es v L b) (ht : Touch es a b) : ∃ e ∈ cur, (Near es v L e.1 ∨ Near es v L e.2) ∧ (e.1 = b ∨ e.2 = b) := by
  have hk : ∀ k, k < L → ¬ Near es v k a ∧ ¬ Near es v k b := fun k hk =>
    ⟨fun g => hb ((Near.step g ht).up (by omega)), fun g => hb (g.up (by omega))⟩
  rcases ht with g | g
  · exact ⟨(a, b), (h.cur _).2 ⟨g, hk⟩, .inl ha, .inr rfl⟩
  · exact ⟨(b, a), (h.cur _).2 ⟨g, fun k hk' => (hk k hk').symm⟩, .inr ha, .inl rfl⟩
theorem Lay.next (h : Lay N es v L ds cur) (hE : ∀ e ∈ es, 0 ≤ e.1 ∧ e.1.toNat < N ∧ 0 ≤ e.2 ∧ e.2.toNat < N) (hm : Mid cur ds L sz0 left esc dsc sz) (hl : ∀ e ∈ cur, left e = false) : Lay N es v (L + 1) dsc esc := by
  refine ⟨by rw [hm.len, h.len], fun u hu hn => ?_, fun u hu hn => ?_, fun e => ?_⟩
  · rcases Classical.em (Near es v L u) with g | g
    · obtain ⟨d, hd, hds, h3, h4⟩ := h.near u hu g
      exact ⟨d, by omega, hm.keep u _ hds (by omega), h3, h4⟩
    · have hds := h.far u hu g
      refine ⟨L + 1, Nat.le_refl _, ?_, hn, fun d' hd' k => g (k.up (by omega))⟩
      have hs : Struck cur ds L left u := by
        cases hn with
        | stay k => exact absurd k g
        | step ka ht =>
          obtain ⟨e, he, h1, h2⟩ := h.edge ka g ht
          refine ⟨e, he, hl e he, (h.hit hE he).2 h1, ?_⟩
          rcases h2 with h2 | h2
          · exact .inl (by rw [h2]; rfl)
          · exact .inr (by rw [h2]; rfl)
      have := hm.new u hds hs
      rw [this]
      simp
  · have g : ¬ Near es v L u := fun k => hn (k.stay)
    refine hm.old u (h.far u hu g) ?_
    rintro ⟨e, he, _, hh, hu2⟩
    have h1 := (h.hit hE he).1 hh
    obtain ⟨ein, _⟩ := (h.cur e).1 he
    obtain ⟨a0, a1, b0, b1⟩ := hE e ein
    rcases hu2 with hu2 | hu2
    · have e1 : e.1 = u := by omega
      rcases h1 with h1 | h1
      · rw [e1] at h1; exact g h1
      · exact hn (.step h1 (.inr (by rw [← e1]; exact ein)))
    · have e1 : e.2 = u := by omega
      rcases h1 with h1 | h1
      · exact hn (.step h1 (.inl (by rw [← e1]; exact ein)))
      · rw [e1] at h1; exact g h1
  · rw [hm.rest e]
    constructor
    · rintro ⟨hc, hh⟩
      obtain ⟨h1, h2⟩ := (h.cur e).1 hc
      have hnh : ¬ Hit ds L e := by
        rcases hh with g | g
        · rw [hl e hc] at g; cases g
        · exact g
      refine ⟨h1, fun k hk => ?_⟩
      rcases Nat.lt_or_ge k L with g | g
      · exact h2 k g
      · have : k = L := by omega
        subst this
        exact ⟨fun g => hnh ((h.hit hE hc).2 (.inl g)), fun g => hnh ((h.hit hE hc).2 (.inr g))⟩
    · rintro ⟨h1, h2⟩
      have hc := (h.cur e).2 ⟨h1, fun k hk => h2 k (by omega)⟩
      refine ⟨hc, .inr fun g => ?_⟩
      rcases (h.hit hE hc).1 g with g | g
      · exact (h2 L (by omega)).1 g
      · exact (h2 L (by omega)).2 g
theorem Lay.closed (h : Lay N es v L ds cur) (hE : ∀ e ∈ es, 0 ≤ e.1 ∧ e.1.toNat < N ∧ 0 ≤ e.2 ∧ e.2.toNat < N) (hm : Mid cur ds L sz0 left esc dsc sz) (hl : ∀ e ∈ cur, left e = false) (hz : ¬ sz < sz0) : ∀ k u, Near es v k u → Near es v L u := by
  have hno : ∀ e ∈ cur, ¬ (Near es v L e.1 ∨ Near es v L e.2) := fun e he g => hz (hm.less.2 ⟨e, he, hl e he, (h.hit hE he).2 g⟩)
  intro k u hk
  induction hk with
  | start => exact Near.start.up (Nat.zero_le _)
  | stay _ ih => exact ih
  | step _ ht ih =>
    apply Classical.byContradiction
    intro hb
    obtain ⟨e, he, h1, _⟩ := h.edge ih hb ht
    exact hno e he h1
end
end Go.Proofs.Ytdpojcgeblbfeaa

/- The program's crossEdges. -/
namespace Go.Proofs.Ytdpojcgeblbfeaa
open Go.RowKit

theorem blk_set1 {w : World} {g : Nat} {t : TypeId} {zs : List Int} (h : Blk w g t (intCells zs).toArray) (u : Nat) (x : Int) : Blk (w.setCell ⟨g, u, none⟩ (.int .i64 x)) g t (intCells (zs.set u x)).toArray := by
  have h2 := h.set_ u (.int .i64 x)
  rw [List.setIfInBounds_toArray] at h2
  have : (intCells zs).set u (.int .i64 x) = intCells (zs.set u x) := by simp [intCells, List.map_set]
  rwa [this] at h2
theorem blk_get {w : World} {g : Nat} {t : TypeId} {zs : List Int} (h : Blk w g t (intCells zs).toArray) {u : Nat} {x : Int} (hx : zs[u]? = some x) : w.cell? ⟨g, u, none⟩ = some (.int .i64 x) := by
  rw [h.cell]; simp [intCells, hx]
def ends (ds : List Int) (a b : Nat) (x : Int) : Nat → List Int
  | 0 => ds
  | 1 => setIf ds a x
  | _ => setIf (setIf ds a x) b x
theorem ends_len (ds : List Int) (a b : Nat) (x : Int) (j : Nat) : (ends ds a b x j).length = ds.length := by
  match j with
  | 0 => rfl
  | 1 => simp [ends, setIf_len]
  | _ + 2 => simp [ends, setIf_len]

def BelowAll (B g : Nat) (w w' : World) : Prop := ∀ base, base ≤ B → base ≤ g → base ≤ w.heap.size → Below base w w'

set_option maxRecDepth 100000 in
set_option maxHeartbeats 4000000 in
theorem cross_any (B g c : Nat) (es0 : List (Int × Int)) (ds : List Int) (L sz : Nat) (w : World) (hL : L ≤ 1048576) (hW : ∀ e ∈ es0, WfE e ∧ 0 ≤ e.1 ∧ e.1.toNat < ds.length ∧ 0 ≤ e.2 ∧ e.2.toNat < ds.length) (hM : MS w B es0 sz)
    (hD : Blk w g 3 (intCells ds).toArray) (hne : B ≠ g) :
    Calls Try.prog 175 #[.map (some B), .slice (some ⟨g, 0, none⟩) ds.length c, .int .i64 L] w fun e w' => ∃ (left : Int × Int → Bool) (esc : List (Int × Int)) (dsc : List Int) (sz' : Nat),
      e = .returned (.bool (decide (sz' < sz))) ∧ Mid es0 ds L sz left esc dsc sz' ∧ (∀ e ∈ es0, left e = false) ∧ MS w' B esc sz' ∧ Blk w' g 3 (intCells dsc).toArray ∧ BelowAll B g w w' := by
  have HM := Lib.hid hM
  have HD := Lib.hid hD
  have HW := Lib.hid hW
  have hgl := hD.lt
  have hBl := hM.lt
  clear hM hD hW
  go_enter Try.func175, Try.ntmps175
  go_wp2_with (first | (at_len; refine wp_len_ms _ rfl _ rfl _ _ _ rfl HM.out ?_) | (at_range; refine wp_range_ms _ rfl _ rfl _ _ _ rfl HM.out ?_; intro w3 cnt0 hrg0 hb3 hsz3))
  go_frame
  have hd3 := HD.out.below hb3 hgl
  go_loopw [15] (fun _ wr => ∃ (left : Int × Int → Bool) (esc : List (Int × Int)) (dsc : List Int) (cnt sz' : Nat), RS wr B w.heap.size esc left cnt sz' ∧ Mid es0 ds L sz left esc dsc sz' ∧ Blk wr g 3 (intCells dsc).toArray ∧ BelowAll B g w wr ∧ w.heap.size < wr.heap.size)
    (fun _ wr => wr.rangeLeft B w.heap.size)
  case atStart => exact ⟨_, es0, ds, cnt0, sz, hrg0, Mid.start _ _ _ _, hd3, fun base _ _ h => hb3.mono h, by omega⟩
  case round =>
    obtain ⟨left, esc, dsc, cnt, sz', hrs, hmid, hblk, hbel, hlt⟩ := hrel
    have HR := Lib.hid hrs
    have HMid := Lib.hid hmid
    have HK := Lib.hid hblk
    have HB := Lib.hid hbel
    have hln := hmid.len
    have hgr := hblk.lt
    clear hrs hmid hblk hbel hrg0 hd3 hsz3 hb3
    go_wp2_with (at_next; refine wp_next_rs _ rfl _ rfl _ _ esc left cnt sz' rfl HR.out ?_ ?_)
    · intro hdone
      have HA : Hid (∀ e ∈ es0, left e = false) := Lib.hid fun e he => hdone e.1 e.2 (HW.out e he).1
      clear hdone
      go_wp2_with (at_len; refine wp_len_ms _ rfl _ rfl _ _ _ rfl HR.out.ms ?_)
      go_ret
      exact ⟨left, esc, dsc, sz', by simp, HMid.out, HA.out, HR.out.ms, HK.out, HB.out⟩
    · intro x0 y0 w4 cnt4 hwe hle hrs4 hlt4 hg4 hs4 hen
      have hin := HMid.out.sub (x0, y0) (by assumption)
      have hin2 := (HMid.out.rest (x0, y0)).2 ⟨hin, .inl (by assumption)⟩
      have hleft : left (x0, y0) = true := by assumption
      obtain ⟨_, hx0, hxl, hy0, hyl⟩ := HW.out _ hin
      obtain ⟨x, rfl⟩ : ∃ x : Nat, x0 = (x : Int) := ⟨x0.toNat, by simp only at hx0; omega⟩
      obtain ⟨y, rfl⟩ : ∃ y : Nat, y0 = (y : Int) := ⟨y0.toNat, by simp only at hy0; omega⟩
      simp only [Int.toNat_natCast] at hxl hyl
      obtain ⟨p, hp⟩ : ∃ p, dsc[x]? = some p := ⟨_, List.getElem?_eq_getElem (by omega)⟩
      obtain ⟨q, hq⟩ : ∃ q, dsc[y]? = some q := ⟨_, List.getElem?_eq_getElem (by omega)⟩
      have hk4 := HK.out.grown hg4 (by simp; omega)
      have hp4 := blk_get (hk4.alloc (Obj.cells #[.int .i64 (x : Int), .int .i64 (y : Int)] 121)) hp
      have hq4 := blk_get (hk4.alloc (Obj.cells #[.int .i64 (x : Int), .int .i64 (y : Int)] 121)) hq
      have hrs5 := hrs4.alloc (Obj.cells #[.int .i64 (x : Int), .int .i64 (y : Int)] 121)
      have B5 : BelowAll B g w (w4.alloc (Obj.cells #[.int .i64 (x : Int), .int .i64 (y : Int)] 121)) := fun base h1 h2 h3 => (((HB.out base h1 h2 h3).grown hg4 (by omega) (fun k hk => by cases hk; omega)).alloc (by omega) _)
      have hs4a : w4.heap.size ≤ wr.heap.size := by omega
      have hs4b : wr.heap.size ≤ w4.heap.size := by omega
      clear hs4
      have hix0 : (0 : Int) ≤ (x : Int) := Int.natCast_nonneg _
      have hix1 : (x : Int) < (ds.length : Int) := by omega
      have hiy0 : (0 : Int) ≤ (y : Int) := Int.natCast_nonneg _
      have hiy1 : (y : Int) < (ds.length : Int) := by omega
      have HK5 := Lib.hid (hk4.alloc (Obj.cells #[.int .i64 (x : Int), .int .i64 (y : Int)] 121))
      have hcp := Blk.new w4 121 #[.int .i64 (x : Int), .int .i64 (y : Int)]
      have HCP := Lib.hid hcp
      have HR5 := Lib.hid hrs5
      have HP := Lib.hid hp
      have HQ := Lib.hid hq
      have HL := Lib.hid HR.out.left_eq
      have HIN := Lib.hid hin
      have HIN2 := Lib.hid hin2
      have HLE := Lib.hid hleft
      have HWE := Lib.hid hwe
      clear hrs4 hrs5 hk4 hcp hp hq hin hin2 hleft hwe hle
      by_cases hhit : p = L ∨ q = L
      · have HH : Hid (Hit ds L ((x : Int), (y : Int))) := Lib.hid (by
          unfold Hit
          simp only [Int.toNat_natCast]
          rw [← HMid.out.same (by omega), ← HMid.out.same (by omega), HP.out, HQ.out]
          rcases hhit with h | h
          · exact .inl (by rw [h])
          · exact .inr (by rw [h]))
        have hsame : (fun f : Int × Int => (left f && !(f == ((x : Int), (y : Int)))) && !(f == ((x : Int), (y : Int)))) = fun f => left f && !(f == ((x : Int), (y : Int))) := by
          funext f; cases left f <;> cases (f == ((x : Int), (y : Int))) <;> rfl
        have HS := Lib.hid hsame
        clear hsame
        have hpq : (p = L) ∨ (p ≠ L ∧ q = L) := by
          rcases Decidable.em (p = (L : Int)) with h | h
          · exact .inl h
          · exact .inr ⟨h, hhit.resolve_left h⟩
        clear hhit
        rcases hpq with h1 | ⟨h1, h2⟩
        · have t1 : (p != (L : Int)) = false := by simp [h1]
          clear h1
          go_wp2_with (at_delete; refine wp_delete_rs _ rfl _ _ rfl _ _ _ _ _ _ rfl ((x : Int), (y : Int)) rfl HWE.out HIN2.out HR5.out ?_; intro w6 cnt6 sz6 hrs6 hsz6 hcnt6 hg6 hf6; have k0 := (HCP.out.grown hg6 (by simp; omega)).cell 0; have k1 := (HCP.out.grown hg6 (by simp; omega)).cell 1)
          rw [HS.out] at hrs6
          have hk6 := HK5.out.grown hg6 (by simp; omega)
          have B6 : BelowAll B g w w6 := fun base h1 h2 h3 => (B5 base h1 h2 h3).grown hg6 (by simp; omega) (fun k hk => by cases hk; exact h1)
          have hl6 := hg6.size
          rw [World.size_alloc] at hl6
          have hb6 := hrs6.ms.lt
          have HR6 := Lib.hid hrs6
          have HK6 := Lib.hid hk6
          clear hrs6 hk6 hg6 hf6 k0 k1
          obtain ⟨wo, rfl⟩ : ∃ wo : World, wo = wr := ⟨_, rfl⟩
          go_loopw [42] (fun i wr => ∃ j : Nat, j ≤ 2 ∧ i = .int .i64 j ∧ RS wr B w.heap.size (without esc ((x : Int), (y : Int))) (fun f => left f && !(f == ((x : Int), (y : Int)))) cnt6 sz6 ∧ Blk wr g 3 (intCells (ends dsc x y ((L : Int) + 1) j)).toArray ∧ BelowAll B g w wr ∧ w.heap.size < wr.heap.size) (fun i _ => 2 - (intOf i).toNat)
          case atStart => exact ⟨0, by omega, rfl, HR6.out, HK6.out, B6, by omega⟩
          case round =>
            obtain ⟨j, hj, rfl, hrs7, hk7, B7, hl7⟩ := hrel
            have HR7 := Lib.hid hrs7
            have HK7 := Lib.hid hk7
            have hf7 := hk7.frozen x
            have hf8 := hk7.frozen y
            have hen7 := ends_len dsc x y ((L : Int) + 1) j
            clear hrs7 hk7
            have i0 : ∀ w : World, (Instr.index 181 (.agg #[.int .i64 (x : Int), .int .i64 (y : Int)]) (.int .i64 0)).run Try.prog w = .ok (.int .i64 (x : Int)) w := fun _ => by kernel_rfl
            have i1 : ∀ w : World, (Instr.index 181 (.agg #[.int .i64 (x : Int), .int .i64 (y : Int)]) (.int .i64 1)).run Try.prog w = .ok (.int .i64 (y : Int)) w := fun _ => by kernel_rfl
            have hL0 : (0 : Int) ≤ (L : Int) := Int.natCast_nonneg _
            have hL1 : (L : Int) ≤ 1048576 := by omega
            by_cases hj0 : j = 0
            · subst hj0
              have cx := blk_get (u := x) HK7.out HP.out
              by_cases hm : p = -1
              · have HE1 : Hid (dsc.set x ((L : Int) + 1) = ends dsc x y ((L : Int) + 1) 1) := Lib.hid (by simp only [ends, setIf]; rw [if_pos (by rw [HP.out, hm])])
                have tm : (p == -1) = true := by simp [hm]
                clear hm
                go_wp2
                exact ⟨⟨1, by omega, by go_num, HR7.out.set _ _ _ hne (by omega), by rw [← HE1.out]; exact blk_set1 HK7.out _ _, fun base h1 h2 h3 => (B7 base h1 h2 h3).setCell h2 _, by simp; omega⟩, by simp [intOf]⟩
              · have HE1 : Hid (dsc = ends dsc x y ((L : Int) + 1) 1) := Lib.hid (by simp only [ends, setIf]; rw [if_neg (by rw [HP.out]; simpa using hm)])
                have tm : (p == -1) = false := by simp [hm]
                clear hm
                go_wp2
                exact ⟨⟨1, by omega, by go_num, HR7.out, by rw [← HE1.out]; exact HK7.out, B7, hl7⟩, by simp [intOf]⟩
            by_cases hj1 : j = 1
            · subst hj1
              obtain ⟨q1, hq1⟩ : ∃ q1, (ends dsc x y ((L : Int) + 1) 1)[y]? = some q1 := ⟨_, List.getElem?_eq_getElem (by omega)⟩
              have cx := blk_get (u := y) HK7.out hq1
              have HQ1 := Lib.hid hq1
              clear hq1
              by_cases hm : q1 = -1
              · have HE1 : Hid ((ends dsc x y ((L : Int) + 1) 1).set y ((L : Int) + 1) = ends dsc x y ((L : Int) + 1) 2) := Lib.hid (by
                  have h := HQ1.out
                  simp only [ends] at h ⊢
                  conv => rhs; rw [setIf]
                  rw [if_pos (by rw [h, hm])])
                have tm : (q1 == -1) = true := by simp [hm]
                clear hm
                go_wp2
                exact ⟨⟨2, by omega, by go_num, HR7.out.set _ _ _ hne (by omega), by rw [← HE1.out]; exact blk_set1 HK7.out _ _, fun base h1 h2 h3 => (B7 base h1 h2 h3).setCell h2 _, by simp; omega⟩, by simp [intOf]⟩
              · have HE1 : Hid (ends dsc x y ((L : Int) + 1) 1 = ends dsc x y ((L : Int) + 1) 2) := Lib.hid (by
                  have h := HQ1.out
                  simp only [ends] at h ⊢
                  conv => rhs; rw [setIf]
                  rw [if_neg (by rw [h]; simpa using hm)])
                have tm : (q1 == -1) = false := by simp [hm]
                clear hm
                go_wp2
                exact ⟨⟨2, by omega, by go_num, HR7.out, by rw [← HE1.out]; exact HK7.out, B7, hl7⟩, by simp [intOf]⟩
            · have hj2 : j = 2 := by omega
              subst hj2
              have HMH := Lib.hid (HMid.out.hit HLE.out HH.out hsz6 ⟨by simp only [Int.toNat_natCast]; omega, by simp only [Int.toNat_natCast]; omega⟩ hL0)
              go_wp2
              refine ⟨⟨_, _, _, cnt6, sz6, HR7.out, HMH.out, HK7.out, B7, hl7⟩, ?_⟩
              rw [HR7.out.left_eq, HL.out]
              omega
        · have t1 : (p != (L : Int)) = true := by simp [h1]
          have t2 : (q != (L : Int)) = false := by simp [h2]
          clear h1 h2
          go_wp2_with (at_delete; refine wp_delete_rs _ rfl _ _ rfl _ _ _ _ _ _ rfl ((x : Int), (y : Int)) rfl HWE.out HIN2.out HR5.out ?_; intro w6 cnt6 sz6 hrs6 hsz6 hcnt6 hg6 hf6; have k0 := (HCP.out.grown hg6 (by simp; omega)).cell 0; have k1 := (HCP.out.grown hg6 (by simp; omega)).cell 1)
          rw [HS.out] at hrs6
          have hk6 := HK5.out.grown hg6 (by simp; omega)
          have B6 : BelowAll B g w w6 := fun base h1 h2 h3 => (B5 base h1 h2 h3).grown hg6 (by simp; omega) (fun k hk => by cases hk; exact h1)
          have hl6 := hg6.size
          rw [World.size_alloc] at hl6
          have hb6 := hrs6.ms.lt
          have HR6 := Lib.hid hrs6
          have HK6 := Lib.hid hk6
          clear hrs6 hk6 hg6 hf6 k0 k1
          obtain ⟨wo, rfl⟩ : ∃ wo : World, wo = wr := ⟨_, rfl⟩
          go_loopw [42] (fun i wr => ∃ j : Nat, j ≤ 2 ∧ i = .int .i64 j ∧ RS wr B w.heap.size (without esc ((x : Int), (y : Int))) (fun f => left f && !(f == ((x : Int), (y : Int)))) cnt6 sz6 ∧ Blk wr g 3 (intCells (ends dsc x y ((L : Int) + 1) j)).toArray ∧ BelowAll B g w wr ∧ w.heap.size < wr.heap.size) (fun i _ => 2 - (intOf i).toNat)
          case atStart => exact ⟨0, by omega, rfl, HR6.out, HK6.out, B6, by omega⟩
          case round =>
            obtain ⟨j, hj, rfl, hrs7, hk7, B7, hl7⟩ := hrel
            have HR7 := Lib.hid hrs7
            have HK7 := Lib.hid hk7
            have hf7 := hk7.frozen x
            have hf8 := hk7.frozen y
            have hen7 := ends_len dsc x y ((L : Int) + 1) j
            clear hrs7 hk7
            have i0 : ∀ w : World, (Instr.index 181 (.agg #[.int .i64 (x : Int), .int .i64 (y : Int)]) (.int .i64 0)).run Try.prog w = .ok (.int .i64 (x : Int)) w := fun _ => by kernel_rfl
            have i1 : ∀ w : World, (Instr.index 181 (.agg #[.int .i64 (x : Int), .int .i64 (y : Int)]) (.int .i64 1)).run Try.prog w = .ok (.int .i64 (y : Int)) w := fun _ => by kernel_rfl
            have hL0 : (0 : Int) ≤ (L : Int) := Int.natCast_nonneg _
            have hL1 : (L : Int) ≤ 1048576 := by omega
            by_cases hj0 : j = 0
            · subst hj0
              have cx := blk_get (u := x) HK7.out HP.out
              by_cases hm : p = -1
              · have HE1 : Hid (dsc.set x ((L : Int) + 1) = ends dsc x y ((L : Int) + 1) 1) := Lib.hid (by simp only [ends, setIf]; rw [if_pos (by rw [HP.out, hm])])
                have tm : (p == -1) = true := by simp [hm]
                clear hm
                go_wp2
                exact ⟨⟨1, by omega, by go_num, HR7.out.set _ _ _ hne (by omega), by rw [← HE1.out]; exact blk_set1 HK7.out _ _, fun base h1 h2 h3 => (B7 base h1 h2 h3).setCell h2 _, by simp; omega⟩, by simp [intOf]⟩
              · have HE1 : Hid (dsc = ends dsc x y ((L : Int) + 1) 1) := Lib.hid (by simp only [ends, setIf]; rw [if_neg (by rw [HP.out]; simpa using hm)])
                have tm : (p == -1) = false := by simp [hm]
                clear hm
                go_wp2
                exact ⟨⟨1, by omega, by go_num, HR7.out, by rw [← HE1.out]; exact HK7.out, B7, hl7⟩, by simp [intOf]⟩
            by_cases hj1 : j = 1
            · subst hj1
              obtain ⟨q1, hq1⟩ : ∃ q1, (ends dsc x y ((L : Int) + 1) 1)[y]? = some q1 := ⟨_, List.getElem?_eq_getElem (by omega)⟩
              have cx := blk_get (u := y) HK7.out hq1
              have HQ1 := Lib.hid hq1
              clear hq1
              by_cases hm : q1 = -1
              · have HE1 : Hid ((ends dsc x y ((L : Int) + 1) 1).set y ((L : Int) + 1) = ends dsc x y ((L : Int) + 1) 2) := Lib.hid (by
                  have h := HQ1.out
                  simp only [ends] at h ⊢
                  conv => rhs; rw [setIf]
                  rw [if_pos (by rw [h, hm])])
                have tm : (q1 == -1) = true := by simp [hm]
                clear hm
                go_wp2
                exact ⟨⟨2, by omega, by go_num, HR7.out.set _ _ _ hne (by omega), by rw [← HE1.out]; exact blk_set1 HK7.out _ _, fun base h1 h2 h3 => (B7 base h1 h2 h3).setCell h2 _, by simp; omega⟩, by simp [intOf]⟩
              · have HE1 : Hid (ends dsc x y ((L : Int) + 1) 1 = ends dsc x y ((L : Int) + 1) 2) := Lib.hid (by
                  have h := HQ1.out
                  simp only [ends] at h ⊢
                  conv => rhs; rw [setIf]
                  rw [if_neg (by rw [h]; simpa using hm)])
                have tm : (q1 == -1) = false := by simp [hm]
                clear hm
                go_wp2
                exact ⟨⟨2, by omega, by go_num, HR7.out, by rw [← HE1.out]; exact HK7.out, B7, hl7⟩, by simp [intOf]⟩
            · have hj2 : j = 2 := by omega
              subst hj2
              have HMH := Lib.hid (HMid.out.hit HLE.out HH.out hsz6 ⟨by simp only [Int.toNat_natCast]; omega, by simp only [Int.toNat_natCast]; omega⟩ hL0)
              go_wp2
              refine ⟨⟨_, _, _, cnt6, sz6, HR7.out, HMH.out, HK7.out, B7, hl7⟩, ?_⟩
              rw [HR7.out.left_eq, HL.out]
              omega
      · have HH : Hid (¬ Hit ds L ((x : Int), (y : Int))) := Lib.hid (by
          unfold Hit
          simp only [Int.toNat_natCast]
          rw [← HMid.out.same (by omega), ← HMid.out.same (by omega), HP.out, HQ.out]
          simp only [Option.some.injEq]
          exact hhit)
        have t1 : (p != (L : Int)) = true := by simp only [bne_iff_ne]; exact fun h => hhit (.inl h)
        have t2 : (q != (L : Int)) = true := by simp only [bne_iff_ne]; exact fun h => hhit (.inr h)
        clear hhit
        go_wp2
        refine ⟨⟨_, esc, dsc, cnt4, sz', HR5.out, HMid.out.skip HH.out, HK5.out, B5, by simp; omega⟩, ?_⟩
        rw [HR5.out.left_eq, HL.out]
        exact hlt4
end Go.Proofs.Ytdpojcgeblbfeaa

/- The library's slices.Repeat at a slice of one int. -/
namespace Go.Proofs.Ytdpojcgeblbfeaa
open Go.RowKit

def repV (N : Nat) (x : Int) (k : Nat) : List Value := List.replicate k (.int .i64 x) ++ List.replicate (N - k) (.int .i64 0)
theorem repV_len {N k : Nat} {x : Int} (h : k ≤ N) : (repV N x k).length = N := by simp [repV]; omega
theorem intSize : (Try.prog.info? 3).map (·.size) = some 1 := by kernel_rfl
theorem repV_zero (N : Nat) (x : Int) : repV N x 0 = intCells (List.replicate N 0) := by simp [repV, intCells]
theorem repV_all (N : Nat) (x : Int) : repV N x N = intCells (List.replicate N x) := by simp [repV, intCells]
theorem repV_splice {N k m : Nat} {x : Int} : splice (repV N x k) k (List.replicate m (.int .i64 x)) = repV N x (k + m) := by
  unfold splice repV
  rw [List.take_left' (by simp), List.length_replicate, List.drop_append, List.length_replicate]
  rw [List.drop_of_length_le (by simp), List.drop_replicate, ← List.append_assoc, List.replicate_append_replicate]
  congr 2
  simp
  omega
theorem repV_at {N k j : Nat} {x : Int} (h : j < k) : (repV N x k)[j]? = some (.int .i64 x) := by
  unfold repV
  rw [List.getElem?_append_left (by simpa using h), List.getElem?_replicate, if_pos h]
theorem mulOne (N : Nat) (hN : N ≤ 1048576) (w : World) : Calls Try.prog 200 #[.int .u64 1, .int .u64 (N : Int)] w fun e w' => e = .returned (.tuple #[.int .u64 0, .int .u64 (N : Int)]) ∧ w = w' := by
  have h := Try.bits_Mul 1 N (by omega) (by omega) w
  rw [show 1 * N / 18446744073709551616 = 0 by omega, show 1 * N % 18446744073709551616 = N by omega] at h
  exact h.mono fun e w' ⟨h1, h2⟩ => ⟨h1, h2.symm⟩

set_option maxRecDepth 100000 in
set_option maxHeartbeats 2000000 in
theorem repeat_any (b N : Nat) (x : Int) (w : World) (hb : b < w.heap.size) (h0 : w.cell? ⟨b, 0, none⟩ = some (.int .i64 x)) (hN1 : 1 ≤ N) (hN : N ≤ 1048576) :
    Calls Try.prog 173 #[.slice (some ⟨b, 0, none⟩) 1 1, .int .i64 (N : Int)] w fun e w' =>
      e = .returned (.slice (some ⟨w.heap.size, 0, none⟩) N N) ∧ Blk w' w.heap.size 3 (intCells (List.replicate N x)).toArray ∧ Below w.heap.size w w' := by
  have hmk := make_ints N hN
  have H0 := Lib.hid h0
  have HZ : Hid (Blk (w.alloc (Obj.cells (intCells (List.replicate N 0)).toArray 3)) w.heap.size 3 (repV N x 0).toArray) := Lib.hid (by rw [repV_zero]; exact Blk.new w _ _)
  clear h0
  go_enter Try.func173, Try.ntmps173
  go_wp2_with (first | (go_at_call 200; refine (mulOne N hN _).mono ?_; rintro e w' ⟨rfl, rfl⟩) | (refine wpList_copy_splice rfl _ _ 28 28 rfl 3 Try.underlying28 intSize _ _ _ _ _ _ rfl rfl w.heap.size 0 (repV N x 0) 3 HZ.out [.int .i64 x] ?d2 ?d3 ?d4 ?d5 w.heap.size w ((Below.refl _ _).alloc (Nat.le_refl _) _) (Nat.le_refl _) ?_))
  case d2 => exact (Nat.min_eq_left hN1).symm
  case d3 =>
    intro j v hj
    cases j with
    | zero =>
      simp only [List.getElem?_cons_zero, Option.some.injEq] at hj
      subst hj
      exact H0.out
    | succ j => simp at hj
  case d4 => rw [repV_len (Nat.zero_le _)]; exact hN1
  case d5 => simp [Value.oneCell']
  intro w2 hg2 hb2
  have HG2 : Hid (Blk w2 w.heap.size 3 (repV N x 1).toArray) := Lib.hid (by
    have h := hg2.out
    rw [show [Value.int .i64 x] = List.replicate 1 (Value.int .i64 x) from rfl, repV_splice] at h
    exact h)
  clear hg2 hmk
  go_wp2
  go_loopw [8] (fun i wr => ∃ k : Nat, 1 ≤ k ∧ k ≤ N ∧ i = .int .i64 k ∧ Blk wr w.heap.size 3 (repV N x k).toArray ∧ Below w.heap.size w wr) (fun i _ => N - (intOf i).toNat)
  case atStart => exact ⟨1, Nat.le_refl _, hN1, rfl, HG2.out, hb2⟩
  case round =>
    obtain ⟨k, hk1, hkN, rfl, hblk, hb3⟩ := hrel
    have HK := Lib.hid hblk
    clear hblk
    by_cases hlt : k < N
    · obtain ⟨m, hm⟩ : ∃ m, m = Nat.min k (N - k) := ⟨_, rfl⟩
      have hm1 : 1 ≤ m := by rw [hm]; exact Nat.le_min.2 ⟨hk1, by omega⟩
      have hm2 : m ≤ k := by rw [hm]; exact Nat.min_le_left _ _
      have hm3 : m ≤ N - k := by rw [hm]; exact Nat.min_le_right _ _
      have HM := Lib.hid hm
      have HCS : Hid (∀ (j : Nat) (v : Value), (List.replicate m (Value.int .i64 x))[j]? = some v → wr.drew.cell? ((⟨w.heap.size, 0, none⟩ : Addr).add j) = some v) := Lib.hid (by
        intro j v hj
        rw [List.getElem?_replicate] at hj
        split at hj
        · rename_i hjm
          injection hj with hj
          subst hj
          have := HK.out.drew.cell (0 + j)
          rw [Nat.zero_add, List.getElem?_toArray, repV_at (by omega)] at this
          have e : (⟨w.heap.size, 0, none⟩ : Addr).add j = ⟨w.heap.size, j, none⟩ := by cases j <;> simp [Addr.add]
          rw [e, this]
        · cases hj)
      have hnk : ¬ N = k := by omega
      have hw : IntKind.i64.wrap ((k : Int) + (m : Int)) = (k : Int) + (m : Int) := by rw [IntKind.wrap_i64]; omega
      clear hm
      have hi0 : (0 : Int) ≤ (k : Int) := Int.natCast_nonneg _
      have hi1 : (k : Int) ≤ (N : Int) := by omega
      go_wp2_with fail
      go_region_held3 (fun _ => True) (trivial) (first | (refine step_copy_splice rfl (.tmp 41) (.tmp 44) 28 28 rfl 3 Try.underlying28 intSize (some ⟨w.heap.size, k, none⟩) (some ⟨w.heap.size, 0, none⟩) (N - k) (N - k) k N (by simp [Act.eval]) (by simp [Act.eval]) w.heap.size k (repV N x k) 3 HK.out.drew (List.replicate m (Value.int .i64 x)) (by rw [List.length_replicate]; exact HM.out) (fun _ => ⟨rfl, ⟨w.heap.size, 0, none⟩, rfl, HCS.out⟩) (by rw [List.length_replicate, repV_len hkN]; omega) (by intro v hv; rw [List.eq_of_mem_replicate hv]; rfl) w.heap.size w hb3.drew (Nat.le_refl _) ?_; intro w4 hg4 hb4))
      all_goals
        have HG4 : Hid (Blk w4 w.heap.size 3 (repV N x (k + m)).toArray) := Lib.hid (by
          have h := hg4.out
          rw [repV_splice] at h
          exact h)
        clear hg4
        have hlm : (List.replicate m (Value.int .i64 x)).length = m := by simp
        go_wp2
        exact ⟨⟨k + m, by omega, by omega, by go_num, HG4.out, hb4⟩, by simp [intOf]; omega⟩
    · have HF : Hid (Blk wr w.heap.size 3 (intCells (List.replicate N x)).toArray) := Lib.hid (by
        have h := HK.out
        rw [show k = N by omega, repV_all] at h
        exact h)
      go_wp2
      go_ret
      exact ⟨rfl, HF.out, hb3⟩
end Go.Proofs.Ytdpojcgeblbfeaa

/- The program's walkLayers. -/
namespace Go.Proofs.Ytdpojcgeblbfeaa
open Go.RowKit Go.Maps Go.WideMaps Go.WideElems Go.ChangeMaps

def mapSize (w : World) (B : Nat) : Nat := match w.heap[B]? with
  | some (.map es _) => es.size
  | _ => 0
theorem MS.size_eq {w : World} {B sz : Nat} {es : List (Int × Int)} (h : MS w B es sz) : mapSize w B = sz := by
  obtain ⟨n, D, ⟨es', clock, hb, F, _, rfl⟩, _, rfl⟩ := h
  simp [mapSize, hb, Maps.size, length_sorted]
theorem MS.of_cm' {w : World} {B : Nat} {es : List (Int × Int)} (h : CM w B es) : ∃ sz, sz ≤ es.length ∧ MS w B es sz := by
  obtain ⟨n, D, h1, h2, h3⟩ := h
  refine ⟨Maps.size D, ?_, n, D, h1, h3, rfl⟩
  obtain ⟨es', clock, hb, F, h4, rfl⟩ := h1
  simp [Maps.size, length_sorted]
  omega

structure DistOk (M : Nat) (es : List (Int × Int)) (v : Int) (ds : List Int) : Prop where
  len : ds.length = M
  near : ∀ u : Nat, u < M → (∃ k, Near es v k u) → ∃ d : Nat, ds[u]? = some (d : Int) ∧ Near es v d u ∧ ∀ d', d' < d → ¬ Near es v d' u
  far : ∀ u : Nat, u < M → ¬ (∃ k, Near es v k u) → ds[u]? = some (-1)
theorem DistOk.of_lay {M L : Nat} {es cur : List (Int × Int)} {v : Int} {ds : List Int} (h : Lay M es v (L + 1) ds cur) (hc : ∀ k u, Near es v k u → Near es v L u) : DistOk M es v ds where
  len := h.len
  near := fun u hu ⟨k, hk⟩ => by
    obtain ⟨d, _, h1, h2, h3⟩ := h.near u hu (hc k u hk).stay
    exact ⟨d, h1, h2, h3⟩
  far := fun u hu hn => h.far u hu fun g => hn ⟨_, g⟩
theorem edge_nat {M : Nat} {N : Int} {es : List (Int × Int)} (hB : edgesB N es = true) (hM : N = M) : ∀ e ∈ es, 0 ≤ e.1 ∧ e.1.toNat < M ∧ 0 ≤ e.2 ∧ e.2.toNat < M := fun e he => by
  have := all_edge hB he
  omega
theorem edge_wf {N : Int} {es : List (Int × Int)} (hB : edgesB N es = true) : ∀ e ∈ es, WfE e := fun e he => by
  have h1 := all_edge hB he
  have h2 := edgesB_lims hB
  exact ⟨WalkArith.wf_i64 (by omega), WalkArith.wf_i64 (by omega)⟩

set_option maxRecDepth 100000 in
set_option maxHeartbeats 4000000 in
theorem walkLayers_any (M v c : Nat) (A : Option Addr) (es : List (Int × Int)) (w : World) (hB : edgesB M es = true) (hv : v < M) (hE : EdgeS w w.heap.size A es) :
    Calls Try.prog 128 #[.agg #[.int .i64 (M : Int), .slice A es.length c], .int .i64 (v : Int)] w fun e w' => ∃ (g : Nat) (ds : List Int),
      e = .returned (.slice (some ⟨g, 0, none⟩) M M) ∧ DistOk M es v ds ∧ Blk w' g 3 (intCells ds).toArray ∧ w.heap.size ≤ g ∧ Below w.heap.size w w' := by
  obtain ⟨hM1, hM6, hn12⟩ := edgesB_lims hB
  have HEN := Lib.hid (edge_nat hB (M := M) rfl)
  have HWF := Lib.hid (edge_wf hB)
  have HE := Lib.hid hE
  clear hE hB
  have hx1 := (Blk.new w 25 #[.int .i64 (M : Int), .slice A es.length c]).alloc (Obj.cells #[.int .i64 (-1)] 3)
  have hx2 := (Blk.new (w.alloc (Obj.cells #[.int .i64 (M : Int), .slice A es.length c] 25)) 3 #[.int .i64 (-1)]).cell 0
  have hb0 : Below w.heap.size w ((w.alloc (Obj.cells #[.int .i64 (M : Int), .slice A es.length c] 25)).alloc (Obj.cells #[.int .i64 (-1)] 3)) := ((Below.refl _ _).alloc (Nat.le_refl _) _).alloc (by simp) _
  have hsz : w.heap.size + 1 < ((w.alloc (Obj.cells #[.int .i64 (M : Int), .slice A es.length c] 25)).alloc (Obj.cells #[.int .i64 (-1)] 3)).heap.size := by simp
  rw [World.size_alloc] at hx2
  go_enter Try.func128, Try.ntmps128
  go_wp2_with fail
  obtain ⟨W, hW⟩ : ∃ W : World, W = ((w.alloc (Obj.cells #[.int .i64 (M : Int), .slice A es.length c] 25)).alloc (Obj.cells #[.int .i64 (-1)] 3)) := ⟨_, rfl⟩
  rw [← hW] at hx1 hx2 hb0 hsz ⊢
  clear hW
  refine (repeat_any (w.heap.size + 1) M (-1) W hsz (by rw [hx2]; rfl) (by omega) (by omega)).mono ?_
  rintro e w2 ⟨rfl, hblk2, hb2⟩
  have hx3 := hx1.below hb2 hx1.lt
  have c0 : w2.cell? ⟨w.heap.size, 0, none⟩ = some (.int .i64 (M : Int)) := by rw [hx3.cell]; rfl
  have c1 : w2.cell? ⟨w.heap.size, 1, none⟩ = some (.slice A es.length c) := by rw [hx3.cell]; rfl
  have hv0 : (0 : Int) ≤ (v : Int) := Int.natCast_nonneg _
  have hv1 : (v : Int) < (M : Int) := by omega
  have cv := blk_get (u := v) (x := -1) hblk2 (by rw [List.getElem?_replicate, if_pos hv])
  have fv := hblk2.frozen v
  have hB2 : Below w.heap.size w w2 := hb0.trans (hb2.mono hb0.size)
  have hs2 := hB2.size
  have hs3 := hb2.size
  have hlt := hblk2.lt
  have HK2 := Lib.hid hblk2
  clear hx1 hx2 hx3 hblk2
  go_wp2_with fail
  have hk3 := blk_set1 HK2.out v 0
  have hB3 : Below w.heap.size w (w2.setCell ⟨W.heap.size, v, none⟩ (.int .i64 0)) := hB2.setCell (by simp only; omega) _
  have hsz3 : w2.heap.size ≤ (w2.setCell ⟨W.heap.size, v, none⟩ (.int .i64 0)).heap.size := by simp
  obtain ⟨w3, hw3⟩ : ∃ x : World, x = w2.setCell ⟨W.heap.size, v, none⟩ (.int .i64 0) := ⟨_, rfl⟩
  rw [← hw3] at hk3 hB3 hsz3 ⊢
  clear hw3 cv fv c0 c1 HK2
  refine (countEdges_any _ _ _ _ _ (by omega) HWF.out (HE.out.up_ hB3)).mono ?_
  rintro e w4 ⟨rfl, hcm, hb4⟩
  obtain ⟨sz0, hsz0, hms⟩ := MS.of_cm' hcm
  have hk4 := hk3.below hb4 hk3.lt
  have hB4 : Below w.heap.size w w4 := hB3.trans (hb4.mono hB3.size)
  have hg3 := hk3.lt
  have HL0 := Lib.hid (Lay.start M v es hv)
  have HK4 := Lib.hid hk4
  have HM4 := Lib.hid hms
  clear hk3 hcm hb4 hk4 hms
  obtain ⟨Bm, hBm⟩ : ∃ x, x = w3.heap.size + 1 := ⟨_, rfl⟩
  rw [← hBm] at HM4 ⊢
  obtain ⟨g, hg⟩ : ∃ x, x = W.heap.size := ⟨_, rfl⟩
  rw [← hg] at HK4 hg3 hlt ⊢
  have hgw : w.heap.size ≤ g := by omega
  have hBw : w.heap.size ≤ Bm := by omega
  have hne : Bm ≠ g := by omega
  clear hBm hg
  go_wp2_with fail
  go_loopw [7] (fun i wr => ∃ (L : Nat) (cur : List (Int × Int)) (ds : List Int) (sz : Nat), i = .int .i64 L ∧ L + sz ≤ sz0 ∧ MS wr Bm cur sz ∧ Blk wr g 3 (intCells ds).toArray ∧ Lay M es v L ds cur ∧ (∀ e ∈ cur, e ∈ es) ∧ Below w.heap.size w wr) (fun _ wr => mapSize wr Bm)
  case atStart => exact ⟨0, es, _, sz0, rfl, by omega, HM4.out, HK4.out, HL0.out, fun e h => h, hB4⟩
  case round =>
    obtain ⟨L, cur, ds, sz, rfl, hLs, hms, hblk, hlay, hsub, hb⟩ := hrel
    have HMS := Lib.hid hms
    have HLY := Lib.hid hlay
    have HSU := Lib.hid hsub
    have HBK := Lib.hid hblk
    have hlen := hlay.len
    clear hms hblk hlay hsub
    have hc := cross_any Bm g M cur ds L sz wr (by omega) (fun e he => ⟨HWF.out e (HSU.out e he), by have := HEN.out e (HSU.out e he); rw [hlen]; exact this⟩) HMS.out HBK.out hne
    rw [hlen] at hc
    have HC := Lib.hid hc
    clear hc
    go_wp2_with fail
    refine HC.out.mono ?_
    rintro e w5 ⟨left, esc, dsc, sz', rfl, hmid, hleft, hms5, hblk5, hbel5⟩
    have hB5 : Below w.heap.size w w5 := hb.trans (hbel5 _ hBw hgw hb.size)
    have HN5 := Lib.hid (HLY.out.next HEN.out hmid hleft)
    have HS5 : Hid (∀ e ∈ esc, e ∈ es) := Lib.hid fun e he => HSU.out e ((hmid.rest e).1 he).1
    have HM5 := Lib.hid hms5
    have HK5 := Lib.hid hblk5
    by_cases hz : sz' < sz
    · have hz1 : decide (sz' < sz) = true := decide_eq_true hz
      clear hmid hleft hms5 hblk5 hbel5
      go_wp2
      exact ⟨⟨L + 1, esc, dsc, sz', by go_num, by omega, HM5.out, HK5.out, HN5.out, HS5.out, hB5⟩, by rw [HM5.out.size_eq, HMS.out.size_eq]; exact hz⟩
    · have hz1 : decide (sz' < sz) = false := decide_eq_false hz
      have HD := Lib.hid (DistOk.of_lay HN5.out (HLY.out.closed HEN.out hmid hleft hz))
      clear hmid hleft hms5 hblk5 hbel5
      go_wp2
      go_ret
      exact ⟨g, dsc, rfl, HD.out, HK5.out, hgw, hB5⟩
end Go.Proofs.Ytdpojcgeblbfeaa

/- The program's GraphOk. -/
namespace Go.Proofs.Ytdpojcgeblbfeaa
open Go.RowKit

theorem dist_conn {M : Nat} {es : List (Int × Int)} {ds : List Int} (h : DistOk M es 0 ds) : (!ds.contains (-1)) = connB M es := by
  by_cases hc : Conn M es
  · rw [connB_t hc]
    have : ¬ (-1 : Int) ∈ ds := by
      intro hm
      obtain ⟨u, hu⟩ := List.getElem?_of_mem hm
      have hul : u < M := by have := (List.getElem?_eq_some_iff.1 hu).1; have := h.len; omega
      obtain ⟨d, hd, _⟩ := h.near u hul (hc u (by omega) (by omega))
      rw [hd] at hu
      injection hu with hu
      omega
    simp [this]
  · rw [connB_f hc]
    have : (-1 : Int) ∈ ds := by
      apply Classical.byContradiction
      intro hn
      refine hc fun u h0 h1 => ?_
      apply Classical.byContradiction
      intro hk
      have := h.far u.toNat (by omega) (by rw [show ((u.toNat : Nat) : Int) = u by omega]; exact hk)
      exact hn (List.mem_of_getElem? this)
    simp [this]

set_option maxHeartbeats 1000000 in
theorem isConnected_any (M c : Nat) (A : Option Addr) (es : List (Int × Int)) (w : World) (hB : edgesB M es = true) (hE : EdgeS w w.heap.size A es) :
    Calls Try.prog 81 #[.agg #[.int .i64 (M : Int), .slice A es.length c]] w fun e w' => e = .returned (.bool (connB M es)) ∧ Below w.heap.size w w' := by
  obtain ⟨hM1, hM6, hn12⟩ := edgesB_lims hB
  have HE := Lib.hid hE
  have HB := Lib.hid hB
  clear hE hB
  have hb0 : Below w.heap.size w (w.alloc (Obj.cells #[.int .i64 (M : Int), .slice A es.length c] 25)) := (Below.refl _ _).alloc (Nat.le_refl _) _
  go_enter Try.func81, Try.ntmps81
  go_wp2_with fail
  refine (walkLayers_any M 0 c A es _ HB.out (by omega) (HE.out.up_ hb0)).mono ?_
  rintro e w2 ⟨g, ds, rfl, hd, hblk, hg, hb2⟩
  have hB2 : Below w.heap.size w w2 := hb0.trans (hb2.mono hb0.size)
  have hlen := hd.len
  have hcc := Try.slices_Contains_int g 0 M M ds (-1) w2 (by omega) (by omega) (fun j hj => by
    rw [Nat.zero_add]
    exact blk_get hblk (by rw [List.getD_eq_getElem?_getD, List.getElem?_eq_getElem hj]; rfl))
  rw [List.take_of_length_le (by omega)] at hcc
  have HC := Lib.hid hcc
  have HD := Lib.hid (dist_conn hd)
  clear hcc hd hblk hb2
  go_wp2_with fail
  refine HC.out.mono ?_
  rintro e w3 ⟨rfl, rfl⟩
  go_wp2
  go_ret
  exact ⟨ret_boolE (by simpa using HD.out), hB2⟩

set_option maxHeartbeats 1000000 in
theorem implGraphOk (N : Int) (A : Option Addr) (c : Nat) (es : List (Int × Int)) (w : World) (hn : es.length ≤ 1048576) (hE : EdgeS w w.heap.size A es) :
    Calls Try.prog 59 #[.agg #[.int .i64 N, .slice A es.length c]] w fun e w' => e = .returned (.bool (graphB N es)) ∧ Below w.heap.size w w' := by
  have HE := Lib.hid hE
  clear hE
  have hb0 : Below w.heap.size w (w.alloc (Obj.cells #[.int .i64 N, .slice A es.length c] 25)) := (Below.refl _ _).alloc (Nat.le_refl _) _
  cases hB : edgesB N es with
  | false =>
    have HF := Lib.hid (graphB_e hB)
    go_enter Try.func59, Try.ntmps59
    go_wp2_with fail
    refine (implEdgesOk _ _ _ _ _ (by omega) (HE.out.up_ hb0)).mono ?_
    rintro e w1 ⟨rfl, hb1⟩
    have hbb : Below w.heap.size w w1 := hb0.trans (hb1.mono hb0.size)
    clear hb0 hb1
    go_wp2
    go_ret
    exact ⟨ret_boolE HF.out.symm, hbb⟩
  | true =>
    obtain ⟨hN1, hN6, hn12⟩ := edgesB_lims hB
    obtain ⟨M, rfl⟩ : ∃ M : Nat, N = (M : Int) := ⟨N.toNat, by omega⟩
    have HB := Lib.hid hB
    cases hO : ordB es with
    | false =>
      have HF := Lib.hid (graphB_o (N := M) hO)
      go_enter Try.func59, Try.ntmps59
      go_wp2_with fail
      refine (implEdgesOk _ _ _ _ _ (by omega) (HE.out.up_ hb0)).mono ?_
      rintro e w1 ⟨rfl, hb1⟩
      have hbb : Below w.heap.size w w1 := hb0.trans (hb1.mono hb0.size)
      have hx1 := (Blk.new w 25 #[.int .i64 (M : Int), .slice A es.length c]).below hb1 (by simp)
      have c0 : w1.cell? ⟨w.heap.size, 0, none⟩ = some (.int .i64 (M : Int)) := by rw [hx1.cell]; rfl
      have c1 : w1.cell? ⟨w.heap.size, 1, none⟩ = some (.slice A es.length c) := by rw [hx1.cell]; rfl
      clear hb0 hb1 hx1
      go_wp2_with fail
      refine (isSorted_any _ _ _ _ hn (HE.out.up_ hbb)).mono ?_
      rintro e w2 ⟨rfl, hb2⟩
      have hb3 : Below w.heap.size w w2 := hbb.trans (hb2.mono hbb.size)
      go_wp2
      go_ret
      exact ⟨ret_boolE HF.out.symm, hb3⟩
    | true =>
      have HF := Lib.hid (graphB_c hB hO)
      go_enter Try.func59, Try.ntmps59
      go_wp2_with fail
      refine (implEdgesOk _ _ _ _ _ (by omega) (HE.out.up_ hb0)).mono ?_
      rintro e w1 ⟨rfl, hb1⟩
      have hbb : Below w.heap.size w w1 := hb0.trans (hb1.mono hb0.size)
      have hx1 := (Blk.new w 25 #[.int .i64 (M : Int), .slice A es.length c]).below hb1 (by simp)
      have c0 : w1.cell? ⟨w.heap.size, 0, none⟩ = some (.int .i64 (M : Int)) := by rw [hx1.cell]; rfl
      have c1 : w1.cell? ⟨w.heap.size, 1, none⟩ = some (.slice A es.length c) := by rw [hx1.cell]; rfl
      clear hb0 hb1
      go_wp2_with fail
      refine (isSorted_any _ _ _ _ hn (HE.out.up_ hbb)).mono ?_
      rintro e w2 ⟨rfl, hb2⟩
      have hb3 : Below w.heap.size w w2 := hbb.trans (hb2.mono hbb.size)
      have hx2 := hx1.below hb2 hx1.lt
      clear c0 c1 hx1
      have c0 : w2.cell? ⟨w.heap.size, 0, none⟩ = some (.int .i64 (M : Int)) := by rw [hx2.cell]; rfl
      have c1 : w2.cell? ⟨w.heap.size, 1, none⟩ = some (.slice A es.length c) := by rw [hx2.cell]; rfl
      clear hx2 hb2 hbb
      go_wp2_with fail
      refine (isConnected_any M _ _ _ _ HB.out (HE.out.up_ hb3)).mono ?_
      rintro e w3 ⟨rfl, hb4⟩
      have hb5 : Below w.heap.size w w3 := hb3.trans (hb4.mono hb3.size)
      go_wp2
      go_ret
      exact ⟨ret_boolE HF.out.symm, hb5⟩

end Go.Proofs.Ytdpojcgeblbfeaa
