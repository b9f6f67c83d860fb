/- A map of edges with its size: ranging over it and deleting in the range. -/
import Derived.Test.YtkmbdclhjdbhpabEdgeRange
namespace Go.Proofs.Ytkmbdclhjdbhpab
open Go.RowKit Go.Maps Go.WideMaps Go.WideElems Go.ChangeMaps
set_option maxRecDepth 100000

def without (es : List (Int × Int)) (e : Int × Int) : List (Int × Int) := es.filter fun f => !(f == e)
theorem mem_without {es : List (Int × Int)} {e f : Int × Int} : f ∈ without es e ↔ f ∈ es ∧ f ≠ e := by simp [without]
theorem Cnt.del {D : DataW Unit} {es : List (Int × Int)} {e : Int × Int} (h : Cnt D es) (he : WfE e) : Cnt (D.del (ek e)) (without es e) := by
  obtain ⟨h1, h2, h3⟩ := h
  refine ⟨h1.del _, ?_, ?_⟩
  · intro f hf
    by_cases hfe : f = e
    · subst hfe
      rw [atKey_del_same, List.count_eq_zero_of_not_mem (fun hm => (mem_without.1 hm).2 rfl)]
      rfl
    · rw [atKey_del_other (fun h => hfe (ek_inj hf he h)), h2 f hf, without, List.count_filter (by simp [hfe])]
  · intro f hf
    by_cases hfe : f = e
    · subst hfe
      rw [has_del_same]
      symm
      simp [without]
    · rw [has_del_other (fun h => hfe (ek_inj hf he h)), h3 f hf]
      rw [Bool.eq_iff_iff, List.contains_iff_mem, List.contains_iff_mem, mem_without]
      simp [hfe]

def MS (w : World) (B : Nat) (es : List (Int × Int)) (sz : Nat) : Prop := ∃ (n : Nat) (D : DataW Unit), w.ownsMap Try.prog 67 (plainElem Try.prog 3) B n D ∧ Cnt D es ∧ Maps.size D = sz
def RS (w : World) (B r : Nat) (es : List (Int × Int)) (left : Int × Int → Bool) (cnt sz : Nat) : Prop :=
  ∃ (n : Nat) (D : DataW Unit) (lf : Lit → Bool), w.ranges Try.prog 67 (plainElem Try.prog 3) B r n D lf cnt ∧ Cnt D es ∧ Maps.size D = sz ∧ ∀ e, WfE e → lf (ek e) = left e
section
variable {w w' : World} {B r cnt sz : Nat} {es : List (Int × Int)} {left : Int × Int → Bool}
theorem MS.of_cm (h : CM w B es) : ∃ sz, MS w B es sz := by
  obtain ⟨n, D, h1, _, h3⟩ := h
  exact ⟨_, n, D, h1, h3, rfl⟩
theorem MS.kept {row : Option Nat} (h : MS w B es sz) (hg : w.grownBy w' row) (hne : some B ≠ row) : MS w' B es sz := by
  obtain ⟨n, D, h1, h2, h3⟩ := h
  exact ⟨n, D, h1.kept hg hne, h2, h3⟩
theorem MS.lt (h : MS w B es sz) : B < w.heap.size := by
  obtain ⟨n, D, h1, _, _⟩ := h
  exact h1.lt
theorem MS.alloc (h : MS w B es sz) (o : Obj) : MS (w.alloc o) B es sz := by
  obtain ⟨n, D, h1, h2, h3⟩ := h
  exact ⟨n, D, h1.alloc o, h2, h3⟩
theorem RS.ms (h : RS w B r es left cnt sz) : MS w B es sz := by
  obtain ⟨n, D, lf, h1, h2, h3, _⟩ := h
  exact ⟨n, D, h1.owns, h2, h3⟩
theorem RS.left_eq (h : RS w B r es left cnt sz) : w.rangeLeft B r = cnt := by
  obtain ⟨n, D, lf, h1, _⟩ := h
  exact h1.left_eq
theorem RS.lt (h : RS w B r es left cnt sz) : r < w.heap.size := by
  obtain ⟨n, D, lf, h1, _⟩ := h
  exact h1.lt
theorem RS.kept {row : Option Nat} (h : RS w B r es left cnt sz) (hg : w.grownBy w' row) (hb : some B ≠ row) (hr : some r ≠ row) : RS w' B r es left cnt sz := by
  obtain ⟨n, D, lf, h1, h2, h3, h4⟩ := h
  exact ⟨n, D, lf, h1.kept hg hb hr, h2, h3, h4⟩
theorem RS.alloc (h : RS w B r es left cnt sz) (o : Obj) : RS (w.alloc o) B r es left cnt sz := by
  obtain ⟨n, D, lf, h1, h2, h3, h4⟩ := h
  exact ⟨n, D, lf, h1.alloc o, h2, h3, h4⟩
theorem setCell_grown (w : World) (g i : Nat) (u : Value) : w.grownBy (w.setCell ⟨g, i, none⟩ u) (some g) :=
  ⟨rfl, rfl, rfl, by simp [World.setCell], fun k _ hk => Below.heap_setCell w ⟨g, i, none⟩ u k (fun e => hk (by rw [e]))⟩
theorem RS.set (h : RS w B r es left cnt sz) (g i : Nat) (u : Value) (hb : B ≠ g) (hr : r ≠ g) : RS (w.setCell ⟨g, i, none⟩ u) B r es left cnt sz :=
  h.kept (setCell_grown w g i u) (by simpa using hb) (by simpa using hr)
end
section
variable (w : World) {ops : Array Oper} {rest : List Oper} {o : Oper} {a : Act} {Q : Exit → Act → World → Prop}
theorem wp_range_ms (hg : o.guard = none) (m : Operand) (hop : o.op = Op.range 94 m) (B sz : Nat) (es : List (Int × Int)) (hm : a.eval m = .map (some B)) (h : MS w B es sz)
    (hK : ∀ w' cnt, RS w' B w.heap.size es (fun e => es.contains e) cnt sz → Below w.heap.size w w' → w'.heap.size = w.heap.size + 1 → wpList Try.prog ops Q rest (a.put o.dst (.pointer (some ⟨w.heap.size, 0, none⟩))) w') :
    wpList Try.prog ops Q (o :: rest) a w := by
  obtain ⟨n, D, h1, h3, h4⟩ := h
  exact wpList_range_own w hg m _ hop _ _ edgeKeyed Try.underlying94 _ B n D hm h1 fun w' q1 q2 q3 => hK w' _ ⟨n, D, _, q1, h3, h4, fun e he => h3.2.2 e he⟩ (below_none q2) q3
theorem wp_next_rs (hg : o.guard = none) (it : Operand) (hop : o.op = Op.next it false) (B r : Nat) (es : List (Int × Int)) (left : Int × Int → Bool) (cnt sz : Nat)
    (hit : a.eval it = .pointer (some ⟨r, 0, none⟩)) (h : RS w B r es left cnt sz)
    (hDone : (∀ e, WfE e → left e = false) → wpList Try.prog ops Q rest (a.put o.dst (.tuple #[.bool false])) w)
    (hMore : ∀ (e : Int × Int) (w' : World) (cnt' : Nat), WfE e → left e = true → RS w' B r es (fun f => left f && !(f == e)) cnt' sz → cnt' < cnt → w.grownBy w' (some r) → w'.heap.size = w.heap.size →
      (Instr.entry (.pointer (some ⟨r, 0, none⟩))).run Try.prog w' = .ok (.tuple #[.agg #[.int .i64 e.1, .int .i64 e.2], .int .i64 (es.count e)]) w' →
      wpList Try.prog ops Q rest (a.put o.dst (.tuple #[.bool true, .agg #[.int .i64 e.1, .int .i64 e.2], .int .i64 (es.count e)])) w') :
    wpList Try.prog ops Q (o :: rest) a w := by
  obtain ⟨n, D, lf, h1, h3, hsz, h4⟩ := h
  refine wpList_next_ranges w hg it hop 67 edgeKeyed (plainElem Try.prog 3) edgeV (Value.int .i64)
    (fun key kl hk => by obtain ⟨e, rfl, _, _⟩ := keyOf_edge_inv hk; exact ⟨e, rfl⟩) (fun v y hv => by obtain ⟨c, rfl, _⟩ := plainElem_int_inv Try.underlying3 hv; exact ⟨c, rfl⟩)
    B r n D lf cnt hit h1 (fun _ hl => hDone fun e he => by rw [← h4 e he]; exact hl _) ?_
  intro x c kl y w' cnt' hk hl hv hat hrg hlt hgr hsz' hen
  obtain ⟨e, ex, rfl, hwe⟩ := keyOf_edge_inv hk
  have hxe : x = e := by
    simp only [edgeV, Value.agg.injEq] at ex
    have := congrArg Array.toList ex
    simp at this
    exact Prod.ext this.1 this.2
  subst hxe
  obtain ⟨c', ec, rfl, hwc⟩ := plainElem_int_inv Try.underlying3 hv
  cases ec
  have hc : c = (es.count x : Int) := by
    have h5 := h3.2.1 x hwe
    rw [hat] at h5
    injection h5 with h5
    injection h5
  subst hc
  exact hMore x w' cnt' hwe (by rw [← h4 x hwe]; exact hl) ⟨n, D, _, hrg, h3, hsz, fun f hf => by simp only [h4 f hf, ek_same hwe hf]⟩ hlt hgr hsz' hen
theorem wp_delete_rs (hg : o.guard = none) (m x : Operand) (hop : o.op = Op.call { callee := Callee.builtin Builtin.delete, args := #[m, x], argTypes := #[94, 67] }) (B r : Nat) (es : List (Int × Int)) (left : Int × Int → Bool) (cnt sz : Nat)
    (hm : a.eval m = .map (some B)) (e : Int × Int) (hx : a.eval x = .agg #[.int .i64 e.1, .int .i64 e.2]) (he : WfE e) (hin : e ∈ es) (h : RS w B r es left cnt sz)
    (hK : ∀ w' cnt' sz', RS w' B r (without es e) (fun f => left f && !(f == e)) cnt' sz' → sz' + 1 = sz → cnt' ≤ cnt → w.grownBy w' (some B) → (∀ p, w'.frozen? p = w.frozen? p) → wpList Try.prog ops Q rest (a.put o.dst (.tuple #[])) w') :
    wpList Try.prog ops Q (o :: rest) a w := by
  obtain ⟨n, D, lf, h1, h3, hsz, h4⟩ := h
  refine wpList_delete_ranges w hg m x _ _ hop _ edgeKeyed Try.underlying94 _ B r n D lf cnt hm h1 (edgeV e) (ek e) hx (keyOf_edge he) ?_
  intro w' cnt' hrg hle ht
  refine hK w' cnt' (Maps.size (D.del (ek e))) ⟨n, _, _, hrg, h3.del he, rfl, fun f hf => by simp only [h4 f hf, ek_same he hf]⟩ ?_ hle ht.grown ht.frozen
  have := size_del (k := ek e) (h1.owns.tidy edgeKeyed)
  rw [h3.2.2 e he, if_pos (List.contains_iff_mem.2 hin), hsz] at this
  exact this
theorem wp_len_ms (hg : o.guard = none) (m : Operand) (hop : o.op = Op.call { callee := Callee.builtin Builtin.len, args := #[m], argTypes := #[94] }) (B sz : Nat) (es : List (Int × Int)) (hm : a.eval m = .map (some B)) (h : MS w B es sz)
    (hK : wpList Try.prog ops Q rest (a.put o.dst (.int .i64 (sz : Int))) w) : wpList Try.prog ops Q (o :: rest) a w := by
  obtain ⟨n, D, h1, h3, h4⟩ := h
  refine wpList_len_own w hg m _ hop _ _ Try.underlying94 _ B n D hm h1 ?_
  rw [h4]
  exact hK
end
end Go.Proofs.Ytkmbdclhjdbhpab
