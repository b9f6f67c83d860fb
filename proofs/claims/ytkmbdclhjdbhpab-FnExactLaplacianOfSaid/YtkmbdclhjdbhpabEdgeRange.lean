/- Ranging over a map that counts edges: the laws at the operations, in words on edges. -/
import Derived.Test.YtkmbdclhjdbhpabEdgeMap
import Derived.Maps.RangeWalk
namespace Go.Proofs.Ytkmbdclhjdbhpab
open Go.RowKit Go.Maps Go.WideMaps Go.WideElems Go.ChangeMaps
set_option maxRecDepth 100000

def RG (w : World) (B r : Nat) (es : List (Int × Int)) (left : Int × Int → Bool) (cnt : Nat) : Prop :=
  ∃ (n : Nat) (D : DataW Unit) (lf : Lit → Bool), w.ranges Try.prog 67 (plainElem Try.prog 3) B r n D lf cnt ∧ n ≤ es.length ∧ Cnt D es ∧ ∀ e, WfE e → lf (ek e) = left e
section
variable {w w' : World} {B r cnt : Nat} {es : List (Int × Int)} {left : Int × Int → Bool}
theorem RG.cm (h : RG w B r es left cnt) : CM w B es := by
  obtain ⟨n, D, lf, h1, h2, h3, _⟩ := h
  exact ⟨n, D, h1.owns, h2, h3⟩
theorem RG.left_eq (h : RG w B r es left cnt) : w.rangeLeft B r = cnt := by
  obtain ⟨n, D, lf, h1, h2, h3, _⟩ := h
  exact h1.left_eq
theorem RG.lt (h : RG w B r es left cnt) : r < w.heap.size := by
  obtain ⟨n, D, lf, h1, h2, h3, _⟩ := h
  exact h1.lt
theorem RG.kept {row : Option Nat} (h : RG w B r es left cnt) (hg : w.grownBy w' row) (hb : some B ≠ row) (hr : some r ≠ row) : RG w' B r es left cnt := by
  obtain ⟨n, D, lf, h1, h2, h3, h4⟩ := h
  exact ⟨n, D, lf, h1.kept hg hb hr, h2, h3, h4⟩
theorem RG.alloc (h : RG w B r es left cnt) (o : Obj) : RG (w.alloc o) B r es left cnt := by
  obtain ⟨n, D, lf, h1, h2, h3, h4⟩ := h
  exact ⟨n, D, lf, h1.alloc o, h2, h3, h4⟩
theorem RG.below (h : RG w B r es left cnt) (hb : Below w.heap.size w w') : RG w' B r es left cnt :=
  h.kept (row := none) ⟨hb.os, hb.tape, hb.output, hb.size, fun i hi _ => hb.block i hi⟩ (by simp) (by simp)
end
theorem below_none {w w' : World} (h : w.grownBy w' none) : Below w.heap.size w w' := ⟨h.os, h.tape, h.output, h.size, fun i hi => h.block i hi (by simp)⟩
theorem ek_same {e f : Int × Int} (he : WfE e) (hf : WfE f) : (ek f).sameKey (ek e) = (f == e) := by
  by_cases h : f = e
  · subst h
    rw [WideAt.sameKey_self (ek_key hf)]
    simp
  · rw [sameKey_ne (fun h2 => h (ek_inj hf he h2))]
    simp [h]

section
variable (w : World) {ops : Array Oper} {rest : List Oper} {o : Oper} {a : Act} {Q : Exit → Act → World → Prop}
theorem wp_range_edges (hg : o.guard = none) (m : Operand) (hop : o.op = Op.range 94 m) (B : Nat) (es : List (Int × Int)) (hm : a.eval m = .map (some B)) (h : CM w B es)
    (hK : ∀ w' cnt, RG w' B w.heap.size es (fun e => es.contains e) cnt → Below w.heap.size w w' → w'.heap.size = w.heap.size + 1 → wpList Try.prog ops Q rest (a.put o.dst (.pointer (some ⟨w.heap.size, 0, none⟩))) w') :
    wpList Try.prog ops Q (o :: rest) a w := by
  obtain ⟨n, D, h1, h2, h3⟩ := h
  exact wpList_range_own w hg m _ hop _ _ edgeKeyed Try.underlying94 _ B n D hm h1 fun w' q1 q2 q3 => hK w' _ ⟨n, D, _, q1, h2, h3, fun e he => h3.2.2 e he⟩ (below_none q2) q3
theorem wp_next_edges (hg : o.guard = none) (it : Operand) (hop : o.op = Op.next it false) (B r : Nat) (es : List (Int × Int)) (left : Int × Int → Bool) (cnt : Nat)
    (hit : a.eval it = .pointer (some ⟨r, 0, none⟩)) (h : RG w B r es left cnt)
    (hDone : (∀ e, WfE e → left e = false) → wpList Try.prog ops Q rest (a.put o.dst (.tuple #[.bool false])) w)
    (hMore : ∀ (e : Int × Int) (w' : World) (cnt' : Nat), WfE e → left e = true → RG w' B r es (fun f => left f && !(f == e)) cnt' → cnt' < cnt → w.grownBy w' (some r) → w'.heap.size = w.heap.size →
      (Instr.entry (.pointer (some ⟨r, 0, none⟩))).run Try.prog w' = .ok (.tuple #[.agg #[.int .i64 e.1, .int .i64 e.2], .int .i64 (es.count e)]) w' →
      wpList Try.prog ops Q rest (a.put o.dst (.tuple #[.bool true, .agg #[.int .i64 e.1, .int .i64 e.2], .int .i64 (es.count e)])) w') :
    wpList Try.prog ops Q (o :: rest) a w := by
  obtain ⟨n, D, lf, h1, h2, h3, h4⟩ := h
  refine wpList_next_ranges w hg it hop 67 edgeKeyed (plainElem Try.prog 3) edgeV (Value.int .i64)
    (fun key kl hk => by obtain ⟨e, rfl, _, _⟩ := keyOf_edge_inv hk; exact ⟨e, rfl⟩) (fun v y hv => by obtain ⟨c, rfl, _⟩ := plainElem_int_inv Try.underlying3 hv; exact ⟨c, rfl⟩)
    B r n D lf cnt hit h1 (fun _ hl => hDone fun e he => by rw [← h4 e he]; exact hl _) ?_
  intro x c kl y w' cnt' hk hl hv hat hrg hlt hgr hsz hen
  obtain ⟨e, ex, rfl, hwe⟩ := keyOf_edge_inv hk
  have hxe : x = e := by
    simp only [edgeV, Value.agg.injEq] at ex
    have := congrArg Array.toList ex
    simp at this
    exact Prod.ext this.1 this.2
  subst hxe
  obtain ⟨c', ec, rfl, hwc⟩ := plainElem_int_inv Try.underlying3 hv
  cases ec
  have hc : c = (es.count x : Int) := by
    have h5 := h3.2.1 x hwe
    rw [hat] at h5
    injection h5 with h5
    injection h5
  subst hc
  exact hMore x w' cnt' hwe (by rw [← h4 x hwe]; exact hl) ⟨n, D, _, hrg, h2, h3, fun f hf => by simp only [h4 f hf, ek_same hwe hf]⟩ hlt hgr hsz hen
end
end Go.Proofs.Ytkmbdclhjdbhpab
