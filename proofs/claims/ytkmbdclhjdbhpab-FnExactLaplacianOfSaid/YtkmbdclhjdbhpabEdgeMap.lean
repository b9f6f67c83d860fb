/- A map from edges to ints that counts the edges of a list: what it reads as, and what 'm[e]++' does to it. -/
import Derived.Test.YtkmbdclhjdbhpabBase
import Derived.DeepKeys4
import Derived.WideKeyEntry
import Derived.Maps.RangeWalk
import Derived.Maps.OwnOps
import Derived.Maps.OwnSet
import Derived.Maps.Views
import Derived.WalkKit
import Derived.WalkArith
namespace Go.Proofs.Ytkmbdclhjdbhpab
open Go.RowKit Go.Maps Go.WideMaps Go.WideElems Go.ChangeMaps Go.MapKept
set_option maxRecDepth 100000

def WfE (e : Int × Int) : Prop := (Lit.int .i64 e.1).wf = true ∧ (Lit.int .i64 e.2).wf = true
def edgeV (e : Int × Int) : Value := .agg #[.int .i64 e.1, .int .i64 e.2]
def ek (e : Int × Int) : Lit := .string (keyBytes [.int .i64 e.1, .int .i64 e.2])

theorem edgeRow : 67 < Try.prog.types.size := of_decide_eq_true (by kernel_rfl)
theorem edgeWide : (match Try.prog.underlying 67 with | some (.array _ _) | some (.struct _) => true | _ => false) = true := by rw [Try.underlying67]
set_option maxRecDepth 100000 in
theorem edgeLaw : KeyLaw Try.prog 67 := deep_law_laid Try.laidOut (m := 2) (by omega) edgeRow (by kernel_rfl) edgeWide
theorem edgeKeyed : Keyed Try.prog 67 := Keyed.of_law edgeLaw
theorem cellsE : Try.prog.cellsOf 67 = 2 := by kernel_rfl
theorem cellsI : Try.prog.cellsOf 3 = 1 := by kernel_rfl
theorem keyTypeE : Try.prog.keyType 67 = true := by kernel_rfl
theorem zeroInt (w : World) : (zeroValue 3).run Try.prog w = .ok (.int .i64 0) w := by kernel_rfl
theorem twoMore : ∃ d, Try.prog.types.size + 1 = d + 2 := ⟨Try.prog.types.size - 1, by have : 0 < Try.prog.types.size := of_decide_eq_true (by kernel_rfl); omega⟩

theorem keyOf_edge {e : Int × Int} (h : WfE e) : keyOf Try.prog 67 (edgeV e) = some (ek e) := by
  have hf : (edgeV e).formed Try.prog 67 = true := by simp [edgeV, Value.formed, Try.underlying67, cellsE]
  obtain ⟨d, hd⟩ := twoMore
  unfold keyOf
  simp only [Try.underlying67, keyTypeE, hf, Bool.and_self, if_true, hd]
  have h1 : Try.prog.keyLits (d + 2) 67 (edgeV e).cells.toList = some [.int .i64 e.1, .int .i64 e.2] := by
    simp [Program.keyLits, Try.underlying67, Try.underlying3, edgeV, Value.cells, cellsE, cellsI, h.1, h.2]
  rw [h1]
  rfl
theorem keyLits_pair (d : Nat) (c0 c1 : Value) : Try.prog.keyLits (d + 2) 67 [c0, c1] = (Try.prog.keyLits (d + 1) 3 [c0]).bind fun a => (Try.prog.keyLits (d + 1) 3 [c1]).map fun b => a ++ b := by
  conv => lhs; unfold Program.keyLits
  simp only [Try.underlying67, cellsE]
  cases h0 : Try.prog.keyLits (d + 1) 3 [c0] <;> cases h1 : Try.prog.keyLits (d + 1) 3 [c1] <;> simp [cellsI, h0, h1]
theorem keyLits_one {d : Nat} {c : Value} {l : List Lit} (h : Try.prog.keyLits (d + 1) 3 [c] = some l) : ∃ n, c = .int .i64 n ∧ l = [.int .i64 n] ∧ (Lit.int .i64 n).wf = true := by
  obtain ⟨n, h1, h2⟩ := keyLits_int' Try.underlying3 h
  injection h1 with h1
  subst h1
  refine ⟨n, rfl, h2, ?_⟩
  by_cases hw : (Lit.int .i64 n).wf = true
  · exact hw
  · simp [Program.keyLits, Try.underlying3, hw] at h
theorem keyOf_edge_inv {v : Value} {l : Lit} (h : keyOf Try.prog 67 v = some l) : ∃ e, v = edgeV e ∧ l = ek e ∧ WfE e := by
  obtain ⟨d, hd⟩ := twoMore
  unfold keyOf at h
  simp only [Try.underlying67, keyTypeE, Bool.true_and, hd] at h
  by_cases hf : v.formed Try.prog 67 = true
  · rw [if_pos hf] at h
    cases hk : Try.prog.keyLits (d + 2) 67 v.cells.toList with
    | none => rw [hk] at h; cases h
    | some ls =>
      rw [hk] at h
      cases v with
      | agg cs =>
        simp [Value.formed, Try.underlying67, cellsE] at hf
        obtain ⟨l0⟩ := cs
        match l0, hf with
        | [c0, c1], _ =>
          have hk' : Try.prog.keyLits (d + 2) 67 [c0, c1] = some ls := hk
          rw [keyLits_pair] at hk'
          cases h0 : Try.prog.keyLits (d + 1) 3 [c0] with
          | none => rw [h0] at hk'; cases hk'
          | some a =>
            cases h1 : Try.prog.keyLits (d + 1) 3 [c1] with
            | none => rw [h0, h1] at hk'; cases hk'
            | some b =>
              rw [h0, h1] at hk'
              obtain ⟨m, rfl, rfl, wm⟩ := keyLits_one h0
              obtain ⟨n, rfl, rfl, wn⟩ := keyLits_one h1
              injection hk' with hk'
              subst hk'
              injection h with h
              exact ⟨(m, n), rfl, h.symm, wm, wn⟩
      | _ => simp [Value.formed, Try.underlying67] at hf
  · rw [if_neg hf] at h
    cases h
theorem ek_inj {e f : Int × Int} (he : WfE e) (hf : WfE f) (h : ek e = ek f) : e = f := by
  have h1 := keyOf_edge he
  have h2 := keyOf_edge hf
  rw [h] at h1
  have := edgeKeyed.inj h1 h2
  simp only [edgeV, Value.agg.injEq] at this
  have := congrArg Array.toList this
  simp at this
  exact Prod.ext this.1 this.2
theorem ek_key {e : Int × Int} (h : WfE e) : WideAt.IsKeyLit (ek e) := edgeKeyed.key (keyOf_edge h)

def Cnt (D : DataW Unit) (es : List (Int × Int)) : Prop :=
  IsMap D ∧ (∀ e, WfE e → D.atKey (ek e) (.lit (.int .i64 0)) = .lit (.int .i64 (es.count e))) ∧ ∀ e, WfE e → Maps.has D (ek e) = es.contains e
def CM (w : World) (B : Nat) (es : List (Int × Int)) : Prop := ∃ (n : Nat) (D : DataW Unit), w.ownsMap Try.prog 67 (plainElem Try.prog 3) B n D ∧ n ≤ es.length ∧ Cnt D es
theorem Cnt.nil : Cnt (.map []) [] := ⟨⟨[], rfl⟩, fun _ _ => rfl, fun _ _ => rfl⟩
theorem CM.made (w : World) : CM (w.alloc (.map #[] 0)) w.heap.size [] := ⟨0, _, World.ownsMap_made _ _ _ _, Nat.zero_le _, Cnt.nil⟩
theorem CM.kept {w w' : World} {B : Nat} {es : List (Int × Int)} {row : Option Nat} (h : CM w B es) (hg : w.grownBy w' row) (hne : some B ≠ row) : CM w' B es := by
  obtain ⟨n, D, h1, h2, h3⟩ := h
  exact ⟨n, D, h1.kept hg hne, h2, h3⟩
theorem CM.lt {w : World} {B : Nat} {es : List (Int × Int)} (h : CM w B es) : B < w.heap.size := by
  obtain ⟨n, D, h1, _, _⟩ := h
  exact h1.lt
theorem CM.alloc {w : World} {B : Nat} {es : List (Int × Int)} (h : CM w B es) (o : Obj) : CM (w.alloc o) B es := by
  obtain ⟨n, D, h1, h2, h3⟩ := h
  exact ⟨n, D, h1.alloc o, h2, h3⟩
theorem CM.drew {w : World} {B : Nat} {es : List (Int × Int)} (h : CM w B es) : CM w.drew B es := by
  obtain ⟨n, D, h1, h2, h3⟩ := h
  exact ⟨n, D, h1.drew, h2, h3⟩
theorem CM.below {w w' : World} {B : Nat} {es : List (Int × Int)} (h : CM w B es) (hb : Below w.heap.size w w') : CM w' B es :=
  h.kept (row := none) ⟨hb.os, hb.tape, hb.output, hb.size, fun i hi _ => hb.block i hi⟩ (by simp)

theorem Cnt.put {D : DataW Unit} {es : List (Int × Int)} {e : Int × Int} (h : Cnt D es) (he : WfE e) : Cnt (D.put (ek e) (.lit (.int .i64 (es.count e + 1)))) (es ++ [e]) := by
  obtain ⟨h1, h2, h3⟩ := h
  refine ⟨?_, ?_, ?_⟩
  · obtain ⟨l, rfl⟩ := h1
    exact ⟨_, rfl⟩
  · intro f hf
    by_cases hfe : f = e
    · subst hfe
      rw [atKey_put_same h1 (ek_key he), List.count_append, List.count_singleton_self]
      simp
    · rw [atKey_put_other (fun h => hfe (ek_inj hf he h)), h2 f hf, List.count_append]
      simp [Ne.symm hfe]
  · intro f hf
    by_cases hfe : f = e
    · subst hfe
      rw [has_put_same h1 (ek_key he)]
      simp
    · rw [has_put_other (fun h => hfe (ek_inj hf he h)), h3 f hf]
      simp [hfe]

theorem setBlock_grown {w : World} {b : Nat} {m : Array MapEntry} {c : Nat} (hb : w.heap[b]? = some (.map m c)) (o : Obj) : w.grownBy (setBlock w b o) (some b) :=
  ⟨rfl, rfl, rfl, by simp [setBlock], fun i _ hi => heap_setBlock_other hb o (fun e => hi (by rw [e]))⟩

theorem look_entry {w : World} {B : Nat} {ms : Array MapEntry} {clock : Nat} {R : Value → Option (DataW Unit × List MemPlace)} (hb : w.heap[B]? = some (.map ms clock)) (F : Fit Try.prog 67 R ms clock) {key : Value} {kl : Lit}
    (hkey : keyOf Try.prog 67 key = some kl) {r : Value} (hr : (Instr.lookup 94 (.map (some B)) key false).run Try.prog w = .ok r w) :
    ∃ (v : Value) (W2 : World), (Instr.mapEntry 94 (.map (some B)) key).run Try.prog w = .ok v W2 ∧ (Instr.lookup 94 (.map (some B)) key false).run Try.prog W2 = .ok r W2 := by
  have ht := Try.underlying94
  rcases edgeLaw.find w hkey ms.toList F.keys with ⟨h1, h2⟩ | ⟨j, e0, h1, h2, h3⟩
  · have hr2 : r = .int .i64 0 := by
      simp [Instr.lookup, run_underlying ht, MapKept.run_getObj_map hb, edgeLaw.check w _ hkey, h1, Result.andThen] at hr
      exact hr.symm
    subst hr2
    refine ⟨.tuple #[.int .i64 0, goInt clock], setBlock w B (.map (ms.push ⟨key, .int .i64 0, clock⟩) (clock + 1)), ?_, ?_⟩
    · simp [Instr.mapEntry, run_underlying ht, MapKept.run_getObj_map hb, edgeLaw.check w false hkey, h1, MapKept.run_setObj_map _ hb, Result.andThen, setBlock]
    · have hb2 := heap_setBlock_same hb (.map (ms.push ⟨key, .int .i64 0, clock⟩) (clock + 1))
      rcases edgeLaw.find (setBlock w B (.map (ms.push ⟨key, .int .i64 0, clock⟩) (clock + 1))) hkey (ms.push ⟨key, .int .i64 0, clock⟩).toList (fun x hx => by
        simp only [Array.toList_push, List.mem_append, List.mem_singleton] at hx
        rcases hx with hx | rfl
        · exact F.keys x hx
        · exact ⟨kl, hkey⟩) with ⟨_, g2⟩ | ⟨j, e0, g1, g2, g3⟩
      · exact absurd rfl (g2 ⟨key, .int .i64 0, clock⟩ (by simp))
      · have hv : e0.val = .int .i64 0 := by
          have hm := List.mem_of_getElem? g2
          simp only [Array.toList_push, List.mem_append, List.mem_singleton] at hm
          rcases hm with hm | rfl
          · exact absurd g3 (h2 e0 hm)
          · rfl
        simp [Instr.lookup, run_underlying ht, MapKept.run_getObj_map hb2, edgeLaw.check _ _ hkey, Result.andThen]
        simp at g1
        simp [g1, hv]
  · have hj : ms[j]? = some e0 := by simpa using h2
    have hsame : ms.modify j (fun e => { e with key := key }) = ms := by
      apply Array.ext'
      rw [Array.toList_modify, modify_eq_set _ _ _ _ h2]
      have : ({ e0 with key := key } : MapEntry) = e0 := by rw [← h3]
      rw [this]
      exact set_self _ _ _ h2
    have hw : setBlock w B (.map ms clock) = w := by
      have hlt : B < w.heap.size := by
        rcases Nat.lt_or_ge B w.heap.size with h | h
        · exact h
        · rw [Array.getElem?_eq_none h] at hb; cases hb
      have hq : w.heap.setIfInBounds B (.map ms clock) = w.heap := by
        apply Array.ext_getElem?
        intro i
        by_cases e : B = i
        · subst e
          rw [Array.getElem?_setIfInBounds_self_of_lt hlt, hb]
        · rw [Array.getElem?_setIfInBounds_ne e]
      unfold setBlock
      rw [hq]
    refine ⟨.tuple #[e0.val, goInt e0.born], w, ?_, hr⟩
    have hstay := edgeLaw.stays w hkey
    have : (Instr.mapEntry 94 (.map (some B)) key).run Try.prog w = .ok (.tuple #[e0.val, goInt e0.born]) (setBlock w B (.map (ms.modify j (fun e => { e with key := key })) clock)) := by
      simp [Instr.mapEntry, run_underlying ht, MapKept.run_getObj_map hb, edgeLaw.check w false hkey, h1, hj, h3, hstay, MapKept.run_setObj_map _ hb, Result.andThen, setBlock]
    rw [this, hsame, hw]

theorem cm_incr {w : World} {B : Nat} {es : List (Int × Int)} {e : Int × Int} (h : CM w B es) (he : WfE e) (hl : es.length < 1099511627776) : ∃ (v0 : Value) (st : Nat) (W2 W3 : World),
    (Instr.lookup 94 (.map (some B)) (edgeV e) false).run Try.prog w = .ok (.int .i64 (es.count e)) w ∧
    (Instr.mapEntry 94 (.map (some B)) (edgeV e)).run Try.prog w = .ok (.tuple #[v0, .int .i64 st]) W2 ∧
    (Instr.entryStore 94 (.map (some B)) (.int .i64 st) (.int .i64 ((es.count e : Int) + 1))).run Try.prog W2 = .ok () W3 ∧
    (Instr.lookup 94 (.map (some B)) (edgeV e) false).run Try.prog W2 = .ok (.int .i64 (es.count e)) W2 ∧
    w.grownBy W2 (some B) ∧ w.grownBy W3 (some B) ∧ CM W3 B (es ++ [e]) := by
  obtain ⟨n, D, hown, hn, hc⟩ := h
  have hkey := keyOf_edge he
  obtain ⟨c, hlook, hat, _⟩ := hown.lookup_int edgeKeyed Try.underlying94 Try.underlying3 (zeroInt w) hkey
  have hcc : c = (es.count e : Int) := by
    have := hc.2.1 e he
    rw [hat] at this
    injection this with this
    injection this
  subst hcc
  have hle : es.count e ≤ es.length := List.count_le_length
  have hput := hown.update edgeKeyed Try.underlying94 (by unfold maxLen; omega) hkey (plainElem_int Try.underlying3 (a := (es.count e : Int) + 1) (WalkArith.wf_i64 (by omega)))
  obtain ⟨W3, hupd, hown3, hg3⟩ := hput
  obtain ⟨ms, clock, hb, F, hs, hD⟩ := hown
  obtain ⟨v0, st, es1, clock1, hent, hv0, hst⟩ := entry_then_store edgeLaw Try.underlying94 (fun u => zeroInt u) hb F hkey
  obtain ⟨es', clock', hs1, hs2⟩ := hst (setBlock w B (.map es1 clock1)) (.int .i64 ((es.count e : Int) + 1)) (heap_setBlock_same hb _)
  rw [hs2] at hupd
  injection hupd with _ hw3
  have hset : setBlock (setBlock w B (.map es1 clock1)) B (.map es' clock') = setBlock w B (.map es' clock') := by
    simp [setBlock]
  rw [hset] at hs1
  obtain ⟨v9, W9, hent9, hlook9⟩ := look_entry hb F hkey hlook
  rw [hent] at hent9
  injection hent9 with _ hw9
  refine ⟨v0, st, _, W3, hlook, hent, by rw [← hw3]; exact hs1, by rw [hw9]; exact hlook9, setBlock_grown hb _, hg3, n + 1, _, hown3, by simp; omega, hc.put he⟩
end Go.Proofs.Ytkmbdclhjdbhpab
