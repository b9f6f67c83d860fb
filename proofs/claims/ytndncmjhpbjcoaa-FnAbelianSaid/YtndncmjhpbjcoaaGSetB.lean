/- Stabilize: the sandpile's goroutine: what it sends, and that it comes to each send and to the close. -/
import Derived.Test.YtndncmjhpbjcoaaGSetA
import Derived.Test.YtndncmjhpbjcoaaGPA
import Derived.Conc.TokenWalk
import Derived.Conc.DeferLaws
set_option linter.all false
namespace Go.Proofs.Ytndncmjhpbjcoaa
open Go Go.Conc Go.RowKit

/-! ### what it sends -/
def runL (M : Nat) (es : List (Int × Int)) (p : List Int) (q : Nat) : Nat → (Nat → Int) → List Nat
  | 0, _ => []
  | f + 1, n => match unsF M q es (pileL M es p q n) with
    | none => []
    | some v => v :: runL M es p q f (addAt n v 1)
def cnts : List Nat → Nat → Int
  | [], _ => 0
  | v :: vs, u => cnts vs u + if u = v then 1 else 0
theorem runL_none {M q f : Nat} {es : List (Int × Int)} {p : List Int} {n : Nat → Int} (h : unsF M q es (pileL M es p q n) = none) : runL M es p q (f + 1) n = [] := by rw [runL, h]
theorem runL_some {M q f v : Nat} {es : List (Int × Int)} {p : List Int} {n : Nat → Int} (h : unsF M q es (pileL M es p q n) = some v) : runL M es p q (f + 1) n = v :: runL M es p q f (addAt n v 1) := by rw [runL, h]
theorem runL_set {M q : Nat} {es : List (Int × Int)} {p : List Int} (hL : PileL M q es p) : ∀ (f : Nat) (n : Nat → Int), Tops M es p q n → sumV (settN M es p q) M - sumV n M < f → ∀ u, n u + cnts (runL M es p q f n) u = settN M es p q u := by
  intro f
  induction f with
  | zero =>
    intro n ht hf
    have := ht.more hL.ed hL.hp hL.ex
    omega
  | succ f ih =>
    intro n ht hf u
    cases hu : unsF M q es (pileL M es p q n) with
    | none =>
      rw [runL_none hu]
      have hs : IsSet M es p q n := ⟨ht, stab_of hu⟩
      rw [hs.eq hL.ed hL.hp]
      simp [cnts]
    | some v =>
      rw [runL_some hu]
      obtain ⟨hv, hvq, ht2⟩ := tops_of ht hu
      have h1 := ih (addAt n v 1) ht2 (by rw [sumV_addAt, if_pos hv]; omega) u
      rw [← h1, cnts, addAt]
      split <;> omega
theorem runL_lt {M q : Nat} {es : List (Int × Int)} {p : List Int} : ∀ (f : Nat) (n : Nat → Int), ∀ v ∈ runL M es p q f n, v < M := by
  intro f
  induction f with
  | zero => intro n v hv; simp [runL] at hv
  | succ f ih =>
    intro n v hv
    cases hu : unsF M q es (pileL M es p q n) with
    | none => rw [runL_none hu] at hv; simp at hv
    | some x =>
      rw [runL_some hu] at hv
      rcases List.mem_cons.1 hv with rfl | hv
      · exact (unsF_some hu).1
      · exact ih _ v hv
def sentV (l : List Nat) : List Value := l.map fun (v : Nat) => Value.int .i64 (v : Int)
/-! ### words -/
section
variable {P : Program} {main : Bool} {S O : Nat → Prop} {Stop : (Nat → Prop) → Goroutine → World → Prop} {b : Frame} {a : Act} {k : List Item} {cs : List Frame} {W : World} {ops : Array Oper} {i : Nat} {rest : List Nat} {o : Oper}
theorem Co.op1 {v : Value} {t : Tmp} (ho : ops[i]? = some o) (ht : (ops[i]?).map (·.dst) = some (some t)) (hw : Region.wanted o (yielded ops a.tmps) = true) (hk : b.kind ≠ .early) (hr : ∀ w, (execOp a.eval o).run P w = .ok (.value v) w) (he : ∀ w, (execOp a.eval o).events P w #[] = #[])
    (hc : Co P main S Stop O (G (b.at ⟨a.tmps.setIfInBounds t v, a.defers⟩ (.inRegion ops rest :: k)) cs) W) : Co P main S Stop O (G (b.at a (.inRegion ops (i :: rest) :: k)) cs) W :=
  Co.value ho hw hk (fun W1 _ => ⟨hr W1, fun e he2 => by rw [listed_none (he W1)] at he2; simp at he2⟩) (by
    rw [ho] at ht
    simp only [Option.map_some, Option.some.injEq] at ht
    rw [ht]
    exact hc)
theorem Co.call1 {f : FuncId} {args : Array Value} (ho : ops[i]? = some o) (hw : Region.wanted o (yielded ops a.tmps) = true) (hk : b.kind ≠ .early) (hr : ∀ w, (execOp a.eval o).run P w = .ok (.enter f args) w) (he : ∀ w, (execOp a.eval o).events P w #[] = #[])
    (hc : Co P main S Stop O (G (Frame.enter P f args .normal) (b.at a (.inRegion ops (i :: rest) :: k) :: cs)) W) : Co P main S Stop O (G (b.at a (.inRegion ops (i :: rest) :: k)) cs) W :=
  Co.enter ho hw hk (fun W1 _ => ⟨hr W1, fun e he2 => by rw [listed_none (he W1)] at he2; simp at he2⟩) hc
theorem Co.cond {c : Operand} {x y : Code} {t : Bool} (h : a.eval c = .bool t) (hc : Co P main S Stop O (G (b.at a (.code (if t then x else y) :: k)) cs) W) : Co P main S Stop O (G (b.at a (.code (.cond c x y) :: k)) cs) W := Co.ctl rfl (fun _ => stepG_cond h) hc
theorem Co.skip (hc : Co P main S Stop O (G (b.at a k) cs) W) : Co P main S Stop O (G (b.at a (.code .skip :: k)) cs) W := Co.ctl rfl (fun _ => stepG_skip) hc
theorem Co.block {id : Nat} {c : Code} (hc : Co P main S Stop O (G (b.at a (.code c :: .inBlock id :: k)) cs) W) : Co P main S Stop O (G (b.at a (.code (.block id c) :: k)) cs) W := Co.ctl rfl (fun _ => stepG_block) hc
theorem Co.inBlock {id : Nat} (hc : Co P main S Stop O (G (b.at a k) cs) W) : Co P main S Stop O (G (b.at a (.inBlock id :: k)) cs) W := Co.ctl rfl (fun _ => stepG_inBlock) hc
theorem Co.loop {c : Code} (hc : Co P main S Stop O (G (b.at a (.code c :: .inLoop c :: k)) cs) W) : Co P main S Stop O (G (b.at a (.code (.loop c) :: k)) cs) W := Co.ctl rfl (fun _ => stepG_loop) hc
theorem Co.inLoop {c : Code} (hc : Co P main S Stop O (G (b.at a (.code c :: .inLoop c :: k)) cs) W) : Co P main S Stop O (G (b.at a (.inLoop c :: k)) cs) W := Co.ctl rfl (fun _ => stepG_inLoop) hc
theorem Co.exit {id : Nat} {k' : List Item} (h : exitTo id k = some k') (hc : Co P main S Stop O (G (b.at a k') cs) W) : Co P main S Stop O (G (b.at a (.code (.exit id) :: k)) cs) W := Co.ctl rfl (fun _ => stepG_exit h) hc
theorem finish_of {v : Value} {t : Tmp} (ho : (ops[i]?).map (·.dst) = some (some t)) : (b.at a (.inRegion ops (i :: rest) :: k)).finish v = b.at ⟨a.tmps.setIfInBounds t v, a.defers⟩ (.inRegion ops rest :: k) := by
  obtain ⟨o, h1, h2⟩ := Option.map_eq_some_iff.1 ho
  rw [Frame.finish_at, h1, Option.bind_some, h2]
  rfl
theorem served_of {v : Value} {t : Tmp} (ho : (ops[i]?).map (·.dst) = some (some t)) : Conc.served (core (G (b.at a (.inRegion ops (i :: rest) :: k)) cs)) v = G (b.at ⟨a.tmps.setIfInBounds t v, a.defers⟩ (.inRegion ops rest :: k)) cs := by
  obtain ⟨o, h1, h2⟩ := Option.map_eq_some_iff.1 ho
  rw [core_G, served_G, h1, Option.bind_some, h2]
  rfl
theorem served_no {v : Value} (ho : (ops[i]?).map (·.dst) = some none) : Conc.served (core (G (b.at a (.inRegion ops (i :: rest) :: k)) cs)) v = G (b.at a (.inRegion ops rest :: k)) cs := by
  obtain ⟨o, h1, h2⟩ := Option.map_eq_some_iff.1 ho
  rw [core_G, served_G, h1, Option.bind_some, h2]
  rfl
theorem events_callGo {f : FuncId} {fn : Func} {xs : Array Value} {es : Array Event} {w : World} (hf : P.funcs[f]? = some fn) (hn : (fn.name == "runtime.NumGoroutine") = false) (hb : fn.body.isNone = false) : (callFunc f xs).events P w es = es := by
  have hn' : ¬ fn.name = "runtime.NumGoroutine" := by simpa using hn
  have hb' : ¬ fn.body = none := fun e => by rw [e] at hb; cases hb
  simp [callFunc, Sem.events_bind, hf, hn', hb']
end
/-! ### its code -/
noncomputable def setBody : Code := (Try.f60.body).getD .skip
noncomputable def pilBot : Frame := { (default : Frame) with fn := Try.prog.funcs.size, defers := [], mode := .panicking [goexitEntry] }
def setCall (sp c : Nat) : Deferred := dcall 60 #[.pointer (some ⟨sp, 0, none⟩), .chan (some c)]
theorem set_born (sp c : Nat) (w : World) : stepG Try.prog false (born Try.prog (setCall sp c)) w =
    .go (G ((baseD 60).at ⟨#[.pointer (some ⟨sp, 0, none⟩), .chan (some c), undef, undef, undef, undef, undef, undef, undef, undef, undef, undef, undef, undef, undef, undef, undef], []⟩ [.code setBody]) [pilBot]) w #[] := by
  have hn : (Try.f60.name == "runtime.NumGoroutine") = false := by kernel_rfl
  have hn' : ¬ Try.f60.name = "runtime.NumGoroutine" := by simpa using hn
  have hb : Try.f60.body = some setBody := by kernel_rfl
  simp [born, setCall, dcall, stepG, unwind, callDeferred, invoke, callFunc, Try.func60, hn', hb, seen, GStep.after, G, Frame.enter, Frame.at, baseD, pilBot]
theorem set_quits (a : Act) (hd : a.defers = []) (k : List Item) : QuitsD Try.prog 2 0 (G { (baseD 60).at a k with mode := .returning } [pilBot]) := by
  obtain ⟨T, ds⟩ := a
  simp only at hd
  subst hd
  refine QuitsD.ctl (g' := G pilBot []) rfl (fun w => ?_) ?_
  · have hr : (results Try.f60 T).run Try.prog w = .ok (.tuple #[]) w := by simp [results]
    have hv : (results Try.f60 T).events Try.prog w #[] = #[] := by simp [results]
    simp [G, stepG, unwind, doReturn, Frame.at, baseD, pilBot, Try.func60, hr, hv, seen, GStep.after, goexitEntry]
  refine QuitsD.ctl (g' := { G pilBot [] with status := .finished }) rfl (fun w => ?_) ⟨rfl, rfl⟩
  simp [G, stepG, unwind, pilBot, goexitEntry, Frame.catches]
  rfl
end Go.Proofs.Ytndncmjhpbjcoaa
