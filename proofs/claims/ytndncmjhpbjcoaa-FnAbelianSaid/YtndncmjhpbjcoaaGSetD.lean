/- Stabilize: the receiver in company: it makes the list of counts, and counts what it is sent. -/
import Derived.Test.YtndncmjhpbjcoaaGSetC
import Derived.Test.YtndncmjhpbjcoaaGLonS
import Derived.Conc.AppendWalk
set_option linter.all false
namespace Go.Proofs.Ytndncmjhpbjcoaa
open Go Go.Conc Go.RowKit

section
variable {P : Program} {main : Bool} {S O : Nat → Prop} {Stop : (Nat → Prop) → Goroutine → World → Prop} {b : Frame} {a : Act} {k : List Item} {cs : List Frame} {W : World} {ops : Array Oper} {i : Nat} {rest : List Nat} {o : Oper}
theorem Co.regionL {id : Nat} {l : List Nat} (hl : List.range ops.size = l) (hc : Co P main S Stop O (G (b.at a (.inRegion ops l :: k)) cs) W) : Co P main S Stop O (G (b.at a (.code (.region id ops false) :: k)) cs) W := Co.region (by rw [hl]; exact hc)
theorem Co.opW {t : Tmp} (ho : ops[i]? = some o) (ht : (ops[i]?).map (·.dst) = some (some t)) (hw : Region.wanted o (yielded ops a.tmps) = true) (hk : b.kind ≠ .early)
    (h : ∀ W1, Keep S O W W1 → ∃ v W2, (execOp a.eval o).run P W1 = .ok (.value v) W2 ∧ OwnStep S O W1 W2 (listed P b.fn a o W1) ∧ Co P main S Stop (grow O W1 W2) (G (b.at ⟨a.tmps.setIfInBounds t v, a.defers⟩ (.inRegion ops rest :: k)) cs) W2) :
    Co P main S Stop O (G (b.at a (.inRegion ops (i :: rest) :: k)) cs) W := Co.one rfl fun W1 k1 => by
  obtain ⟨v, W2, h1, h2, h3⟩ := h W1 k1
  refine ⟨_, W2, _, stepG_value ho hw hk h1, h2, ?_⟩
  rw [ho] at ht
  simp only [Option.map_some, Option.some.injEq] at ht
  rw [ht]
  exact h3
theorem Co.opN (ho : ops[i]? = some o) (ht : (ops[i]?).map (·.dst) = some none) (hw : Region.wanted o (yielded ops a.tmps) = true) (hk : b.kind ≠ .early)
    (h : ∀ W1, Keep S O W W1 → ∃ W2, (execOp a.eval o).run P W1 = .ok .skip W2 ∧ OwnStep S O W1 W2 (listed P b.fn a o W1) ∧ Co P main S Stop (grow O W1 W2) (G (b.at a (.inRegion ops rest :: k)) cs) W2) :
    Co P main S Stop O (G (b.at a (.inRegion ops (i :: rest) :: k)) cs) W := Co.one rfl fun W1 k1 => by
  obtain ⟨W2, h1, h2, h3⟩ := h W1 k1
  refine ⟨_, W2, _, stepG_none ho hw hk h1, h2, ?_⟩
  rw [ho] at ht
  simp only [Option.map_some, Option.some.injEq] at ht
  rw [ht]
  exact h3
theorem run_loadAt {w : World} {ty : TypeId} {ad : Addr} {v : Value} {d : TypeDesc} (hu : P.underlying ty = some d) (hd : (match d with | .struct _ | .array _ _ => true | _ => false) = false) (hc : w.cell? ad = some v) : (loadVar ty ad).run P w = .ok v w ∧ (loadVar ty ad).events P w #[] = #[⟨.cell ad, false, false⟩] := by
  have hagg : (isAgg ty).run P w = .ok false w := by
    unfold isAgg
    rw [Sem.run_bind, run_underlying hu w]
    cases d <;> simp_all
  exact ⟨by simp [loadVar, Sem.run_bind, hagg, hc], by simp [loadVar, hagg, hc]⟩
theorem Co.load1 {t x : Tmp} {ty : TypeId} {ad : Addr} {v : Value} {d : TypeDesc} (ho : ops[i]? = some o) (ht : (ops[i]?).map (·.dst) = some (some t)) (hw : Region.wanted o (yielded ops a.tmps) = true) (hk : b.kind ≠ .early) (hop : o.op = .load ty (.tmp x)) (hx : a.eval (.tmp x) = .pointer (some ad))
    (hu : P.underlying ty = some d) (hd : (match d with | .struct _ | .array _ _ => true | _ => false) = false) (hs : S ad.block ∨ O ad.block) (hc : W.cell? ad = some v)
    (h : Co P main S Stop O (G (b.at ⟨a.tmps.setIfInBounds t v, a.defers⟩ (.inRegion ops rest :: k)) cs) W) : Co P main S Stop O (G (b.at a (.inRegion ops (i :: rest) :: k)) cs) W := by
  have hl : ad.block < W.heap.size := World.block_lt_of_cell? W _ hc
  refine Co.load ho hw hk hs hl (v := v) (fun W1 e => ?_) ?_
  · obtain ⟨h1, h2⟩ := run_loadAt (w := W1) hu hd ((World.cell?_of_block (a := ad) e).trans hc)
    have hr : (execOp a.eval o).run P W1 = .ok (.value v) W1 := by
      unfold execOp
      simp [hop, hx, Instr.loadAt, Instr.sureAddr, h1]
    have hv : (execOp a.eval o).events P W1 #[] = #[⟨.cell ad, false, false⟩] := by
      unfold execOp
      simp [hop, hx, Instr.loadAt, Instr.sureAddr, h2]
    rw [Sem.runT_eq, hr, hv]
  · rw [ho] at ht
    simp only [Option.map_some, Option.some.injEq] at ht
    rw [ht]
    exact h
theorem Co.store1 {ad : Addr} {v u : Value} (ho : ops[i]? = some o) (ht : (ops[i]?).map (·.dst) = some none) (hw : Region.wanted o (yielded ops a.tmps) = true) (hk : b.kind ≠ .early) (hr : ∀ w : World, (∃ u, w.cell? ad = some u) → w.frozen? ad = false → (execOp a.eval o).run P w = .ok .skip (w.setCell ad v) ∧ (execOp a.eval o).events P w #[] = #[⟨.cell ad, true, false⟩])
    (hs : O ad.block) (hc : W.cell? ad = some u) (hz : W.frozen? ad = false)
    (h : ∀ W1, Keep S O W W1 → Co P main S Stop O (G (b.at a (.inRegion ops rest :: k)) cs) (W1.setCell ad v)) : Co P main S Stop O (G (b.at a (.inRegion ops (i :: rest) :: k)) cs) W := by
  have hl : ad.block < W.heap.size := World.block_lt_of_cell? W _ hc
  refine Co.opN ho ht hw hk fun W1 k1 => ?_
  have e := k1.block _ hl (.inr hs)
  obtain ⟨h1, h2⟩ := hr W1 ⟨u, (World.cell?_of_block (a := ad) e).trans hc⟩ ((World.frozen?_of_block (a := ad) e).trans hz)
  have hsz : (W1.setCell ad v).heap.size = W1.heap.size := by simp [World.setCell]
  have hg : grow O W1 (W1.setCell ad v) = O := by
    funext b
    exact propext ⟨fun x => x.elim id fun y => by omega, .inl⟩
  refine ⟨_, h1, ⟨by omega, rfl, rfl, rfl, fun b hb hnb => heap_setCell_other _ _ _ _ (fun e => hnb (e ▸ hs)), fun e he => ?_⟩, by rw [hg]; exact h W1 k1⟩
  have h3 := Conc.mem_listed he
  rw [h2] at h3
  simp only [List.mem_toArray, List.mem_singleton] at h3
  subst h3
  exact .inl ⟨ad, rfl, rfl, .inl (.inl hs)⟩
end
noncomputable def stBody : Code := (Try.f18.body).getD .skip
noncomputable def stPre : List Code := match stBody with
  | .seq r0 (.seq r1 (.seq r3 (.seq r4 _))) => [r0, r1, r3, r4]
  | _ => []
noncomputable def stRest : Code := match stBody with
  | .seq _ (.seq _ (.seq _ (.seq _ r))) => r
  | _ => .skip
noncomputable def stRecv : Code := match stRest with
  | .seq _ r => r
  | _ => .skip
noncomputable def stLoop : Code := match stRecv with
  | .seq _ (.seq (.seq _ (.block _ (.loop c))) _) => c
  | _ => .skip
noncomputable def stEnd : Code := match stRecv with
  | .seq _ (.seq _ e) => e
  | _ => .skip
noncomputable def stOps8 : Array Oper := match stLoop with
  | .seq (.region _ ops _) _ => ops
  | _ => #[]
noncomputable def stTail8 : Code := match stLoop with
  | .seq _ e => e
  | _ => .skip
theorem st_split : stBody = seqs stPre stRest := by kernel_rfl
noncomputable def stF : Frame := base 18
structure RI (M tb : Nat) (n : Nat → Int) (O : Nat → Prop) (W : World) : Prop where
  own : O tb
  blk : Blk W tb 3 (intCells (cntL M n)).toArray
theorem RI.stable {M tb : Nat} {n : Nat → Int} {S O O' : Nat → Prop} {W W' : World} (h : RI M tb n O W) (k : Keep S O W W') (hO : ∀ b, O b → O' b) : RI M tb n O' W' := ⟨hO _ h.own, (k.block tb (heap_lt h.blk) (.inr h.own)).trans h.blk⟩
section
variable {S : Nat → Prop} {sp c tb M : Nat} {cs : List Frame}
def FinC (sp c B M : Nat) (cs : List Frame) (N : Nat → Int) (O : Nat → Prop) (g : Goroutine) (w : World) : Prop :=
  ∃ (tb : Nat) (y0 y1 y2 y3 y4 y5 y6 y7 y8 y12 y13 y14 y15 y16 y17 y18 y19 y20 y21 y22 y23 y24 y25 y26 y27 y30 y31 y32 y33 y34 y35 y36 y37 y38 y39 y40 y41 y42 y43 y44 y45 : Value), B ≤ tb ∧ RI M tb N O w ∧ g = G (stF.at ⟨List.toArray (y0 :: y1 :: y2 :: y3 :: y4 :: y5 :: y6 :: y7 :: y8 :: .pointer (some ⟨sp, 0, none⟩) :: .chan (some c) :: .slice (some ⟨tb, 0, none⟩) M M :: y12 :: y13 :: y14 :: y15 :: y16 :: y17 :: y18 :: y19 :: y20 :: y21 :: y22 :: y23 :: y24 :: y25 :: y26 :: y27 :: .chan (some c) :: .tuple #[.int .i64 0, .bool false] :: y30 :: y31 :: y32 :: y33 :: y34 :: y35 :: y36 :: y37 :: y38 :: y39 :: y40 :: y41 :: y42 :: y43 :: y44 :: y45 :: []), []⟩ [.inRegion stOps8 [1], .code stTail8, .inLoop stLoop, .inBlock 0, .code stEnd]) cs
theorem addAt_bound {n : Nat → Int} {l : List Nat} {v : Nat} (h : ∀ u, 0 ≤ n u ∧ n u + cnts (v :: l) u ≤ 100000) : ∀ u, 0 ≤ addAt n v 1 u ∧ addAt n v 1 u + cnts l u ≤ 100000 := fun u => by
  have := h u
  rw [cnts] at this
  unfold addAt
  split
  · rename_i e
    rw [if_pos e] at this
    omega
  · rename_i e
    rw [if_neg e] at this
    omega
theorem cnts_nn : ∀ (l : List Nat) (u : Nat), 0 ≤ cnts l u
  | [], _ => Int.le_refl _
  | v :: l, u => by
    have := cnts_nn l u
    rw [cnts]
    split <;> omega
set_option maxRecDepth 10000 in
set_option maxHeartbeats 2000000 in
theorem recv_loop {B : Nat} (hB : B ≤ tb) (N : Nat → Int) : ∀ (l : List Nat) (n : Nat → Int), (∀ v ∈ l, v < M) → (∀ u, 0 ≤ n u ∧ n u + cnts l u ≤ 100000) → (∀ u, n u + cnts l u = N u) → ∀ (O : Nat → Prop) (W : World) (y0 y1 y2 y3 y4 y5 y6 y7 y8 y12 y13 y14 y15 y16 y17 y18 y19 y20 y21 y22 y23 y24 y25 y26 y27 y29 y30 y31 y32 y33 y34 y35 y36 y37 y38 y39 y40 y41 y42 y43 y44 y45 : Value), RI M tb n O W →
    Co Try.prog true S (RecvsO Try.prog S c (.int .i64 0) (FinC sp c B M cs N) (sentV l)) O
      (G (stF.at ⟨List.toArray (y0 :: y1 :: y2 :: y3 :: y4 :: y5 :: y6 :: y7 :: y8 :: .pointer (some ⟨sp, 0, none⟩) :: .chan (some c) :: .slice (some ⟨tb, 0, none⟩) M M :: y12 :: y13 :: y14 :: y15 :: y16 :: y17 :: y18 :: y19 :: y20 :: y21 :: y22 :: y23 :: y24 :: y25 :: y26 :: y27 :: .chan (some c) :: y29 :: y30 :: y31 :: y32 :: y33 :: y34 :: y35 :: y36 :: y37 :: y38 :: y39 :: y40 :: y41 :: y42 :: y43 :: y44 :: y45 :: []), []⟩ [.code stLoop, .inLoop stLoop, .inBlock 0, .code stEnd]) cs) W := by
  have hk : stF.kind ≠ .early := by decide
  intro l
  induction l with
  | nil =>
    intro n hl hn hN O W y0 y1 y2 y3 y4 y5 y6 y7 y8 y12 y13 y14 y15 y16 y17 y18 y19 y20 y21 y22 y23 y24 y25 y26 y27 y29 y30 y31 y32 y33 y34 y35 y36 y37 y38 y39 y40 y41 y42 y43 y44 y45 hI
    have e : N = n := by
      funext u
      have := hN u
      simp only [cnts] at this
      omega
    subst e
    refine Co.seq (Co.regionL (l := [0, 1]) rfl ?_)
    refine .stop fun W1 k1 => ?_
    refine ⟨rfl, #[], ?_, fun e he => by simp at he, fun W3 k3 => ?_⟩
    · rw [stepG_comm rfl rfl hk (shape := .recv true) (cases := #[rcase c (.int .i64 0)]) (blocking := true) (w' := W1) (by simp [execOp, go_sem, Act.eval, rcase]), listed_none (by simp [execOp, go_sem, Act.eval])]
      rfl
    have hI3 := (hI.stable k1 fun _ x => x).stable k3 fun _ x => x
    rw [served_of rfl]
    exact ⟨tb, y0, y1, y2, y3, y4, y5, y6, y7, y8, y12, y13, y14, y15, y16, y17, y18, y19, y20, y21, y22, y23, y24, y25, y26, y27, y30, y31, y32, y33, y34, y35, y36, y37, y38, y39, y40, y41, y42, y43, y44, y45, hB, hI3, rfl⟩
  | cons v l ih =>
    intro n hl hn hN O W y0 y1 y2 y3 y4 y5 y6 y7 y8 y12 y13 y14 y15 y16 y17 y18 y19 y20 y21 y22 y23 y24 y25 y26 y27 y29 y30 y31 y32 y33 y34 y35 y36 y37 y38 y39 y40 y41 y42 y43 y44 y45 hI
    have hv := hl v (by simp)
    have hv0 : (v : Int) < (M : Int) := by omega
    have hnv := hn v
    have hc0 := cnts_nn (v :: l) v
    refine Co.seq (Co.regionL (l := [0, 1]) rfl ?_)
    refine .stop fun W1 k1 => ?_
    refine ⟨rfl, #[], ?_, fun e he => by simp at he, fun W3 k3 => ?_⟩
    · rw [stepG_comm rfl rfl hk (shape := .recv true) (cases := #[rcase c (.int .i64 0)]) (blocking := true) (w' := W1) (by simp [execOp, go_sem, Act.eval, rcase]), listed_none (by simp [execOp, go_sem, Act.eval])]
      rfl
    have hI3 := (hI.stable k1 fun _ x => x).stable k3 fun _ x => x
    rw [served_of rfl]
    refine Co.op1 (i := 1) (rest := []) rfl rfl rfl hk (v := .bool true) (fun w => ?_) (fun w => ?_) ?_
    · simp [execOp, go_sem, Act.eval]
    · simp [execOp, go_sem]
    refine Co.regionEnd (Co.seq (Co.cond (t := true) rfl (Co.skip (Co.block (Co.seq (Co.regionL (l := [0, 1]) rfl ?_))))))
    try simp only [List.setIfInBounds_toArray, List.set_cons_zero, List.set_cons_succ]
    refine Co.op1 (i := 0) (rest := [1]) rfl rfl rfl hk (v := .int .i64 (v : Int)) (fun w => ?_) (fun w => ?_) ?_
    · simp [execOp, go_sem, Act.eval]
    · simp [execOp, go_sem]
    refine Co.op1 (i := 1) (rest := []) rfl rfl rfl hk (v := .int .i64 (v : Int)) (fun w => ?_) (fun w => ?_) ?_
    · simp [execOp, go_sem, Act.eval]
    · simp [execOp, go_sem]
    refine Co.regionEnd (Co.regionL (l := [0, 1, 2, 3, 4, 5, 6]) rfl ?_)
    try simp only [List.setIfInBounds_toArray, List.set_cons_zero, List.set_cons_succ]
    refine Co.op1 (i := 0) (rest := [1, 2, 3, 4, 5, 6]) rfl rfl rfl hk (v := .slice (some ⟨tb, 0, none⟩) M M) (fun w => ?_) (fun w => ?_) ?_
    · simp [execOp, go_sem, Act.eval]
    · simp [execOp, go_sem]
    refine Co.op1 (i := 1) (rest := [2, 3, 4, 5, 6]) rfl rfl rfl hk (v := .int .i64 (v : Int)) (fun w => ?_) (fun w => ?_) ?_
    · simp [execOp, go_sem, Act.eval]
    · simp [execOp, go_sem]
    try simp only [List.setIfInBounds_toArray, List.set_cons_zero, List.set_cons_succ]
    refine Co.op1 (i := 2) (rest := [3, 4, 5, 6]) rfl rfl rfl hk (v := .pointer (some ⟨tb, v, none⟩)) (fun w => ?_) (fun w => ?_) ?_
    · simp [execOp, go_sem, Act.eval, hv0]
    · simp [execOp, go_sem, Act.eval, hv0]
    try simp only [List.setIfInBounds_toArray, List.set_cons_zero, List.set_cons_succ]
    have hcell : W3.cell? ⟨tb, v, none⟩ = some (.int .i64 (n v)) := by
      rw [cell_at hI3.blk]
      simp [intCells, cntL_at hv]
    have hfr : W3.frozen? ⟨tb, v, none⟩ = false := frozen_of_row _ _ _ _ _ hI3.blk
    refine Co.load1 (i := 3) (rest := [4, 5, 6]) (x := 34) (ty := 3) (ad := ⟨tb, v, none⟩) (v := .int .i64 (n v)) rfl rfl rfl hk rfl rfl set_bool rfl (.inr hI3.own) hcell ?_
    try simp only [List.setIfInBounds_toArray, List.set_cons_zero, List.set_cons_succ]
    have hwr : IntKind.i64.wrap (n v + 1) = n v + 1 := by rw [IntKind.wrap_i64]; omega
    refine Co.op1 (i := 4) (rest := [5, 6]) rfl rfl rfl hk (v := .int .i64 (n v + 1)) (fun w => ?_) (fun w => ?_) ?_
    · simp [execOp, go_sem, Act.eval, hwr]
    · simp [execOp, go_sem, Act.eval, hwr]
    refine Co.op1 (i := 5) (rest := [6]) rfl rfl rfl hk (v := .pointer (some ⟨tb, v, none⟩)) (fun w => ?_) (fun w => ?_) ?_
    · simp [execOp, go_sem, Act.eval, hv0]
    · simp [execOp, go_sem, Act.eval, hv0]
    try simp only [List.setIfInBounds_toArray, List.set_cons_zero, List.set_cons_succ]
    refine Co.store1 (i := 6) (rest := []) (ad := ⟨tb, v, none⟩) (v := .int .i64 (n v + 1)) rfl rfl rfl hk (fun w hw hz => ?_) hI3.own hcell hfr fun W5 k5 => ?_
    · obtain ⟨u, hu⟩ := hw
      refine ⟨?_, ?_⟩
      · simp [execOp, go_sem, Act.eval, stored, hu, hz]
      · simp [execOp, go_sem, Act.eval, hu, hz]
    have hI5 := hI3.stable k5 fun _ x => x
    have hI6 : RI M tb (addAt n v 1) O (W5.setCell ⟨tb, v, none⟩ (.int .i64 (n v + 1))) := by
      refine ⟨hI5.own, ?_⟩
      have h6 := heap_setCell_same W5 tb v _ _ (.int .i64 (n v + 1)) hI5.blk
      unfold Blk
      rw [h6]
      simp only [intCells, List.setIfInBounds_toArray, ← cntL_set hv, List.map_set]
    refine Co.regionEnd (Co.inBlock (Co.inLoop ?_))
    exact ih (addAt n v 1) (fun x hx => hl x (by simp [hx])) (addAt_bound hn) (fun u => by
      have := hN u
      rw [cnts] at this
      unfold addAt
      split
      · rename_i e
        rw [if_pos e] at this
        omega
      · rename_i e
        rw [if_neg e] at this
        omega) O _ y0 y1 y2 y3 y4 y5 y6 y7 y8 (.int .i64 (v : Int)) y13 y14 y15 y16 y17 y18 y19 y20 y21 y22 y23 y24 y25 y26 y27 (.tuple #[.int .i64 (v : Int), .bool true]) (.bool true) (.int .i64 (v : Int)) (.slice (some ⟨tb, 0, none⟩) M M) (.int .i64 (v : Int)) (.pointer (some ⟨tb, v, none⟩)) (.int .i64 (n v)) (.int .i64 (n v + 1)) (.pointer (some ⟨tb, v, none⟩)) y38 y39 y40 y41 y42 y43 y44 y45 hI6
end
set_option maxRecDepth 10000 in
set_option maxHeartbeats 2000000 in
/-- THE RECEIVER, from behind the go statement -/
theorem set_recv {S O : Nat → Prop} {W : World} {sp c bx M : Nat} {cs : List Frame} {A : Value} (hM : M ≤ 6) (N : Nat → Int) (l : List Nat) (hl : ∀ v ∈ l, v < M) (hn : ∀ u, cnts l u = N u ∧ N u ≤ 100000) (hO : O bx) (hb : Blk W bx 25 #[.int .i64 (M : Int), A]) (ops : Array Oper)
    (y0 y1 y2 y4 y5 y6 y7 y8 y11 y12 y13 y14 y15 y16 y17 y18 y19 y20 y21 y22 y23 y24 y25 y26 y27 y28 y29 y30 y31 y32 y33 y34 y35 y36 y37 y38 y39 y40 y41 y42 y43 y44 y45 : Value) : Co Try.prog true S (RecvsO Try.prog S c (.int .i64 0) (FinC sp c W.heap.size M cs N) (sentV l)) O
      (G (stF.at ⟨List.toArray (y0 :: y1 :: y2 :: .pointer (some ⟨bx, 0, none⟩) :: y4 :: y5 :: y6 :: y7 :: y8 :: .pointer (some ⟨sp, 0, none⟩) :: .chan (some c) :: y11 :: y12 :: y13 :: y14 :: y15 :: y16 :: y17 :: y18 :: y19 :: y20 :: y21 :: y22 :: y23 :: y24 :: y25 :: y26 :: y27 :: y28 :: y29 :: y30 :: y31 :: y32 :: y33 :: y34 :: y35 :: y36 :: y37 :: y38 :: y39 :: y40 :: y41 :: y42 :: y43 :: y44 :: y45 :: []), []⟩ [.inRegion ops [], .code stRecv]) cs) W := by
  have hk : stF.kind ≠ .early := by decide
  have hsz : bx < W.heap.size := heap_lt hb
  refine Co.regionEnd (Co.seq (Co.regionL (l := [0, 1, 2, 3]) rfl ?_))
  refine Co.op1 (i := 0) (rest := [1, 2, 3]) rfl rfl rfl hk (v := .pointer (some ⟨bx, 0, none⟩)) (fun w => ?_) (fun w => ?_) ?_
  · simp [execOp, go_sem, Act.eval]
  · simp [execOp, go_sem, Act.eval]
  try simp only [List.setIfInBounds_toArray, List.set_cons_zero, List.set_cons_succ]
  refine Co.load1 (i := 1) (rest := [2, 3]) (x := 25) (ty := 3) (ad := ⟨bx, 0, none⟩) (v := .int .i64 (M : Int)) rfl rfl rfl hk rfl rfl set_bool rfl (.inr hO) (by rw [cell_at hb]; rfl) ?_
  try simp only [List.setIfInBounds_toArray, List.set_cons_zero, List.set_cons_succ]
  refine Co.opW (i := 2) (rest := [3]) rfl rfl rfl hk fun W1 k1 => ?_
  obtain ⟨i0, hi, hz0, hz1, hz2⟩ := info_parts intInfo
  have hmk := make_ints M (by omega) W1
  have hev := events_make (P := Try.prog) W1 28 3 i0 _ Try.underlying28 hi hz0 .i64 .i64 (M : Int) (M : Int) (by omega) (by omega) (by rw [hz2]; omega) (by omega) (by rw [hz2]; omega) #[]
  have hsz1 := k1.size
  refine ⟨.slice (some ⟨W1.heap.size, 0, none⟩) M M, W1.alloc (.cells (intCells (List.replicate M 0)).toArray 3), ?_, ⟨by simp, rfl, rfl, rfl, fun b hb2 _ => heap_alloc_old _ _ hb2, fun e he => ?_⟩, ?_⟩
  · simp [execOp, Act.eval, hmk]
  · have h3 := Conc.mem_listed he
    simp [execOp, Act.eval, hev] at h3
  have hown : grow O W1 (W1.alloc (.cells (intCells (List.replicate M 0)).toArray 3)) W1.heap.size := .inr ⟨Nat.le_refl _, by simp⟩
  have hI : RI M W1.heap.size (fun _ => 0) (grow O W1 (W1.alloc (.cells (intCells (List.replicate M 0)).toArray 3))) (W1.alloc (.cells (intCells (List.replicate M 0)).toArray 3)) := ⟨hown, by rw [cntL_zero]; exact heap_alloc_new _ _⟩
  refine Co.op1 (i := 3) (rest := []) rfl rfl rfl hk (v := .slice (some ⟨W1.heap.size, 0, none⟩) M M) (fun w => ?_) (fun w => ?_) ?_
  · simp [execOp, go_sem, Act.eval]
  · simp [execOp, go_sem]
  try simp only [List.setIfInBounds_toArray, List.set_cons_zero, List.set_cons_succ]
  refine Co.regionEnd (Co.seq (Co.seq (Co.regionL (l := [0]) rfl ?_)))
  refine Co.op1 (i := 0) (rest := []) rfl rfl rfl hk (v := .chan (some c)) (fun w => ?_) (fun w => ?_) ?_
  · simp [execOp, go_sem, Act.eval]
  · simp [execOp, go_sem]
  try simp only [List.setIfInBounds_toArray, List.set_cons_zero, List.set_cons_succ]
  refine Co.regionEnd (Co.block (Co.loop ?_))
  exact recv_loop (by omega) N l (fun _ => 0) hl (fun u => by have := hn u; have := cnts_nn l u; omega) (fun u => by rw [(hn u).1]; omega) _ _ y0 y1 y2 (.pointer (some ⟨bx, 0, none⟩)) y4 y5 y6 y7 y8 y12 y13 y14 y15 y16 y17 y18 y19 y20 y21 y22 y23 y24 (.pointer (some ⟨bx, 0, none⟩)) (.int .i64 (M : Int)) (.slice (some ⟨W1.heap.size, 0, none⟩) M M) y29 y30 y31 y32 y33 y34 y35 y36 y37 y38 y39 y40 y41 y42 y43 y44 y45 hI
end Go.Proofs.Ytndncmjhpbjcoaa
