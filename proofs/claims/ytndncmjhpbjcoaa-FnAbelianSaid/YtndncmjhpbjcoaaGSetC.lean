/- Stabilize: the walk of the sandpile's goroutine. -/
import Derived.Test.YtndncmjhpbjcoaaGSetB
set_option linter.all false
namespace Go.Proofs.Ytndncmjhpbjcoaa
open Go Go.Conc Go.RowKit

noncomputable def setLoop : Code := match setBody with
  | .seq (.seq _ (.block _ (.loop c))) _ => c
  | _ => .skip
noncomputable def setClose : Code := match setBody with
  | .seq _ c => c
  | _ => .skip
section
variable {S : Nat → Prop} {sp pb g M cg cA q B c : Nat} {A : Option Addr} {es : List (Int × Int)} {p : List Int} {W : World} {O : Nat → Prop}
def FinP (S : Nat → Prop) (sp pb g M cg cA q B : Nat) (A : Option Addr) (es : List (Int × Int)) (p : List Int) (O : Nat → Prop) (w : World) : Prop := CI S sp pb g M cg cA q B A es (pileL M es p q (settN M es p q)) O w
theorem set_bool : Try.prog.underlying 3 = some (.int .i64) := by kernel_rfl
theorem set_loud : (Try.prog.funcs[60]?).any (·.norace) = false := by kernel_rfl
set_option maxRecDepth 10000 in
set_option maxHeartbeats 1000000 in
theorem set_loop (k : Fix S sp pb g M q B es) (hL : PileL M q es p) : ∀ (f : Nat) (n : Nat → Int), Tops M es p q n → sumV (settN M es p q) M - sumV n M < f → ∀ (O : Nat → Prop) (W : World) (x2 x3 x5 x6 x7 x8 x9 x10 x11 x12 x13 x14 x15 x16 : Value), CI S sp pb g M cg cA q B A es (pileL M es p q n) O W →
    Co Try.prog false S (SendsO Try.prog S c (FinP S sp pb g M cg cA q B A es p) (sentV (runL M es p q f n))) O
      (G ((baseD 60).at ⟨#[.pointer (some ⟨sp, 0, none⟩), .chan (some c), x2, x3, .int .i64 (unsI (unsF M q es (pileL M es p q n))), x5, x6, x7, x8, x9, x10, x11, x12, x13, x14, x15, x16], []⟩ [.code setLoop, .inLoop setLoop, .inBlock 0, .code setClose]) [pilBot]) W := by
  intro f
  induction f with
  | zero =>
    intro n ht hf
    have := ht.more hL.ed hL.hp hL.ex
    omega
  | succ f ih =>
    intro n ht hf O W x2 x3 x5 x6 x7 x8 x9 x10 x11 x12 x13 x14 x15 x16 hI
    have hk : (baseD 60).kind ≠ .early := by decide
    cases hu : unsF M q es (pileL M es p q n) with
    | none =>
      rw [runL_none hu]
      have hs : IsSet M es p q n := ⟨ht, stab_of hu⟩
      have hI2 : FinP S sp pb g M cg cA q B A es p O W := by
        unfold FinP
        rw [hs.eq hL.ed hL.hp]
        exact hI
      refine Co.seq (Co.seq (Co.region ?_))
      refine Co.op1 (i := 0) (rest := [1]) rfl rfl rfl hk (v := .int .i64 (-1)) (fun w => ?_) (fun w => ?_) ?_
      · simp [execOp, go_sem, Act.eval, unsI]
      · simp [execOp, go_sem]
      refine Co.op1 (i := 1) (rest := []) rfl rfl rfl hk (v := .bool false) (fun w => ?_) (fun w => ?_) ?_
      · simp [execOp, go_sem, Act.eval]
      · simp [execOp, go_sem, Act.eval]
      refine Co.regionEnd (Co.cond (t := false) rfl ?_)
      try simp only [List.setIfInBounds_toArray, List.set_cons_zero, List.set_cons_succ]
      refine Co.exit (k' := [.code setClose]) rfl ?_
      refine Co.region ?_
      refine Co.op1 (i := 0) (rest := [1]) rfl rfl rfl hk (v := .chan (some c)) (fun w => ?_) (fun w => ?_) ?_
      · simp [execOp, go_sem, Act.eval]
      · simp [execOp, go_sem]
      refine .stop fun W1 k1 => ?_
      refine ⟨rfl, rfl, CI.stable hI2 k1 fun _ x => x, _, 4, ?_, ?_, fun s r hc => stepG_close rfl rfl hk rfl rfl hc set_loud⟩
      rotate_left
      · rfl
      exact QuitsD.ctl rfl (fun _ => stepG_region_end) (QuitsD.ctl rfl (fun _ => stepG_end) (set_quits _ rfl _))
    | some v =>
      rw [runL_some hu]
      obtain ⟨hv, hvq, ht2⟩ := tops_of ht hu
      have hf2 : sumV (settN M es p q) M - sumV (addAt n v 1) M < f := by rw [sumV_addAt, if_pos hv]; omega
      refine Co.seq (Co.seq (Co.region ?_))
      refine Co.op1 (i := 0) (rest := [1]) rfl rfl rfl hk (v := .int .i64 (v : Int)) (fun w => ?_) (fun w => ?_) ?_
      · simp [execOp, go_sem, Act.eval, unsI]
      · simp [execOp, go_sem]
      refine Co.op1 (i := 1) (rest := []) rfl rfl rfl hk (v := .bool true) (fun w => ?_) (fun w => ?_) ?_
      · have hne : (v : Int) ≠ -1 := by omega
        simp [execOp, go_sem, Act.eval, hne]
      · simp [execOp, go_sem, Act.eval]
      refine Co.regionEnd (Co.cond (t := true) rfl ?_)
      try simp only [List.setIfInBounds_toArray, List.set_cons_zero, List.set_cons_succ]
      refine Co.skip (Co.seq (Co.block (Co.seq (Co.region ?_))))
      refine Co.op1 (i := 0) (rest := [1, 2]) rfl rfl rfl hk (v := .pointer (some ⟨sp, 0, none⟩)) (fun w => ?_) (fun w => ?_) ?_
      · simp [execOp, go_sem, Act.eval]
      · simp [execOp, go_sem]
      refine Co.op1 (i := 1) (rest := [2]) rfl rfl rfl hk (v := .int .i64 (v : Int)) (fun w => ?_) (fun w => ?_) ?_
      · simp [execOp, go_sem, Act.eval, unsI]
      · simp [execOp, go_sem]
      refine Co.call1 (i := 2) (rest := []) rfl rfl hk (f := 65) (args := #[.pointer (some ⟨sp, 0, none⟩), .int .i64 (v : Int)]) (fun w => ?_) (fun w => ?_) ?_
      · simp [execOp, go_sem, Act.eval, resolve]
      · simp [execOp, go_sem, Act.eval, resolve]
        exact events_callGo Try.func65 (by kernel_rfl) (by kernel_rfl)
      have hcs : chipsOf M (fun u => (pileL M es p q n).getD u 0) = pileL M es p q n := chips_self (pileL_len M es p q n) (pile_bound hL ht)
      rw [← hcs] at hI
      refine co_topple hI k _ _ fun O2 W2 hI2 hO2 => ?_
      rw [top_board hL ht] at hI2
      rw [finish_of rfl]
      try simp only [List.setIfInBounds_toArray, List.set_cons_zero, List.set_cons_succ]
      refine Co.regionEnd (Co.region ?_)
      try simp only [List.setIfInBounds_toArray, List.set_cons_zero, List.set_cons_succ]
      refine Co.op1 (i := 0) (rest := [1, 2]) rfl rfl rfl hk (v := .chan (some c)) (fun w => ?_) (fun w => ?_) ?_
      · simp [execOp, go_sem, Act.eval]
      · simp [execOp, go_sem]
      refine Co.op1 (i := 1) (rest := [2]) rfl rfl rfl hk (v := .int .i64 (v : Int)) (fun w => ?_) (fun w => ?_) ?_
      · simp [execOp, go_sem, Act.eval, unsI]
      · simp [execOp, go_sem]
      refine .stop fun W1 k1 => ?_
      refine ⟨rfl, .tuple #[], #[], ?_, fun e he => by simp at he, fun W3 k3 => ?_⟩
      · rw [stepG_comm rfl rfl hk (shape := .send) (cases := #[scase c (.int .i64 (v : Int)) (.tuple #[])]) (blocking := true) (w' := W1) (by simp [execOp, go_sem, Act.eval, scase]), listed_none (by simp [execOp, go_sem, Act.eval])]
        rfl
      have hI3 := (hI2.stable k1 fun _ x => x).stable k3 fun _ x => x
      rw [served_no rfl]
      try simp only [List.setIfInBounds_toArray, List.set_cons_zero, List.set_cons_succ]
      refine Co.regionEnd (Co.inBlock (Co.region ?_))
      try simp only [List.setIfInBounds_toArray, List.set_cons_zero, List.set_cons_succ]
      refine Co.op1 (i := 0) (rest := [1, 2]) rfl rfl rfl hk (v := .pointer (some ⟨sp, 0, none⟩)) (fun w => ?_) (fun w => ?_) ?_
      · simp [execOp, go_sem, Act.eval]
      · simp [execOp, go_sem]
      refine Co.call1 (i := 1) (rest := [2]) rfl rfl hk (f := 61) (args := #[.pointer (some ⟨sp, 0, none⟩)]) (fun w => ?_) (fun w => ?_) ?_
      · simp [execOp, go_sem, Act.eval, resolve]
      · simp [execOp, go_sem, Act.eval, resolve]
        exact events_callGo Try.func61 (by kernel_rfl) (by kernel_rfl)
      refine co_first hI3 k (pileL_len M es p q _) _ _ fun O4 W4 hI4 hO4 => ?_
      rw [finish_of rfl]
      try simp only [List.setIfInBounds_toArray, List.set_cons_zero, List.set_cons_succ]
      refine Co.op1 (i := 2) (rest := []) rfl rfl rfl hk (v := .int .i64 (unsI (unsF M q es (pileL M es p q (addAt n v 1))))) (fun w => ?_) (fun w => ?_) ?_
      · simp [execOp, go_sem, Act.eval]
      · simp [execOp, go_sem]
      refine Co.regionEnd (Co.inLoop ?_)
      try simp only [List.setIfInBounds_toArray, List.set_cons_zero, List.set_cons_succ]
      exact ih (addAt n v 1) ht2 hf2 O4 W4 x2 x3 x5 x6 (.int .i64 (v : Int)) (.bool true) (.pointer (some ⟨sp, 0, none⟩)) (.int .i64 (unsI (unsF M q es (pileL M es p q (addAt n v 1))))) (.pointer (some ⟨sp, 0, none⟩)) (.int .i64 (v : Int)) (.tuple #[]) (.chan (some c)) (.int .i64 (v : Int)) x16 hI4
theorem set_sends (k : Fix S sp pb g M q B es) (hL : PileL M q es p) (hI : CI S sp pb g M cg cA q B A es p O W) :
    Co Try.prog false S (SendsO Try.prog S c (FinP S sp pb g M cg cA q B A es p) (sentV (runL M es p q ((sumV (settN M es p q) M).toNat + 1) fun _ => 0))) O (born Try.prog (setCall sp c)) W := by
  have hk : (baseD 60).kind ≠ .early := by decide
  have e0 := pileL_zero (es := es) hL.len hL.qm hL.zero
  refine Co.ctl rfl (fun w => set_born sp c w) ?_
  refine Co.seq (Co.seq (Co.region ?_))
  refine Co.op1 (i := 0) (rest := [1, 2]) rfl rfl rfl hk (v := .pointer (some ⟨sp, 0, none⟩)) (fun w => ?_) (fun w => ?_) ?_
  · simp [execOp, go_sem, Act.eval]
  · simp [execOp, go_sem]
  refine Co.call1 (i := 1) (rest := [2]) rfl rfl hk (f := 61) (args := #[.pointer (some ⟨sp, 0, none⟩)]) (fun w => ?_) (fun w => ?_) ?_
  · simp [execOp, go_sem, Act.eval, resolve]
  · simp [execOp, go_sem, Act.eval, resolve]
    exact events_callGo Try.func61 (by kernel_rfl) (by kernel_rfl)
  refine co_first hI k hL.len _ _ fun O4 W4 hI4 hO4 => ?_
  rw [finish_of rfl]
  try simp only [List.setIfInBounds_toArray, List.set_cons_zero, List.set_cons_succ]
  refine Co.op1 (i := 2) (rest := []) rfl rfl rfl hk (v := .int .i64 (unsI (unsF M q es p))) (fun w => ?_) (fun w => ?_) ?_
  · simp [execOp, go_sem, Act.eval]
  · simp [execOp, go_sem]
  refine Co.regionEnd (Co.block (Co.loop ?_))
  try simp only [List.setIfInBounds_toArray, List.set_cons_zero, List.set_cons_succ]
  have hb : sumV (fun _ : Nat => (0 : Int)) M = 0 := by
    have : ∀ j, sumV (fun _ : Nat => (0 : Int)) j = 0 := fun j => by induction j with
      | zero => rfl
      | succ j ih => rw [sumV, ih]; rfl
    exact this M
  have h3 := set_loop (c := c) (A := A) (cA := cA) (cg := cg) k hL ((sumV (settN M es p q) M).toNat + 1) (fun _ => 0) Tops.zero (by rw [hb]; omega) O4 W4
  rw [e0] at h3
  exact h3 undef undef (.pointer (some ⟨sp, 0, none⟩)) (.int .i64 (unsI (unsF M q es p))) undef undef undef undef undef undef undef undef undef undef hI4
end
end Go.Proofs.Ytndncmjhpbjcoaa
