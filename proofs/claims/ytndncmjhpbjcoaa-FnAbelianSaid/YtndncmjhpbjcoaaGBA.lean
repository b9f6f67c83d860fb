/- One text out of several: Law Base Edge ToEdge IntB Ints Open LawG MarkE OpenI Keep Cell1 HeldE HeldG IntSS OpenSS KeepSS OwnSS. -/
import Derived.Test.YtndncmjhpbjcoaaRows
import Derived.ProofKit
import Derived.Below
import Derived.ChangeSame
import Derived.WalkKit
import Derived.WalkSpells
import Derived.WalkLawsBesides
import Derived.Lib.Hide
import Derived.Outline
import Derived.Deep.Draws
import Derived.Deep.RegionHeld3
import Derived.Deep.DeepFit
import Derived.Laws.MakeOwn
import Derived.Laws.Entries
import Derived.Laws.OwnMore
import Derived.Laws.Rows
import Derived.RegionTactic
import Derived.ChangeAlike
import Derived.Laws.AppendOwn
import Derived.OwnWalk
import Derived.Deep.SlicePairs
import Derived.Lib.SmallJoins
import Derived.Deep.Slices
import Derived.ChangeSlices
import Derived.Deep.Matrix
set_option linter.all false
/- What every law's proof ends with: a call that returns true and changes no old memory keeps the statement of the law (true, and each argument reads as it did). Conditions: the law's arguments are readable data, it lists no variable, its one result is a bool. -/
namespace Go.Proofs.Ytndncmjhpbjcoaa
open Go.RowKit Go.WideShapes Go.ChangeShapes Go.ChangeAt

section
variable {H : Type} {enc : TypeId × Value → H} {P : Program}

theorem trodAll_below {W W' : World} (hl : laidOutB P = true) (hb : Below W.heap.size W W') : ∀ {ts : List TypeId} {vs : List Value} {ds : List (DataW H)} {ps : List MemPlace},
    (ts.all fun t => P.readableRec t && decide (t < P.types.size)) = true → DataW.TrodAll enc P W 0 (fun _ => true) true ts vs ds ps → (∀ p ∈ ps, p.block < W.heap.size) →
    ∀ sp : Nat → Bool, (∀ p ∈ ps, sp p.block = true) → DataW.TrodAll enc P W' 0 sp true ts vs ds ps
  | [], [], [], _, _, h, _, _, _ => h
  | [], _ :: _, _, _, _, h, _, _, _ => h.elim
  | [], [], _ :: _, _, _, h, _, _, _ => h.elim
  | _ :: _, [], _, _, _, h, _, _, _ => h.elim
  | _ :: _, _ :: _, [], _, _, h, _, _, _ => h.elim
  | t :: ts, v :: vs, d :: ds, ps, hr, h, hlt, sp, hsp => by
    obtain ⟨p, q, h1, h2, rfl⟩ := h
    simp only [List.all_cons, Bool.and_eq_true, decide_eq_true_eq] at hr
    refine ⟨p, q, WideElems.Trod_stays hl hr.1.1 hr.1.2 h1 (fun x hx => hb.same (hlt x (by simp [hx]))) (fun x hx => hsp x (by simp [hx])),
      trodAll_below hl hb (by simpa using hr.2) h2 (fun x hx => hlt x (by simp [hx])) sp (fun x hx => hsp x (by simp [hx])), rfl⟩

theorem trodAll_len {w : World} {base : Nat} {spare : Nat → Bool} {held : Bool} : ∀ {ts : List TypeId} {vs : List Value} {ds : List (DataW H)} {ps : List MemPlace}, DataW.TrodAll enc P w base spare held ts vs ds ps → ds.length = ts.length
  | [], [], [], _, _ => rfl
  | [], _ :: _, _, _, h => h.elim
  | [], [], _ :: _, _, h => h.elim
  | _ :: _, [], _, _, h => h.elim
  | _ :: _, _ :: _, [], _, h => h.elim
  | _ :: _, _ :: _, _ :: _, _, h => by
    obtain ⟨p, q, _, h2, _⟩ := h
    simp [trodAll_len h2]

theorem law_post {f : Func} {s : ChangeSpec} {apart fresh handsOn again : Bool} {W W' : World} {args : Array Value} {ds gs : List (DataW H)} {before : List MemPlace} {tb : TypeId}
    (hl : laidOutB P = true) (hrow : (f.params.toList.all fun t => P.readableRec t && decide (t < P.types.size)) = true)
    (hres : f.resultTypes = #[tb]) (htb : P.underlying tb = some .bool) (hvars : s.vars = [])
    (hW : DataW.Whole enc P f.params.toList s.vars apart W args.toList ds gs before)
    (hfn : s.fn H ds = { results := [.lit (.bool true)], args := ds })
    (hb : Below W.heap.size W W') : s.post enc P f apart fresh handsOn again W args (.bool true) W' := by
  have hW0 := hW
  obtain ⟨p, q, hA, hV, rfl, hz, hn⟩ := hW0
  rw [hvars] at hV
  have hg : gs = [] := by cases gs with
    | nil => rfl
    | cons a l => exact hV.elim
  subst hg
  have hq : q = [] := hV
  subst hq
  rw [List.append_nil] at hW
  have hlt : ∀ x ∈ p, x.block < W.heap.size := fun x hx => hW.lt x hx
  have hold : ∀ x ∈ p, (fun b => decide (b < W.heap.size)) x.block = true := fun x hx => by simpa using hlt x hx
  have hrb : ∀ (b : Nat) (sp : Nat → Bool) (hd : Bool), DataW.TrodAll enc P W' b sp hd f.resultTypes.toList ((Value.bool true).resultList f.resultTypes.size) [.lit (.bool true)] [] := by
    intro b sp hd
    rw [hres]
    exact trodAll_mk1 (shut_bool htb true)
  have hargs := trodAll_below (W' := W') hl hb hrow hA hlt
  have hfn' : s.fn H (ds ++ []) = { results := [.lit (.bool true)], args := ds } := by rw [List.append_nil]; exact hfn
  have hvs : ∀ sp : Nat → Bool, DataW.TrodVars enc P W' sp s.vars (s.fn H (ds ++ [])).vars [] := by
    intro sp; rw [hvars, hfn']; rfl
  refine ⟨ds, [], p, [], p, [], hW, by rw [hfn']; exact hrb _ _ _, by rw [hfn']; exact hargs _ hold, hvs _, World.keptBut_mono (fun x hx => ⟨hx, ?_⟩) (hb.frame (· ∈ p)), fun _ => ?_⟩
  · exact Or.inr (Or.inl hx)
  · obtain ⟨_, _, _, _, _, _, hn'⟩ := hW
    have hok : ∀ (j : Nat) (t : TypeId) (r : Value), f.resultTypes[j]? = some t → ((Value.bool true).resultList f.resultTypes.size)[j]? = some r → Value.okWide P W' .any 0 t r := by
      rw [hres]
      exact ok_one (f := { f with resultTypes := #[tb] }) rfl rfl (okWide_bool_mk htb true)
    refine ⟨hok, _, _, ([] ++ p) ++ [], ⟨[] ++ p, [], trodAll_append (hargs _ (fun _ _ => rfl)) (hrb _ _ _), hvs _, rfl, ?_, ?_⟩, ?_⟩
    · intro b off hp
      have hin : MemPlace.cell b off ∈ p := by simpa using hp
      rw [hb.frozen (hlt _ hin)]
      exact hz b off (by simpa using hin)
    · intro ha
      simpa using hn ha
    · intro x hx _
      simpa using hx
end

end Go.Proofs.Ytndncmjhpbjcoaa

/- Two closed facts of the translated program. -/
namespace Go.Proofs.Ytndncmjhpbjcoaa
theorem Try.own : ownKnob Try.prog.godebug = none := by kernel_rfl
theorem Try.laidOut : laidOutB Try.prog = true := by kernel_rfl
end Go.Proofs.Ytndncmjhpbjcoaa

/- Contracts of the laws' helpers on edges and graphs: sizes, copies, comparisons. -/
namespace Go.Proofs.Ytndncmjhpbjcoaa
open Go.RowKit

theorem below_drewN {B : Nat} {a w : World} (h : Below B a w) (n : Nat) : Below B a (w.drewN n) := ⟨h.os, h.tape, h.output, h.size, h.block⟩
theorem ret_boolE {a b : Bool} (h : a = b) : Ending.returned (.bool a) = .returned (.bool b) := by rw [h]
theorem ret_intE {k : IntKind} {a b : Int} (h : a = b) : Ending.returned (.int k a) = .returned (.int k b) := by rw [h]

def EdgeS (w : World) (B : Nat) (A : Option Addr) (es : List (Int × Int)) : Prop :=
  0 < es.length → ∃ b off : Nat, A = some ⟨b, off, none⟩ ∧ b < B ∧ ∀ i e, es[i]? = some e → w.cell? ⟨b, off + i * 2, none⟩ = some (.int .i64 e.1) ∧ w.cell? ⟨b, off + i * 2 + 1, none⟩ = some (.int .i64 e.2)
theorem EdgeS.keep {w w' : World} {B B' : Nat} {A : Option Addr} {es : List (Int × Int)} (h : EdgeS w B A es) (hk : ∀ p : Addr, p.block < B → w'.cell? p = w.cell? p) (hB : B ≤ B') : EdgeS w' B' A es :=
  fun hn => by
    obtain ⟨b, off, e, hb, hc⟩ := h hn
    exact ⟨b, off, e, by omega, fun i x hx => ⟨(hk _ hb).trans (hc i x hx).1, (hk _ hb).trans (hc i x hx).2⟩⟩
theorem EdgeS.below {w w' : World} {B : Nat} {A : Option Addr} {es : List (Int × Int)} (h : EdgeS w B A es) (hb : Below B w w') : EdgeS w' B A es := h.keep (fun _ hp => hb.cell hp) (Nat.le_refl _)
theorem EdgeS.up {w w' : World} {B B' : Nat} {A : Option Addr} {es : List (Int × Int)} (h : EdgeS w B A es) (hb : Below B w w') (hB : B ≤ B') : EdgeS w' B' A es := h.keep (fun _ hp => hb.cell hp) hB
theorem EdgeS.at_ {w : World} {B : Nat} {A : Option Addr} {es : List (Int × Int)} (h : EdgeS w B A es) {k : Nat} (hk : k < es.length) :
    ∃ (b off : Nat) (e : Int × Int), A = some ⟨b, off, none⟩ ∧ b < B ∧ es[k]? = some e ∧ w.cell? ⟨b, off + k * 2, none⟩ = some (.int .i64 e.1) ∧ w.cell? ⟨b, off + k * 2 + 1, none⟩ = some (.int .i64 e.2) := by
  obtain ⟨b, off, e, hb, hc⟩ := h (by omega)
  exact ⟨b, off, es[k], e, hb, List.getElem?_eq_getElem hk, hc k _ (List.getElem?_eq_getElem hk)⟩

theorem keep4 {w W w2 : World} {p q r s : Addr} {a b c d : Value} (hS : W.cell? p = some a ∧ W.cell? q = some b ∧ W.cell? r = some c ∧ W.cell? s = some d ∧ Below w.heap.size w W) (hb : Below W.heap.size W w2)
    (hp : p.block < w.heap.size) (hq : q.block < w.heap.size) (hr : r.block < w.heap.size) (hs : s.block < w.heap.size) :
    w2.cell? p = some a ∧ w2.cell? q = some b ∧ w2.cell? r = some c ∧ w2.cell? s = some d ∧ Below w.heap.size w w2 := by
  obtain ⟨h1, h2, h3, h4, h5⟩ := hS
  have hz := h5.size
  exact ⟨(hb.cell (by omega)).trans h1, (hb.cell (by omega)).trans h2, (hb.cell (by omega)).trans h3, (hb.cell (by omega)).trans h4, h5.trans (hb.mono hz)⟩
end Go.Proofs.Ytndncmjhpbjcoaa

/- The laws' copies of a slice of edges and of a graph. -/
namespace Go.Proofs.Ytndncmjhpbjcoaa
open Go.RowKit

def Blk (w : World) (g : Nat) (t : TypeId) (cs : Array Value) : Prop := w.heap[g]? = some (.cells cs t (0, 0))
section
variable {w w' : World} {g : Nat} {t : TypeId} {cs : Array Value}
theorem Blk.lt (h : Blk w g t cs) : g < w.heap.size := by
  rcases Nat.lt_or_ge g w.heap.size with hlt | hge
  · exact hlt
  · unfold Blk at h; rw [Array.getElem?_eq_none hge] at h; cases h
theorem Blk.cell (h : Blk w g t cs) (i : Nat) : w.cell? ⟨g, i, none⟩ = cs[i]? := cell_of_row w g i cs t (0, 0) h
theorem Blk.frozen (h : Blk w g t cs) (i : Nat) : w.frozen? ⟨g, i, none⟩ = false := by
  unfold Blk at h
  simp [World.frozen?, h]
theorem Blk.new (w : World) (t : TypeId) (cs : Array Value) : Blk (w.alloc (.cells cs t)) w.heap.size t cs := heap_alloc_new w _
theorem Blk.drew (h : Blk w g t cs) : Blk w.drew g t cs := h
theorem Blk.drewN (h : Blk w g t cs) (n : Nat) : Blk (w.drewN n) g t cs := h
theorem Blk.alloc (h : Blk w g t cs) (o : Obj) : Blk (w.alloc o) g t cs := (Below.heap_alloc w o g h.lt).trans h
theorem Blk.set_ (h : Blk w g t cs) (i : Nat) (u : Value) : Blk (w.setCell ⟨g, i, none⟩ u) g t (cs.setIfInBounds i u) := by
  unfold Blk at h ⊢
  simp [World.setCell, Array.getElem?_modify, h]
theorem Blk.far (h : Blk w g t cs) {p : Addr} (hp : g ≠ p.block) (u : Value) : Blk (w.setCell p u) g t cs := (Below.heap_setCell w p u g hp).trans h
theorem Blk.below {B : Nat} (h : Blk w g t cs) (hb : Below B w w') (hg : g < B) : Blk w' g t cs := (hb.block g hg).trans h
end

def flat : List (Int × Int) → List Value
  | [] => []
  | e :: l => .int .i64 e.1 :: .int .i64 e.2 :: flat l
theorem flat_length : ∀ l : List (Int × Int), (flat l).length = l.length * 2
  | [] => rfl
  | _ :: l => by simp only [flat, List.length_cons, flat_length l]; omega
theorem flat_at : ∀ (l : List (Int × Int)) (i : Nat) (e : Int × Int), l[i]? = some e → (flat l)[i * 2]? = some (.int .i64 e.1) ∧ (flat l)[i * 2 + 1]? = some (.int .i64 e.2)
  | a :: l, 0, e, h => by
    simp only [List.getElem?_cons_zero, Option.some.injEq] at h
    subst h
    exact ⟨rfl, rfl⟩
  | a :: l, i + 1, e, h => by
    rw [List.getElem?_cons_succ] at h
    have := flat_at l i e h
    simpa [flat, Nat.add_mul] using this
def part (es : List (Int × Int)) (k : Nat) : List (Int × Int) := es.take k ++ List.replicate (es.length - k) (0, 0)
theorem EdgeS.of_blk {w : World} {g B : Nat} {t : TypeId} {es : List (Int × Int)} (h : Blk w g t (flat es).toArray) (hg : g < B) : EdgeS w B (some ⟨g, 0, none⟩) es := fun _ =>
  ⟨g, 0, rfl, hg, fun i e he => by
    have := flat_at es i e he
    rw [h.cell, h.cell]
    simpa using this⟩

theorem edgeInfo : (Try.prog.info? 122).map (fun i => (i.zero, i.size, i.bytes)) = some (some (.agg #[.int .i64 0, .int .i64 0]), 2, 16) := by kernel_rfl

theorem EdgeS.up_ {w w' : World} {A : Option Addr} {es : List (Int × Int)} (h : EdgeS w w.heap.size A es) (hb : Below w.heap.size w w') : EdgeS w' w'.heap.size A es := h.up hb hb.size

end Go.Proofs.Ytndncmjhpbjcoaa

/- Slices of ints: how they read, what a call's own memory holds. -/
namespace Go.Proofs.Ytndncmjhpbjcoaa
open Go.RowKit

def IntS (w : World) (B : Nat) (A : Option Addr) (xs : List Int) : Prop :=
  0 < xs.length → ∃ b off : Nat, A = some ⟨b, off, none⟩ ∧ b < B ∧ ∀ (i : Nat) (x : Int), xs[i]? = some x → w.cell? ⟨b, off + i, none⟩ = some (.int .i64 x)
theorem IntS.keep {w w' : World} {B B' : Nat} {A : Option Addr} {xs : List Int} (h : IntS w B A xs) (hk : ∀ p : Addr, p.block < B → w'.cell? p = w.cell? p) (hB : B ≤ B') : IntS w' B' A xs :=
  fun hn => by
    obtain ⟨b, off, e, hb, hc⟩ := h hn
    exact ⟨b, off, e, by omega, fun i x hx => (hk _ hb).trans (hc i x hx)⟩
theorem IntS.below {w w' : World} {B : Nat} {A : Option Addr} {xs : List Int} (h : IntS w B A xs) (hb : Below B w w') : IntS w' B A xs := h.keep (fun _ hp => hb.cell hp) (Nat.le_refl _)
theorem IntS.up_ {w w' : World} {A : Option Addr} {xs : List Int} (h : IntS w w.heap.size A xs) (hb : Below w.heap.size w w') : IntS w' w'.heap.size A xs := h.keep (fun _ hp => hb.cell hp) hb.size
theorem IntS.at_ {w : World} {B : Nat} {A : Option Addr} {xs : List Int} (h : IntS w B A xs) {k : Nat} (hk : k < xs.length) :
    ∃ (b off : Nat) (x : Int), A = some ⟨b, off, none⟩ ∧ b < B ∧ xs[k]? = some x ∧ w.cell? ⟨b, off + k, none⟩ = some (.int .i64 x) := by
  obtain ⟨b, off, e, hb, hc⟩ := h (by omega)
  exact ⟨b, off, xs[k], e, hb, List.getElem?_eq_getElem hk, hc k _ (List.getElem?_eq_getElem hk)⟩

theorem intInfo : (Try.prog.info? 3).map (fun i => (i.zero, i.size, i.bytes)) = some (some (.int .i64 0), 1, 8) := by kernel_rfl
def intCells (xs : List Int) : List Value := xs.map (Value.int .i64)
theorem made_ints (n : Nat) : madeCells (Value.int .i64 0).cells (n * 1) = (intCells (List.replicate n 0)).toArray := by
  apply Array.ext
  · simp [madeCells, intCells]
  · intro i h1 h2
    simp only [madeCells, intCells, Array.getElem_map, Array.getElem_range, List.getElem_toArray, List.getElem_map, List.getElem_replicate]
    show (#[Value.int .i64 0] : Array Value)[i % 1]! = _
    rw [Nat.mod_one]
    rfl
theorem make_ints (n : Nat) (hn : n ≤ 1048576) (w : World) : (Instr.makeSlice 28 (.int .i64 (n : Int)) (.int .i64 (n : Int))).run Try.prog w =
    .ok (.slice (some ⟨w.heap.size, 0, none⟩) n n) (w.alloc (.cells (intCells (List.replicate n 0)).toArray 3)) := by
  obtain ⟨i0, hi, hz0, hz1, hz2⟩ := info_parts intInfo
  have hr := run_make (P := Try.prog) w 28 3 i0 _ Try.underlying28 hi hz0 .i64 .i64 n n (by omega) (by omega) (by rw [hz2]; omega) (by omega)
  rw [hz1] at hr
  simp only [Int.toNat_natCast] at hr
  rw [made_ints] at hr
  exact hr
theorem IntS.of_blk {w : World} {g B : Nat} {t : TypeId} {xs : List Int} (h : Blk w g t (intCells xs).toArray) (hg : g < B) : IntS w B (some ⟨g, 0, none⟩) xs := fun _ =>
  ⟨g, 0, rfl, hg, fun i x hx => by
    rw [h.cell]
    simp [intCells, hx]⟩
def OwnI (w : World) (base : Nat) (A : Option Addr) (zs : List Int) : Prop :=
  0 < zs.length → ∃ g off : Nat, A = some ⟨g, off, none⟩ ∧ base ≤ g ∧ g < w.heap.size ∧ ∀ (i : Nat) (z : Int), zs[i]? = some z → w.cell? ⟨g, off + i, none⟩ = some (.int .i64 z) ∧ w.frozen? ⟨g, off + i, none⟩ = false
theorem OwnI.ints {w : World} {base : Nat} {A : Option Addr} {zs : List Int} (h : OwnI w base A zs) : IntS w w.heap.size A zs := fun hn => by
  obtain ⟨g, off, e, _, hg, hc⟩ := h hn
  exact ⟨g, off, e, hg, fun i z hz => (hc i z hz).1⟩
theorem OwnI.below {w w' : World} {base : Nat} {A : Option Addr} {zs : List Int} (h : OwnI w base A zs) (hb : Below w.heap.size w w') : OwnI w' base A zs := fun hn => by
  obtain ⟨g, off, e, h1, hg, hc⟩ := h hn
  exact ⟨g, off, e, h1, Nat.lt_of_lt_of_le hg hb.size, fun i z hz => ⟨(hb.cell (p := ⟨g, off + i, none⟩) hg).trans (hc i z hz).1, (hb.frozen (p := ⟨g, off + i, none⟩) hg).trans (hc i z hz).2⟩⟩
theorem OwnI.mono {w : World} {base base' : Nat} {A : Option Addr} {zs : List Int} (h : OwnI w base A zs) (hb : base' ≤ base) : OwnI w base' A zs := fun hn => by
  obtain ⟨g, off, e, h1, hg, hc⟩ := h hn
  exact ⟨g, off, e, by omega, hg, hc⟩
theorem OwnI.of_blk {w : World} {g base : Nat} {t : TypeId} {zs : List Int} (h : Blk w g t (intCells zs).toArray) (hg : base ≤ g) : OwnI w base (some ⟨g, 0, none⟩) zs := fun _ =>
  ⟨g, 0, rfl, hg, h.lt, fun i z hz => ⟨by rw [h.cell]; simp [intCells, hz], h.frozen _⟩⟩
theorem OwnI.nil (w : World) (base : Nat) (A : Option Addr) : OwnI w base A [] := fun h => absurd h (by simp)
theorem OwnI.of_own {w : World} {base n c : Nat} {A : Option Addr} {zs : List Int} (h : w.ownsRow base 3 1 (.slice A n c) n (intCells zs)) : OwnI w base A zs := fun hn => by
  obtain ⟨hl, h⟩ := h
  rcases h with ⟨_, h0⟩ | ⟨g, cap, cur, hv, hb, hh, hnc, _, hcs, htk⟩
  · subst h0
    simp [intCells] at hl
    subst hl
    simp at hn
  · injection hv with hA _ hc
    subst hA
    have hblk : Blk w g 3 cur := hh
    refine ⟨g, 0, rfl, hb, hblk.lt, fun i z hz => ⟨?_, hblk.frozen _⟩⟩
    have hi : i < zs.length := (List.getElem?_eq_some_iff.1 hz).1
    have hln : zs.length = n := by simpa [intCells] using hl
    rw [hblk.cell, Nat.zero_add]
    have : (cur.toList.take (n * 1))[i]? = some (.int .i64 z) := by rw [htk]; simp [intCells, hz]
    rw [List.getElem?_take_of_lt (by omega)] at this
    simpa using this
end Go.Proofs.Ytndncmjhpbjcoaa

/- Slices of ints: what the laws' helpers do with them: copies, comparisons, sizes, marks. -/
namespace Go.Proofs.Ytndncmjhpbjcoaa
open Go.RowKit

structure Turned (w w' : World) (A : Option Addr) : Prop where
  os : w'.os = w.os
  tape : w'.tape = w.tape
  output : w'.output = w.output
  size : w'.heap.size = w.heap.size
  block : ∀ i, i < w.heap.size → (∀ off, A ≠ some ⟨i, off, none⟩) → w'.heap[i]? = w.heap[i]?
theorem Turned.below {w w' : World} {A : Option Addr} {base : Nat} {zs : List Int} (h : Turned w w' A) (ho : OwnI w base A zs) (hb : base ≤ w.heap.size) (hn : 0 < zs.length) : Below base w w' :=
  ⟨h.os, h.tape, h.output, by rw [h.size]; exact Nat.le_refl _, fun i hi => h.block i (by omega) fun off he => by
    obtain ⟨g, o2, e2, hg, _, _⟩ := ho hn
    rw [e2] at he
    injection he with he
    injection he with he
    omega⟩
def Marked (w wr : World) (g off : Nat) (zs : List Int) (k : Int) (j : Nat) : Prop :=
  Turned w wr (some ⟨g, off, none⟩) ∧ (∀ i, i < zs.length → wr.frozen? ⟨g, off + i, none⟩ = false) ∧ (∀ i, i < zs.length → ∃ u, wr.cell? ⟨g, off + i, none⟩ = some (.int .i64 u)) ∧ ∀ i, i < j → wr.cell? ⟨g, off + i, none⟩ = some (.int .i64 (k + i))
theorem Turned.refl (w : World) (A : Option Addr) : Turned w w A := ⟨rfl, rfl, rfl, rfl, fun _ _ _ => rfl⟩
theorem Turned.trans {a b c : World} {A : Option Addr} (h : Turned a b A) (k : Turned b c A) : Turned a c A :=
  ⟨k.os.trans h.os, k.tape.trans h.tape, k.output.trans h.output, k.size.trans h.size, fun i hi hne => (k.block i (by rw [h.size]; exact hi) hne).trans (h.block i hi hne)⟩
theorem Turned.set_ (w : World) (g off i : Nat) (u : Value) : Turned w (w.setCell ⟨g, i, none⟩ u) (some ⟨g, off, none⟩) :=
  ⟨rfl, rfl, rfl, by simp [World.setCell], fun j _ hne => Below.heap_setCell w ⟨g, i, none⟩ u j (fun e => hne off (by simp only at e; rw [e]))⟩
theorem Marked.step {w wr : World} {g off j : Nat} {zs : List Int} {k : Int} (h : Marked w wr g off zs k j) (hj : j < zs.length) : Marked w (wr.setCell ⟨g, off + j, none⟩ (.int .i64 (k + j))) g off zs k (j + 1) := by
  obtain ⟨h1, h2, h3, h4⟩ := h
  obtain ⟨u, hu⟩ := h3 j hj
  refine ⟨h1.trans (Turned.set_ _ _ _ _ _), fun i hi => ?_, fun i hi => ?_, fun i hi => ?_⟩
  · rw [World.frozen?_setCell]
    exact h2 i hi
  · by_cases e : i = j
    · subst e
      exact ⟨_, World.cell?_setCell_same _ _ _ hu⟩
    · rw [World.cell?_setCell_other _ _ _ _ (by simp only [ne_eq, Addr.mk.injEq]; omega)]
      exact h3 i hi
  · by_cases e : i = j
    · subst e
      exact World.cell?_setCell_same _ _ _ hu
    · rw [World.cell?_setCell_other _ _ _ _ (by simp only [ne_eq, Addr.mk.injEq]; omega)]
      exact h4 i (by omega)
end Go.Proofs.Ytndncmjhpbjcoaa

/- Arguments opened: a graph by value is a number and a slice that reads as a list of edges. -/
namespace Go.Proofs.Ytndncmjhpbjcoaa
open Go.ChangeShapes Go.WideShapes Go.ChangeAt Go.RowKit Go.Deep Go.Joins

section
variable {H : Type} {enc : TypeId × Value → H} {W : World} {base : Nat} {spare : Nat → Bool} {held : Bool}
end
end Go.Proofs.Ytndncmjhpbjcoaa

/- What a law keeps of the graph that came in, from call to call. -/
namespace Go.Proofs.Ytndncmjhpbjcoaa
open Go.RowKit

structure LawG (w wc : World) (N : Int) (A : Option Addr) (c : Nat) (es : List (Int × Int)) : Prop where
  box : Blk wc w.heap.size 44 #[.int .i64 N, .slice A es.length c]
  old : Below w.heap.size w wc
section
variable {w wc wd : World} {N : Int} {A : Option Addr} {c : Nat} {es : List (Int × Int)}
theorem LawG.c0 (h : LawG w wc N A c es) : wc.cell? ⟨w.heap.size, 0, none⟩ = some (.int .i64 N) := by rw [h.box.cell]; rfl
theorem LawG.c1 (h : LawG w wc N A c es) : wc.cell? ⟨w.heap.size, 1, none⟩ = some (.slice A es.length c) := by rw [h.box.cell]; rfl
theorem LawG.next (h : LawG w wc N A c es) (hb : Below wc.heap.size wc wd) : LawG w wd N A c es := ⟨h.box.below hb h.box.lt, h.old.trans (hb.mono h.old.size)⟩
theorem LawG.alloc (h : LawG w wc N A c es) (o : Obj) : LawG w (wc.alloc o) N A c es := ⟨h.box.alloc o, h.old.alloc h.old.size o⟩
theorem LawG.drew (h : LawG w wc N A c es) : LawG w wc.drew N A c es := ⟨h.box.drew, h.old.drew⟩
theorem LawG.lt (h : LawG w wc N A c es) : w.heap.size < wc.heap.size := h.box.lt
theorem LawG.edges (h : LawG w wc N A c es) (hE : EdgeS w w.heap.size A es) : EdgeS wc wc.heap.size A es := hE.up_ h.old
theorem LawG.start (w : World) (N : Int) (A : Option Addr) (c : Nat) (es : List (Int × Int)) : LawG w (w.alloc (.cells #[.int .i64 N, .slice A es.length c] 44)) N A c es := ⟨Blk.new w _ _, (Below.refl _ _).alloc (Nat.le_refl _) _⟩
end
end Go.Proofs.Ytndncmjhpbjcoaa

/- The laws' marks on slices of edges and on graphs. -/
namespace Go.Proofs.Ytndncmjhpbjcoaa
open Go.RowKit

def OwnE (w : World) (base : Nat) (A : Option Addr) (es : List (Int × Int)) : Prop :=
  0 < es.length → ∃ g off : Nat, A = some ⟨g, off, none⟩ ∧ base ≤ g ∧ g < w.heap.size ∧ ∀ (i : Nat) (e : Int × Int), es[i]? = some e →
    w.cell? ⟨g, off + i * 2, none⟩ = some (.int .i64 e.1) ∧ w.cell? ⟨g, off + i * 2 + 1, none⟩ = some (.int .i64 e.2) ∧ w.frozen? ⟨g, off + i * 2, none⟩ = false ∧ w.frozen? ⟨g, off + i * 2 + 1, none⟩ = false
theorem OwnE.edges {w : World} {base : Nat} {A : Option Addr} {es : List (Int × Int)} (h : OwnE w base A es) : EdgeS w w.heap.size A es := fun hn => by
  obtain ⟨g, off, e, _, hg, hc⟩ := h hn
  exact ⟨g, off, e, hg, fun i z hz => ⟨(hc i z hz).1, (hc i z hz).2.1⟩⟩
theorem OwnE.below {w w' : World} {base : Nat} {A : Option Addr} {es : List (Int × Int)} (h : OwnE w base A es) (hb : Below w.heap.size w w') : OwnE w' base A es := fun hn => by
  obtain ⟨g, off, e, h1, hg, hc⟩ := h hn
  refine ⟨g, off, e, h1, Nat.lt_of_lt_of_le hg hb.size, fun i z hz => ?_⟩
  obtain ⟨a, b, c, d⟩ := hc i z hz
  exact ⟨(hb.cell (p := ⟨g, off + i * 2, none⟩) hg).trans a, (hb.cell (p := ⟨g, off + i * 2 + 1, none⟩) hg).trans b, (hb.frozen (p := ⟨g, off + i * 2, none⟩) hg).trans c, (hb.frozen (p := ⟨g, off + i * 2 + 1, none⟩) hg).trans d⟩
theorem OwnE.mono {w : World} {base base' : Nat} {A : Option Addr} {es : List (Int × Int)} (h : OwnE w base A es) (hb : base' ≤ base) : OwnE w base' A es := fun hn => by
  obtain ⟨g, off, e, h1, hg, hc⟩ := h hn
  exact ⟨g, off, e, by omega, hg, hc⟩
theorem OwnE.of_blk {w : World} {g base : Nat} {t : TypeId} {es : List (Int × Int)} (h : Blk w g t (flat es).toArray) (hg : base ≤ g) : OwnE w base (some ⟨g, 0, none⟩) es := fun _ =>
  ⟨g, 0, rfl, hg, h.lt, fun i e he => by
    have := flat_at es i e he
    rw [h.cell, h.cell]
    exact ⟨by simpa using this.1, by simpa using this.2, h.frozen _, h.frozen _⟩⟩
structure MarkedE (w wr : World) (g off n : Nat) (k : Int) (j : Nat) : Prop where
  turned : Turned w wr (some ⟨g, off, none⟩)
  soft : ∀ i, i < n → wr.frozen? ⟨g, off + i * 2, none⟩ = false ∧ wr.frozen? ⟨g, off + i * 2 + 1, none⟩ = false
  some_ : ∀ i, i < n → ∃ u v, wr.cell? ⟨g, off + i * 2, none⟩ = some (.int .i64 u) ∧ wr.cell? ⟨g, off + i * 2 + 1, none⟩ = some (.int .i64 v)
  done : ∀ i, i < j → wr.cell? ⟨g, off + i * 2, none⟩ = some (.int .i64 (k + 2 * i)) ∧ wr.cell? ⟨g, off + i * 2 + 1, none⟩ = some (.int .i64 (k + 2 * i + 1))
theorem cell_other {w : World} {g a b : Nat} (u : Value) (h : b ≠ a) : (w.setCell ⟨g, a, none⟩ u).cell? ⟨g, b, none⟩ = w.cell? ⟨g, b, none⟩ := World.cell?_setCell_other _ _ _ _ (by simp only [ne_eq, Addr.mk.injEq]; omega)
theorem MarkedE.step {w wr : World} {g off n j : Nat} {k : Int} (h : MarkedE w wr g off n k j) (hj : j < n) :
    MarkedE w ((wr.setCell ⟨g, off + j * 2, none⟩ (.int .i64 (k + 2 * j))).setCell ⟨g, off + j * 2 + 1, none⟩ (.int .i64 (k + 2 * j + 1))) g off n k (j + 1) := by
  obtain ⟨u, v, hu, hv⟩ := h.some_ j hj
  have key : ∀ i, (i = j → ((wr.setCell ⟨g, off + j * 2, none⟩ (.int .i64 (k + 2 * j))).setCell ⟨g, off + j * 2 + 1, none⟩ (.int .i64 (k + 2 * j + 1))).cell? ⟨g, off + i * 2, none⟩ = some (.int .i64 (k + 2 * j)) ∧
      ((wr.setCell ⟨g, off + j * 2, none⟩ (.int .i64 (k + 2 * j))).setCell ⟨g, off + j * 2 + 1, none⟩ (.int .i64 (k + 2 * j + 1))).cell? ⟨g, off + i * 2 + 1, none⟩ = some (.int .i64 (k + 2 * j + 1))) ∧
      (i ≠ j → ((wr.setCell ⟨g, off + j * 2, none⟩ (.int .i64 (k + 2 * j))).setCell ⟨g, off + j * 2 + 1, none⟩ (.int .i64 (k + 2 * j + 1))).cell? ⟨g, off + i * 2, none⟩ = wr.cell? ⟨g, off + i * 2, none⟩ ∧
      ((wr.setCell ⟨g, off + j * 2, none⟩ (.int .i64 (k + 2 * j))).setCell ⟨g, off + j * 2 + 1, none⟩ (.int .i64 (k + 2 * j + 1))).cell? ⟨g, off + i * 2 + 1, none⟩ = wr.cell? ⟨g, off + i * 2 + 1, none⟩) := by
    intro i
    constructor
    · rintro rfl
      refine ⟨?_, ?_⟩
      · rw [cell_other _ (by omega)]
        exact World.cell?_setCell_same _ _ _ hu
      · exact World.cell?_setCell_same _ _ _ ((cell_other _ (by omega)).trans hv)
    · intro hne
      exact ⟨by rw [cell_other _ (by omega), cell_other _ (by omega)], by rw [cell_other _ (by omega), cell_other _ (by omega)]⟩
  refine ⟨(h.turned.trans (Turned.set_ _ _ _ _ _)).trans (Turned.set_ _ _ _ _ _), fun i hi => ?_, fun i hi => ?_, fun i hi => ?_⟩
  · rw [World.frozen?_setCell, World.frozen?_setCell, World.frozen?_setCell, World.frozen?_setCell]
    exact h.soft i hi
  · by_cases e : i = j
    · exact ⟨_, _, ((key i).1 e).1, ((key i).1 e).2⟩
    · obtain ⟨u', v', h1, h2⟩ := h.some_ i hi
      exact ⟨u', v', ((key i).2 e).1.trans h1, ((key i).2 e).2.trans h2⟩
  · by_cases e : i = j
    · have := (key i).1 e
      rw [← e] at this
      rw [← e]
      exact this
    · obtain ⟨h1, h2⟩ := h.done i (by omega)
      exact ⟨((key i).2 e).1.trans h1, ((key i).2 e).2.trans h2⟩
end Go.Proofs.Ytndncmjhpbjcoaa

/- Arguments opened: a slice of ints, read as a list. -/
namespace Go.Proofs.Ytndncmjhpbjcoaa
open Go.ChangeShapes Go.WideShapes Go.ChangeAt Go.RowKit Go.Deep

section
variable {H : Type} {enc : TypeId × Value → H} {W : World} {base : Nat}
end
end Go.Proofs.Ytndncmjhpbjcoaa

/- What a step of a law leaves as it was: all but the blocks of a range. -/
namespace Go.Proofs.Ytndncmjhpbjcoaa
open Go.RowKit

structure Between (w w' : World) (lo hi : Nat) : Prop where
  os : w'.os = w.os
  tape : w'.tape = w.tape
  output : w'.output = w.output
  size : w'.heap.size = w.heap.size
  block : ∀ i, i < w.heap.size → (i ≤ lo ∨ hi ≤ i) → w'.heap[i]? = w.heap[i]?
theorem Between.refl (w : World) (lo hi : Nat) : Between w w lo hi := ⟨rfl, rfl, rfl, rfl, fun _ _ _ => rfl⟩
theorem Between.trans {a b c : World} {lo hi : Nat} (h : Between a b lo hi) (k : Between b c lo hi) : Between a c lo hi :=
  ⟨k.os.trans h.os, k.tape.trans h.tape, k.output.trans h.output, k.size.trans h.size, fun i hi hne => (k.block i (by rw [h.size]; exact hi) hne).trans (h.block i hi hne)⟩
theorem Between.below {w w' : World} {lo hi B : Nat} (h : Between w w' lo hi) (hB : B ≤ lo + 1) (hs : B ≤ w.heap.size) : Below B w w' :=
  ⟨h.os, h.tape, h.output, by rw [h.size]; exact Nat.le_refl _, fun i hi => h.block i (by omega) (.inl (by omega))⟩
theorem Blk.turned {w w' : World} {g g' off : Nat} {t : TypeId} {cs : Array Value} (h : Blk w g t cs) (hb : Turned w w' (some ⟨g', off, none⟩)) (hg : g ≠ g') : Blk w' g t cs :=
  (hb.block g h.lt fun o e => by
    injection e with e
    injection e with e
    exact hg e.symm).trans h
structure Moves (lo hi : Nat) (w w' : World) : Prop where
  os : w'.os = w.os
  tape : w'.tape = w.tape
  output : w'.output = w.output
  size : w.heap.size ≤ w'.heap.size
  block : ∀ i, i < w.heap.size → (i < lo ∨ hi ≤ i) → w'.heap[i]? = w.heap[i]?
section
variable {w w' wc wd : World} {lo hi B base g : Nat} {A : Option Addr}
theorem belowMv (h : Below w.heap.size w w') (n : Nat) : Moves n n w w' := ⟨h.os, h.tape, h.output, h.size, fun i hi _ => h.block i hi⟩
theorem belowMoves (h : Below B w wc) (m : Moves lo hi wc wd) (h1 : B ≤ lo) (h2 : B ≤ wc.heap.size) : Below B w wd :=
  ⟨m.os.trans h.os, m.tape.trans h.tape, m.output.trans h.output, Nat.le_trans h.size m.size, fun i hi => (m.block i (by omega) (.inl (by omega))).trans (h.block i hi)⟩
theorem IntS.moves {zs : List Int} (h : IntS w B A zs) (m : Moves lo hi w w') (h1 : B ≤ lo) (h2 : B ≤ w.heap.size) : IntS w' B A zs :=
  h.keep (fun p hp => World.cell?_of_block (m.block p.block (by omega) (.inl (by omega)))) (Nat.le_refl _)
theorem OwnI.moves {zs : List Int} (h : OwnI w base A zs) (m : Moves lo hi w w') (h1 : hi ≤ base) : OwnI w' base A zs := fun hn => by
  obtain ⟨k, off, e, h1, hk, hc⟩ := h hn
  have hbl := m.block k hk (.inr (by omega))
  exact ⟨k, off, e, h1, Nat.lt_of_lt_of_le hk m.size, fun i z hz => ⟨(World.cell?_of_block (a := ⟨k, off + i, none⟩) hbl).trans (hc i z hz).1, (World.frozen?_of_block (a := ⟨k, off + i, none⟩) hbl).trans (hc i z hz).2⟩⟩
theorem Blk.moves {t : TypeId} {cs : Array Value} (h : Blk w g t cs) (m : Moves lo hi w w') (h1 : g < lo ∨ hi ≤ g) : Blk w' g t cs := (m.block g h.lt h1).trans h
theorem LawG.moves {N : Int} {c : Nat} {es : List (Int × Int)} (h : LawG w wc N A c es) (m : Moves lo hi wc wd) (h1 : w.heap.size < lo) : LawG w wd N A c es :=
  ⟨h.box.moves m (.inl h1), belowMoves h.old m (by omega) h.old.size⟩
theorem OwnE.moves {es : List (Int × Int)} (h : OwnE w base A es) (m : Moves lo hi w w') (h1 : hi ≤ base) : OwnE w' base A es := fun hn => by
  obtain ⟨k, off, e, h1, hk, hc⟩ := h hn
  have hbl := m.block k hk (.inr (by omega))
  have hcl : ∀ o : Nat, w'.cell? ⟨k, o, none⟩ = w.cell? ⟨k, o, none⟩ := fun o => World.cell?_of_block (a := ⟨k, o, none⟩) hbl
  have hfr : ∀ o : Nat, w'.frozen? ⟨k, o, none⟩ = w.frozen? ⟨k, o, none⟩ := fun o => World.frozen?_of_block (a := ⟨k, o, none⟩) hbl
  exact ⟨k, off, e, h1, Nat.lt_of_lt_of_le hk m.size, fun i z hz => by rw [hcl, hcl, hfr, hfr]; exact hc i z hz⟩
end
def GivesIntsOk (w : World) (zs : List Int) (b : Bool) (e : Ending) (w' : World) : Prop :=
  ∃ (A : Option Addr) (c : Nat), e = .returned (.tuple #[.slice A zs.length c, .bool b]) ∧ OwnI w' w.heap.size A zs ∧ Below w.heap.size w w'
end Go.Proofs.Ytndncmjhpbjcoaa

/- One new cell, as an append reads it; worlds that drew alone. -/
namespace Go.Proofs.Ytndncmjhpbjcoaa
open Go.RowKit

theorem one_cellI (W : World) (g : Nat) (hg : g = W.heap.size) (t : TypeId) (u : Value) (j : Nat) (x : Value) (h : [u][j]? = some x) : (W.alloc (.cells #[u] t)).cell? ((⟨g, 0, none⟩ : Addr).add j) = some x := by
  subst hg
  cases j with
  | zero =>
    simp only [List.getElem?_cons_zero, Option.some.injEq] at h
    subst h
    exact (Blk.new W t #[u]).cell 0
  | succ j => simp at h
theorem drewN_below (w : World) (q : Nat) : Below w.heap.size w (w.drewN q) := below_drewN (Below.refl _ _) q
end Go.Proofs.Ytndncmjhpbjcoaa

/- The laws' heldEdgeS. -/
namespace Go.Proofs.Ytndncmjhpbjcoaa
open Go.RowKit

end Go.Proofs.Ytndncmjhpbjcoaa

/- The laws' heldGraph, and marks on a graph of the call's own. -/
namespace Go.Proofs.Ytndncmjhpbjcoaa
open Go.RowKit

end Go.Proofs.Ytndncmjhpbjcoaa

/- Slices of slices of ints: what the laws' helpers do with them: sizes, copies, comparisons. -/
namespace Go.Proofs.Ytndncmjhpbjcoaa
open Go.RowKit

def IntSS (w : World) (B : Nat) (A : Option Addr) (rs : List (List Int)) : Prop :=
  0 < rs.length → ∃ b off : Nat, A = some ⟨b, off, none⟩ ∧ b < B ∧ ∀ (i : Nat) (r : List Int), rs[i]? = some r → ∃ (Ai : Option Addr) (ci : Nat), w.cell? ⟨b, off + i, none⟩ = some (.slice Ai r.length ci) ∧ IntS w B Ai r
theorem IntSS.keep {w w' : World} {B B' : Nat} {A : Option Addr} {rs : List (List Int)} (h : IntSS w B A rs) (hk : ∀ p : Addr, p.block < B → w'.cell? p = w.cell? p) (hB : B ≤ B') : IntSS w' B' A rs :=
  fun hn => by
    obtain ⟨b, off, e, hb, hc⟩ := h hn
    refine ⟨b, off, e, by omega, fun i r hr => ?_⟩
    obtain ⟨Ai, ci, h1, h2⟩ := hc i r hr
    exact ⟨Ai, ci, (hk _ hb).trans h1, h2.keep hk hB⟩
theorem IntSS.below {w w' : World} {B : Nat} {A : Option Addr} {rs : List (List Int)} (h : IntSS w B A rs) (hb : Below B w w') : IntSS w' B A rs := h.keep (fun _ hp => hb.cell hp) (Nat.le_refl _)
theorem IntSS.up_ {w w' : World} {A : Option Addr} {rs : List (List Int)} (h : IntSS w w.heap.size A rs) (hb : Below w.heap.size w w') : IntSS w' w'.heap.size A rs := h.keep (fun _ hp => hb.cell hp) hb.size
theorem IntSS.at_ {w : World} {B : Nat} {A : Option Addr} {rs : List (List Int)} (h : IntSS w B A rs) {k : Nat} (hk : k < rs.length) :
    ∃ (b off : Nat) (r : List Int) (Ai : Option Addr) (ci : Nat), A = some ⟨b, off, none⟩ ∧ b < B ∧ rs[k]? = some r ∧ w.cell? ⟨b, off + k, none⟩ = some (.slice Ai r.length ci) ∧ IntS w B Ai r := by
  obtain ⟨b, off, e, hb, hc⟩ := h (by omega)
  obtain ⟨Ai, ci, h1, h2⟩ := hc k rs[k] (List.getElem?_eq_getElem hk)
  exact ⟨b, off, rs[k], Ai, ci, e, hb, List.getElem?_eq_getElem hk, h1, h2⟩

def RowsTo (w : World) (g hi : Nat) (rs : List (List Int)) (k : Nat) : Prop :=
  ∃ (vals : List Value) (G : Nat → Nat), Blk w g 28 (vals ++ List.replicate (rs.length - k) (Value.slice none 0 0)).toArray ∧ vals.length = k ∧
    (∀ (i : Nat) (r : List Int), i < k → rs[i]? = some r → vals[i]? = some (.slice (some ⟨G i, 0, none⟩) r.length r.length) ∧ g < G i ∧ G i < hi ∧ Blk w (G i) 3 (intCells r).toArray) ∧
    ∀ i j, i < j → j < k → G i < G j
theorem RowsTo.below {w w' : World} {g hi k : Nat} {rs : List (List Int)} (h : RowsTo w g hi rs k) (hb : Below w.heap.size w w') : RowsTo w' g hi rs k := by
  obtain ⟨vals, G, h1, h2, h3, h4⟩ := h
  refine ⟨vals, G, h1.below hb h1.lt, h2, fun i r hi hr => ?_, h4⟩
  obtain ⟨q1, q2, q3, q4⟩ := h3 i r hi hr
  exact ⟨q1, q2, q3, q4.below hb q4.lt⟩
theorem RowsTo.more {w : World} {g hi hi' k : Nat} {rs : List (List Int)} (h : RowsTo w g hi rs k) (hh : hi ≤ hi') : RowsTo w g hi' rs k := by
  obtain ⟨vals, G, h1, h2, h3, h4⟩ := h
  refine ⟨vals, G, h1, h2, fun i r hi hr => ?_, h4⟩
  obtain ⟨q1, q2, q3, q4⟩ := h3 i r hi hr
  exact ⟨q1, q2, by omega, q4⟩
theorem RowsTo.put {w : World} {g k gk : Nat} {rs : List (List Int)} {r : List Int} (h : RowsTo w g gk rs k) (hr : rs[k]? = some r) (hg : g < gk) (hb : Blk w gk 3 (intCells r).toArray) :
    RowsTo (w.setCell ⟨g, k, none⟩ (.slice (some ⟨gk, 0, none⟩) r.length r.length)) g (gk + 1) rs (k + 1) := by
  obtain ⟨vals, G, h1, h2, h3, h5⟩ := h
  have hk : k < rs.length := (List.getElem?_eq_some_iff.1 hr).1
  refine ⟨vals ++ [.slice (some ⟨gk, 0, none⟩) r.length r.length], fun i => if i = k then gk else G i, ?_, by simp [h2], fun i r2 hi hr2 => ?_, fun i j hij hj => ?_⟩
  · have h4 := h1.set_ k (.slice (some ⟨gk, 0, none⟩) r.length r.length)
    rw [List.setIfInBounds_toArray] at h4
    have e1 : rs.length - k = (rs.length - (k + 1)) + 1 := by omega
    rw [e1, List.replicate_succ, List.set_append_right _ _ (by omega), h2, Nat.sub_self] at h4
    simpa using h4
  · by_cases e : i = k
    · subst e
      rw [hr] at hr2
      injection hr2 with hr2
      subst hr2
      dsimp only
      rw [if_pos rfl]
      exact ⟨by rw [List.getElem?_append_right (by omega), h2]; simp, hg, by omega, hb.far (by simp; omega) _⟩
    · obtain ⟨q1, q2, q3, q4⟩ := h3 i r2 (by omega) hr2
      dsimp only
      rw [if_neg e]
      exact ⟨by rw [List.getElem?_append_left (by omega)]; exact q1, q2, by omega, q4.far (by simp; omega) _⟩
  · have hir : rs[i]? = some (rs[i]'(by omega)) := List.getElem?_eq_getElem (by omega)
    obtain ⟨_, _, q3, _⟩ := h3 i _ (by omega) hir
    dsimp only
    rw [if_neg (by omega)]
    by_cases e : j = k
    · rw [if_pos e]
      exact q3
    · rw [if_neg e]
      exact h5 i j hij (by omega)
theorem RowsTo.cell {w : World} {g hi k : Nat} {rs : List (List Int)} (h : RowsTo w g hi rs k) (hk : k < rs.length) : w.cell? ⟨g, k, none⟩ = some (.slice none 0 0) ∧ w.frozen? ⟨g, k, none⟩ = false := by
  obtain ⟨vals, G, h1, h2, h3, _⟩ := h
  refine ⟨?_, h1.frozen _⟩
  rw [h1.cell]
  have e1 : rs.length - k = (rs.length - (k + 1)) + 1 := by omega
  rw [List.getElem?_toArray, List.getElem?_append_right (by omega), h2, Nat.sub_self, e1, List.replicate_succ]
  rfl
end Go.Proofs.Ytndncmjhpbjcoaa

/- Arguments opened: a slice of slices of ints, read as lists. -/
namespace Go.Proofs.Ytndncmjhpbjcoaa
open Go.ChangeShapes Go.WideShapes Go.ChangeAt Go.RowKit Go.Deep

section
variable {H : Type} {enc : TypeId × Value → H} {W : World} {base : Nat}
end
end Go.Proofs.Ytndncmjhpbjcoaa

/- What a step leaves of slices of slices. -/
namespace Go.Proofs.Ytndncmjhpbjcoaa
open Go.RowKit

section
variable {w w' : World} {lo hi B : Nat} {A : Option Addr}
theorem IntSS.moves {rs : List (List Int)} (h : IntSS w B A rs) (m : Moves lo hi w w') (h1 : B ≤ lo) (h2 : B ≤ w.heap.size) : IntSS w' B A rs :=
  h.keep (fun p hp => World.cell?_of_block (m.block p.block (by omega) (.inl (by omega)))) (Nat.le_refl _)
end
end Go.Proofs.Ytndncmjhpbjcoaa

/- Slices of slices of ints in memory of the call's own, whatever lies behind each row: the laws' marks on them. -/
namespace Go.Proofs.Ytndncmjhpbjcoaa
open Go.RowKit

def OwnR (w : World) (base hi G : Nat) (A : Option Addr) (r : List Int) : Prop :=
  0 < r.length → ∃ o : Nat, A = some ⟨G, o, none⟩ ∧ base ≤ G ∧ G < hi ∧ ∀ (j : Nat) (z : Int), r[j]? = some z → w.cell? ⟨G, o + j, none⟩ = some (.int .i64 z) ∧ w.frozen? ⟨G, o + j, none⟩ = false
def OwnSS (w : World) (base hi : Nat) (A : Option Addr) (rs : List (List Int)) : Prop :=
  0 < rs.length → ∃ (g off : Nat) (G : Nat → Nat), A = some ⟨g, off, none⟩ ∧ base ≤ g ∧ g < hi ∧ hi ≤ w.heap.size ∧
    (∀ (i : Nat) (r : List Int), rs[i]? = some r → ∃ (Ai : Option Addr) (ci : Nat), w.cell? ⟨g, off + i, none⟩ = some (.slice Ai r.length ci) ∧ OwnR w base hi (G i) Ai r ∧ G i ≠ g) ∧ ∀ i j, i < rs.length → j < rs.length → i ≠ j → G i ≠ G j
section
variable {w w' : World} {base hi lo' hi' : Nat} {A : Option Addr} {rs : List (List Int)}
theorem OwnR.moves {G : Nat} {r : List Int} (h : OwnR w base hi G A r) (m : Moves lo' hi' w w') (hs : hi ≤ w.heap.size) (h1 : G < lo' ∨ hi' ≤ G) : OwnR w' base hi G A r := fun hn => by
  obtain ⟨o, e, h2, h3, h4⟩ := h hn
  have hbl := m.block G (by omega) h1
  exact ⟨o, e, h2, h3, fun j z hz => ⟨(World.cell?_of_block (a := ⟨G, o + j, none⟩) hbl).trans (h4 j z hz).1, (World.frozen?_of_block (a := ⟨G, o + j, none⟩) hbl).trans (h4 j z hz).2⟩⟩
theorem OwnR.keep {G : Nat} {r : List Int} (h : OwnR w base hi G A r) (hbl : w'.heap[G]? = w.heap[G]?) : OwnR w' base hi G A r := fun hn => by
  obtain ⟨o, e, h2, h3, h4⟩ := h hn
  exact ⟨o, e, h2, h3, fun j z hz => ⟨(World.cell?_of_block (a := ⟨G, o + j, none⟩) hbl).trans (h4 j z hz).1, (World.frozen?_of_block (a := ⟨G, o + j, none⟩) hbl).trans (h4 j z hz).2⟩⟩
theorem OwnR.none_ {G : Nat} {r : List Int} (h : r.length = 0) : OwnR w base hi G A r := fun hn => absurd hn (by omega)
theorem OwnSS.moves (h : OwnSS w base hi A rs) (m : Moves lo' hi' w w') (h1 : hi ≤ lo' ∨ hi' ≤ base) : OwnSS w' base hi A rs := fun hn => by
  obtain ⟨g, off, G, e, h2, h3, h4, h5, h6⟩ := h hn
  have hs := m.size
  refine ⟨g, off, G, e, h2, h3, by omega, fun i r hr => ?_, h6⟩
  obtain ⟨Ai, ci, q1, q2, q3⟩ := h5 i r hr
  refine ⟨Ai, ci, (World.cell?_of_block (a := ⟨g, off + i, none⟩) (m.block g (by omega) (by omega))).trans q1, ?_, q3⟩
  by_cases hz : 0 < r.length
  · obtain ⟨o, e2, p1, p2, _⟩ := q2 hz
    exact q2.moves m h4 (by omega)
  · exact OwnR.none_ (by omega)
theorem OwnSS.ints (h : OwnSS w base hi A rs) : IntSS w hi A rs := fun hn => by
  obtain ⟨g, off, G, e, h2, h3, h4, h5, h6⟩ := h hn
  refine ⟨g, off, e, h3, fun i r hr => ?_⟩
  obtain ⟨Ai, ci, q1, q2, q3⟩ := h5 i r hr
  refine ⟨Ai, ci, q1, fun hz => ?_⟩
  obtain ⟨o, e2, p1, p2, p3⟩ := q2 hz
  exact ⟨G i, o, e2, p2, fun j z hj => (p3 j z hj).1⟩
theorem OwnSS.mono {base' : Nat} (h : OwnSS w base hi A rs) (hb : base' ≤ base) : OwnSS w base' hi A rs := fun hn => by
  obtain ⟨g, off, G, e, h2, h3, h4, h5, h6⟩ := h hn
  refine ⟨g, off, G, e, by omega, h3, h4, fun i r hr => ?_, h6⟩
  obtain ⟨Ai, ci, q1, q2, q3⟩ := h5 i r hr
  refine ⟨Ai, ci, q1, fun hz => ?_, q3⟩
  obtain ⟨o, e2, p1, p2, p3⟩ := q2 hz
  exact ⟨o, e2, by omega, p2, p3⟩
theorem OwnSS.nil (w : World) (base hi : Nat) (A : Option Addr) : OwnSS w base hi A [] := fun h => absurd h (by simp)
end

set_option maxHeartbeats 400000 in
theorem OwnSS.row {w : World} {base hi : Nat} {A : Option Addr} {rs : List (List Int)} (h : OwnSS w base hi A rs) {j : Nat} {r : List Int} (hr : rs[j]? = some r) :
    ∃ (g off : Nat) (Aj : Option Addr) (cj : Nat), A = some ⟨g, off, none⟩ ∧ base ≤ g ∧ g < w.heap.size ∧ hi ≤ w.heap.size ∧ w.cell? ⟨g, off + j, none⟩ = some (.slice Aj r.length cj) ∧ OwnI w base Aj r ∧
      (r.length = 0 → ∀ r', r'.length = 0 → OwnSS w base hi A (rs.set j r')) ∧
      ∀ (w' : World) (r' : List Int), 0 < r.length → r'.length = r.length → Turned w w' Aj → OwnI w' base Aj r' → OwnSS w' base hi A (rs.set j r') ∧ Moves base hi w w' := by
  have hj : j < rs.length := (List.getElem?_eq_some_iff.1 hr).1
  obtain ⟨g, off, G, rfl, h2, h3, h4, h5, h6⟩ := h (by omega)
  obtain ⟨Aj, cj, q1, q2, q3⟩ := h5 j r hr
  refine ⟨g, off, Aj, cj, rfl, h2, by omega, h4, q1, fun hz => ?_, fun hz r' hr' _ => ?_, fun w' r' hz hl ht ho => ?_⟩
  · obtain ⟨o, e2, p1, p2, p3⟩ := q2 hz
    exact ⟨G j, o, e2, p1, by omega, p3⟩
  · refine ⟨g, off, G, rfl, h2, h3, h4, fun i s hs => ?_, fun a b ha hb => h6 a b (by simpa using ha) (by simpa using hb)⟩
    by_cases e : i = j
    · subst e
      rw [List.getElem?_set_self hj] at hs
      injection hs with hs
      subst hs
      exact ⟨Aj, cj, by rw [q1, hz, hr'], OwnR.none_ hr', q3⟩
    · rw [List.getElem?_set_ne (Ne.symm e)] at hs
      exact h5 i s hs
  · obtain ⟨o, e2, p1, p2, p3⟩ := q2 hz
    subst e2
    have hkeep : ∀ k, k < w.heap.size → k ≠ G j → w'.heap[k]? = w.heap[k]? := fun k hk hne => ht.block k hk fun o2 e => by
      injection e with e
      injection e with e
      omega
    refine ⟨fun _ => ⟨g, off, G, rfl, h2, h3, by rw [ht.size]; exact h4, fun i s hs => ?_, fun a b ha hb => h6 a b (by simpa using ha) (by simpa using hb)⟩,
      ⟨ht.os, ht.tape, ht.output, Nat.le_of_eq ht.size.symm, fun k hk hne => hkeep k hk (by omega)⟩⟩
    by_cases e : i = j
    · subst e
      rw [List.getElem?_set_self hj] at hs
      injection hs with hs
      subst hs
      refine ⟨_, cj, ((World.cell?_of_block (a := ⟨g, off + i, none⟩) (hkeep g (by omega) (Ne.symm q3))).trans q1).trans (by rw [hl]), fun hz' => ?_, q3⟩
      obtain ⟨g2, o2, e3, s1, s2, s3⟩ := ho hz'
      injection e3 with e3
      injection e3 with e4 e5
      subst e4
      subst e5
      exact ⟨_, rfl, p1, p2, s3⟩
    · rw [List.getElem?_set_ne (Ne.symm e)] at hs
      have hil : i < rs.length := (List.getElem?_eq_some_iff.1 hs).1
      obtain ⟨Ai, ci, s1, s2, s3⟩ := h5 i s hs
      refine ⟨Ai, ci, (World.cell?_of_block (a := ⟨g, off + i, none⟩) (hkeep g (by omega) (Ne.symm q3))).trans s1, ?_, s3⟩
      by_cases hz' : 0 < s.length
      · obtain ⟨o2, e3, t1, t2, _⟩ := s2 hz'
        exact s2.keep (hkeep (G i) (by omega) (h6 i j hil hj e))
      · exact OwnR.none_ (by omega)

end Go.Proofs.Ytndncmjhpbjcoaa
