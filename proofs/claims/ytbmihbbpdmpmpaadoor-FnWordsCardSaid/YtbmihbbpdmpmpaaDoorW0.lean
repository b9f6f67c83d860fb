/- The declarations of other texts that this seat needs (made by tools/thin.py). -/
import Derived.WalkKit
import Derived.WalkSpells
import Derived.WalkLawsBesides
import Derived.Lib.Hide
import Derived.Outline
import Derived.Below
import Derived.Deep.Draws
import Derived.Deep.RegionHeld3
import Derived.Deep.DeepFit
import Derived.ProofKit
import Derived.Laws.MakeOwn
import Derived.Laws.Entries
import Derived.Laws.OwnMore
import Derived.Laws.Rows
import Derived.RegionTactic
import Derived.ChangeAlike
import Derived.Laws.Concat
import Derived.Laws.AppendOwn
import Derived.OwnWalk
import Derived.Laws.IdiomStrings
import Derived.Deep.SlicePairs
import Derived.Lib.SmallJoins
import Derived.Lib.Join
import Derived.Test.YtbmihbbpdmpmpaaDoorShJoin
import Derived.Test.YtbmihbbpdmpmpaaDoorParW
namespace Go.Proofs.YtbmihbbpdmpmpaaDoor
open Go.RowKit

/-- a slice of edges reads as a list, its cells below block B; a nil slice reads as no edge -/
def EdgeS (w : World) (B : Nat) (A : Option Addr) (es : List (Int × Int)) : Prop :=
  0 < es.length → ∃ b off : Nat, A = some ⟨b, off, none⟩ ∧ b < B ∧ ∀ i e, es[i]? = some e → w.cell? ⟨b, off + i * 2, none⟩ = some (.int .i64 e.1) ∧ w.cell? ⟨b, off + i * 2 + 1, none⟩ = some (.int .i64 e.2)
theorem EdgeS.keep {w w' : World} {B B' : Nat} {A : Option Addr} {es : List (Int × Int)} (h : EdgeS w B A es) (hk : ∀ p : Addr, p.block < B → w'.cell? p = w.cell? p) (hB : B ≤ B') : EdgeS w' B' A es :=
  fun hn => by
    obtain ⟨b, off, e, hb, hc⟩ := h hn
    exact ⟨b, off, e, by omega, fun i x hx => ⟨(hk _ hb).trans (hc i x hx).1, (hk _ hb).trans (hc i x hx).2⟩⟩
theorem EdgeS.below {w w' : World} {B : Nat} {A : Option Addr} {es : List (Int × Int)} (h : EdgeS w B A es) (hb : Below B w w') : EdgeS w' B A es := h.keep (fun _ hp => hb.cell hp) (Nat.le_refl _)
theorem EdgeS.up {w w' : World} {B B' : Nat} {A : Option Addr} {es : List (Int × Int)} (h : EdgeS w B A es) (hb : Below B w w') (hB : B ≤ B') : EdgeS w' B' A es := h.keep (fun _ hp => hb.cell hp) hB
def Blk (w : World) (g : Nat) (t : TypeId) (cs : Array Value) : Prop := w.heap[g]? = some (.cells cs t (0, 0))
section
variable {w w' : World} {g : Nat} {t : TypeId} {cs : Array Value}
theorem Blk.lt (h : Blk w g t cs) : g < w.heap.size := by
  rcases Nat.lt_or_ge g w.heap.size with hlt | hge
  · exact hlt
  · unfold Blk at h; rw [Array.getElem?_eq_none hge] at h; cases h
theorem Blk.cell (h : Blk w g t cs) (i : Nat) : w.cell? ⟨g, i, none⟩ = cs[i]? := cell_of_row w g i cs t (0, 0) h
theorem Blk.frozen (h : Blk w g t cs) (i : Nat) : w.frozen? ⟨g, i, none⟩ = false := by
  unfold Blk at h
  simp [World.frozen?, h]
theorem Blk.new (w : World) (t : TypeId) (cs : Array Value) : Blk (w.alloc (.cells cs t)) w.heap.size t cs := heap_alloc_new w _
theorem Blk.alloc (h : Blk w g t cs) (o : Obj) : Blk (w.alloc o) g t cs := (Below.heap_alloc w o g h.lt).trans h
theorem Blk.set_ (h : Blk w g t cs) (i : Nat) (u : Value) : Blk (w.setCell ⟨g, i, none⟩ u) g t (cs.setIfInBounds i u) := by
  unfold Blk at h ⊢
  simp [World.setCell, Array.getElem?_modify, h]
theorem Blk.below {B : Nat} (h : Blk w g t cs) (hb : Below B w w') (hg : g < B) : Blk w' g t cs := (hb.block g hg).trans h
end

/-- the cells of a list of edges -/
def flat : List (Int × Int) → List Value
  | [] => []
  | e :: l => .int .i64 e.1 :: .int .i64 e.2 :: flat l
theorem flat_at : ∀ (l : List (Int × Int)) (i : Nat) (e : Int × Int), l[i]? = some e → (flat l)[i * 2]? = some (.int .i64 e.1) ∧ (flat l)[i * 2 + 1]? = some (.int .i64 e.2)
  | a :: l, 0, e, h => by
    simp only [List.getElem?_cons_zero, Option.some.injEq] at h
    subst h
    exact ⟨rfl, rfl⟩
  | a :: l, i + 1, e, h => by
    rw [List.getElem?_cons_succ] at h
    have := flat_at l i e h
    simpa [flat, Nat.add_mul] using this
theorem EdgeS.of_blk {w : World} {g B : Nat} {t : TypeId} {es : List (Int × Int)} (h : Blk w g t (flat es).toArray) (hg : g < B) : EdgeS w B (some ⟨g, 0, none⟩) es := fun _ =>
  ⟨g, 0, rfl, hg, fun i e he => by
    have := flat_at es i e he
    rw [h.cell, h.cell]
    simpa using this⟩

theorem EdgeS.up_ {w w' : World} {A : Option Addr} {es : List (Int × Int)} (h : EdgeS w w.heap.size A es) (hb : Below w.heap.size w w') : EdgeS w' w'.heap.size A es := h.up hb hb.size

/-- a slice of strings reads as a list, its cells below block B -/
def StrS (w : World) (B : Nat) (A : Option Addr) (xs : List ByteArray) : Prop :=
  0 < xs.length → ∃ b off : Nat, A = some ⟨b, off, none⟩ ∧ b < B ∧ ∀ (i : Nat) (x : ByteArray), xs[i]? = some x → w.cell? ⟨b, off + i, none⟩ = some (.string x)
theorem StrS.keep {w w' : World} {B B' : Nat} {A : Option Addr} {xs : List ByteArray} (h : StrS w B A xs) (hk : ∀ p : Addr, p.block < B → w'.cell? p = w.cell? p) (hB : B ≤ B') : StrS w' B' A xs :=
  fun hn => by
    obtain ⟨b, off, e, hb, hc⟩ := h hn
    exact ⟨b, off, e, by omega, fun i x hx => (hk _ hb).trans (hc i x hx)⟩
theorem StrS.below {w w' : World} {B : Nat} {A : Option Addr} {xs : List ByteArray} (h : StrS w B A xs) (hb : Below B w w') : StrS w' B A xs := h.keep (fun _ hp => hb.cell hp) (Nat.le_refl _)
theorem StrS.up_ {w w' : World} {A : Option Addr} {xs : List ByteArray} (h : StrS w w.heap.size A xs) (hb : Below w.heap.size w w') : StrS w' w'.heap.size A xs := h.keep (fun _ hp => hb.cell hp) hb.size
theorem same_bytes {a b : ByteArray} (h : (!a.toList == b.toList) = false) : a = b := by
  have e : a.toList = b.toList := by simpa using h
  rw [ByteArray.toList_eq, ByteArray.toList_eq] at e
  exact WideShapes.bytes_inj e
def sizes : List ByteArray → Nat
  | [] => 0
  | x :: l => x.size + sizes l
theorem sizes_append : ∀ a b : List ByteArray, sizes (a ++ b) = sizes a + sizes b
  | [], b => by simp [sizes]
  | x :: l, b => by simp [sizes, sizes_append l b]; omega
theorem sizes_snoc {xs : List ByteArray} {k : Nat} {x : ByteArray} (h : xs[k]? = some x) : sizes (xs.take (k + 1)) = sizes (xs.take k) + x.size := by
  rw [List.take_add_one, h, sizes_append]
  simp [sizes]
theorem sizes_take_le (xs : List ByteArray) (k : Nat) : sizes (xs.take k) ≤ sizes xs := by
  conv => rhs; rw [← List.take_append_drop k xs, sizes_append]
  omega

theorem strInfo : (Tryd.prog.info? 9).map (fun i => (i.zero, i.size, i.bytes)) = some (some (.string ⟨#[]⟩), 1, 16) := by kernel_rfl
def strCells (xs : List ByteArray) : List Value := xs.map Value.string
theorem StrS.of_blk {w : World} {g B : Nat} {t : TypeId} {xs : List ByteArray} (h : Blk w g t (strCells xs).toArray) (hg : g < B) : StrS w B (some ⟨g, 0, none⟩) xs := fun _ =>
  ⟨g, 0, rfl, hg, fun i x hx => by
    rw [h.cell]
    simp [strCells, hx]⟩
/-- a slice of ints reads as a list, its cells below block B -/
def IntS (w : World) (B : Nat) (A : Option Addr) (xs : List Int) : Prop :=
  0 < xs.length → ∃ b off : Nat, A = some ⟨b, off, none⟩ ∧ b < B ∧ ∀ (i : Nat) (x : Int), xs[i]? = some x → w.cell? ⟨b, off + i, none⟩ = some (.int .i64 x)
theorem IntS.keep {w w' : World} {B B' : Nat} {A : Option Addr} {xs : List Int} (h : IntS w B A xs) (hk : ∀ p : Addr, p.block < B → w'.cell? p = w.cell? p) (hB : B ≤ B') : IntS w' B' A xs :=
  fun hn => by
    obtain ⟨b, off, e, hb, hc⟩ := h hn
    exact ⟨b, off, e, by omega, fun i x hx => (hk _ hb).trans (hc i x hx)⟩
theorem IntS.below {w w' : World} {B : Nat} {A : Option Addr} {xs : List Int} (h : IntS w B A xs) (hb : Below B w w') : IntS w' B A xs := h.keep (fun _ hp => hb.cell hp) (Nat.le_refl _)
theorem IntS.up_ {w w' : World} {A : Option Addr} {xs : List Int} (h : IntS w w.heap.size A xs) (hb : Below w.heap.size w w') : IntS w' w'.heap.size A xs := h.keep (fun _ hp => hb.cell hp) hb.size
def intCells (xs : List Int) : List Value := xs.map (Value.int .i64)
theorem IntS.of_blk {w : World} {g B : Nat} {t : TypeId} {xs : List Int} (h : Blk w g t (intCells xs).toArray) (hg : g < B) : IntS w B (some ⟨g, 0, none⟩) xs := fun _ =>
  ⟨g, 0, rfl, hg, fun i x hx => by
    rw [h.cell]
    simp [intCells, hx]⟩
/-- a slice of ints that lies in a block of the call's own (from base on) and may be written -/
def OwnI (w : World) (base : Nat) (A : Option Addr) (zs : List Int) : Prop :=
  0 < zs.length → ∃ g off : Nat, A = some ⟨g, off, none⟩ ∧ base ≤ g ∧ g < w.heap.size ∧ ∀ (i : Nat) (z : Int), zs[i]? = some z → w.cell? ⟨g, off + i, none⟩ = some (.int .i64 z) ∧ w.frozen? ⟨g, off + i, none⟩ = false
theorem OwnI.ints {w : World} {base : Nat} {A : Option Addr} {zs : List Int} (h : OwnI w base A zs) : IntS w w.heap.size A zs := fun hn => by
  obtain ⟨g, off, e, _, hg, hc⟩ := h hn
  exact ⟨g, off, e, hg, fun i z hz => (hc i z hz).1⟩
theorem OwnI.below {w w' : World} {base : Nat} {A : Option Addr} {zs : List Int} (h : OwnI w base A zs) (hb : Below w.heap.size w w') : OwnI w' base A zs := fun hn => by
  obtain ⟨g, off, e, h1, hg, hc⟩ := h hn
  exact ⟨g, off, e, h1, Nat.lt_of_lt_of_le hg hb.size, fun i z hz => ⟨(hb.cell (p := ⟨g, off + i, none⟩) hg).trans (hc i z hz).1, (hb.frozen (p := ⟨g, off + i, none⟩) hg).trans (hc i z hz).2⟩⟩
theorem OwnI.mono {w : World} {base base' : Nat} {A : Option Addr} {zs : List Int} (h : OwnI w base A zs) (hb : base' ≤ base) : OwnI w base' A zs := fun hn => by
  obtain ⟨g, off, e, h1, hg, hc⟩ := h hn
  exact ⟨g, off, e, by omega, hg, hc⟩
theorem OwnI.of_blk {w : World} {g base : Nat} {t : TypeId} {zs : List Int} (h : Blk w g t (intCells zs).toArray) (hg : base ≤ g) : OwnI w base (some ⟨g, 0, none⟩) zs := fun _ =>
  ⟨g, 0, rfl, hg, h.lt, fun i z hz => ⟨by rw [h.cell]; simp [intCells, hz], h.frozen _⟩⟩
theorem OwnI.nil (w : World) (base : Nat) (A : Option Addr) : OwnI w base A [] := fun h => absurd h (by simp)
theorem one_cellI (W : World) (g : Nat) (hg : g = W.heap.size) (t : TypeId) (u : Value) (j : Nat) (x : Value) (h : [u][j]? = some x) : (W.alloc (.cells #[u] t)).cell? ((⟨g, 0, none⟩ : Addr).add j) = some x := by
  subst hg
  cases j with
  | zero =>
    simp only [List.getElem?_cons_zero, Option.some.injEq] at h
    subst h
    exact (Blk.new W t #[u]).cell 0
  | succ j => simp at h
/-- nothing but the slice's own block has turned, and no block has come -/
structure Turned (w w' : World) (A : Option Addr) : Prop where
  os : w'.os = w.os
  tape : w'.tape = w.tape
  output : w'.output = w.output
  size : w'.heap.size = w.heap.size
  block : ∀ i, i < w.heap.size → (∀ off, A ≠ some ⟨i, off, none⟩) → w'.heap[i]? = w.heap[i]?
theorem Turned.below {w w' : World} {A : Option Addr} {base : Nat} {zs : List Int} (h : Turned w w' A) (ho : OwnI w base A zs) (hb : base ≤ w.heap.size) (hn : 0 < zs.length) : Below base w w' :=
  ⟨h.os, h.tape, h.output, by rw [h.size]; exact Nat.le_refl _, fun i hi => h.block i (by omega) fun off he => by
    obtain ⟨g, o2, e2, hg, _, _⟩ := ho hn
    rw [e2] at he
    injection he with he
    injection he with he
    omega⟩
theorem Turned.refl (w : World) (A : Option Addr) : Turned w w A := ⟨rfl, rfl, rfl, rfl, fun _ _ _ => rfl⟩
theorem Turned.trans {a b c : World} {A : Option Addr} (h : Turned a b A) (k : Turned b c A) : Turned a c A :=
  ⟨k.os.trans h.os, k.tape.trans h.tape, k.output.trans h.output, k.size.trans h.size, fun i hi hne => (k.block i (by rw [h.size]; exact hi) hne).trans (h.block i hi hne)⟩
theorem Turned.set_ (w : World) (g off i : Nat) (u : Value) : Turned w (w.setCell ⟨g, i, none⟩ u) (some ⟨g, off, none⟩) :=
  ⟨rfl, rfl, rfl, by simp [World.setCell], fun j _ hne => Below.heap_setCell w ⟨g, i, none⟩ u j (fun e => hne off (by simp only at e; rw [e]))⟩
/-- a slice of edges that lies in a block of the call's own (from base on) and may be written -/
def OwnE (w : World) (base : Nat) (A : Option Addr) (es : List (Int × Int)) : Prop :=
  0 < es.length → ∃ g off : Nat, A = some ⟨g, off, none⟩ ∧ base ≤ g ∧ g < w.heap.size ∧ ∀ (i : Nat) (e : Int × Int), es[i]? = some e →
    w.cell? ⟨g, off + i * 2, none⟩ = some (.int .i64 e.1) ∧ w.cell? ⟨g, off + i * 2 + 1, none⟩ = some (.int .i64 e.2) ∧ w.frozen? ⟨g, off + i * 2, none⟩ = false ∧ w.frozen? ⟨g, off + i * 2 + 1, none⟩ = false
theorem OwnE.edges {w : World} {base : Nat} {A : Option Addr} {es : List (Int × Int)} (h : OwnE w base A es) : EdgeS w w.heap.size A es := fun hn => by
  obtain ⟨g, off, e, _, hg, hc⟩ := h hn
  exact ⟨g, off, e, hg, fun i z hz => ⟨(hc i z hz).1, (hc i z hz).2.1⟩⟩
theorem OwnE.below {w w' : World} {base : Nat} {A : Option Addr} {es : List (Int × Int)} (h : OwnE w base A es) (hb : Below w.heap.size w w') : OwnE w' base A es := fun hn => by
  obtain ⟨g, off, e, h1, hg, hc⟩ := h hn
  refine ⟨g, off, e, h1, Nat.lt_of_lt_of_le hg hb.size, fun i z hz => ?_⟩
  obtain ⟨a, b, c, d⟩ := hc i z hz
  exact ⟨(hb.cell (p := ⟨g, off + i * 2, none⟩) hg).trans a, (hb.cell (p := ⟨g, off + i * 2 + 1, none⟩) hg).trans b, (hb.frozen (p := ⟨g, off + i * 2, none⟩) hg).trans c, (hb.frozen (p := ⟨g, off + i * 2 + 1, none⟩) hg).trans d⟩
theorem OwnE.mono {w : World} {base base' : Nat} {A : Option Addr} {es : List (Int × Int)} (h : OwnE w base A es) (hb : base' ≤ base) : OwnE w base' A es := fun hn => by
  obtain ⟨g, off, e, h1, hg, hc⟩ := h hn
  exact ⟨g, off, e, by omega, hg, hc⟩
theorem OwnE.of_blk {w : World} {g base : Nat} {t : TypeId} {es : List (Int × Int)} (h : Blk w g t (flat es).toArray) (hg : base ≤ g) : OwnE w base (some ⟨g, 0, none⟩) es := fun _ =>
  ⟨g, 0, rfl, hg, h.lt, fun i e he => by
    have := flat_at es i e he
    rw [h.cell, h.cell]
    exact ⟨by simpa using this.1, by simpa using this.2, h.frozen _, h.frozen _⟩⟩
open Go.ChangeShapes Go.WideShapes Go.ChangeAt Go.RowKit Go.Deep Go.Joins

section
variable {H : Type} {enc : TypeId × Value → H} {W : World} {base : Nat} {spare : Nat → Bool} {held : Bool}
end
section
variable {w wc wd : World} {N : Int} {A : Option Addr} {c : Nat} {es : List (Int × Int)}
end
/-- a slice of slices of ints reads as rows, its cells and theirs below block B -/
def IntSS (w : World) (B : Nat) (A : Option Addr) (rs : List (List Int)) : Prop :=
  0 < rs.length → ∃ b off : Nat, A = some ⟨b, off, none⟩ ∧ b < B ∧ ∀ (i : Nat) (r : List Int), rs[i]? = some r → ∃ (Ai : Option Addr) (ci : Nat), w.cell? ⟨b, off + i, none⟩ = some (.slice Ai r.length ci) ∧ IntS w B Ai r
theorem IntSS.keep {w w' : World} {B B' : Nat} {A : Option Addr} {rs : List (List Int)} (h : IntSS w B A rs) (hk : ∀ p : Addr, p.block < B → w'.cell? p = w.cell? p) (hB : B ≤ B') : IntSS w' B' A rs :=
  fun hn => by
    obtain ⟨b, off, e, hb, hc⟩ := h hn
    refine ⟨b, off, e, by omega, fun i r hr => ?_⟩
    obtain ⟨Ai, ci, h1, h2⟩ := hc i r hr
    exact ⟨Ai, ci, (hk _ hb).trans h1, h2.keep hk hB⟩
theorem IntSS.below {w w' : World} {B : Nat} {A : Option Addr} {rs : List (List Int)} (h : IntSS w B A rs) (hb : Below B w w') : IntSS w' B A rs := h.keep (fun _ hp => hb.cell hp) (Nat.le_refl _)
theorem IntSS.up_ {w w' : World} {A : Option Addr} {rs : List (List Int)} (h : IntSS w w.heap.size A rs) (hb : Below w.heap.size w w') : IntSS w' w'.heap.size A rs := h.keep (fun _ hp => hb.cell hp) hb.size
/-- nothing but the blocks behind lo and ahead of hi has turned, and no block has come -/
structure Between (w w' : World) (lo hi : Nat) : Prop where
  os : w'.os = w.os
  tape : w'.tape = w.tape
  output : w'.output = w.output
  size : w'.heap.size = w.heap.size
  block : ∀ i, i < w.heap.size → (i ≤ lo ∨ hi ≤ i) → w'.heap[i]? = w.heap[i]?
theorem Between.refl (w : World) (lo hi : Nat) : Between w w lo hi := ⟨rfl, rfl, rfl, rfl, fun _ _ _ => rfl⟩
theorem Between.trans {a b c : World} {lo hi : Nat} (h : Between a b lo hi) (k : Between b c lo hi) : Between a c lo hi :=
  ⟨k.os.trans h.os, k.tape.trans h.tape, k.output.trans h.output, k.size.trans h.size, fun i hi hne => (k.block i (by rw [h.size]; exact hi) hne).trans (h.block i hi hne)⟩
theorem Between.below {w w' : World} {lo hi B : Nat} (h : Between w w' lo hi) (hB : B ≤ lo + 1) (hs : B ≤ w.heap.size) : Below B w w' :=
  ⟨h.os, h.tape, h.output, by rw [h.size]; exact Nat.le_refl _, fun i hi => h.block i (by omega) (.inl (by omega))⟩
theorem Blk.turned {w w' : World} {g g' off : Nat} {t : TypeId} {cs : Array Value} (h : Blk w g t cs) (hb : Turned w w' (some ⟨g', off, none⟩)) (hg : g ≠ g') : Blk w' g t cs :=
  (hb.block g h.lt fun o e => by
    injection e with e
    injection e with e
    exact hg e.symm).trans h
section
variable {w w' wc wd : World} {lo hi B base g : Nat} {A : Option Addr}
end
/-- a slice of strings in a block of the call's own (from base on) that may be written -/
def OwnT (w : World) (base : Nat) (A : Option Addr) (xs : List ByteArray) : Prop :=
  0 < xs.length → ∃ g off : Nat, A = some ⟨g, off, none⟩ ∧ base ≤ g ∧ g < w.heap.size ∧ ∀ (i : Nat) (z : ByteArray), xs[i]? = some z → w.cell? ⟨g, off + i, none⟩ = some (.string z) ∧ w.frozen? ⟨g, off + i, none⟩ = false
section
variable {w w' : World} {base lo hi : Nat} {A : Option Addr} {xs : List ByteArray}
end
/-- whether the byte c occurs in b -/
def occ (b : ByteArray) (c : UInt8) : Bool := b.data.toList.contains c
/-- the parts cut off, and where the next one starts, once i bytes are through -/
def cutSt (s b : ByteArray) : Nat → List ByteArray × Nat
  | 0 => ([], 0)
  | i + 1 => if occ b (s.data.getD i 0) = true then ((cutSt s b i).1 ++ [s.extract (cutSt s b i).2 i], i + 1) else cutSt s b i
def splitB (s b : ByteArray) : List ByteArray := (cutSt s b s.size).1 ++ [s.extract (cutSt s b s.size).2 s.size]
theorem cutSt_le (s b : ByteArray) : ∀ i, (cutSt s b i).2 ≤ i ∧ (cutSt s b i).1.length ≤ i
  | 0 => ⟨Nat.le_refl _, Nat.le_refl _⟩
  | i + 1 => by
    have h := cutSt_le s b i
    rw [cutSt]
    split
    · simp; omega
    · omega
def cuts (b : ByteArray) (k : Nat) : List Value := (List.range 256).map fun (v : Nat) => Value.bool ((b.data.toList.take k).contains (UInt8.ofNat v))
theorem cuts_at (b : ByteArray) (k : Nat) {v : Nat} (h : v < 256) : (cuts b k)[v]? = some (.bool ((b.data.toList.take k).contains (UInt8.ofNat v))) := by simp [cuts, h]
theorem ofNat_toNat8 (c : UInt8) : UInt8.ofNat c.toNat = c := by simp
theorem cuts_set (b : ByteArray) {k : Nat} (h : k < b.size) : (cuts b k).set b[k].toNat (.bool true) = cuts b (k + 1) := by
  have hk : b.data.toList[k]? = some b[k] := by
    rw [List.getElem?_eq_getElem (by simpa using h)]
    rfl
  have hc : b[k].toNat < 256 := b[k].toNat_lt
  apply List.ext_getElem?
  intro v
  by_cases hv : v < 256
  · rw [cuts_at b (k + 1) hv, List.take_add_one, hk]
    by_cases e : v = b[k].toNat
    · subst e
      rw [List.getElem?_set_self (by simp [cuts]; exact hc), ofNat_toNat8]
      simp
    · rw [List.getElem?_set_ne (Ne.symm e), cuts_at b k hv]
      have hne : ¬ (UInt8.ofNat v = b[k]) := fun q => e (by rw [← q]; simp; omega)
      simp [hne]
  · rw [List.getElem?_eq_none (by simp [cuts]; omega), List.getElem?_eq_none (by simp [cuts]; omega)]
theorem own_formT {w : World} {base n : Nat} {v : Value} {l : List ByteArray} (h : w.ownsRow base 9 1 v n (strCells l)) : ∃ (A : Option Addr) (c : Nat), v = .slice A l.length c ∧ l.length ≤ c ∧ OwnT w base A l := by
  obtain ⟨hl, h⟩ := h
  have hln : l.length = n := by simpa [strCells] using hl
  rcases h with ⟨h1, h2⟩ | ⟨g, cap, cur, hv, hb, hh, hnc, _, hcs, htk⟩
  · exact ⟨none, 0, by rw [h1, hln, h2], by omega, fun hn => absurd hn (by omega)⟩
  · have hblk : Blk w g 9 cur := hh
    refine ⟨_, cap, by rw [hln]; exact hv, by rw [hln]; exact hnc, fun _ => ⟨g, 0, rfl, hb, hblk.lt, fun i z hz => ⟨?_, hblk.frozen _⟩⟩⟩
    have hi : i < l.length := (List.getElem?_eq_some_iff.1 hz).1
    rw [hblk.cell, Nat.zero_add]
    have : (cur.toList.take (n * 1))[i]? = some (.string z) := by rw [htk]; simp [strCells, hz]
    rw [List.getElem?_take_of_lt (by omega)] at this
    simpa using this
set_option maxRecDepth 100000 in
set_option maxHeartbeats 2000000 in
theorem implSplit (s b : ByteArray) (w : World) (hs : s.size ≤ 1048576) (hb : b.size ≤ 1048576) :
    Calls Tryd.prog 13 #[.string s, .string b] w fun e w' => ∃ A c, e = .returned (.slice A (splitB s b).length c) ∧ (splitB s b).length ≤ c ∧ OwnT w' w.heap.size A (splitB s b) ∧ Below w.heap.size w w' := by
  obtain ⟨i0, hi, hz0, hz1, hz2⟩ := info_parts strInfo
  go_enter Tryd.func13, Tryd.ntmps13
  go_wp2
  go_loopw [12] (fun i wr => ∃ k : Nat, k ≤ b.size ∧ i = .int .i64 k ∧ Blk wr w.heap.size 46 (cuts b k).toArray ∧ Below w.heap.size w wr) (fun i _ => b.size - (intOf i).toNat)
  case atStart =>
    refine ⟨0, Nat.zero_le _, rfl, ?_, (Below.refl _ _).alloc (Nat.le_refl _) _⟩
    have h := Blk.new w 46 (cuts b 0).toArray
    have e : (cuts b 0) = List.replicate 256 (.bool false) := by
      apply List.ext_getElem?
      intro i
      by_cases hi : i < 256
      · rw [List.getElem?_replicate, if_pos hi]; simp [cuts, hi]
      · rw [List.getElem?_eq_none (by simp [cuts]; omega), List.getElem?_eq_none (by simp; omega)]
    rw [e] at h ⊢
    exact h
  case round =>
    obtain ⟨k, hk, rfl, hblk, hbb⟩ := hrel
    have HB := Lib.hid hblk
    clear hblk
    by_cases hlt : k < b.size
    · have hi0 : (0 : Int) ≤ (k : Int) := Int.natCast_nonneg _
      have hi1 : (k : Int) < (b.size : Int) := by omega
      have hc : (b[k].toNat : Int) < 256 := by have := b[k].toNat_lt; omega
      have hcl : wr.cell? ⟨w.heap.size, b[k].toNat, none⟩ = some (.bool ((b.data.toList.take k).contains (UInt8.ofNat b[k].toNat))) := by rw [HB.out.cell]; simp [cuts_at b k b[k].toNat_lt]
      have hfz := HB.out.frozen b[k].toNat
      have hb2 := HB.out.set_ b[k].toNat (.bool true)
      rw [List.setIfInBounds_toArray, cuts_set b hlt] at hb2
      have HB2 := Lib.hid hb2
      clear hb2
      go_wp2
      exact ⟨⟨k + 1, by omega, by go_num, HB2.out, hbb.setCell (Nat.le_refl _) _⟩, by simp [intOf]; omega⟩
    · have hB2 := HB.out
      rw [show k = b.size by omega] at hB2
      have HB2 := Lib.hid hB2
      clear hB2
      have hlt0 : w.heap.size < wr.heap.size := HB2.out.lt
      obtain ⟨wo, rfl⟩ : ∃ wo, wo = wr := ⟨_, rfl⟩
      go_wp2
      go_loopw [7, 8, 22] (fun v st i wr => ∃ (i' : Nat), i' ≤ s.size ∧ i = .int .i64 i' ∧ st = .int .i64 ((cutSt s b i').2 : Nat) ∧ wr.ownsRow (w.heap.size + 1) 9 1 v (cutSt s b i').1.length (strCells (cutSt s b i').1) ∧ Blk wr w.heap.size 46 (cuts b b.size).toArray ∧ Below w.heap.size w wr) (fun _ _ i _ => s.size - (intOf i).toNat)
      case atStart => exact ⟨0, Nat.zero_le _, rfl, rfl, ⟨rfl, .inl ⟨rfl, rfl⟩⟩, HB2.out, hbb⟩
      case round =>
        obtain ⟨i, hi', rfl, rfl, hown, hblk, hbw⟩ := hrel
        have HO := Lib.hid hown
        have HBK := Lib.hid hblk
        have hlk := hblk.lt
        have hle := cutSt_le s b i
        clear hown hblk
        by_cases hlt2 : i < s.size
        · have hj0 : (0 : Int) ≤ (i : Int) := Int.natCast_nonneg _
          have hj1 : (i : Int) < (s.size : Int) := by omega
          have hc : (s[i].toNat : Int) < 256 := by have := s[i].toNat_lt; omega
          have hoc : (cuts b b.size)[s[i].toNat]? = some (.bool (occ b s[i])) := by
            rw [cuts_at b b.size s[i].toNat_lt, ofNat_toNat8, List.take_of_length_le (show b.data.toList.length ≤ b.size from Nat.le_of_eq Array.length_toList)]
            rfl
          have hcl : wr.cell? ⟨w.heap.size, s[i].toNat, none⟩ = some (.bool (occ b s[i])) := by rw [HBK.out.cell]; simpa using hoc
          have hgd : s.data.getD i 0 = s[i] := by
            have hq : i < s.data.size := hlt2
            simp only [Array.getD, hq, dif_pos]
            rfl
          cases hob : occ b s[i] with
          | false =>
            rw [hob] at hcl
            have HC := Lib.hid (show cutSt s b (i + 1) = cutSt s b i by rw [cutSt, hgd, hob]; rfl)
            clear hoc hgd hob hle
            go_wp2
            exact ⟨⟨i + 1, by omega, by go_num, by rw [HC.out], by rw [HC.out]; exact HO.out, HBK.out, hbw⟩, by simp [intOf]; omega⟩
          | true =>
            rw [hob] at hcl
            have HC := Lib.hid (show cutSt s b (i + 1) = ((cutSt s b i).1 ++ [s.extract (cutSt s b i).2 i], i + 1) by rw [cutSt, hgd, hob]; rfl)
            obtain ⟨p, hp⟩ : ∃ p, p = (cutSt s b i).1 := ⟨_, rfl⟩
            obtain ⟨st, hst⟩ : ∃ st, st = (cutSt s b i).2 := ⟨_, rfl⟩
            rw [← hp, ← hst] at HC hle
            rw [← hp] at HO
            rw [← hst]
            obtain ⟨hle1, hle2⟩ := hle
            have hs0 : (0 : Int) ≤ (st : Int) := Int.natCast_nonneg _
            have hs1 : (st : Int) ≤ (i : Int) := by omega
            clear hoc hgd hob hp hst
            go_wp2_with (at_builtin; refine wpList_append_own _ rfl _ _ 31 rfl (w.heap.size + 1) 9 i0 (.string ⟨#[]⟩) 1 16 Tryd.underlying31 hi hz0 hz1 hz2 rfl (by decide) _ _ _ rfl (HO.out.alloc _) ⟨wr.heap.size, 0, none⟩ 1 1 [.string (s.extract st i)] rfl rfl ?c1 ?c2 ?c3 ?c4 ?c5 ?_)
            case c1 => exact one_cellI _ _ (by simp) _ _
            case c2 =>
              intro u hu
              rw [List.mem_singleton] at hu
              subst hu
              rfl
            case c3 => unfold maxLen; omega
            case c4 => omega
            case c5 => simp; omega
            intro v' w1 hown' hgrow _
            have HO2 : Hid (w1.ownsRow (w.heap.size + 1) 9 1 v' (p ++ [s.extract st i]).length (strCells (p ++ [s.extract st i]))) := Lib.hid (by
              have h3 := hown'
              simpa [strCells] using h3)
            have HBK2 : Hid (Blk w1 w.heap.size 46 (cuts b b.size).toArray) := Lib.hid ((hgrow.block w.heap.size (by simp; omega) (fun h => by have := (HO.out.lt _ h.symm).1; omega)).trans (HBK.out.alloc _))
            have hb4 : Below w.heap.size w w1 := (hbw.alloc hbw.size (Obj.cells #[.string (s.extract st i)] 9)).grown hgrow (by simp; have := hbw.size; omega) (fun q hq => by have := (HO.out.lt q hq).1; omega)
            clear hown' hgrow
            go_wp2
            exact ⟨⟨i + 1, by omega, by go_num, by rw [HC.out]; go_num, by rw [HC.out]; exact HO2.out, HBK2.out, hb4⟩, by simp [intOf]; omega⟩
        · have his : i = s.size := by omega
          have HSP := Lib.hid (show splitB s b = (cutSt s b i).1 ++ [s.extract (cutSt s b i).2 s.size] by rw [his]; rfl)
          obtain ⟨p, hp⟩ : ∃ p, p = (cutSt s b i).1 := ⟨_, rfl⟩
          obtain ⟨st, hst⟩ : ∃ st, st = (cutSt s b i).2 := ⟨_, rfl⟩
          rw [← hp, ← hst] at HSP hle
          rw [← hp] at HO
          rw [← hst]
          obtain ⟨hle1, hle2⟩ := hle
          have hs0 : (0 : Int) ≤ (st : Int) := Int.natCast_nonneg _
          have hs1 : (st : Int) ≤ (s.size : Int) := by omega
          have hs2 : p.length ≤ 1048576 := by omega
          clear hp hst his
          go_wp2_with (at_builtin; refine wpList_append_own _ rfl _ _ 31 rfl (w.heap.size + 1) 9 i0 (.string ⟨#[]⟩) 1 16 Tryd.underlying31 hi hz0 hz1 hz2 rfl (by decide) _ _ _ rfl (HO.out.alloc _) ⟨wr.heap.size, 0, none⟩ 1 1 [.string (s.extract st s.size)] rfl rfl ?c1 ?c2 ?c3 ?c4 ?c5 ?_)
          case c1 => exact one_cellI _ _ (by simp) _ _
          case c2 =>
            intro u hu
            rw [List.mem_singleton] at hu
            subst hu
            rfl
          case c3 => unfold maxLen; omega
          case c4 => omega
          case c5 => simp; omega
          intro v' w1 hown' hgrow _
          have hO2 : w1.ownsRow (w.heap.size + 1) 9 1 v' (splitB s b).length (strCells (splitB s b)) := by
            rw [HSP.out]
            have h3 := hown'
            simpa [strCells] using h3
          obtain ⟨A2, c2, rfl, hcap, ho2⟩ := own_formT hO2
          have HT := Lib.hid ho2
          have hb4 : Below w.heap.size w w1 := (hbw.alloc hbw.size (Obj.cells #[.string (s.extract st s.size)] 9)).grown hgrow (by simp; have := hbw.size; omega) (fun q hq => by have := (HO.out.lt q hq).1; omega)
          clear hown' hgrow hO2 ho2
          go_wp2
          go_ret
          refine ⟨A2, c2, rfl, hcap, fun hn => ?_, hb4⟩
          obtain ⟨g, off, e1, e2, e3⟩ := HT.out hn
          exact ⟨g, off, e1, by omega, e3⟩
theorem splitB_len {s b : ByteArray} (h : s.size ≤ 1048576) : (splitB s b).length ≤ 2000000 := by
  have := (cutSt_le s b s.size).2
  rw [splitB, List.length_append, List.length_singleton]
  omega
/-- a slice of strings that is new memory -/
def GivesT (w : World) (l : List ByteArray) (e : Ending) (w' : World) : Prop := ∃ (A : Option Addr) (c : Nat), e = .returned (.slice A l.length c) ∧ OwnT w' w.heap.size A l ∧ Below w.heap.size w w'
def nl : ByteArray := ⟨#[10]⟩
def linesB (s : ByteArray) : List ByteArray := if (splitB s nl)[(splitB s nl).length - 1]? = some ⟨#[]⟩ then (splitB s nl).take ((splitB s nl).length - 1) else splitB s nl
theorem splitB_pos (s b : ByteArray) : 0 < (splitB s b).length := by rw [splitB, List.length_append, List.length_singleton]; omega
theorem OwnT.take_ {w : World} {base : Nat} {A : Option Addr} {l : List ByteArray} (h : OwnT w base A l) (n : Nat) : OwnT w base A (l.take n) := fun hn => by
  rw [List.length_take] at hn
  obtain ⟨g, off, e, h1, h2, h3⟩ := h (by omega)
  refine ⟨g, off, e, h1, h2, fun i z hz => h3 i z ?_⟩
  have hi : i < n := by
    have := (List.getElem?_eq_some_iff.1 hz).1
    rw [List.length_take] at this
    omega
  rwa [List.getElem?_take_of_lt hi] at hz

set_option maxRecDepth 100000 in
set_option maxHeartbeats 1000000 in
theorem implLines (s : ByteArray) (w : World) (hs : s.size ≤ 1048576) :
    Calls Tryd.prog 15 #[.string s] w (GivesT w (linesB s)) := by
  have HC := fun w => Lib.hid (implSplit s ⟨#[10]⟩ w hs (by decide))
  have hl := splitB_len (b := nl) hs
  have hp := splitB_pos s nl
  obtain ⟨z, hz⟩ : ∃ z, (splitB s nl)[(splitB s nl).length - 1]? = some z := ⟨_, List.getElem?_eq_getElem (by omega)⟩
  have HZ := Lib.hid hz
  by_cases h0 : z = ⟨#[]⟩
  · have HL := Lib.hid (show linesB s = (splitB s nl).take ((splitB s nl).length - 1) by rw [linesB, if_pos (by rw [hz, h0])])
    obtain ⟨zs, hzs⟩ : ∃ zs, zs = splitB s nl := ⟨_, rfl⟩
    have hzs2 : zs = splitB s ⟨#[10]⟩ := hzs
    rw [← hzs2] at HC
    rw [← hzs] at HL HZ hl hp
    rw [HL.out]
    have HLL := Lib.hid (show (zs.take (zs.length - 1)).length = zs.length - 1 by rw [List.length_take]; omega)
    clear hz hzs hzs2
    subst h0
    go_enter Tryd.func15, Tryd.ntmps15
    go_wp2_with fail
    refine (HC _).out.mono ?_
    rintro e w1 ⟨A1, c1, rfl, hcap, ho, hb⟩
    obtain ⟨g, off, rfl, hg1, hg2, hc⟩ := ho hp
    have hcl := (hc _ _ HZ.out).1
    have HO := Lib.hid ho
    have hz0 : (1 : Int) ≤ (zs.length : Int) := by omega
    have hz1 : (zs.length : Int) - 1 < (zs.length : Int) := by omega
    have hz2 : ((zs.length : Int) - 1).toNat = zs.length - 1 := by omega
    have hz3 : (zs.length : Int) - 1 ≤ (c1 : Int) := by omega
    clear hc ho
    go_wp2
    go_ret
    exact ⟨some ⟨g, off, none⟩, c1, by rw [HLL.out]; rfl, HO.out.take_ _, hb⟩
  · have HL := Lib.hid (show linesB s = splitB s nl by rw [linesB, if_neg (by rw [hz]; simpa using h0)])
    have ht : (z.toList == ([] : List UInt8)) = false := by
      rw [beq_eq_false_iff_ne]
      intro e
      exact h0 (same_bytes (by rw [e, ByteArray.toList_eq]; rfl))
    obtain ⟨zs, hzs⟩ : ∃ zs, zs = splitB s nl := ⟨_, rfl⟩
    have hzs2 : zs = splitB s ⟨#[10]⟩ := hzs
    rw [← hzs2] at HC
    rw [← hzs] at HL HZ hl hp
    rw [HL.out]
    clear hz hzs hzs2 h0
    go_enter Tryd.func15, Tryd.ntmps15
    go_wp2_with fail
    refine (HC _).out.mono ?_
    rintro e w1 ⟨A1, c1, rfl, hcap, ho, hb⟩
    obtain ⟨g, off, rfl, hg1, hg2, hc⟩ := ho hp
    have hcl := (hc _ _ HZ.out).1
    have HO := Lib.hid ho
    have hz0 : (1 : Int) ≤ (zs.length : Int) := by omega
    have hz1 : (zs.length : Int) - 1 < (zs.length : Int) := by omega
    have hz2 : ((zs.length : Int) - 1).toNat = zs.length - 1 := by omega
    clear hc ho
    go_wp2
    go_ret
    exact ⟨some ⟨g, off, none⟩, c1, rfl, HO.out, hb⟩
def bl (xs : List ByteArray) : List (List UInt8) := xs.map (·.data.toList)
def joinB (xs : List ByteArray) (sep : ByteArray) : ByteArray := ⟨(Lib.join (bl xs) sep.data.toList).toArray⟩
theorem inter_snoc (sep x : List UInt8) : ∀ l : List (List UInt8), l ≠ [] → List.intercalate sep (l ++ [x]) = List.intercalate sep l ++ sep ++ x
  | [a], _ => by simp [List.intercalate]
  | a :: b :: l, _ => by
    have h := inter_snoc sep x (b :: l) (by simp)
    simp only [List.intercalate, List.cons_append, List.intersperse_cons_cons, List.flatten_cons] at h ⊢
    rw [h]
    simp [List.append_assoc]
theorem join_snoc {xs : List ByteArray} {sep x : ByteArray} {k : Nat} (hk : 0 < k) (he : xs[k]? = some x) : joinB (xs.take (k + 1)) sep = joinB (xs.take k) sep ++ sep ++ x := by
  have hne : bl (xs.take k) ≠ [] := by
    have hl : k < xs.length := (List.getElem?_eq_some_iff.1 he).1
    have hl2 : (bl (xs.take k)).length = k := by simp only [bl, List.length_map, List.length_take]; omega
    intro h
    rw [h] at hl2
    simp at hl2
    omega
  unfold joinB
  rw [List.take_add_one, he]
  have e1 : bl (xs.take k ++ (some x).toList) = bl (xs.take k) ++ [x.data.toList] := by simp [bl]
  rw [e1]
  show _ = ByteArray.mk _ ++ ByteArray.mk sep.data.toList.toArray ++ ByteArray.mk x.data.toList.toArray
  rw [ByteArray.mk_append_mk, ByteArray.mk_append_mk, Lib.join, inter_snoc _ _ _ hne]
  rfl
theorem join_first {xs : List ByteArray} {sep x : ByteArray} (he : xs[0]? = some x) : joinB (xs.take 1) sep = x := by
  unfold joinB
  rw [List.take_add_one, he]
  simp [bl, Lib.join, List.intercalate]
theorem join_size {xs : List ByteArray} {sep : ByteArray} : ∀ k : Nat, k ≤ xs.length → (joinB (xs.take k) sep).size ≤ sizes (xs.take k) + k * sep.size
  | 0, _ => by
    have : joinB (xs.take 0) sep = ⟨#[]⟩ := by rw [List.take_zero]; rfl
    rw [this]
    exact Nat.zero_le _
  | k + 1, h => by
    have he : xs[k]? = some xs[k] := List.getElem?_eq_getElem (by omega)
    have ih := join_size (xs := xs) (sep := sep) k (by omega)
    rw [sizes_snoc he, Nat.add_mul]
    by_cases hk : 0 < k
    · rw [join_snoc hk he, ByteArray.size_append', ByteArray.size_append']
      omega
    · obtain rfl : k = 0 := by omega
      rw [join_first he]
      omega
theorem join_small {xs : List ByteArray} {sep : ByteArray} (hs : sep.size ≤ 1048576) (hx : xs.length + sizes xs ≤ 1048576) (k : Nat) (hk : k ≤ xs.length) : (joinB (xs.take k) sep).size ≤ 1099512676352 := by
  have h1 := join_size (sep := sep) k hk
  have h2 := sizes_take_le xs k
  have h3 : k * sep.size ≤ 1048576 * 1048576 := Nat.mul_le_mul (by omega) hs
  omega
set_option maxHeartbeats 400000 in
theorem joinWith_any (A : Option Addr) (c : Nat) (xs : List ByteArray) (sep : ByteArray) (w : World) (hsep : sep.size ≤ 1048576) (hx : xs.length + sizes xs ≤ 1048576) (hc : xs.length ≤ c) (hS : StrS w w.heap.size A xs) :
    Calls Tryd.prog 24 #[.string sep, .slice A xs.length c] w fun e w' => e = .returned (.string (joinB xs sep)) ∧ Below w.heap.size w w' := by
  by_cases h0 : 0 < xs.length
  · obtain ⟨b, off, rfl, hb, hcell⟩ := hS h0
    have hlen : (Lib.join (xs.map (·.data.toList)) sep.data.toList).length ≤ 140737488355328 := by
      have h1 := join_small hsep hx xs.length (Nat.le_refl _)
      rw [List.take_length] at h1
      have h2 : (joinB xs sep).size = (Lib.join (xs.map (·.data.toList)) sep.data.toList).length := by
        show (Lib.join (bl xs) sep.data.toList).toArray.size = _
        rw [List.size_toArray]
        rfl
      omega
    have hj := Tryd.strings_Join b off c xs sep w hcell hb (by omega) hc hlen
    have HJ := Lib.hid hj
    clear hj hcell hlen
    go_enter Tryd.func24, Tryd.ntmps24
    go_wp2_with (go_at_call 30; refine HJ.out.mono ?_; rintro e w1 ⟨rfl, hb1⟩)
    go_ret
    exact ⟨rfl, hb1⟩
  · obtain rfl : xs = [] := by
      cases xs with
      | nil => rfl
      | cons a l => simp at h0
    have hj := Tryd.strings_Join_none A c sep w
    have HJ := Lib.hid hj
    clear hj h0
    go_enter Tryd.func24, Tryd.ntmps24
    go_wp2_with (go_at_call 30; refine HJ.out.mono ?_; rintro e w1 ⟨rfl, rfl⟩)
    go_ret
    exact ⟨rfl, Below.refl _ _⟩
set_option maxHeartbeats 400000 in
theorem implJoin (A : Option Addr) (c : Nat) (xs : List ByteArray) (sep : ByteArray) (w : World) (hsep : sep.size ≤ 1048576) (hx : xs.length + sizes xs ≤ 1048576) (hc : xs.length ≤ c) (hS : StrS w w.heap.size A xs) :
    Calls Tryd.prog 12 #[.slice A xs.length c, .string sep] w fun e w' => e = .returned (.string (joinB xs sep)) ∧ Below w.heap.size w w' := by
  have HJ := Lib.hid (joinWith_any A c xs sep w hsep hx hc hS)
  clear hS
  go_enter Tryd.func12, Tryd.ntmps12
  go_wp2_with (go_at_call 24; refine HJ.out.mono ?_; rintro e w1 ⟨rfl, hb1⟩)
  go_ret
  exact ⟨rfl, hb1⟩
set_option maxHeartbeats 400000 in
theorem implDigit (r : Int) (w : World) : Calls Tryd.prog 26 #[.int .i32 r] w fun e w' => e = .returned (.bool (decide (48 ≤ r) && decide (r ≤ 57))) ∧ w = w' := by
  go_enter Tryd.func26, Tryd.ntmps26
  go_wp2
  · go_ret
    have h : 48 ≤ r := by assumption
    exact ⟨ret_bool (by simp [h]), rfl⟩
  · go_ret
    have h : r < 48 := by assumption
    exact ⟨ret_bool (by simp only [show decide (48 ≤ r) = false from decide_eq_false (by omega), Bool.false_and]), rfl⟩

theorem nonempty_size (s : ByteArray) : (!s.toList.isEmpty) = decide (0 < s.size) := by
  have h : s.toList.isEmpty = true ↔ s = ByteArray.empty := by rw [List.isEmpty_iff]; exact toList_nil_iff_emptyBytes s
  have h2 : s = ByteArray.empty ↔ s.size = 0 := ⟨fun e => by rw [e]; rfl, fun e => ByteArray.ext (Array.eq_empty_of_size_eq_zero e)⟩
  rw [Bool.eq_iff_iff, Bool.not_eq_true', Bool.eq_false_iff, decide_eq_true_iff]
  rw [Ne, h, h2]
  omega
theorem below_iter (w : World) (s : ByteArray) (pos : Nat) : Below w.heap.size w (w.iter s pos) := (Below.refl _ _).alloc (Nat.le_refl _) _
def allUpto (p : Nat → Bool) : Nat → Bool
  | 0 => true
  | k + 1 => allUpto p k && p k
theorem allUpto_snoc {p : Nat → Bool} {k : Nat} (h : allUpto p k = true) (hk : p k = true) : allUpto p (k + 1) = true := by simp [allUpto, h, hk]
theorem allUpto_miss {p : Nat → Bool} {k : Nat} (hk : p k = false) : ∀ {n : Nat}, k < n → allUpto p n = false
  | n + 1, h => by
    by_cases e : k = n
    · subst e; simp [allUpto, hk]
    · simp [allUpto, allUpto_miss hk (show k < n by omega)]

def nmB (c : UInt8) (j : Nat) : Bool := (decide (97 ≤ (c.toNat : Int)) && decide ((c.toNat : Int) ≤ 122)) || (decide (0 < j) && digB c)
def nameB (s : ByteArray) : Bool := allUpto (fun j => nmB (s.data.toList.getD j 0) j) s.size && decide (1 ≤ s.size) && decide (s.size ≤ 8)
theorem getD_at (s : ByteArray) (j : Nat) (h : j < s.size) : s.data.toList.getD j 0 = s[j] := by
  simp [List.getD, List.getElem?_eq_getElem (show j < s.data.toList.length by simpa using h)]; rfl

theorem nmB_other {c : UInt8} {k : Nat} (h : (c.toNat : Int) < 97 ∨ 122 < (c.toNat : Int)) : nmB c k = (decide (0 < k) && digB c) := by
  have e : (decide (97 ≤ (c.toNat : Int)) && decide ((c.toNat : Int) ≤ 122)) = false := by
    rw [Bool.and_eq_false_iff, decide_eq_false_iff_not, decide_eq_false_iff_not]; omega
  simp only [nmB, e, Bool.false_or]
theorem nameB_miss {s : ByteArray} {k : Nat} (h : k < s.size) (hk : nmB (s.data.toList.getD k 0) k = false) : nameB s = false := by
  simp only [nameB, allUpto_miss (p := fun j => nmB (s.data.toList.getD j 0) j) hk h, Bool.false_and]
def smallR (r : Int) : Bool := decide (97 ≤ r) && decide (r ≤ 122)
def digR (r : Int) : Bool := decide (48 ≤ r) && decide (r ≤ 57)
set_option maxHeartbeats 400000 in
theorem implSmall (r : Int) (w : World) : Calls Tryd.prog 25 #[.int .i32 r] w fun e w' => e = .returned (.bool (smallR r)) ∧ w = w' := by
  go_enter Tryd.func25, Tryd.ntmps25
  go_wp2
  · go_ret
    have h : 97 ≤ r := by assumption
    exact ⟨ret_bool (by simp [smallR, h]), rfl⟩
  · go_ret
    have h : r < 97 := by assumption
    exact ⟨ret_bool (by simp only [smallR]; rw [decide_eq_false (p := 97 ≤ r) (by omega)]; rfl), rfl⟩
theorem implDig (r : Int) (w : World) : Calls Tryd.prog 26 #[.int .i32 r] w fun e w' => e = .returned (.bool (digR r)) ∧ w = w' := implDigit r w
/-- the rune at a place is a small letter or a digit exactly where the byte is -/
theorem rune_name (s : ByteArray) (k : Nat) (h : k < s.size) : nmB s[k] k = (smallR ((Utf8.decode s k).1 : Int) || (decide (0 < k) && digR ((Utf8.decode s k).1 : Int))) ∧
    (nmB s[k] k = true → (Utf8.decode s k).2 = 1) := by
  by_cases ha : (s[k]'h).toNat < 128
  · have e := decode_ascii s k h ha
    rw [e]
    exact ⟨rfl, fun _ => rfl⟩
  · have hh := (decode_high s k h (by omega)).1
    have e1 : nmB s[k] k = false := by
      rw [nmB_other (.inr (by omega)), digB_hi _ (by omega), Bool.and_false]
    have e2 : smallR ((Utf8.decode s k).1 : Int) = false := by simp only [smallR]; rw [decide_eq_false (p := ((Utf8.decode s k).1 : Int) ≤ 122) (by omega), Bool.and_false]
    have e3 : digR ((Utf8.decode s k).1 : Int) = false := by simp only [digR]; rw [decide_eq_false (p := ((Utf8.decode s k).1 : Int) ≤ 57) (by omega), Bool.and_false]
    refine ⟨by rw [e1, e2, e3]; simp, fun ht => by rw [e1] at ht; cases ht⟩

theorem empty_iff (s : ByteArray) : s.toList.isEmpty = true ↔ s.size = 0 := by
  have := nonempty_size s
  by_cases h0 : 0 < s.size
  · rw [decide_eq_true h0, Bool.not_eq_true'] at this
    rw [this]
    exact ⟨fun h => (by cases h), fun h => (by omega)⟩
  · rw [decide_eq_false h0, Bool.not_eq_false'] at this
    rw [this]
    exact ⟨fun _ => (by omega), fun _ => rfl⟩
theorem nameB_size {s : ByteArray} (h : s.size < 1 ∨ 8 < s.size) : nameB s = false := by
  simp only [nameB]
  rcases h with h | h
  · rw [decide_eq_false (p := 1 ≤ s.size) (by omega)]; simp
  · rw [decide_eq_false (p := s.size ≤ 8) (by omega)]; simp
theorem nameB_all {s : ByteArray} (h : allUpto (fun j => nmB (s.data.toList.getD j 0) j) s.size = true) (h1 : 1 ≤ s.size) (h8 : s.size ≤ 8) : nameB s = true := by
  simp only [nameB, h, decide_eq_true h1, decide_eq_true h8]; rfl

set_option maxHeartbeats 400000 in
theorem implName (s : ByteArray) (w : World) (hs : s.size ≤ maxLen) :
    Calls Tryd.prog 14 #[.string s] w fun e w' => e = .returned (.bool (nameB s)) ∧ Below w.heap.size w w' := by
  unfold maxLen at hs
  by_cases h0 : s.size = 0
  · have he : s.toList = [] := List.isEmpty_iff.1 ((empty_iff s).2 h0)
    have hn := Lib.hid (nameB_size (s := s) (.inl (by omega)))
    clear h0
    go_enter Tryd.func14, Tryd.ntmps14
    go_wp2
    go_ret
    exact ⟨ret_bool hn.out.symm, Below.refl _ _⟩
  have he : ¬ s.toList = [] := fun e => h0 ((empty_iff s).1 (by rw [e]; rfl))
  have he2 : s.toList.isEmpty = false := by rw [Bool.eq_false_iff]; intro e; exact h0 ((empty_iff s).1 e)
  have h1 : 1 ≤ s.size := by omega
  clear h0
  by_cases h8 : 8 < s.size
  · have hn := Lib.hid (nameB_size (s := s) (.inr h8))
    go_enter Tryd.func14, Tryd.ntmps14
    go_wp2
    go_ret
    exact ⟨ret_bool hn.out.symm, Below.refl _ _⟩
  have h8' : s.size ≤ 8 := by omega
  clear h8
  go_enter Tryd.func14, Tryd.ntmps14
  go_wp2
  go_loopw [] (fun w' => ∃ k : Nat, w' = w.iter s k ∧ k ≤ s.size ∧ Hid (allUpto (fun j => nmB (s.data.toList.getD j 0) j) k = true)) (fun w' => s.size - w'.iterPos w.heap.size)
  case atStart => exact ⟨0, rfl, Nat.zero_le _, Lib.hid rfl⟩
  case round =>
    obtain ⟨k, rfl, hle, hd⟩ := hrel
    by_cases hp : k < s.size
    · have hnx : ∀ ty, (Instr.next (.pointer (some ⟨w.heap.size, 0, none⟩)) true ty).run Tryd.prog (w.iter s k) = _ := fun ty => run_next_any w s k ty hp
      obtain ⟨hnm0, hw0⟩ := rune_name s k hp
      have hnm := Lib.hid hnm0
      have hw1 := Lib.hid hw0
      have hg := Lib.hid (getD_at s k hp)
      clear hnm0 hw0
      go_wp2_with (first | (go_at_call 25; refine (implSmall _ _).mono ?_; rintro e w' ⟨rfl, rfl⟩) | (go_at_call 26; refine (implDig _ _).mono ?_; rintro e w' ⟨rfl, rfl⟩))
      · have hsm : smallR ((Utf8.decode s k).1 : Int) = true := by assumption
        have ht : nmB s[k] k = true := by rw [hnm.out, hsm]; rfl
        rw [hw1.out ht]
        exact ⟨⟨k + 1, rfl, by omega, allUpto_snoc hd (by rw [hg.out]; exact ht)⟩, by simp; omega⟩
      · have hsm : ¬ smallR ((Utf8.decode s k).1 : Int) = true := by assumption
        have hk : k = 0 := by assumption
        have hf : nmB s[k] k = false := by rw [hnm.out, Bool.eq_false_iff.2 hsm, decide_eq_false (by omega)]; rfl
        go_ret
        exact ⟨ret_bool (nameB_miss hp (by rw [hg.out]; exact hf)).symm, below_iter _ _ _⟩
      · have hsm : ¬ smallR ((Utf8.decode s k).1 : Int) = true := by assumption
        have hd2 : ((k : Int) == 0) = true ∨ (!digR ((Utf8.decode s k).1 : Int)) = true := by assumption
        have hk : ¬ k = 0 := by assumption
        have hf : nmB s[k] k = false := by
          rw [hnm.out, Bool.eq_false_iff.2 hsm]
          rcases hd2 with h | h
          · rw [beq_iff_eq] at h; omega
          · rw [Bool.not_eq_true'] at h; rw [h, Bool.and_false]; rfl
        go_ret
        exact ⟨ret_bool (nameB_miss hp (by rw [hg.out]; exact hf)).symm, below_iter _ _ _⟩
      · have hd2 : ((k : Int) == 0) = false ∧ (!digR ((Utf8.decode s k).1 : Int)) = false := by assumption
        have hk : ¬ k = 0 := by assumption
        have hdg := hd2.2
        rw [Bool.not_eq_false'] at hdg
        have ht : nmB s[k] k = true := by rw [hnm.out, hdg, decide_eq_true (by omega)]; simp
        rw [hw1.out ht]
        exact ⟨⟨k + 1, rfl, by omega, allUpto_snoc hd (by rw [hg.out]; exact ht)⟩, by simp; omega⟩
    · have hnx : ∀ ty, (Instr.next (.pointer (some ⟨w.heap.size, 0, none⟩)) true ty).run Tryd.prog (w.iter s k) = _ := fun ty => run_next_end w s k ty hp
      have hn := Lib.hid (nameB_all (s := s) (by rw [show s.size = k by omega]; exact hd.out) h1 h8')
      go_wp2
      go_ret
      exact ⟨ret_bool hn.out.symm, below_iter _ _ _⟩

end Go.Proofs.YtbmihbbpdmpmpaaDoor
