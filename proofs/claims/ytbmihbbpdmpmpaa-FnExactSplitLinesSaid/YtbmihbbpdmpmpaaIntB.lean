/- Slices of ints: how they read, what a call's own memory holds. -/
import Derived.Test.YtbmihbbpdmpmpaaEdge
import Derived.Test.YtbmihbbpdmpmpaaToEdge
import Derived.RegionTactic
import Derived.ChangeAlike
import Derived.Laws.AppendOwn
import Derived.Laws.OwnMore
import Derived.OwnWalk
namespace Go.Proofs.Ytbmihbbpdmpmpaa
open Go.RowKit

/-- a slice of ints reads as a list, its cells below block B -/
def IntS (w : World) (B : Nat) (A : Option Addr) (xs : List Int) : Prop :=
  0 < xs.length → ∃ b off : Nat, A = some ⟨b, off, none⟩ ∧ b < B ∧ ∀ (i : Nat) (x : Int), xs[i]? = some x → w.cell? ⟨b, off + i, none⟩ = some (.int .i64 x)
theorem IntS.keep {w w' : World} {B B' : Nat} {A : Option Addr} {xs : List Int} (h : IntS w B A xs) (hk : ∀ p : Addr, p.block < B → w'.cell? p = w.cell? p) (hB : B ≤ B') : IntS w' B' A xs :=
  fun hn => by
    obtain ⟨b, off, e, hb, hc⟩ := h hn
    exact ⟨b, off, e, by omega, fun i x hx => (hk _ hb).trans (hc i x hx)⟩
theorem IntS.below {w w' : World} {B : Nat} {A : Option Addr} {xs : List Int} (h : IntS w B A xs) (hb : Below B w w') : IntS w' B A xs := h.keep (fun _ hp => hb.cell hp) (Nat.le_refl _)
theorem IntS.up_ {w w' : World} {A : Option Addr} {xs : List Int} (h : IntS w w.heap.size A xs) (hb : Below w.heap.size w w') : IntS w' w'.heap.size A xs := h.keep (fun _ hp => hb.cell hp) hb.size
theorem IntS.at_ {w : World} {B : Nat} {A : Option Addr} {xs : List Int} (h : IntS w B A xs) {k : Nat} (hk : k < xs.length) :
    ∃ (b off : Nat) (x : Int), A = some ⟨b, off, none⟩ ∧ b < B ∧ xs[k]? = some x ∧ w.cell? ⟨b, off + k, none⟩ = some (.int .i64 x) := by
  obtain ⟨b, off, e, hb, hc⟩ := h (by omega)
  exact ⟨b, off, xs[k], e, hb, List.getElem?_eq_getElem hk, hc k _ (List.getElem?_eq_getElem hk)⟩

theorem intInfo : (Try.prog.info? 3).map (fun i => (i.zero, i.size, i.bytes)) = some (some (.int .i64 0), 1, 8) := by kernel_rfl
def intCells (xs : List Int) : List Value := xs.map (Value.int .i64)
theorem made_ints (n : Nat) : madeCells (Value.int .i64 0).cells (n * 1) = (intCells (List.replicate n 0)).toArray := by
  apply Array.ext
  · simp [madeCells, intCells]
  · intro i h1 h2
    simp only [madeCells, intCells, Array.getElem_map, Array.getElem_range, List.getElem_toArray, List.getElem_map, List.getElem_replicate]
    show (#[Value.int .i64 0] : Array Value)[i % 1]! = _
    rw [Nat.mod_one]
    rfl
theorem make_ints (n : Nat) (hn : n ≤ 1048576) (w : World) : (Instr.makeSlice 43 (.int .i64 (n : Int)) (.int .i64 (n : Int))).run Try.prog w =
    .ok (.slice (some ⟨w.heap.size, 0, none⟩) n n) (w.alloc (.cells (intCells (List.replicate n 0)).toArray 3)) := by
  obtain ⟨i0, hi, hz0, hz1, hz2⟩ := info_parts intInfo
  have hr := run_make (P := Try.prog) w 43 3 i0 _ Try.underlying43 hi hz0 .i64 .i64 n n (by omega) (by omega) (by rw [hz2]; omega) (by omega)
  rw [hz1] at hr
  simp only [Int.toNat_natCast] at hr
  rw [made_ints] at hr
  exact hr
def partI (xs : List Int) (k : Nat) : List Int := xs.take k ++ List.replicate (xs.length - k) 0
theorem partI_all (xs : List Int) : partI xs xs.length = xs := by simp [partI]
theorem partI_at (xs : List Int) (k : Nat) (h : k < xs.length) : (partI xs k)[k]? = some 0 := by
  unfold partI
  have hl : (xs.take k).length = k := by simp; omega
  rw [List.getElem?_append_right (by omega), hl, Nat.sub_self]
  have : xs.length - k = (xs.length - (k + 1)) + 1 := by omega
  rw [this, List.replicate_succ]
  rfl
theorem partI_set (xs : List Int) (k : Nat) (e : Int) (h : xs[k]? = some e) : (partI xs k).set k e = partI xs (k + 1) := by
  have hk : k < xs.length := (List.getElem?_eq_some_iff.1 h).1
  unfold partI
  rw [List.take_add_one, h, List.set_append_right _ _ (by simp; omega)]
  have : xs.length - k = (xs.length - (k + 1)) + 1 := by omega
  rw [this, List.replicate_succ]
  simp [Nat.min_eq_left (Nat.le_of_lt hk)]
theorem IntS.of_blk {w : World} {g B : Nat} {t : TypeId} {xs : List Int} (h : Blk w g t (intCells xs).toArray) (hg : g < B) : IntS w B (some ⟨g, 0, none⟩) xs := fun _ =>
  ⟨g, 0, rfl, hg, fun i x hx => by
    rw [h.cell]
    simp [intCells, hx]⟩
theorem blk_partI {w : World} {g : Nat} {t : TypeId} {xs : List Int} {k : Nat} {e : Int} (h : Blk w g t (intCells (partI xs k)).toArray) (he : xs[k]? = some e) :
    Blk (w.setCell ⟨g, k, none⟩ (.int .i64 e)) g t (intCells (partI xs (k + 1))).toArray := by
  have h2 := h.set_ k (.int .i64 e)
  rw [List.setIfInBounds_toArray] at h2
  have : (intCells (partI xs k)).set k (.int .i64 e) = intCells (partI xs (k + 1)) := by
    rw [← partI_set _ _ _ he]
    simp [intCells, List.map_set]
  rw [this] at h2
  exact h2
/-- a slice of ints that lies in a block of the call's own (from base on) and may be written -/
def OwnI (w : World) (base : Nat) (A : Option Addr) (zs : List Int) : Prop :=
  0 < zs.length → ∃ g off : Nat, A = some ⟨g, off, none⟩ ∧ base ≤ g ∧ g < w.heap.size ∧ ∀ (i : Nat) (z : Int), zs[i]? = some z → w.cell? ⟨g, off + i, none⟩ = some (.int .i64 z) ∧ w.frozen? ⟨g, off + i, none⟩ = false
theorem OwnI.ints {w : World} {base : Nat} {A : Option Addr} {zs : List Int} (h : OwnI w base A zs) : IntS w w.heap.size A zs := fun hn => by
  obtain ⟨g, off, e, _, hg, hc⟩ := h hn
  exact ⟨g, off, e, hg, fun i z hz => (hc i z hz).1⟩
theorem OwnI.below {w w' : World} {base : Nat} {A : Option Addr} {zs : List Int} (h : OwnI w base A zs) (hb : Below w.heap.size w w') : OwnI w' base A zs := fun hn => by
  obtain ⟨g, off, e, h1, hg, hc⟩ := h hn
  exact ⟨g, off, e, h1, Nat.lt_of_lt_of_le hg hb.size, fun i z hz => ⟨(hb.cell (p := ⟨g, off + i, none⟩) hg).trans (hc i z hz).1, (hb.frozen (p := ⟨g, off + i, none⟩) hg).trans (hc i z hz).2⟩⟩
theorem OwnI.mono {w : World} {base base' : Nat} {A : Option Addr} {zs : List Int} (h : OwnI w base A zs) (hb : base' ≤ base) : OwnI w base' A zs := fun hn => by
  obtain ⟨g, off, e, h1, hg, hc⟩ := h hn
  exact ⟨g, off, e, by omega, hg, hc⟩
theorem OwnI.of_blk {w : World} {g base : Nat} {t : TypeId} {zs : List Int} (h : Blk w g t (intCells zs).toArray) (hg : base ≤ g) : OwnI w base (some ⟨g, 0, none⟩) zs := fun _ =>
  ⟨g, 0, rfl, hg, h.lt, fun i z hz => ⟨by rw [h.cell]; simp [intCells, hz], h.frozen _⟩⟩
/-- a slice of ints, new memory, is handed back -/
def GivesInts (w : World) (zs : List Int) (e : Ending) (w' : World) : Prop :=
  ∃ (A : Option Addr) (c : Nat), e = .returned (.slice A zs.length c) ∧ OwnI w' w.heap.size A zs ∧ Below w.heap.size w w'
theorem OwnI.nil (w : World) (base : Nat) (A : Option Addr) : OwnI w base A [] := fun h => absurd h (by simp)
theorem OwnI.of_own {w : World} {base n c : Nat} {A : Option Addr} {zs : List Int} (h : w.ownsRow base 3 1 (.slice A n c) n (intCells zs)) : OwnI w base A zs := fun hn => by
  obtain ⟨hl, h⟩ := h
  rcases h with ⟨_, h0⟩ | ⟨g, cap, cur, hv, hb, hh, hnc, _, hcs, htk⟩
  · subst h0
    simp [intCells] at hl
    subst hl
    simp at hn
  · injection hv with hA _ hc
    subst hA
    have hblk : Blk w g 3 cur := hh
    refine ⟨g, 0, rfl, hb, hblk.lt, fun i z hz => ⟨?_, hblk.frozen _⟩⟩
    have hi : i < zs.length := (List.getElem?_eq_some_iff.1 hz).1
    have hln : zs.length = n := by simpa [intCells] using hl
    rw [hblk.cell, Nat.zero_add]
    have : (cur.toList.take (n * 1))[i]? = some (.int .i64 z) := by rw [htk]; simp [intCells, hz]
    rw [List.getElem?_take_of_lt (by omega)] at this
    simpa using this
end Go.Proofs.Ytbmihbbpdmpmpaa
