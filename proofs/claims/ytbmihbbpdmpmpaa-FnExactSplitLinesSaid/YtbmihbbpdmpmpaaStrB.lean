/- Slices of strings: how they read. -/
import Derived.Test.YtbmihbbpdmpmpaaEdge
import Derived.Test.YtbmihbbpdmpmpaaToEdge
import Derived.RegionTactic
import Derived.ChangeAlike
import Derived.Laws.Concat
namespace Go.Proofs.Ytbmihbbpdmpmpaa
open Go.RowKit

/-- a slice of strings reads as a list, its cells below block B -/
def StrS (w : World) (B : Nat) (A : Option Addr) (xs : List ByteArray) : Prop :=
  0 < xs.length → ∃ b off : Nat, A = some ⟨b, off, none⟩ ∧ b < B ∧ ∀ (i : Nat) (x : ByteArray), xs[i]? = some x → w.cell? ⟨b, off + i, none⟩ = some (.string x)
theorem StrS.keep {w w' : World} {B B' : Nat} {A : Option Addr} {xs : List ByteArray} (h : StrS w B A xs) (hk : ∀ p : Addr, p.block < B → w'.cell? p = w.cell? p) (hB : B ≤ B') : StrS w' B' A xs :=
  fun hn => by
    obtain ⟨b, off, e, hb, hc⟩ := h hn
    exact ⟨b, off, e, by omega, fun i x hx => (hk _ hb).trans (hc i x hx)⟩
theorem StrS.below {w w' : World} {B : Nat} {A : Option Addr} {xs : List ByteArray} (h : StrS w B A xs) (hb : Below B w w') : StrS w' B A xs := h.keep (fun _ hp => hb.cell hp) (Nat.le_refl _)
theorem StrS.up_ {w w' : World} {A : Option Addr} {xs : List ByteArray} (h : StrS w w.heap.size A xs) (hb : Below w.heap.size w w') : StrS w' w'.heap.size A xs := h.keep (fun _ hp => hb.cell hp) hb.size
theorem StrS.at_ {w : World} {B : Nat} {A : Option Addr} {xs : List ByteArray} (h : StrS w B A xs) {k : Nat} (hk : k < xs.length) :
    ∃ (b off : Nat) (x : ByteArray), A = some ⟨b, off, none⟩ ∧ b < B ∧ xs[k]? = some x ∧ w.cell? ⟨b, off + k, none⟩ = some (.string x) := by
  obtain ⟨b, off, e, hb, hc⟩ := h (by omega)
  exact ⟨b, off, xs[k], e, hb, List.getElem?_eq_getElem hk, hc k _ (List.getElem?_eq_getElem hk)⟩

theorem same_bytes {a b : ByteArray} (h : (!a.toList == b.toList) = false) : a = b := by
  have e : a.toList = b.toList := by simpa using h
  rw [ByteArray.toList_eq, ByteArray.toList_eq] at e
  exact WideShapes.bytes_inj e
def sizes : List ByteArray → Nat
  | [] => 0
  | x :: l => x.size + sizes l
theorem sizes_append : ∀ a b : List ByteArray, sizes (a ++ b) = sizes a + sizes b
  | [], b => by simp [sizes]
  | x :: l, b => by simp [sizes, sizes_append l b]; omega
theorem sizes_snoc {xs : List ByteArray} {k : Nat} {x : ByteArray} (h : xs[k]? = some x) : sizes (xs.take (k + 1)) = sizes (xs.take k) + x.size := by
  rw [List.take_add_one, h, sizes_append]
  simp [sizes]
theorem sizes_take_le (xs : List ByteArray) (k : Nat) : sizes (xs.take k) ≤ sizes xs := by
  conv => rhs; rw [← List.take_append_drop k xs, sizes_append]
  omega

theorem strInfo : (Try.prog.info? 9).map (fun i => (i.zero, i.size, i.bytes)) = some (some (.string ⟨#[]⟩), 1, 16) := by kernel_rfl
def strCells (xs : List ByteArray) : List Value := xs.map Value.string
theorem made_strs (n : Nat) : madeCells (Value.string ⟨#[]⟩).cells (n * 1) = (strCells (List.replicate n ⟨#[]⟩)).toArray := by
  apply Array.ext
  · simp [madeCells, strCells]
  · intro i h1 h2
    simp only [madeCells, strCells, Array.getElem_map, Array.getElem_range, List.getElem_toArray, List.getElem_map, List.getElem_replicate]
    show (#[Value.string ⟨#[]⟩] : Array Value)[i % 1]! = _
    rw [Nat.mod_one]
    rfl
theorem make_strs (n : Nat) (hn : n ≤ 1048576) (w : World) : (Instr.makeSlice 49 (.int .i64 (n : Int)) (.int .i64 (n : Int))).run Try.prog w =
    .ok (.slice (some ⟨w.heap.size, 0, none⟩) n n) (w.alloc (.cells (strCells (List.replicate n ⟨#[]⟩)).toArray 9)) := by
  obtain ⟨i0, hi, hz0, hz1, hz2⟩ := info_parts strInfo
  have hr := run_make (P := Try.prog) w 49 9 i0 _ Try.underlying49 hi hz0 .i64 .i64 n n (by omega) (by omega) (by rw [hz2]; omega) (by omega)
  rw [hz1] at hr
  simp only [Int.toNat_natCast] at hr
  rw [made_strs] at hr
  exact hr
def partS (xs : List ByteArray) (k : Nat) : List ByteArray := xs.take k ++ List.replicate (xs.length - k) ⟨#[]⟩
theorem partS_all (xs : List ByteArray) : partS xs xs.length = xs := by simp [partS]
theorem partS_at (xs : List ByteArray) (k : Nat) (h : k < xs.length) : (partS xs k)[k]? = some ⟨#[]⟩ := by
  unfold partS
  have hl : (xs.take k).length = k := by simp; omega
  rw [List.getElem?_append_right (by omega), hl, Nat.sub_self]
  have : xs.length - k = (xs.length - (k + 1)) + 1 := by omega
  rw [this, List.replicate_succ]
  rfl
theorem partS_set (xs : List ByteArray) (k : Nat) (e : ByteArray) (h : xs[k]? = some e) : (partS xs k).set k e = partS xs (k + 1) := by
  have hk : k < xs.length := (List.getElem?_eq_some_iff.1 h).1
  unfold partS
  rw [List.take_add_one, h, List.set_append_right _ _ (by simp; omega)]
  have : xs.length - k = (xs.length - (k + 1)) + 1 := by omega
  rw [this, List.replicate_succ]
  simp [Nat.min_eq_left (Nat.le_of_lt hk)]
theorem StrS.of_blk {w : World} {g B : Nat} {t : TypeId} {xs : List ByteArray} (h : Blk w g t (strCells xs).toArray) (hg : g < B) : StrS w B (some ⟨g, 0, none⟩) xs := fun _ =>
  ⟨g, 0, rfl, hg, fun i x hx => by
    rw [h.cell]
    simp [strCells, hx]⟩
theorem blk_partS {w : World} {g : Nat} {t : TypeId} {xs : List ByteArray} {k : Nat} {e : ByteArray} (h : Blk w g t (strCells (partS xs k)).toArray) (he : xs[k]? = some e) :
    Blk (w.setCell ⟨g, k, none⟩ (.string e)) g t (strCells (partS xs (k + 1))).toArray := by
  have h2 := h.set_ k (.string e)
  rw [List.setIfInBounds_toArray] at h2
  have : (strCells (partS xs k)).set k (.string e) = strCells (partS xs (k + 1)) := by
    rw [← partS_set _ _ _ he]
    simp [strCells, List.map_set]
  rw [this] at h2
  exact h2
def MadeStrs (w : World) (xs : List ByteArray) (e : Ending) (w' : World) : Prop :=
  e = .returned (.slice (some ⟨w.heap.size, 0, none⟩) xs.length xs.length) ∧ Blk w' w.heap.size 9 (strCells xs).toArray ∧ Below w.heap.size w w'
end Go.Proofs.Ytbmihbbpdmpmpaa
