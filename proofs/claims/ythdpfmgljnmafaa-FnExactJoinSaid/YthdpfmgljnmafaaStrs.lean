/- Slices of strings: what the laws' helpers do with them. -/
import Derived.Test.YthdpfmgljnmafaaEdge
import Derived.Test.YthdpfmgljnmafaaToEdge
import Derived.RegionTactic
import Derived.ChangeAlike
import Derived.Laws.Concat
namespace Go.Proofs.Ythdpfmgljnmafaa
open Go.RowKit

/-- a slice of strings reads as a list, its cells below block B -/
def StrS (w : World) (B : Nat) (A : Option Addr) (xs : List ByteArray) : Prop :=
  0 < xs.length → ∃ b off : Nat, A = some ⟨b, off, none⟩ ∧ b < B ∧ ∀ (i : Nat) (x : ByteArray), xs[i]? = some x → w.cell? ⟨b, off + i, none⟩ = some (.string x)
theorem StrS.keep {w w' : World} {B B' : Nat} {A : Option Addr} {xs : List ByteArray} (h : StrS w B A xs) (hk : ∀ p : Addr, p.block < B → w'.cell? p = w.cell? p) (hB : B ≤ B') : StrS w' B' A xs :=
  fun hn => by
    obtain ⟨b, off, e, hb, hc⟩ := h hn
    exact ⟨b, off, e, by omega, fun i x hx => (hk _ hb).trans (hc i x hx)⟩
theorem StrS.below {w w' : World} {B : Nat} {A : Option Addr} {xs : List ByteArray} (h : StrS w B A xs) (hb : Below B w w') : StrS w' B A xs := h.keep (fun _ hp => hb.cell hp) (Nat.le_refl _)
theorem StrS.up_ {w w' : World} {A : Option Addr} {xs : List ByteArray} (h : StrS w w.heap.size A xs) (hb : Below w.heap.size w w') : StrS w' w'.heap.size A xs := h.keep (fun _ hp => hb.cell hp) hb.size
theorem StrS.at_ {w : World} {B : Nat} {A : Option Addr} {xs : List ByteArray} (h : StrS w B A xs) {k : Nat} (hk : k < xs.length) :
    ∃ (b off : Nat) (x : ByteArray), A = some ⟨b, off, none⟩ ∧ b < B ∧ xs[k]? = some x ∧ w.cell? ⟨b, off + k, none⟩ = some (.string x) := by
  obtain ⟨b, off, e, hb, hc⟩ := h (by omega)
  exact ⟨b, off, xs[k], e, hb, List.getElem?_eq_getElem hk, hc k _ (List.getElem?_eq_getElem hk)⟩

theorem same_bytes {a b : ByteArray} (h : (!a.toList == b.toList) = false) : a = b := by
  have e : a.toList = b.toList := by simpa using h
  rw [ByteArray.toList_eq, ByteArray.toList_eq] at e
  exact WideShapes.bytes_inj e
def sizes : List ByteArray → Nat
  | [] => 0
  | x :: l => x.size + sizes l
theorem sizes_append : ∀ a b : List ByteArray, sizes (a ++ b) = sizes a + sizes b
  | [], b => by simp [sizes]
  | x :: l, b => by simp [sizes, sizes_append l b]; omega
theorem sizes_snoc {xs : List ByteArray} {k : Nat} {x : ByteArray} (h : xs[k]? = some x) : sizes (xs.take (k + 1)) = sizes (xs.take k) + x.size := by
  rw [List.take_add_one, h, sizes_append]
  simp [sizes]
theorem sizes_take_le (xs : List ByteArray) (k : Nat) : sizes (xs.take k) ≤ sizes xs := by
  conv => rhs; rw [← List.take_append_drop k xs, sizes_append]
  omega

set_option maxHeartbeats 400000 in
theorem szStringS_ok (A : Option Addr) (c : Nat) (xs : List ByteArray) (left : Int) (w : World) (h1 : left ≤ 1048576) (h : (xs.length : Int) + sizes xs ≤ left) (hS : StrS w w.heap.size A xs) :
    Calls Try.prog 28 #[.slice A xs.length c, .int .i64 left] w fun e w' => e = .returned (.int .i64 (left - xs.length - sizes xs)) ∧ w = w' := by
  have HS := Lib.hid hS
  clear hS
  have hl1 : (xs.length : Int) ≤ left := by omega
  go_enter Try.func28, Try.ntmps28
  go_wp2
  go_loop [1, 5] (fun l i => ∃ k : Nat, k ≤ xs.length ∧ i = .int .i64 k ∧ l = .int .i64 (left - xs.length - (sizes (xs.take k) : Int))) (fun _ i => xs.length - (intOf i).toNat)
  case atStart => exact ⟨0, Nat.zero_le _, rfl, by simp [sizes]⟩
  case round =>
    obtain ⟨k, hk, rfl, rfl⟩ := hrel
    have hle := sizes_take_le xs k
    by_cases hlt : k < xs.length
    · obtain ⟨b1, o1, x, rfl, hb1, he, hc0⟩ := HS.out.at_ hlt
      have hi0 : (0 : Int) ≤ (k : Int) := Int.natCast_nonneg _
      have hi1 : (k : Int) < (xs.length : Int) := by omega
      have hs1 := sizes_snoc he
      have hle2 := sizes_take_le xs (k + 1)
      have hnn : 0 ≤ left - xs.length - (sizes (xs.take k) : Int) - (x.size : Int) := by rw [hs1] at hle2; omega
      have hsm : (x.size : Int) ≤ 1048576 := by rw [hs1] at hle2; omega
      have H1 := Lib.hid hs1
      clear hs1 he hle2
      go_wp2
      exact ⟨⟨k + 1, by omega, by go_num, by rw [H1.out]; congr 1; omega⟩, by simp [intOf]; omega⟩
    · have HA := Lib.hid (show sizes (xs.take k) = sizes xs by rw [List.take_of_length_le (by omega)])
      go_wp2
      go_ret
      exact ⟨ret_intE (by rw [HA.out]), rfl⟩
set_option maxHeartbeats 400000 in
theorem szStringS_big (A : Option Addr) (c : Nat) (xs : List ByteArray) (left : Int) (w : World) (hx : ∀ x ∈ xs, x.size ≤ 9223372036854775807) (hn : xs.length ≤ 9223372036854775807) (h0 : 0 ≤ left) (h1 : left ≤ 1048576) (h : left < (xs.length : Int) + sizes xs) (hS : StrS w w.heap.size A xs) :
    Calls Try.prog 28 #[.slice A xs.length c, .int .i64 left] w fun e w' => e = .returned (.int .i64 (-1)) ∧ w = w' := by
  have HS := Lib.hid hS
  have HXX := Lib.hid hx
  clear hS hx
  by_cases hl1 : left < (xs.length : Int)
  · go_enter Try.func28, Try.ntmps28
    go_wp2
    go_ret
    exact ⟨rfl, rfl⟩
  have hl2 : (xs.length : Int) ≤ left := by omega
  clear hl1
  go_enter Try.func28, Try.ntmps28
  go_wp2
  go_loop [1, 5] (fun l i => ∃ k : Nat, k ≤ xs.length ∧ i = .int .i64 k ∧ l = .int .i64 (left - xs.length - (sizes (xs.take k) : Int)) ∧ 0 ≤ left - xs.length - (sizes (xs.take k) : Int)) (fun _ i => xs.length - (intOf i).toNat)
  case atStart => exact ⟨0, Nat.zero_le _, rfl, by simp [sizes], by simp [sizes]; omega⟩
  case round =>
    obtain ⟨k, hk, rfl, rfl, hpos⟩ := hrel
    by_cases hlt : k < xs.length
    · obtain ⟨b1, o1, x, rfl, hb1, he, hc0⟩ := HS.out.at_ hlt
      have hi0 : (0 : Int) ≤ (k : Int) := Int.natCast_nonneg _
      have hi1 : (k : Int) < (xs.length : Int) := by omega
      have hxs : (x.size : Int) ≤ 9223372036854775807 := by have := HXX.out x (List.mem_of_getElem? he); omega
      have H1 := Lib.hid (sizes_snoc he)
      clear he
      by_cases hneg : left - xs.length - (sizes (xs.take k) : Int) - (x.size : Int) < 0
      · go_wp2
        go_ret
        exact ⟨rfl, rfl⟩
      · have hneg2 : 0 ≤ left - xs.length - (sizes (xs.take k) : Int) - (x.size : Int) := by omega
        clear hneg
        go_wp2
        exact ⟨⟨k + 1, by omega, by go_num, by rw [H1.out]; congr 1; omega, by rw [H1.out]; omega⟩, by simp [intOf]; omega⟩
    · exfalso
      rw [List.take_of_length_le (by omega)] at hpos
      omega

theorem strInfo : (Try.prog.info? 9).map (fun i => (i.zero, i.size, i.bytes)) = some (some (.string ⟨#[]⟩), 1, 16) := by kernel_rfl
def strCells (xs : List ByteArray) : List Value := xs.map Value.string
theorem made_strs (n : Nat) : madeCells (Value.string ⟨#[]⟩).cells (n * 1) = (strCells (List.replicate n ⟨#[]⟩)).toArray := by
  apply Array.ext
  · simp [madeCells, strCells]
  · intro i h1 h2
    simp only [madeCells, strCells, Array.getElem_map, Array.getElem_range, List.getElem_toArray, List.getElem_map, List.getElem_replicate]
    show (#[Value.string ⟨#[]⟩] : Array Value)[i % 1]! = _
    rw [Nat.mod_one]
    rfl
theorem make_strs (n : Nat) (hn : n ≤ 1048576) (w : World) : (Instr.makeSlice 40 (.int .i64 (n : Int)) (.int .i64 (n : Int))).run Try.prog w =
    .ok (.slice (some ⟨w.heap.size, 0, none⟩) n n) (w.alloc (.cells (strCells (List.replicate n ⟨#[]⟩)).toArray 9)) := by
  obtain ⟨i0, hi, hz0, hz1, hz2⟩ := info_parts strInfo
  have hr := run_make (P := Try.prog) w 40 9 i0 _ Try.underlying40 hi hz0 .i64 .i64 n n (by omega) (by omega) (by rw [hz2]; omega) (by omega)
  rw [hz1] at hr
  simp only [Int.toNat_natCast] at hr
  rw [made_strs] at hr
  exact hr
def partS (xs : List ByteArray) (k : Nat) : List ByteArray := xs.take k ++ List.replicate (xs.length - k) ⟨#[]⟩
theorem partS_all (xs : List ByteArray) : partS xs xs.length = xs := by simp [partS]
theorem partS_at (xs : List ByteArray) (k : Nat) (h : k < xs.length) : (partS xs k)[k]? = some ⟨#[]⟩ := by
  unfold partS
  have hl : (xs.take k).length = k := by simp; omega
  rw [List.getElem?_append_right (by omega), hl, Nat.sub_self]
  have : xs.length - k = (xs.length - (k + 1)) + 1 := by omega
  rw [this, List.replicate_succ]
  rfl
theorem partS_set (xs : List ByteArray) (k : Nat) (e : ByteArray) (h : xs[k]? = some e) : (partS xs k).set k e = partS xs (k + 1) := by
  have hk : k < xs.length := (List.getElem?_eq_some_iff.1 h).1
  unfold partS
  rw [List.take_add_one, h, List.set_append_right _ _ (by simp; omega)]
  have : xs.length - k = (xs.length - (k + 1)) + 1 := by omega
  rw [this, List.replicate_succ]
  simp [Nat.min_eq_left (Nat.le_of_lt hk)]
theorem StrS.of_blk {w : World} {g B : Nat} {t : TypeId} {xs : List ByteArray} (h : Blk w g t (strCells xs).toArray) (hg : g < B) : StrS w B (some ⟨g, 0, none⟩) xs := fun _ =>
  ⟨g, 0, rfl, hg, fun i x hx => by
    rw [h.cell]
    simp [strCells, hx]⟩
theorem blk_partS {w : World} {g : Nat} {t : TypeId} {xs : List ByteArray} {k : Nat} {e : ByteArray} (h : Blk w g t (strCells (partS xs k)).toArray) (he : xs[k]? = some e) :
    Blk (w.setCell ⟨g, k, none⟩ (.string e)) g t (strCells (partS xs (k + 1))).toArray := by
  have h2 := h.set_ k (.string e)
  rw [List.setIfInBounds_toArray] at h2
  have : (strCells (partS xs k)).set k (.string e) = strCells (partS xs (k + 1)) := by
    rw [← partS_set _ _ _ he]
    simp [strCells, List.map_set]
  rw [this] at h2
  exact h2
def MadeStrs (w : World) (xs : List ByteArray) (e : Ending) (w' : World) : Prop :=
  e = .returned (.slice (some ⟨w.heap.size, 0, none⟩) xs.length xs.length) ∧ Blk w' w.heap.size 9 (strCells xs).toArray ∧ Below w.heap.size w w'
set_option maxHeartbeats 400000 in
theorem toStringS_any (A : Option Addr) (c : Nat) (xs : List ByteArray) (w : World) (hn : xs.length ≤ 1048576) (hS : StrS w w.heap.size A xs) :
    Calls Try.prog 30 #[.slice A xs.length c] w (MadeStrs w xs) := by
  have hmk := make_strs xs.length hn
  have HS := Lib.hid hS
  clear hS
  go_enter Try.func30, Try.ntmps30
  go_wp2
  go_loopw [4] (fun i wr => ∃ k : Nat, k ≤ xs.length ∧ i = .int .i64 k ∧ Blk wr w.heap.size 9 (strCells (partS xs k)).toArray ∧ Below w.heap.size w wr) (fun i _ => xs.length - (intOf i).toNat)
  case atStart => exact ⟨0, Nat.zero_le _, rfl, Blk.new w _ _, (Below.refl _ _).alloc (Nat.le_refl _) _⟩
  case round =>
    obtain ⟨k, hk, rfl, hblk, hb⟩ := hrel
    have HB := Lib.hid hblk
    clear hblk hmk
    by_cases hlt : k < xs.length
    · obtain ⟨b1, o1, x, rfl, hb1, he, hc0⟩ := (HS.out.below hb).at_ hlt
      have hi0 : (0 : Int) ≤ (k : Int) := Int.natCast_nonneg _
      have hi1 : (k : Int) < (xs.length : Int) := by omega
      have HX := Lib.hid he
      clear he
      have hf0 := HB.out.frozen k
      have hcl0 : wr.cell? ⟨w.heap.size, k, none⟩ = some (.string ⟨#[]⟩) := by rw [HB.out.cell]; simp [strCells, partS_at xs k hlt]
      go_wp2
      exact ⟨⟨k + 1, by omega, by go_num, blk_partS HB.out HX.out, hb.setCell (Nat.le_refl _) _⟩, by simp [intOf]; omega⟩
    · have HB2 := HB.out
      rw [show k = xs.length by omega, partS_all] at HB2
      have HB3 := Lib.hid HB2
      clear HB2
      go_wp2
      go_ret
      exact ⟨rfl, HB3.out, hb⟩

set_option maxHeartbeats 400000 in
theorem eqStringS_any (A C : Option Addr) (ca cc : Nat) (xs ys : List ByteArray) (w : World) (hn : xs.length ≤ 9223372036854775807) (hm : ys.length ≤ 9223372036854775807)
    (h1 : StrS w w.heap.size A xs) (h2 : StrS w w.heap.size C ys) :
    Calls Try.prog 23 #[.slice A xs.length ca, .slice C ys.length cc] w fun e w' => e = .returned (.bool (decide (xs = ys))) ∧ Below w.heap.size w w' := by
  by_cases hl : xs.length = ys.length
  · have H1 := Lib.hid h1
    have H2 := Lib.hid h2
    clear h1 h2
    have hl2 : ((xs.length : Int) != (ys.length : Int)) = false := by simp [hl]
    have hl3 : xs.length ≤ ys.length := by omega
    have hl4 : ys.length ≤ xs.length := by omega
    clear hl
    go_enter Try.func23, Try.ntmps23
    go_wp2
    go_loopw [5] (fun i wr => ∃ k : Nat, k ≤ xs.length ∧ i = .int .i64 k ∧ xs.take k = ys.take k ∧ Below w.heap.size w wr) (fun i _ => xs.length - (intOf i).toNat)
    case atStart => exact ⟨0, Nat.zero_le _, rfl, rfl, Below.refl _ _⟩
    case round =>
      obtain ⟨k, hk, rfl, ht, hb⟩ := hrel
      have HT := Lib.hid ht
      clear ht
      by_cases hlt : k < xs.length
      · obtain ⟨b1, o1, x, rfl, hb1, he, hc0⟩ := (H1.out.below hb).at_ hlt
        obtain ⟨b2, o2, y, rfl, hb2, hf, hd0⟩ := (H2.out.below hb).at_ (k := k) (by omega)
        have HE := Lib.hid he
        have HF := Lib.hid hf
        clear he hf
        have hi0 : (0 : Int) ≤ (k : Int) := Int.natCast_nonneg _
        have hi1 : (k : Int) < (xs.length : Int) := by omega
        have hi2 : (k : Int) < (ys.length : Int) := by omega
        go_wp2
        go_region
        go_wp2
        · have hE : (!x.toList == y.toList) = true := by assumption
          have HQ := Lib.hid (take_differ HE.out HF.out (fun h => by rw [h] at hE; simp at hE))
          go_ret
          exact ⟨ret_boolE HQ.out.symm, hb.drew⟩
        · have hE : (!x.toList == y.toList) = false := by assumption
          have hxy := same_bytes hE
          exact ⟨⟨k + 1, by omega, by go_num, take_same HT.out HE.out (by rw [hxy]; exact HF.out), hb.drew⟩, by simp [intOf]; omega⟩
      · have HA := Lib.hid (take_all_same HT.out (by omega) (by omega))
        go_wp2
        go_ret
        exact ⟨ret_boolE HA.out.symm, hb⟩
  · have hl2 : ((xs.length : Int) != (ys.length : Int)) = true := by simp; omega
    have HD := Lib.hid (show decide (xs = ys) = false by rw [decide_eq_false_iff_not]; rintro rfl; exact hl rfl)
    clear hl
    go_enter Try.func23, Try.ntmps23
    go_wp2
    go_ret
    exact ⟨ret_boolE HD.out.symm, Below.refl _ _⟩
end Go.Proofs.Ythdpfmgljnmafaa
