/- Slices of slices of ints: what the laws' helpers do with them: sizes, copies, comparisons. -/
import Derived.Test.YtbmihbbpdmpmpaaInts
import Derived.Deep.RegionHeld3
namespace Go.Proofs.Ytbmihbbpdmpmpaa
open Go.RowKit

/-- a slice of slices of ints reads as rows, its cells and theirs below block B -/
def IntSS (w : World) (B : Nat) (A : Option Addr) (rs : List (List Int)) : Prop :=
  0 < rs.length → ∃ b off : Nat, A = some ⟨b, off, none⟩ ∧ b < B ∧ ∀ (i : Nat) (r : List Int), rs[i]? = some r → ∃ (Ai : Option Addr) (ci : Nat), w.cell? ⟨b, off + i, none⟩ = some (.slice Ai r.length ci) ∧ IntS w B Ai r
theorem IntSS.keep {w w' : World} {B B' : Nat} {A : Option Addr} {rs : List (List Int)} (h : IntSS w B A rs) (hk : ∀ p : Addr, p.block < B → w'.cell? p = w.cell? p) (hB : B ≤ B') : IntSS w' B' A rs :=
  fun hn => by
    obtain ⟨b, off, e, hb, hc⟩ := h hn
    refine ⟨b, off, e, by omega, fun i r hr => ?_⟩
    obtain ⟨Ai, ci, h1, h2⟩ := hc i r hr
    exact ⟨Ai, ci, (hk _ hb).trans h1, h2.keep hk hB⟩
theorem IntSS.below {w w' : World} {B : Nat} {A : Option Addr} {rs : List (List Int)} (h : IntSS w B A rs) (hb : Below B w w') : IntSS w' B A rs := h.keep (fun _ hp => hb.cell hp) (Nat.le_refl _)
theorem IntSS.up_ {w w' : World} {A : Option Addr} {rs : List (List Int)} (h : IntSS w w.heap.size A rs) (hb : Below w.heap.size w w') : IntSS w' w'.heap.size A rs := h.keep (fun _ hp => hb.cell hp) hb.size
theorem IntSS.at_ {w : World} {B : Nat} {A : Option Addr} {rs : List (List Int)} (h : IntSS w B A rs) {k : Nat} (hk : k < rs.length) :
    ∃ (b off : Nat) (r : List Int) (Ai : Option Addr) (ci : Nat), A = some ⟨b, off, none⟩ ∧ b < B ∧ rs[k]? = some r ∧ w.cell? ⟨b, off + k, none⟩ = some (.slice Ai r.length ci) ∧ IntS w B Ai r := by
  obtain ⟨b, off, e, hb, hc⟩ := h (by omega)
  obtain ⟨Ai, ci, h1, h2⟩ := hc k rs[k] (List.getElem?_eq_getElem hk)
  exact ⟨b, off, rs[k], Ai, ci, e, hb, List.getElem?_eq_getElem hk, h1, h2⟩

def lens : List (List Int) → Nat
  | [] => 0
  | r :: l => r.length + lens l
theorem lens_append : ∀ a b : List (List Int), lens (a ++ b) = lens a + lens b
  | [], b => by simp [lens]
  | x :: l, b => by simp [lens, lens_append l b]; omega
theorem lens_snoc {rs : List (List Int)} {k : Nat} {r : List Int} (h : rs[k]? = some r) : lens (rs.take (k + 1)) = lens (rs.take k) + r.length := by
  rw [List.take_add_one, h, lens_append]
  simp [lens]
theorem lens_take_le (rs : List (List Int)) (k : Nat) : lens (rs.take k) ≤ lens rs := by
  conv => rhs; rw [← List.take_append_drop k rs, lens_append]
  omega
theorem len_le_lens {rs : List (List Int)} {k : Nat} {r : List Int} (h : rs[k]? = some r) : r.length ≤ lens rs := by
  have h1 := lens_snoc h
  have h2 := lens_take_le rs (k + 1)
  omega

set_option maxHeartbeats 400000 in
theorem szIntS_any (A : Option Addr) (n c : Nat) (left : Int) (w : World) (hn : n ≤ 9223372036854775807) (h0 : 0 ≤ left) (h1 : left ≤ 1048576) :
    Calls Try.prog 68 #[.slice A n c, .int .i64 left] w fun e w' => e = .returned (.int .i64 (if left < n then -1 else left - n)) ∧ w = w' := by
  by_cases h : left < n
  · rw [if_pos h]
    go_enter Try.func68, Try.ntmps68
    go_wp2
    go_ret
    exact ⟨rfl, rfl⟩
  · rw [if_neg h]
    go_enter Try.func68, Try.ntmps68
    go_wp2
    go_ret
    exact ⟨rfl, rfl⟩
theorem szIntS_big (A : Option Addr) (n c : Nat) (left : Int) (w : World) (hn : n ≤ 9223372036854775807) (h0 : 0 ≤ left) (h1 : left ≤ 1048576) (h : left < n) :
    Calls Try.prog 68 #[.slice A n c, .int .i64 left] w fun e w' => e = .returned (.int .i64 (-1)) ∧ w = w' := by
  have := szIntS_any A n c left w hn h0 h1
  rwa [if_pos h] at this
theorem szIntS_ok (A : Option Addr) (n c : Nat) (left : Int) (w : World) (h1 : left ≤ 1048576) (h : (n : Int) ≤ left) :
    Calls Try.prog 68 #[.slice A n c, .int .i64 left] w fun e w' => e = .returned (.int .i64 (left - n)) ∧ w = w' := by
  have := szIntS_any A n c left w (by omega) (by omega) h1
  rwa [if_neg (by omega)] at this

set_option maxHeartbeats 400000 in
theorem szIntSS_ok (A : Option Addr) (c : Nat) (rs : List (List Int)) (left : Int) (w : World) (h1 : left ≤ 1048576) (h : (rs.length : Int) + lens rs ≤ left) (hS : IntSS w w.heap.size A rs) :
    Calls Try.prog 27 #[.slice A rs.length c, .int .i64 left] w fun e w' => e = .returned (.int .i64 (left - rs.length - lens rs)) ∧ w = w' := by
  have HS := Lib.hid hS
  clear hS
  have hl1 : (rs.length : Int) ≤ left := by omega
  go_enter Try.func27, Try.ntmps27
  go_wp2
  go_loopw [1, 5] (fun l i wr => ∃ k : Nat, k ≤ rs.length ∧ i = .int .i64 k ∧ l = .int .i64 (left - rs.length - (lens (rs.take k) : Int)) ∧ w = wr) (fun _ i _ => rs.length - (intOf i).toNat)
  case atStart => exact ⟨0, Nat.zero_le _, rfl, by simp [lens], rfl⟩
  case round =>
    obtain ⟨k, hk, rfl, rfl, rfl⟩ := hrel
    have hle := lens_take_le rs k
    by_cases hlt : k < rs.length
    · obtain ⟨b1, o1, r, Ai, ci, rfl, hb1, he, hc0, hri⟩ := HS.out.at_ hlt
      have hi0 : (0 : Int) ≤ (k : Int) := Int.natCast_nonneg _
      have hi1 : (k : Int) < (rs.length : Int) := by omega
      have hs1 := lens_snoc he
      have hle2 := lens_take_le rs (k + 1)
      have hnn : (r.length : Int) ≤ left - rs.length - (lens (rs.take k) : Int) := by rw [hs1] at hle2; omega
      have H1 := Lib.hid hs1
      clear hs1 he hle2 hri
      go_wp2_with (go_at_call 68; refine (szIntS_ok _ _ _ _ _ (by omega) hnn).mono ?_; rintro e w' ⟨rfl, rfl⟩)
      exact ⟨⟨k + 1, by omega, by go_num, by rw [H1.out]; congr 1; omega, trivial⟩, by simp [intOf]; omega⟩
    · have HA := Lib.hid (show lens (rs.take k) = lens rs by rw [List.take_of_length_le (by omega)])
      go_wp2
      go_ret
      exact ⟨ret_intE (by rw [HA.out]), rfl⟩
set_option maxHeartbeats 400000 in
theorem szIntSS_big (A : Option Addr) (c : Nat) (rs : List (List Int)) (left : Int) (w : World) (hx : ∀ r ∈ rs, r.length ≤ 9223372036854775807) (hn : rs.length ≤ 9223372036854775807) (h0 : 0 ≤ left) (h1 : left ≤ 1048576) (h : left < (rs.length : Int) + lens rs) (hS : IntSS w w.heap.size A rs) :
    Calls Try.prog 27 #[.slice A rs.length c, .int .i64 left] w fun e w' => e = .returned (.int .i64 (-1)) ∧ w = w' := by
  have HS := Lib.hid hS
  have HXX := Lib.hid hx
  clear hS hx
  by_cases hl1 : left < (rs.length : Int)
  · go_enter Try.func27, Try.ntmps27
    go_wp2
    go_ret
    exact ⟨rfl, rfl⟩
  have hl2 : (rs.length : Int) ≤ left := by omega
  clear hl1
  go_enter Try.func27, Try.ntmps27
  go_wp2
  go_loopw [1, 5] (fun l i wr => ∃ k : Nat, k ≤ rs.length ∧ i = .int .i64 k ∧ l = .int .i64 (left - rs.length - (lens (rs.take k) : Int)) ∧ 0 ≤ left - rs.length - (lens (rs.take k) : Int) ∧ w = wr) (fun _ i _ => rs.length - (intOf i).toNat)
  case atStart => exact ⟨0, Nat.zero_le _, rfl, by simp [lens], by simp [lens]; omega, rfl⟩
  case round =>
    obtain ⟨k, hk, rfl, rfl, hpos, rfl⟩ := hrel
    by_cases hlt : k < rs.length
    · obtain ⟨b1, o1, r, Ai, ci, rfl, hb1, he, hc0, hri⟩ := HS.out.at_ hlt
      have hi0 : (0 : Int) ≤ (k : Int) := Int.natCast_nonneg _
      have hi1 : (k : Int) < (rs.length : Int) := by omega
      have hrl : r.length ≤ 9223372036854775807 := HXX.out r (List.mem_of_getElem? he)
      have H1 := Lib.hid (lens_snoc he)
      clear he hri
      by_cases hneg : left - rs.length - (lens (rs.take k) : Int) < (r.length : Int)
      · go_wp2_with (go_at_call 68; refine (szIntS_big _ _ _ _ _ hrl hpos (by omega) hneg).mono ?_; rintro e w' ⟨rfl, rfl⟩)
        go_ret
        exact ⟨rfl, rfl⟩
      · have hneg2 : (r.length : Int) ≤ left - rs.length - (lens (rs.take k) : Int) := by omega
        clear hneg
        go_wp2_with (go_at_call 68; refine (szIntS_ok _ _ _ _ _ (by omega) hneg2).mono ?_; rintro e w' ⟨rfl, rfl⟩)
        exact ⟨⟨k + 1, by omega, by go_num, by rw [H1.out]; congr 1; omega, by rw [H1.out]; omega, trivial⟩, by simp [intOf]; omega⟩
    · exfalso
      rw [List.take_of_length_le (by omega)] at hpos
      omega

theorem intsInfo : (Try.prog.info? 43).map (fun i => (i.zero, i.size, i.bytes)) = some (some (.slice none 0 0), 1, 24) := by kernel_rfl
theorem made_rows (n : Nat) : madeCells (Value.slice none 0 0).cells (n * 1) = (List.replicate n (Value.slice none 0 0)).toArray := by
  apply Array.ext
  · simp [madeCells]
  · intro i h1 h2
    simp only [madeCells, Array.getElem_map, Array.getElem_range, List.getElem_toArray, List.getElem_replicate]
    show (#[Value.slice none 0 0] : Array Value)[i % 1]! = _
    rw [Nat.mod_one]
    rfl
theorem make_rows (n : Nat) (hn : n ≤ 1048576) (w : World) : (Instr.makeSlice 26 (.int .i64 (n : Int)) (.int .i64 (n : Int))).run Try.prog w =
    .ok (.slice (some ⟨w.heap.size, 0, none⟩) n n) (w.alloc (.cells (List.replicate n (Value.slice none 0 0)).toArray 43)) := by
  obtain ⟨i0, hi, hz0, hz1, hz2⟩ := info_parts intsInfo
  have hr := run_make (P := Try.prog) w 26 43 i0 _ Try.underlying26 hi hz0 .i64 .i64 n n (by omega) (by omega) (by rw [hz2]; omega) (by omega)
  rw [hz1] at hr
  simp only [Int.toNat_natCast] at hr
  rw [made_rows] at hr
  exact hr
/-- the first k rows copied, each into a block of its own behind block g and ahead of block hi, one behind the other -/
def RowsTo (w : World) (g hi : Nat) (rs : List (List Int)) (k : Nat) : Prop :=
  ∃ (vals : List Value) (G : Nat → Nat), Blk w g 43 (vals ++ List.replicate (rs.length - k) (Value.slice none 0 0)).toArray ∧ vals.length = k ∧
    (∀ (i : Nat) (r : List Int), i < k → rs[i]? = some r → vals[i]? = some (.slice (some ⟨G i, 0, none⟩) r.length r.length) ∧ g < G i ∧ G i < hi ∧ Blk w (G i) 3 (intCells r).toArray) ∧
    ∀ i j, i < j → j < k → G i < G j
theorem RowsTo.below {w w' : World} {g hi k : Nat} {rs : List (List Int)} (h : RowsTo w g hi rs k) (hb : Below w.heap.size w w') : RowsTo w' g hi rs k := by
  obtain ⟨vals, G, h1, h2, h3, h4⟩ := h
  refine ⟨vals, G, h1.below hb h1.lt, h2, fun i r hi hr => ?_, h4⟩
  obtain ⟨q1, q2, q3, q4⟩ := h3 i r hi hr
  exact ⟨q1, q2, q3, q4.below hb q4.lt⟩
theorem RowsTo.more {w : World} {g hi hi' k : Nat} {rs : List (List Int)} (h : RowsTo w g hi rs k) (hh : hi ≤ hi') : RowsTo w g hi' rs k := by
  obtain ⟨vals, G, h1, h2, h3, h4⟩ := h
  refine ⟨vals, G, h1, h2, fun i r hi hr => ?_, h4⟩
  obtain ⟨q1, q2, q3, q4⟩ := h3 i r hi hr
  exact ⟨q1, q2, by omega, q4⟩
theorem RowsTo.put {w : World} {g k gk : Nat} {rs : List (List Int)} {r : List Int} (h : RowsTo w g gk rs k) (hr : rs[k]? = some r) (hg : g < gk) (hb : Blk w gk 3 (intCells r).toArray) :
    RowsTo (w.setCell ⟨g, k, none⟩ (.slice (some ⟨gk, 0, none⟩) r.length r.length)) g (gk + 1) rs (k + 1) := by
  obtain ⟨vals, G, h1, h2, h3, h5⟩ := h
  have hk : k < rs.length := (List.getElem?_eq_some_iff.1 hr).1
  refine ⟨vals ++ [.slice (some ⟨gk, 0, none⟩) r.length r.length], fun i => if i = k then gk else G i, ?_, by simp [h2], fun i r2 hi hr2 => ?_, fun i j hij hj => ?_⟩
  · have h4 := h1.set_ k (.slice (some ⟨gk, 0, none⟩) r.length r.length)
    rw [List.setIfInBounds_toArray] at h4
    have e1 : rs.length - k = (rs.length - (k + 1)) + 1 := by omega
    rw [e1, List.replicate_succ, List.set_append_right _ _ (by omega), h2, Nat.sub_self] at h4
    simpa using h4
  · by_cases e : i = k
    · subst e
      rw [hr] at hr2
      injection hr2 with hr2
      subst hr2
      dsimp only
      rw [if_pos rfl]
      exact ⟨by rw [List.getElem?_append_right (by omega), h2]; simp, hg, by omega, hb.far (by simp; omega) _⟩
    · obtain ⟨q1, q2, q3, q4⟩ := h3 i r2 (by omega) hr2
      dsimp only
      rw [if_neg e]
      exact ⟨by rw [List.getElem?_append_left (by omega)]; exact q1, q2, by omega, q4.far (by simp; omega) _⟩
  · have hir : rs[i]? = some (rs[i]'(by omega)) := List.getElem?_eq_getElem (by omega)
    obtain ⟨_, _, q3, _⟩ := h3 i _ (by omega) hir
    dsimp only
    rw [if_neg (by omega)]
    by_cases e : j = k
    · rw [if_pos e]
      exact q3
    · rw [if_neg e]
      exact h5 i j hij (by omega)
theorem RowsTo.cell {w : World} {g hi k : Nat} {rs : List (List Int)} (h : RowsTo w g hi rs k) (hk : k < rs.length) : w.cell? ⟨g, k, none⟩ = some (.slice none 0 0) ∧ w.frozen? ⟨g, k, none⟩ = false := by
  obtain ⟨vals, G, h1, h2, h3, _⟩ := h
  refine ⟨?_, h1.frozen _⟩
  rw [h1.cell]
  have e1 : rs.length - k = (rs.length - (k + 1)) + 1 := by omega
  rw [List.getElem?_toArray, List.getElem?_append_right (by omega), h2, Nat.sub_self, e1, List.replicate_succ]
  rfl
def MadeRows (w : World) (rs : List (List Int)) (e : Ending) (w' : World) : Prop :=
  e = .returned (.slice (some ⟨w.heap.size, 0, none⟩) rs.length rs.length) ∧ RowsTo w' w.heap.size w'.heap.size rs rs.length ∧ Below w.heap.size w w'
theorem RowsTo.rows {w : World} {g hi : Nat} {rs : List (List Int)} (h : RowsTo w g hi rs rs.length) : IntSS w w.heap.size (some ⟨g, 0, none⟩) rs := fun _ => by
  obtain ⟨vals, G, h1, h2, h3, _⟩ := h
  refine ⟨g, 0, rfl, h1.lt, fun i r hr => ?_⟩
  have hi : i < rs.length := (List.getElem?_eq_some_iff.1 hr).1
  obtain ⟨q1, q2, _, q3⟩ := h3 i r hi hr
  refine ⟨_, r.length, ?_, IntS.of_blk q3 q3.lt⟩
  rw [h1.cell, List.getElem?_toArray, Nat.zero_add, List.getElem?_append_left (by omega)]
  exact q1

set_option maxHeartbeats 400000 in
theorem toIntSS_any (A : Option Addr) (c : Nat) (rs : List (List Int)) (w : World) (hn : rs.length ≤ 1048576) (hl : ∀ r ∈ rs, r.length ≤ 1048576) (hS : IntSS w w.heap.size A rs) :
    Calls Try.prog 29 #[.slice A rs.length c] w (MadeRows w rs) := by
  have hmk := make_rows rs.length hn
  have HS := Lib.hid hS
  have HL := Lib.hid hl
  clear hS hl
  go_enter Try.func29, Try.ntmps29
  go_wp2
  go_loopw [4] (fun i wr => ∃ k : Nat, k ≤ rs.length ∧ i = .int .i64 k ∧ RowsTo wr w.heap.size wr.heap.size rs k ∧ w.heap.size < wr.heap.size ∧ Below w.heap.size w wr) (fun i _ => rs.length - (intOf i).toNat)
  case atStart => exact ⟨0, Nat.zero_le _, rfl, ⟨[], fun _ => 0, Blk.new w _ _, rfl, fun i r hi _ => absurd hi (by omega), fun i j _ hj => absurd hj (by omega)⟩, by simp, (Below.refl _ _).alloc (Nat.le_refl _) _⟩
  case round =>
    obtain ⟨k, hk, rfl, hrow, hlt0, hb⟩ := hrel
    have HR := Lib.hid hrow
    clear hrow hmk
    by_cases hlt : k < rs.length
    · obtain ⟨b1, o1, r, Ai, ci, rfl, hb1, he, hc0, hri⟩ := (HS.out.below hb).at_ hlt
      have hi0 : (0 : Int) ≤ (k : Int) := Int.natCast_nonneg _
      have hi1 : (k : Int) < (rs.length : Int) := by omega
      have hrl : r.length ≤ 1048576 := HL.out r (List.mem_of_getElem? he)
      have HX := Lib.hid he
      have HRI := Lib.hid (hri.keep (w' := wr) (B' := wr.heap.size) (fun _ _ => rfl) hb.size)
      clear he hri
      go_wp2_with fail
      refine (toIntS_any _ _ _ _ hrl HRI.out).mono ?_
      rintro e2 w2 ⟨rfl, hk2, hb3⟩
      have HR2 := Lib.hid (HR.out.below hb3)
      have HK2 := Lib.hid hk2
      obtain ⟨hcl0, hf0⟩ := HR2.out.cell hlt
      have hs2 := hb3.size
      clear hk2
      go_wp2
      exact ⟨⟨k + 1, by omega, by go_num, (HR2.out.put HX.out hlt0 HK2.out).more (by simp only [World.setCell, Array.size_modify]; exact HK2.out.lt), by simp [World.setCell]; omega, (hb.trans (hb3.mono hb.size)).setCell (Nat.le_refl _) _⟩, by simp [intOf]; omega⟩
    · have HR2 := HR.out
      rw [show k = rs.length by omega] at HR2
      have HR3 := Lib.hid HR2
      clear HR2
      go_wp2
      go_ret
      exact ⟨rfl, HR3.out, hb⟩

set_option maxHeartbeats 1000000 in
theorem eqIntSS_any (A C : Option Addr) (ca cc : Nat) (es fs : List (List Int)) (w : World) (hn : es.length ≤ 9223372036854775807) (hm : fs.length ≤ 9223372036854775807) (hx : ∀ r ∈ es, r.length ≤ 9223372036854775807) (hy : ∀ r ∈ fs, r.length ≤ 9223372036854775807)
    (h1 : IntSS w w.heap.size A es) (h2 : IntSS w w.heap.size C fs) :
    Calls Try.prog 15 #[.slice A es.length ca, .slice C fs.length cc] w fun e w' => e = .returned (.bool (decide (es = fs))) ∧ Below w.heap.size w w' := by
  by_cases hl : es.length = fs.length
  · have H1 := Lib.hid h1
    have H2 := Lib.hid h2
    have HX := Lib.hid hx
    have HY := Lib.hid hy
    clear h1 h2 hx hy
    have hl2 : ((es.length : Int) != (fs.length : Int)) = false := by simp [hl]
    have hl3 : es.length ≤ fs.length := by omega
    have hl4 : fs.length ≤ es.length := by omega
    clear hl
    go_enter Try.func15, Try.ntmps15
    go_wp2
    go_loopw [5] (fun i wr => ∃ k : Nat, k ≤ es.length ∧ i = .int .i64 k ∧ es.take k = fs.take k ∧ Below w.heap.size w wr) (fun i _ => es.length - (intOf i).toNat)
    case atStart => exact ⟨0, Nat.zero_le _, rfl, rfl, Below.refl _ _⟩
    case round =>
      obtain ⟨k, hk, rfl, ht, hb⟩ := hrel
      have HT := Lib.hid ht
      clear ht
      by_cases hlt : k < es.length
      · obtain ⟨b1, o1, r, A1, c1, rfl, hb1, he, hc0, hr1⟩ := (H1.out.below hb).at_ hlt
        obtain ⟨b2, o2, s, A2, c2, rfl, hb2, hf, hd0, hs1⟩ := (H2.out.below hb).at_ (k := k) (by omega)
        have hrl := HX.out r (List.mem_of_getElem? he)
        have hsl := HY.out s (List.mem_of_getElem? hf)
        have HE := Lib.hid he
        have HF := Lib.hid hf
        have HR1 := Lib.hid (hr1.keep (w' := wr.drew) (B' := wr.drew.heap.size) (fun _ _ => rfl) hb.size)
        have HS1 := Lib.hid (hs1.keep (w' := wr.drew) (B' := wr.drew.heap.size) (fun _ _ => rfl) hb.size)
        clear he hf hr1 hs1
        have hi0 : (0 : Int) ≤ (k : Int) := Int.natCast_nonneg _
        have hi1 : (k : Int) < (es.length : Int) := by omega
        have hi2 : (k : Int) < (fs.length : Int) := by omega
        go_wp2
        go_region_held3 (fun w' => w'.cell? ⟨b1, o1 + k, none⟩ = some (.slice A1 r.length c1) ∧ w'.cell? ⟨b2, o2 + k, none⟩ = some (.slice A2 s.length c2) ∧ w'.cell? ⟨b1, o1 + k, none⟩ = some (.slice A1 r.length c1) ∧ w'.cell? ⟨b2, o2 + k, none⟩ = some (.slice A2 s.length c2) ∧ Below w.heap.size w w')
          (first
            | exact ⟨hc0, hd0, hc0, hd0, hb.drew⟩
            | exact keep4 (by assumption) hb3 hb1 hb2 hb1 hb2)
          (first | (go_at_call 31; refine (eqIntS_any _ _ _ _ _ _ _ hrl hsl HR1.out HS1.out).mono ?_; rintro e2 w2 ⟨rfl, hb3⟩))
        go_wp2
        · have hE : r ≠ s := by
            intro h
            have : (!decide (r = s)) = true := by assumption
            simp [h] at this
          have HQ := Lib.hid (take_differ HE.out HF.out hE)
          go_ret
          exact ⟨ret_boolE HQ.out.symm, hb.drew.trans (hb3.mono hb.size)⟩
        · have hE : r = s := by
            have : (!decide (r = s)) = false := by assumption
            simpa using this
          exact ⟨⟨k + 1, by omega, by go_num, take_same HT.out HE.out (by rw [hE]; exact HF.out), hb.drew.trans (hb3.mono hb.size)⟩, by simp [intOf]; omega⟩
      · have HA := Lib.hid (take_all_same HT.out (by omega) (by omega))
        go_wp2
        go_ret
        exact ⟨ret_boolE HA.out.symm, hb⟩
  · have hl2 : ((es.length : Int) != (fs.length : Int)) = true := by simp; omega
    have HD := Lib.hid (show decide (es = fs) = false by rw [decide_eq_false_iff_not]; rintro rfl; exact hl rfl)
    clear hl
    go_enter Try.func15, Try.ntmps15
    go_wp2
    go_ret
    exact ⟨ret_boolE HD.out.symm, Below.refl _ _⟩

/-- nothing but the blocks behind lo and ahead of hi has turned, and no block has come -/
structure Between (w w' : World) (lo hi : Nat) : Prop where
  os : w'.os = w.os
  tape : w'.tape = w.tape
  output : w'.output = w.output
  size : w'.heap.size = w.heap.size
  block : ∀ i, i < w.heap.size → (i ≤ lo ∨ hi ≤ i) → w'.heap[i]? = w.heap[i]?
theorem Between.refl (w : World) (lo hi : Nat) : Between w w lo hi := ⟨rfl, rfl, rfl, rfl, fun _ _ _ => rfl⟩
theorem Between.trans {a b c : World} {lo hi : Nat} (h : Between a b lo hi) (k : Between b c lo hi) : Between a c lo hi :=
  ⟨k.os.trans h.os, k.tape.trans h.tape, k.output.trans h.output, k.size.trans h.size, fun i hi hne => (k.block i (by rw [h.size]; exact hi) hne).trans (h.block i hi hne)⟩
theorem Turned.between {w w' : World} {g off lo hi : Nat} (h : Turned w w' (some ⟨g, off, none⟩)) (h1 : lo < g) (h2 : g < hi) : Between w w' lo hi :=
  ⟨h.os, h.tape, h.output, h.size, fun i hi hne => h.block i hi fun o e => by
    injection e with e
    injection e with e
    omega⟩
theorem Between.below {w w' : World} {lo hi B : Nat} (h : Between w w' lo hi) (hB : B ≤ lo + 1) (hs : B ≤ w.heap.size) : Below B w w' :=
  ⟨h.os, h.tape, h.output, by rw [h.size]; exact Nat.le_refl _, fun i hi => h.block i (by omega) (.inl (by omega))⟩
theorem Blk.between {w w' : World} {g lo hi : Nat} {t : TypeId} {cs : Array Value} (h : Blk w g t cs) (hb : Between w w' lo hi) (hg : g ≤ lo ∨ hi ≤ g) : Blk w' g t cs := (hb.block g h.lt hg).trans h
theorem Blk.turned {w w' : World} {g g' off : Nat} {t : TypeId} {cs : Array Value} (h : Blk w g t cs) (hb : Turned w w' (some ⟨g', off, none⟩)) (hg : g ≠ g') : Blk w' g t cs :=
  (hb.block g h.lt fun o e => by
    injection e with e
    injection e with e
    exact hg e.symm).trans h
end Go.Proofs.Ytbmihbbpdmpmpaa
