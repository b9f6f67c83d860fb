/- The laws' copies of a slice of edges and of a graph. -/
import Derived.Test.YtbmihbbpdmpmpaaEdge
import Derived.Laws.MakeOwn
import Derived.Laws.Entries
import Derived.Laws.OwnMore
import Derived.Laws.Rows
namespace Go.Proofs.Ytbmihbbpdmpmpaa
open Go.RowKit

def Blk (w : World) (g : Nat) (t : TypeId) (cs : Array Value) : Prop := w.heap[g]? = some (.cells cs t (0, 0))
section
variable {w w' : World} {g : Nat} {t : TypeId} {cs : Array Value}
theorem Blk.lt (h : Blk w g t cs) : g < w.heap.size := by
  rcases Nat.lt_or_ge g w.heap.size with hlt | hge
  · exact hlt
  · unfold Blk at h; rw [Array.getElem?_eq_none hge] at h; cases h
theorem Blk.cell (h : Blk w g t cs) (i : Nat) : w.cell? ⟨g, i, none⟩ = cs[i]? := cell_of_row w g i cs t (0, 0) h
theorem Blk.frozen (h : Blk w g t cs) (i : Nat) : w.frozen? ⟨g, i, none⟩ = false := by
  unfold Blk at h
  simp [World.frozen?, h]
theorem Blk.new (w : World) (t : TypeId) (cs : Array Value) : Blk (w.alloc (.cells cs t)) w.heap.size t cs := heap_alloc_new w _
theorem Blk.drew (h : Blk w g t cs) : Blk w.drew g t cs := h
theorem Blk.drewN (h : Blk w g t cs) (n : Nat) : Blk (w.drewN n) g t cs := h
theorem Blk.alloc (h : Blk w g t cs) (o : Obj) : Blk (w.alloc o) g t cs := (Below.heap_alloc w o g h.lt).trans h
theorem Blk.set_ (h : Blk w g t cs) (i : Nat) (u : Value) : Blk (w.setCell ⟨g, i, none⟩ u) g t (cs.setIfInBounds i u) := by
  unfold Blk at h ⊢
  simp [World.setCell, Array.getElem?_modify, h]
theorem Blk.far (h : Blk w g t cs) {p : Addr} (hp : g ≠ p.block) (u : Value) : Blk (w.setCell p u) g t cs := (Below.heap_setCell w p u g hp).trans h
theorem Blk.below {B : Nat} (h : Blk w g t cs) (hb : Below B w w') (hg : g < B) : Blk w' g t cs := (hb.block g hg).trans h
end

/-- the cells of a list of edges -/
def flat : List (Int × Int) → List Value
  | [] => []
  | e :: l => .int .i64 e.1 :: .int .i64 e.2 :: flat l
theorem flat_length : ∀ l : List (Int × Int), (flat l).length = l.length * 2
  | [] => rfl
  | _ :: l => by simp only [flat, List.length_cons, flat_length l]; omega
theorem flat_at : ∀ (l : List (Int × Int)) (i : Nat) (e : Int × Int), l[i]? = some e → (flat l)[i * 2]? = some (.int .i64 e.1) ∧ (flat l)[i * 2 + 1]? = some (.int .i64 e.2)
  | a :: l, 0, e, h => by
    simp only [List.getElem?_cons_zero, Option.some.injEq] at h
    subst h
    exact ⟨rfl, rfl⟩
  | a :: l, i + 1, e, h => by
    rw [List.getElem?_cons_succ] at h
    have := flat_at l i e h
    simpa [flat, Nat.add_mul] using this
theorem flat_set : ∀ (l : List (Int × Int)) (i : Nat) (e : Int × Int), i < l.length → ((flat l).set (i * 2) (.int .i64 e.1)).set (i * 2 + 1) (.int .i64 e.2) = flat (l.set i e)
  | a :: l, 0, e, _ => rfl
  | a :: l, i + 1, e, h => by
    have := flat_set l i e (by simpa using h)
    simp only [flat, List.set_cons_succ, Nat.add_mul, Nat.one_mul]
    rw [this]
/-- the first k edges copied, the others still 0 -/
def part (es : List (Int × Int)) (k : Nat) : List (Int × Int) := es.take k ++ List.replicate (es.length - k) (0, 0)
theorem part_length (es : List (Int × Int)) (k : Nat) (h : k ≤ es.length) : (part es k).length = es.length := by simp [part]; omega
theorem part_all (es : List (Int × Int)) : part es es.length = es := by simp [part]
theorem part_set (es : List (Int × Int)) (k : Nat) (e : Int × Int) (h : es[k]? = some e) : (part es k).set k e = part es (k + 1) := by
  have hk : k < es.length := (List.getElem?_eq_some_iff.1 h).1
  unfold part
  rw [List.take_add_one, h, List.set_append_right _ _ (by simp; omega)]
  have : es.length - k = (es.length - (k + 1)) + 1 := by omega
  rw [this, List.replicate_succ]
  simp [Nat.min_eq_left (Nat.le_of_lt hk)]
theorem part_at (es : List (Int × Int)) (k : Nat) (h : k < es.length) : (part es k)[k]? = some (0, 0) := by
  unfold part
  have hl : (es.take k).length = k := by simp; omega
  rw [List.getElem?_append_right (by omega), hl, Nat.sub_self]
  have : es.length - k = (es.length - (k + 1)) + 1 := by omega
  rw [this, List.replicate_succ]
  rfl
theorem blk_part {w : World} {g : Nat} {t : TypeId} {es : List (Int × Int)} {k : Nat} {e : Int × Int} (h : Blk w g t (flat (part es k)).toArray) (he : es[k]? = some e) :
    Blk ((w.setCell ⟨g, k * 2, none⟩ (.int .i64 e.1)).setCell ⟨g, k * 2 + 1, none⟩ (.int .i64 e.2)) g t (flat (part es (k + 1))).toArray := by
  have hk : k < es.length := (List.getElem?_eq_some_iff.1 he).1
  have h2 := (h.set_ (k * 2) (.int .i64 e.1)).set_ (k * 2 + 1) (.int .i64 e.2)
  rw [List.setIfInBounds_toArray, List.setIfInBounds_toArray, flat_set _ _ _ (by rw [part_length _ _ (by omega)]; exact hk), part_set _ _ _ he] at h2
  exact h2
theorem EdgeS.of_blk {w : World} {g B : Nat} {t : TypeId} {es : List (Int × Int)} (h : Blk w g t (flat es).toArray) (hg : g < B) : EdgeS w B (some ⟨g, 0, none⟩) es := fun _ =>
  ⟨g, 0, rfl, hg, fun i e he => by
    have := flat_at es i e he
    rw [h.cell, h.cell]
    simpa using this⟩

theorem edgeInfo : (Try.prog.info? 62).map (fun i => (i.zero, i.size, i.bytes)) = some (some (.agg #[.int .i64 0, .int .i64 0]), 2, 16) := by kernel_rfl

theorem flat_zeros : ∀ n : Nat, flat (List.replicate n (0, 0)) = List.replicate (n * 2) (.int .i64 0)
  | 0 => rfl
  | n + 1 => by rw [List.replicate_succ, flat, flat_zeros n, Nat.add_mul, Nat.one_mul, List.replicate_succ, List.replicate_succ]
theorem made_flat (n : Nat) : madeCells (Value.agg #[.int .i64 0, .int .i64 0]).cells (n * 2) = (flat (List.replicate n (0, 0))).toArray := by
  rw [flat_zeros]
  apply Array.ext
  · simp [madeCells]
  · intro i h1 h2
    simp only [madeCells, Array.getElem_map, Array.getElem_range, List.getElem_toArray, List.getElem_replicate]
    show (#[Value.int .i64 0, Value.int .i64 0] : Array Value)[i % 2]! = _
    rcases Nat.mod_two_eq_zero_or_one i with h | h <;> rw [h] <;> rfl
theorem make_edges (n : Nat) (hn : n ≤ 1048576) (w : World) : (Instr.makeSlice 28 (.int .i64 (n : Int)) (.int .i64 (n : Int))).run Try.prog w =
    .ok (.slice (some ⟨w.heap.size, 0, none⟩) n n) (w.alloc (.cells (flat (List.replicate n (0, 0))).toArray 62)) := by
  obtain ⟨i0, hi, hz0, hz1, hz2⟩ := info_parts edgeInfo
  have hr := run_make (P := Try.prog) w 28 62 i0 _ Try.underlying28 hi hz0 .i64 .i64 n n (by omega) (by omega) (by rw [hz2]; omega) (by omega)
  rw [hz1] at hr
  simp only [Int.toNat_natCast] at hr
  rw [made_flat] at hr
  exact hr
/-- what the copy of a slice of edges leaves: a new block with the edges -/
def MadeEdges (w : World) (es : List (Int × Int)) (e : Ending) (w' : World) : Prop :=
  e = .returned (.slice (some ⟨w.heap.size, 0, none⟩) es.length es.length) ∧ Blk w' w.heap.size 62 (flat es).toArray ∧ Below w.heap.size w w'

set_option maxHeartbeats 400000 in
theorem toEdgeS_any (A : Option Addr) (c : Nat) (es : List (Int × Int)) (w : World) (hn : es.length ≤ 1048576) (hE : EdgeS w w.heap.size A es) :
    Calls Try.prog 52 #[.slice A es.length c] w (MadeEdges w es) := by
  have hmk := make_edges es.length hn
  have HE := Lib.hid hE
  clear hE
  go_enter Try.func52, Try.ntmps52
  go_wp2
  go_loopw [4] (fun i wr => ∃ k : Nat, k ≤ es.length ∧ i = .int .i64 k ∧ Blk wr w.heap.size 62 (flat (part es k)).toArray ∧ Below w.heap.size w wr) (fun i _ => es.length - (intOf i).toNat)
  case atStart => exact ⟨0, Nat.zero_le _, rfl, Blk.new w _ _, (Below.refl _ _).alloc (Nat.le_refl _) _⟩
  case round =>
    obtain ⟨k, hk, rfl, hblk, hb⟩ := hrel
    have HB := Lib.hid hblk
    have hlt0 := hblk.lt
    clear hblk hmk
    by_cases hlt : k < es.length
    · obtain ⟨b1, o1, e, rfl, hb1, he, hc0, hc1⟩ := (HE.out.below hb).at_ hlt
      have HX := Lib.hid he
      clear he
      have hi0 : (0 : Int) ≤ (k : Int) := Int.natCast_nonneg _
      have hi1 : (k : Int) < (es.length : Int) := by omega
      go_wp2_with fail
      refine (toEdge_any _ _ _).mono ?_
      rintro e2 w2 ⟨rfl, hb3⟩
      have hblk2 := HB.out.below hb3 hlt0
      have hat := flat_at _ _ _ (part_at es k hlt)
      have hf0 := hblk2.frozen (k * 2)
      have hf1 := hblk2.frozen (k * 2 + 1)
      have hcl0 : w2.cell? ⟨w.heap.size, k * 2, none⟩ = some (.int .i64 0) := by rw [hblk2.cell]; simpa using hat.1
      have hcl1 : w2.cell? ⟨w.heap.size, k * 2 + 1, none⟩ = some (.int .i64 0) := by rw [hblk2.cell]; simpa using hat.2
      have HB2 := Lib.hid hblk2
      clear hblk2 hat
      go_wp2
      exact ⟨⟨k + 1, by omega, by go_num, blk_part HB2.out HX.out, ((hb.trans (hb3.mono hb.size)).setCell (Nat.le_refl _) _).setCell (Nat.le_refl _) _⟩, by simp [intOf]; omega⟩
    · have HB2 := HB.out
      rw [show k = es.length by omega, part_all] at HB2
      have HB3 := Lib.hid HB2
      clear HB2
      go_wp2
      go_ret
      exact ⟨rfl, HB3.out, hb⟩

set_option maxHeartbeats 400000 in
theorem szGraph_any (N : Int) (A : Option Addr) (n c : Nat) (left : Int) (w : World) (hn : n ≤ 9223372036854775807) (h0 : 0 ≤ left) (h1 : left ≤ 1048576) :
    Calls Try.prog 11 #[.agg #[.int .i64 N, .slice A n c], .int .i64 left] w fun e w' => e = .returned (.int .i64 (if left < n then -1 else left - n)) ∧ Below w.heap.size w w' := by
  by_cases h : left < n
  · rw [if_pos h]
    have hc := szEdgeS_any A n c left
    rw [if_pos h] at hc
    have HC := fun w => Lib.hid (hc w hn h0 h1)
    clear hc
    go_enter Try.func11, Try.ntmps11
    go_wp2_with (go_at_call 48; refine (HC _).out.mono ?_; rintro e w' ⟨rfl, rfl⟩)
    go_ret
    exact ⟨rfl, (Below.refl _ _).alloc (Nat.le_refl _) _⟩
  · rw [if_neg h]
    have hc := szEdgeS_any A n c left
    rw [if_neg h] at hc
    have HC := fun w => Lib.hid (hc w hn h0 h1)
    clear hc
    go_enter Try.func11, Try.ntmps11
    go_wp2_with (go_at_call 48; refine (HC _).out.mono ?_; rintro e w' ⟨rfl, rfl⟩)
    go_ret
    exact ⟨rfl, (Below.refl _ _).alloc (Nat.le_refl _) _⟩

theorem szGraph_big (N : Int) (A : Option Addr) (n c : Nat) (left : Int) (w : World) (hn : n ≤ 9223372036854775807) (h0 : 0 ≤ left) (h1 : left ≤ 1048576) (h : left < n) :
    Calls Try.prog 11 #[.agg #[.int .i64 N, .slice A n c], .int .i64 left] w fun e w' => e = .returned (.int .i64 (-1)) ∧ Below w.heap.size w w' := by
  have := szGraph_any N A n c left w hn h0 h1
  rwa [if_pos h] at this
theorem szGraph_ok (N : Int) (A : Option Addr) (n c : Nat) (left : Int) (w : World) (h1 : left ≤ 1048576) (h : (n : Int) ≤ left) :
    Calls Try.prog 11 #[.agg #[.int .i64 N, .slice A n c], .int .i64 left] w fun e w' => e = .returned (.int .i64 (left - n)) ∧ Below w.heap.size w w' := by
  have := szGraph_any N A n c left w (by omega) (by omega) h1
  rwa [if_neg (by omega)] at this

/-- what the copy of a graph leaves: a new block with the edges -/
def MadeGraph (w : World) (N : Int) (es : List (Int × Int)) (e : Ending) (w' : World) : Prop :=
  ∃ g : Nat, e = .returned (.agg #[.int .i64 N, .slice (some ⟨g, 0, none⟩) es.length es.length]) ∧ w.heap.size ≤ g ∧ Blk w' g 62 (flat es).toArray ∧ Below w.heap.size w w'
theorem EdgeS.up_ {w w' : World} {A : Option Addr} {es : List (Int × Int)} (h : EdgeS w w.heap.size A es) (hb : Below w.heap.size w w') : EdgeS w' w'.heap.size A es := h.up hb hb.size

set_option maxHeartbeats 400000 in
theorem toGraph_any (N : Int) (A : Option Addr) (c : Nat) (es : List (Int × Int)) (w : World) (hn : es.length ≤ 1048576) (hE : EdgeS w w.heap.size A es) :
    Calls Try.prog 13 #[.agg #[.int .i64 N, .slice A es.length c]] w (MadeGraph w N es) := by
  have HE := Lib.hid hE
  clear hE
  go_enter Try.func13, Try.ntmps13
  go_wp2_with fail
  have hb0 : Below w.heap.size w (((w.alloc (Obj.cells #[.int .i64 N, .slice A es.length c] 24)).alloc (Obj.cells #[.int .i64 0, .slice none 0 0] 30)).alloc (Obj.cells #[.int .i64 N, .slice none 0 0] 30)) :=
    (((Below.refl _ _).alloc (Nat.le_refl _) _).alloc (by simp) _).alloc (by simp; omega) _
  refine (toEdgeS_any _ _ _ _ hn (HE.out.up_ hb0)).mono ?_
  rintro e w1 ⟨rfl, hblk, hb⟩
  obtain ⟨hc, hf⟩ := bcell hb
  have HB := Lib.hid hblk
  clear hblk
  go_wp2
  have hbw : Below w.heap.size w w1 := hb0.trans (hb.mono hb0.size)
  refine bodyPost_ret (v := .agg #[.int .i64 N, .slice (some ⟨w.heap.size + 1 + 1 + 1, 0, none⟩) es.length es.length]) (by simp [results, Try.results13, go_sem, hc]) rfl ⟨w.heap.size + 1 + 1 + 1, rfl, by omega, ?_, ?_⟩
  · have h1 := HB.out
    simp only [World.size_alloc] at h1
    exact ((h1.far (by simp) _).far (by simp; omega) _).far (by simp; omega) _
  · exact ((hbw.setCell (by simp; omega) _).setCell (by simp) _).setCell (by simp) _

/-- two graphs by value are equal -/
def eqG (N M : Int) (es fs : List (Int × Int)) : Bool := decide (N = M) && decide (es = fs)
set_option maxHeartbeats 400000 in
theorem eqGraph_any (N M : Int) (A C : Option Addr) (ca cc : Nat) (es fs : List (Int × Int)) (w : World) (hn : es.length ≤ 9223372036854775807) (hm : fs.length ≤ 9223372036854775807)
    (h1 : EdgeS w w.heap.size A es) (h2 : EdgeS w w.heap.size C fs) :
    Calls Try.prog 16 #[.agg #[.int .i64 N, .slice A es.length ca], .agg #[.int .i64 M, .slice C fs.length cc]] w fun e w' => e = .returned (.bool (eqG N M es fs)) ∧ Below w.heap.size w w' := by
  have H1 := Lib.hid h1
  have H2 := Lib.hid h2
  clear h1 h2
  have hb0 : Below w.heap.size w ((w.alloc (Obj.cells #[.int .i64 N, .slice A es.length ca] 30)).alloc (Obj.cells #[.int .i64 M, .slice C fs.length cc] 30)) :=
    ((Below.refl _ _).alloc (Nat.le_refl _) _).alloc (by simp) _
  by_cases h : N = M
  · have e1 : (N != M) = false := by simp [h]
    have H : eqG N M es fs = decide (es = fs) := by simp [eqG, h]
    rw [H]
    clear h H
    by_cases hE : es = fs
    · have hc := eqEdgeS_any A C ca cc es fs
      rw [decide_eq_true hE] at hc ⊢
      have HC := fun w h3 h4 => Lib.hid (hc w hn hm h3 h4)
      clear hc hE
      go_enter Try.func16, Try.ntmps16
      go_wp2_with (go_at_call 57; refine (HC _ (H1.out.up_ hb0) (H2.out.up_ hb0)).out.mono ?_; rintro e w1 ⟨rfl, hb⟩)
      go_ret
      exact ⟨rfl, hb0.trans (hb.mono hb0.size)⟩
    · have hc := eqEdgeS_any A C ca cc es fs
      rw [decide_eq_false hE] at hc ⊢
      have HC := fun w h3 h4 => Lib.hid (hc w hn hm h3 h4)
      clear hc hE
      go_enter Try.func16, Try.ntmps16
      go_wp2_with (go_at_call 57; refine (HC _ (H1.out.up_ hb0) (H2.out.up_ hb0)).out.mono ?_; rintro e w1 ⟨rfl, hb⟩)
      go_ret
      exact ⟨rfl, hb0.trans (hb.mono hb0.size)⟩
  · have e1 : (N != M) = true := by simp [h]
    have H : eqG N M es fs = false := by simp [eqG, h]
    rw [H]
    clear h H
    go_enter Try.func16, Try.ntmps16
    go_wp2
    go_ret
    exact ⟨rfl, hb0⟩
theorem eqG_self (N : Int) (es : List (Int × Int)) : eqG N N es es = true := by simp [eqG]
end Go.Proofs.Ytbmihbbpdmpmpaa
