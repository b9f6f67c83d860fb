/- The laws' marks on slices of edges and on graphs. -/
import Derived.Test.YtbmihbbpdmpmpaaInts
namespace Go.Proofs.Ytbmihbbpdmpmpaa
open Go.RowKit

/-- a slice of edges that lies in a block of the call's own (from base on) and may be written -/
def OwnE (w : World) (base : Nat) (A : Option Addr) (es : List (Int × Int)) : Prop :=
  0 < es.length → ∃ g off : Nat, A = some ⟨g, off, none⟩ ∧ base ≤ g ∧ g < w.heap.size ∧ ∀ (i : Nat) (e : Int × Int), es[i]? = some e →
    w.cell? ⟨g, off + i * 2, none⟩ = some (.int .i64 e.1) ∧ w.cell? ⟨g, off + i * 2 + 1, none⟩ = some (.int .i64 e.2) ∧ w.frozen? ⟨g, off + i * 2, none⟩ = false ∧ w.frozen? ⟨g, off + i * 2 + 1, none⟩ = false
theorem OwnE.edges {w : World} {base : Nat} {A : Option Addr} {es : List (Int × Int)} (h : OwnE w base A es) : EdgeS w w.heap.size A es := fun hn => by
  obtain ⟨g, off, e, _, hg, hc⟩ := h hn
  exact ⟨g, off, e, hg, fun i z hz => ⟨(hc i z hz).1, (hc i z hz).2.1⟩⟩
theorem OwnE.below {w w' : World} {base : Nat} {A : Option Addr} {es : List (Int × Int)} (h : OwnE w base A es) (hb : Below w.heap.size w w') : OwnE w' base A es := fun hn => by
  obtain ⟨g, off, e, h1, hg, hc⟩ := h hn
  refine ⟨g, off, e, h1, Nat.lt_of_lt_of_le hg hb.size, fun i z hz => ?_⟩
  obtain ⟨a, b, c, d⟩ := hc i z hz
  exact ⟨(hb.cell (p := ⟨g, off + i * 2, none⟩) hg).trans a, (hb.cell (p := ⟨g, off + i * 2 + 1, none⟩) hg).trans b, (hb.frozen (p := ⟨g, off + i * 2, none⟩) hg).trans c, (hb.frozen (p := ⟨g, off + i * 2 + 1, none⟩) hg).trans d⟩
theorem OwnE.mono {w : World} {base base' : Nat} {A : Option Addr} {es : List (Int × Int)} (h : OwnE w base A es) (hb : base' ≤ base) : OwnE w base' A es := fun hn => by
  obtain ⟨g, off, e, h1, hg, hc⟩ := h hn
  exact ⟨g, off, e, by omega, hg, hc⟩
theorem OwnE.of_blk {w : World} {g base : Nat} {t : TypeId} {es : List (Int × Int)} (h : Blk w g t (flat es).toArray) (hg : base ≤ g) : OwnE w base (some ⟨g, 0, none⟩) es := fun _ =>
  ⟨g, 0, rfl, hg, h.lt, fun i e he => by
    have := flat_at es i e he
    rw [h.cell, h.cell]
    exact ⟨by simpa using this.1, by simpa using this.2, h.frozen _, h.frozen _⟩⟩
/-- pairs of the numbers k, k + 1 and so on -/
def iotaE (k : Int) : Nat → List (Int × Int)
  | 0 => []
  | n + 1 => (k, k + 1) :: iotaE (k + 2) n
theorem iotaE_length : ∀ (k : Int) (n : Nat), (iotaE k n).length = n
  | _, 0 => rfl
  | k, n + 1 => by simp [iotaE, iotaE_length (k + 2) n]
theorem iotaE_at : ∀ (k : Int) (n i : Nat), i < n → (iotaE k n)[i]? = some (k + 2 * i, k + 2 * i + 1)
  | k, n + 1, 0, _ => by simp [iotaE]
  | k, n + 1, i + 1, h => by
    rw [iotaE, List.getElem?_cons_succ, iotaE_at (k + 2) n i (by omega)]
    have h1 : k + 2 + 2 * (i : Int) = k + 2 * ((i + 1 : Nat) : Int) := by omega
    rw [h1]
/-- after j edges -/
structure MarkedE (w wr : World) (g off n : Nat) (k : Int) (j : Nat) : Prop where
  turned : Turned w wr (some ⟨g, off, none⟩)
  soft : ∀ i, i < n → wr.frozen? ⟨g, off + i * 2, none⟩ = false ∧ wr.frozen? ⟨g, off + i * 2 + 1, none⟩ = false
  some_ : ∀ i, i < n → ∃ u v, wr.cell? ⟨g, off + i * 2, none⟩ = some (.int .i64 u) ∧ wr.cell? ⟨g, off + i * 2 + 1, none⟩ = some (.int .i64 v)
  done : ∀ i, i < j → wr.cell? ⟨g, off + i * 2, none⟩ = some (.int .i64 (k + 2 * i)) ∧ wr.cell? ⟨g, off + i * 2 + 1, none⟩ = some (.int .i64 (k + 2 * i + 1))
theorem cell_other {w : World} {g a b : Nat} (u : Value) (h : b ≠ a) : (w.setCell ⟨g, a, none⟩ u).cell? ⟨g, b, none⟩ = w.cell? ⟨g, b, none⟩ := World.cell?_setCell_other _ _ _ _ (by simp only [ne_eq, Addr.mk.injEq]; omega)
theorem MarkedE.step {w wr : World} {g off n j : Nat} {k : Int} (h : MarkedE w wr g off n k j) (hj : j < n) :
    MarkedE w ((wr.setCell ⟨g, off + j * 2, none⟩ (.int .i64 (k + 2 * j))).setCell ⟨g, off + j * 2 + 1, none⟩ (.int .i64 (k + 2 * j + 1))) g off n k (j + 1) := by
  obtain ⟨u, v, hu, hv⟩ := h.some_ j hj
  have key : ∀ i, (i = j → ((wr.setCell ⟨g, off + j * 2, none⟩ (.int .i64 (k + 2 * j))).setCell ⟨g, off + j * 2 + 1, none⟩ (.int .i64 (k + 2 * j + 1))).cell? ⟨g, off + i * 2, none⟩ = some (.int .i64 (k + 2 * j)) ∧
      ((wr.setCell ⟨g, off + j * 2, none⟩ (.int .i64 (k + 2 * j))).setCell ⟨g, off + j * 2 + 1, none⟩ (.int .i64 (k + 2 * j + 1))).cell? ⟨g, off + i * 2 + 1, none⟩ = some (.int .i64 (k + 2 * j + 1))) ∧
      (i ≠ j → ((wr.setCell ⟨g, off + j * 2, none⟩ (.int .i64 (k + 2 * j))).setCell ⟨g, off + j * 2 + 1, none⟩ (.int .i64 (k + 2 * j + 1))).cell? ⟨g, off + i * 2, none⟩ = wr.cell? ⟨g, off + i * 2, none⟩ ∧
      ((wr.setCell ⟨g, off + j * 2, none⟩ (.int .i64 (k + 2 * j))).setCell ⟨g, off + j * 2 + 1, none⟩ (.int .i64 (k + 2 * j + 1))).cell? ⟨g, off + i * 2 + 1, none⟩ = wr.cell? ⟨g, off + i * 2 + 1, none⟩) := by
    intro i
    constructor
    · rintro rfl
      refine ⟨?_, ?_⟩
      · rw [cell_other _ (by omega)]
        exact World.cell?_setCell_same _ _ _ hu
      · exact World.cell?_setCell_same _ _ _ ((cell_other _ (by omega)).trans hv)
    · intro hne
      exact ⟨by rw [cell_other _ (by omega), cell_other _ (by omega)], by rw [cell_other _ (by omega), cell_other _ (by omega)]⟩
  refine ⟨(h.turned.trans (Turned.set_ _ _ _ _ _)).trans (Turned.set_ _ _ _ _ _), fun i hi => ?_, fun i hi => ?_, fun i hi => ?_⟩
  · rw [World.frozen?_setCell, World.frozen?_setCell, World.frozen?_setCell, World.frozen?_setCell]
    exact h.soft i hi
  · by_cases e : i = j
    · exact ⟨_, _, ((key i).1 e).1, ((key i).1 e).2⟩
    · obtain ⟨u', v', h1, h2⟩ := h.some_ i hi
      exact ⟨u', v', ((key i).2 e).1.trans h1, ((key i).2 e).2.trans h2⟩
  · by_cases e : i = j
    · have := (key i).1 e
      rw [← e] at this
      rw [← e]
      exact this
    · obtain ⟨h1, h2⟩ := h.done i (by omega)
      exact ⟨((key i).2 e).1.trans h1, ((key i).2 e).2.trans h2⟩
theorem OwnE.elim_ {w w' : World} {A : Option Addr} {base : Nat} {es : List (Int × Int)} (ho : OwnE w base A es) (h : Turned w w' A) (hb : base ≤ w.heap.size) (hn : 0 < es.length) : Below base w w' :=
  ⟨h.os, h.tape, h.output, by rw [h.size]; exact Nat.le_refl _, fun i hi => h.block i (by omega) fun off he => by
    obtain ⟨g, o2, e2, hg, _, _⟩ := ho hn
    rw [e2] at he
    injection he with he
    injection he with he
    omega⟩

def MarkDoneE (w : World) (base : Nat) (A : Option Addr) (n : Nat) (k : Int) (e : Ending) (w' : World) : Prop :=
  e = .returned (.int .i64 (k + 2 * n)) ∧ OwnE w' base A (iotaE k n) ∧ Turned w w' A ∧ (base ≤ w.heap.size → Below base w w')
set_option maxHeartbeats 400000 in
theorem markEdgeS_any (A : Option Addr) (c base : Nat) (es : List (Int × Int)) (k : Int) (w : World) (hn : es.length ≤ 1048576) (h0 : 0 ≤ k) (h1 : k ≤ 1099511627776) (hO : OwnE w base A es) :
    Calls Try.prog 58 #[.slice A es.length c, .int .i64 k] w (MarkDoneE w base A es.length k) := by
  by_cases hz : 0 < es.length
  · obtain ⟨g, off, rfl, hg, hlt, hc⟩ := hO hz
    have hm0 : MarkedE w w g off es.length k 0 := ⟨Turned.refl _ _, fun i hi => (hc i _ (List.getElem?_eq_getElem hi)).2.2, fun i hi => ⟨_, _, (hc i _ (List.getElem?_eq_getElem hi)).1, (hc i _ (List.getElem?_eq_getElem hi)).2.1⟩, fun i hi => absurd hi (by omega)⟩
    have HM := Lib.hid hm0
    have HO := Lib.hid hO
    clear hm0 hc hO
    go_enter Try.func58, Try.ntmps58
    go_wp2
    go_loopw [1, 5] (fun m i wr => ∃ j : Nat, j ≤ es.length ∧ i = .int .i64 j ∧ m = .int .i64 (k + 2 * j) ∧ MarkedE w wr g off es.length k j) (fun _ i _ => es.length - (intOf i).toNat)
    case atStart => exact ⟨0, Nat.zero_le _, rfl, by simp, HM.out⟩
    case round =>
      obtain ⟨j, hj, rfl, rfl, hm⟩ := hrel
      have HM2 := Lib.hid hm
      clear hm
      by_cases hlt2 : j < es.length
      · have hi0 : (0 : Int) ≤ (j : Int) := Int.natCast_nonneg _
        have hi1 : (j : Int) < (es.length : Int) := by omega
        obtain ⟨hf, hf2⟩ := HM2.out.soft j hlt2
        obtain ⟨u, v, hu, hv⟩ := HM2.out.some_ j hlt2
        go_wp2
        exact ⟨⟨j + 1, by omega, by go_num, by congr 1; omega, HM2.out.step hlt2⟩, by simp [intOf]; omega⟩
      · have HJ := Lib.hid (show j = es.length by omega)
        go_wp2
        go_ret
        refine ⟨ret_intE (by rw [HJ.out]), ?_, HM2.out.turned, fun hbs => HO.out.elim_ HM2.out.turned hbs hz⟩
        obtain ⟨t1, t2, t3, t4⟩ := HM2.out
        intro _
        refine ⟨g, off, rfl, hg, by rw [t1.size]; exact hlt, fun i z hz2 => ?_⟩
        have hil : i < es.length := by
          have := (List.getElem?_eq_some_iff.1 hz2).1
          rw [iotaE_length] at this
          exact this
        rw [iotaE_at _ _ _ hil] at hz2
        injection hz2 with hz2
        subst hz2
        exact ⟨(t4 i (by omega)).1, (t4 i (by omega)).2, (t2 i hil).1, (t2 i hil).2⟩
  · have hz0 : es.length ≤ 0 := by omega
    have HZ := Lib.hid (show es.length = 0 by omega)
    go_enter Try.func58, Try.ntmps58
    go_wp2
    go_loop [1, 5] (fun m i => i = .int .i64 0 ∧ m = .int .i64 k) (fun _ _ => 0)
    case atStart => exact ⟨rfl, rfl⟩
    case round =>
      obtain ⟨rfl, rfl⟩ := hrel
      go_wp2
      go_ret
      refine ⟨ret_intE (by rw [HZ.out]; simp), ?_, Turned.refl _ _, fun _ => Below.refl _ _⟩
      rw [HZ.out]
      exact fun hn => absurd hn (by simp [iotaE])
end Go.Proofs.Ytbmihbbpdmpmpaa
