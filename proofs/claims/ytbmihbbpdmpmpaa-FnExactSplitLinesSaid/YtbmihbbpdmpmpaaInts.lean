/- Slices of ints: what the laws' helpers do with them: copies, comparisons, sizes, marks. -/
import Derived.Test.YtbmihbbpdmpmpaaIntB
namespace Go.Proofs.Ytbmihbbpdmpmpaa
open Go.RowKit

def MadeInts (w : World) (xs : List Int) (e : Ending) (w' : World) : Prop :=
  e = .returned (.slice (some ⟨w.heap.size, 0, none⟩) xs.length xs.length) ∧ Blk w' w.heap.size 3 (intCells xs).toArray ∧ Below w.heap.size w w'
set_option maxHeartbeats 400000 in
theorem toIntS_any (A : Option Addr) (c : Nat) (xs : List Int) (w : World) (hn : xs.length ≤ 1048576) (hS : IntS w w.heap.size A xs) :
    Calls Try.prog 73 #[.slice A xs.length c] w (MadeInts w xs) := by
  have hmk := make_ints xs.length hn
  have HS := Lib.hid hS
  clear hS
  go_enter Try.func73, Try.ntmps73
  go_wp2
  go_loopw [4] (fun i wr => ∃ k : Nat, k ≤ xs.length ∧ i = .int .i64 k ∧ Blk wr w.heap.size 3 (intCells (partI xs k)).toArray ∧ Below w.heap.size w wr) (fun i _ => xs.length - (intOf i).toNat)
  case atStart => exact ⟨0, Nat.zero_le _, rfl, Blk.new w _ _, (Below.refl _ _).alloc (Nat.le_refl _) _⟩
  case round =>
    obtain ⟨k, hk, rfl, hblk, hb⟩ := hrel
    have HB := Lib.hid hblk
    clear hblk hmk
    by_cases hlt : k < xs.length
    · obtain ⟨b1, o1, x, rfl, hb1, he, hc0⟩ := (HS.out.below hb).at_ hlt
      have hi0 : (0 : Int) ≤ (k : Int) := Int.natCast_nonneg _
      have hi1 : (k : Int) < (xs.length : Int) := by omega
      have HX := Lib.hid he
      clear he
      have hf0 := HB.out.frozen k
      have hcl0 : wr.cell? ⟨w.heap.size, k, none⟩ = some (.int .i64 0) := by rw [HB.out.cell]; simp [intCells, partI_at xs k hlt]
      go_wp2
      exact ⟨⟨k + 1, by omega, by go_num, blk_partI HB.out HX.out, hb.setCell (Nat.le_refl _) _⟩, by simp [intOf]; omega⟩
    · have HB2 := HB.out
      rw [show k = xs.length by omega, partI_all] at HB2
      have HB3 := Lib.hid HB2
      clear HB2
      go_wp2
      go_ret
      exact ⟨rfl, HB3.out, hb⟩

set_option maxHeartbeats 400000 in
theorem eqIntS_any (A C : Option Addr) (ca cc : Nat) (xs ys : List Int) (w : World) (hn : xs.length ≤ 9223372036854775807) (hm : ys.length ≤ 9223372036854775807)
    (h1 : IntS w w.heap.size A xs) (h2 : IntS w w.heap.size C ys) :
    Calls Try.prog 31 #[.slice A xs.length ca, .slice C ys.length cc] w fun e w' => e = .returned (.bool (decide (xs = ys))) ∧ Below w.heap.size w w' := by
  by_cases hl : xs.length = ys.length
  · have H1 := Lib.hid h1
    have H2 := Lib.hid h2
    clear h1 h2
    have hl2 : ((xs.length : Int) != (ys.length : Int)) = false := by simp [hl]
    have hl3 : xs.length ≤ ys.length := by omega
    have hl4 : ys.length ≤ xs.length := by omega
    clear hl
    go_enter Try.func31, Try.ntmps31
    go_wp2
    go_loopw [5] (fun i wr => ∃ k : Nat, k ≤ xs.length ∧ i = .int .i64 k ∧ xs.take k = ys.take k ∧ Below w.heap.size w wr) (fun i _ => xs.length - (intOf i).toNat)
    case atStart => exact ⟨0, Nat.zero_le _, rfl, rfl, Below.refl _ _⟩
    case round =>
      obtain ⟨k, hk, rfl, ht, hb⟩ := hrel
      have HT := Lib.hid ht
      clear ht
      by_cases hlt : k < xs.length
      · obtain ⟨b1, o1, x, rfl, hb1, he, hc0⟩ := (H1.out.below hb).at_ hlt
        obtain ⟨b2, o2, y, rfl, hb2, hf, hd0⟩ := (H2.out.below hb).at_ (k := k) (by omega)
        have HE := Lib.hid he
        have HF := Lib.hid hf
        clear he hf
        have hi0 : (0 : Int) ≤ (k : Int) := Int.natCast_nonneg _
        have hi1 : (k : Int) < (xs.length : Int) := by omega
        have hi2 : (k : Int) < (ys.length : Int) := by omega
        go_wp2
        go_region
        go_wp2
        · have hE : (x != y) = true := by assumption
          have HQ := Lib.hid (take_differ HE.out HF.out (by simpa using hE))
          go_ret
          exact ⟨ret_boolE HQ.out.symm, hb.drew⟩
        · have hE : (x != y) = false := by assumption
          have hxy : x = y := by simpa using hE
          exact ⟨⟨k + 1, by omega, by go_num, take_same HT.out HE.out (by rw [hxy]; exact HF.out), hb.drew⟩, by simp [intOf]; omega⟩
      · have HA := Lib.hid (take_all_same HT.out (by omega) (by omega))
        go_wp2
        go_ret
        exact ⟨ret_boolE HA.out.symm, hb⟩
  · have hl2 : ((xs.length : Int) != (ys.length : Int)) = true := by simp; omega
    have HD := Lib.hid (show decide (xs = ys) = false by rw [decide_eq_false_iff_not]; rintro rfl; exact hl rfl)
    clear hl
    go_enter Try.func31, Try.ntmps31
    go_wp2
    go_ret
    exact ⟨ret_boolE HD.out.symm, Below.refl _ _⟩

/-- nothing but the slice's own block has turned, and no block has come -/
structure Turned (w w' : World) (A : Option Addr) : Prop where
  os : w'.os = w.os
  tape : w'.tape = w.tape
  output : w'.output = w.output
  size : w'.heap.size = w.heap.size
  block : ∀ i, i < w.heap.size → (∀ off, A ≠ some ⟨i, off, none⟩) → w'.heap[i]? = w.heap[i]?
theorem Turned.below {w w' : World} {A : Option Addr} {base : Nat} {zs : List Int} (h : Turned w w' A) (ho : OwnI w base A zs) (hb : base ≤ w.heap.size) (hn : 0 < zs.length) : Below base w w' :=
  ⟨h.os, h.tape, h.output, by rw [h.size]; exact Nat.le_refl _, fun i hi => h.block i (by omega) fun off he => by
    obtain ⟨g, o2, e2, hg, _, _⟩ := ho hn
    rw [e2] at he
    injection he with he
    injection he with he
    omega⟩
theorem OwnI.elim_ {w w' : World} {A : Option Addr} {base : Nat} {zs : List Int} (ho : OwnI w base A zs) (h : Turned w w' A) (hb : base ≤ w.heap.size) (hn : 0 < zs.length) : Below base w w' := h.below ho hb hn
/-- the numbers k, k + 1 and so on -/
def iota (k : Int) : Nat → List Int
  | 0 => []
  | n + 1 => k :: iota (k + 1) n
theorem iota_length : ∀ (k : Int) (n : Nat), (iota k n).length = n
  | _, 0 => rfl
  | k, n + 1 => by simp [iota, iota_length (k + 1) n]
theorem iota_at : ∀ (k : Int) (n i : Nat), i < n → (iota k n)[i]? = some (k + i)
  | k, n + 1, 0, _ => by simp [iota]
  | k, n + 1, i + 1, h => by
    rw [iota, List.getElem?_cons_succ, iota_at (k + 1) n i (by omega)]
    congr 1
    omega
/-- after j marks: the first j cells hold k, k + 1 .., the others what they held -/
def Marked (w wr : World) (g off : Nat) (zs : List Int) (k : Int) (j : Nat) : Prop :=
  Turned w wr (some ⟨g, off, none⟩) ∧ (∀ i, i < zs.length → wr.frozen? ⟨g, off + i, none⟩ = false) ∧ (∀ i, i < zs.length → ∃ u, wr.cell? ⟨g, off + i, none⟩ = some (.int .i64 u)) ∧ ∀ i, i < j → wr.cell? ⟨g, off + i, none⟩ = some (.int .i64 (k + i))
theorem Turned.refl (w : World) (A : Option Addr) : Turned w w A := ⟨rfl, rfl, rfl, rfl, fun _ _ _ => rfl⟩
theorem Turned.trans {a b c : World} {A : Option Addr} (h : Turned a b A) (k : Turned b c A) : Turned a c A :=
  ⟨k.os.trans h.os, k.tape.trans h.tape, k.output.trans h.output, k.size.trans h.size, fun i hi hne => (k.block i (by rw [h.size]; exact hi) hne).trans (h.block i hi hne)⟩
theorem Turned.set_ (w : World) (g off i : Nat) (u : Value) : Turned w (w.setCell ⟨g, i, none⟩ u) (some ⟨g, off, none⟩) :=
  ⟨rfl, rfl, rfl, by simp [World.setCell], fun j _ hne => Below.heap_setCell w ⟨g, i, none⟩ u j (fun e => hne off (by simp only at e; rw [e]))⟩
theorem Marked.step {w wr : World} {g off j : Nat} {zs : List Int} {k : Int} (h : Marked w wr g off zs k j) (hj : j < zs.length) : Marked w (wr.setCell ⟨g, off + j, none⟩ (.int .i64 (k + j))) g off zs k (j + 1) := by
  obtain ⟨h1, h2, h3, h4⟩ := h
  obtain ⟨u, hu⟩ := h3 j hj
  refine ⟨h1.trans (Turned.set_ _ _ _ _ _), fun i hi => ?_, fun i hi => ?_, fun i hi => ?_⟩
  · rw [World.frozen?_setCell]
    exact h2 i hi
  · by_cases e : i = j
    · subst e
      exact ⟨_, World.cell?_setCell_same _ _ _ hu⟩
    · rw [World.cell?_setCell_other _ _ _ _ (by simp only [ne_eq, Addr.mk.injEq]; omega)]
      exact h3 i hi
  · by_cases e : i = j
    · subst e
      exact World.cell?_setCell_same _ _ _ hu
    · rw [World.cell?_setCell_other _ _ _ _ (by simp only [ne_eq, Addr.mk.injEq]; omega)]
      exact h4 i (by omega)
def MarkDone (w : World) (base : Nat) (A : Option Addr) (n : Nat) (k : Int) (e : Ending) (w' : World) : Prop :=
  e = .returned (.int .i64 (k + n)) ∧ OwnI w' base A (iota k n) ∧ Turned w w' A ∧ (base ≤ w.heap.size → Below base w w')
set_option maxHeartbeats 400000 in
theorem markIntS_any (A : Option Addr) (c base : Nat) (zs : List Int) (k : Int) (w : World) (hn : zs.length ≤ 1048576) (h0 : 0 ≤ k) (h1 : k ≤ 1099511627776) (hO : OwnI w base A zs) :
    Calls Try.prog 32 #[.slice A zs.length c, .int .i64 k] w (MarkDone w base A zs.length k) := by
  by_cases hz : 0 < zs.length
  · obtain ⟨g, off, rfl, hg, hlt, hc⟩ := hO hz
    have hm0 : Marked w w g off zs k 0 := ⟨Turned.refl _ _, fun i hi => (hc i _ (List.getElem?_eq_getElem hi)).2, fun i hi => ⟨_, (hc i _ (List.getElem?_eq_getElem hi)).1⟩, fun i hi => absurd hi (by omega)⟩
    have HM := Lib.hid hm0
    have HO := Lib.hid hO
    clear hm0 hc hO
    go_enter Try.func32, Try.ntmps32
    go_wp2
    go_loopw [1, 5] (fun m i wr => ∃ j : Nat, j ≤ zs.length ∧ i = .int .i64 j ∧ m = .int .i64 (k + j) ∧ Marked w wr g off zs k j) (fun _ i _ => zs.length - (intOf i).toNat)
    case atStart => exact ⟨0, Nat.zero_le _, rfl, by simp, HM.out⟩
    case round =>
      obtain ⟨j, hj, rfl, rfl, hm⟩ := hrel
      have HM2 := Lib.hid hm
      clear hm
      by_cases hlt2 : j < zs.length
      · have hi0 : (0 : Int) ≤ (j : Int) := Int.natCast_nonneg _
        have hi1 : (j : Int) < (zs.length : Int) := by omega
        have hf := HM2.out.2.1 j hlt2
        obtain ⟨u, hu⟩ := HM2.out.2.2.1 j hlt2
        go_wp2
        exact ⟨⟨j + 1, by omega, by go_num, by congr 1; omega, HM2.out.step hlt2⟩, by simp [intOf]; omega⟩
      · have hjn : j = zs.length := by omega
        have HJ := Lib.hid hjn
        clear hjn
        go_wp2
        go_ret
        refine ⟨ret_intE (by rw [HJ.out]), ?_, HM2.out.1, fun hbs => HO.out.elim_ HM2.out.1 hbs hz⟩
        obtain ⟨t1, t2, t3, t4⟩ := HM2.out
        intro _
        refine ⟨g, off, rfl, hg, by rw [t1.size]; exact hlt, fun i z hz2 => ?_⟩
        have hil : i < zs.length := by
          have := (List.getElem?_eq_some_iff.1 hz2).1
          rw [iota_length] at this
          exact this
        rw [iota_at _ _ _ hil] at hz2
        injection hz2 with hz2
        subst hz2
        exact ⟨t4 i (by omega), t2 i hil⟩
  · have hz0 : zs.length ≤ 0 := by omega
    have HZ := Lib.hid (show zs.length = 0 by omega)
    go_enter Try.func32, Try.ntmps32
    go_wp2
    go_loop [1, 5] (fun m i => i = .int .i64 0 ∧ m = .int .i64 k) (fun _ _ => 0)
    case atStart => exact ⟨rfl, rfl⟩
    case round =>
      obtain ⟨rfl, rfl⟩ := hrel
      go_wp2
      go_ret
      refine ⟨ret_intE (by rw [HZ.out]; simp), ?_, Turned.refl _ _, fun _ => Below.refl _ _⟩
      rw [HZ.out]
      exact fun hn => absurd hn (by simp [iota])
set_option maxHeartbeats 400000 in
theorem heldIntS_any (A : Option Addr) (c n B : Nat) (k : Int) (w : World) (hn : n ≤ 1048576) (h0 : 0 ≤ k) (h1 : k ≤ 1099511627776) (hS : IntS w B A (iota k n)) :
    Calls Try.prog 33 #[.slice A n c, .int .i64 k] w fun e w' => e = .returned (.int .i64 (k + n)) ∧ w = w' := by
  have HS := Lib.hid hS
  clear hS
  have hL := Lib.hid (iota_length k n)
  go_enter Try.func33, Try.ntmps33
  go_wp2
  go_loop [1, 5] (fun m i => ∃ j : Nat, j ≤ n ∧ i = .int .i64 j ∧ m = .int .i64 (k + j)) (fun _ i => n - (intOf i).toNat)
  case atStart => exact ⟨0, Nat.zero_le _, rfl, by simp⟩
  case round =>
    obtain ⟨j, hj, rfl, rfl⟩ := hrel
    by_cases hlt2 : j < n
    · obtain ⟨b1, o1, x, rfl, hb1, he, hc0⟩ := HS.out.at_ (k := j) (by rw [hL.out]; exact hlt2)
      rw [iota_at _ _ _ hlt2] at he
      injection he with he
      subst he
      have hi0 : (0 : Int) ≤ (j : Int) := Int.natCast_nonneg _
      have hi1 : (j : Int) < (n : Int) := by omega
      go_wp2
      exact ⟨⟨j + 1, by omega, by go_num, by congr 1; omega⟩, by simp [intOf]; omega⟩
    · have HJ := Lib.hid (show j = n by omega)
      go_wp2
      go_ret
      exact ⟨ret_intE (by rw [HJ.out]), rfl⟩
end Go.Proofs.Ytbmihbbpdmpmpaa
