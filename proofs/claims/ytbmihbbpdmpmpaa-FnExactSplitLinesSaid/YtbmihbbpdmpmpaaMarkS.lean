/- The laws' marks on slices of strings. -/
import Derived.Test.YtbmihbbpdmpmpaaMarkT
import Derived.Test.YtbmihbbpdmpmpaaKeep
import Derived.Test.YtbmihbbpdmpmpaaStrB
namespace Go.Proofs.Ytbmihbbpdmpmpaa
open Go.RowKit

def markB (k : Nat) : ByteArray := ⟨#[109]⟩ ++ txt k ⟨#[]⟩
def marks (k : Nat) : Nat → List ByteArray
  | 0 => []
  | n + 1 => markB k :: marks (k + 1) n
theorem marks_length : ∀ (k n : Nat), (marks k n).length = n
  | _, 0 => rfl
  | k, n + 1 => by simp [marks, marks_length (k + 1) n]
theorem marks_at : ∀ (k n i : Nat), i < n → (marks k n)[i]? = some (markB (k + i))
  | k, n + 1, 0, _ => by simp [marks]
  | k, n + 1, i + 1, h => by
    rw [marks, List.getElem?_cons_succ, marks_at (k + 1) n i (by omega)]
    congr 2
    omega
/-- a slice of strings in a block of the call's own (from base on) that may be written -/
def OwnT (w : World) (base : Nat) (A : Option Addr) (xs : List ByteArray) : Prop :=
  0 < xs.length → ∃ g off : Nat, A = some ⟨g, off, none⟩ ∧ base ≤ g ∧ g < w.heap.size ∧ ∀ (i : Nat) (z : ByteArray), xs[i]? = some z → w.cell? ⟨g, off + i, none⟩ = some (.string z) ∧ w.frozen? ⟨g, off + i, none⟩ = false
section
variable {w w' : World} {base lo hi : Nat} {A : Option Addr} {xs : List ByteArray}
theorem OwnT.moves (h : OwnT w base A xs) (m : Moves lo hi w w') (h1 : hi ≤ base) : OwnT w' base A xs := fun hn => by
  obtain ⟨k, off, e, h1, hk, hc⟩ := h hn
  have hbl := m.block k hk (.inr (by omega))
  exact ⟨k, off, e, h1, Nat.lt_of_lt_of_le hk m.size, fun i z hz => ⟨(World.cell?_of_block (a := ⟨k, off + i, none⟩) hbl).trans (hc i z hz).1, (World.frozen?_of_block (a := ⟨k, off + i, none⟩) hbl).trans (hc i z hz).2⟩⟩
theorem OwnT.strs (h : OwnT w base A xs) : StrS w w.heap.size A xs := fun hn => by
  obtain ⟨g, off, e, _, hg, hc⟩ := h hn
  exact ⟨g, off, e, hg, fun i z hz => (hc i z hz).1⟩
theorem StrS.moves {B : Nat} (h : StrS w B A xs) (m : Moves lo hi w w') (h1 : B ≤ lo) (h2 : B ≤ w.heap.size) : StrS w' B A xs :=
  h.keep (fun p hp => World.cell?_of_block (m.block p.block (by omega) (.inl (by omega)))) (Nat.le_refl _)
end
set_option maxRecDepth 100000 in
set_option maxHeartbeats 1000000 in
theorem markStringS_any (A : Option Addr) (c base : Nat) (xs : List ByteArray) (k : Nat) (w : World) (hn : xs.length ≤ 2000000) (h0 : 1 ≤ k) (h1 : k ≤ 2097152) (hO : OwnT w base A xs) :
    Calls Try.prog 37 #[.slice A xs.length c, .int .i64 (k : Int)] w fun e w' => e = .returned (.int .i64 ((k + xs.length : Nat) : Int)) ∧ OwnT w' base A (marks k xs.length) ∧ (base ≤ w.heap.size → Below base w w') ∧ w.heap.size ≤ w'.heap.size := by
  by_cases hz : 0 < xs.length
  · obtain ⟨g, off, rfl, hg, hlt, hc⟩ := hO hz
    have HC := Lib.hid hc
    clear hc hO
    go_enter Try.func37, Try.ntmps37
    go_wp2
    go_loopw [1, 5] (fun m i wr => ∃ j : Nat, j ≤ xs.length ∧ i = .int .i64 j ∧ m = .int .i64 ((k + j : Nat) : Int) ∧ Moves g (g + 1) w wr ∧ (∀ i, i < xs.length → ∃ z, wr.cell? ⟨g, off + i, none⟩ = some (.string z) ∧ wr.frozen? ⟨g, off + i, none⟩ = false) ∧ ∀ i, i < j → wr.cell? ⟨g, off + i, none⟩ = some (.string (markB (k + i)))) (fun _ i _ => xs.length - (intOf i).toNat)
    case atStart => exact ⟨0, Nat.zero_le _, rfl, rfl, ⟨rfl, rfl, rfl, Nat.le_refl _, fun _ _ _ => rfl⟩, fun i hi => ⟨_, HC.out i _ (List.getElem?_eq_getElem hi)⟩, fun i hi => absurd hi (by omega)⟩
    case round =>
      obtain ⟨j, hj, rfl, rfl, hmv, hall, hdone⟩ := hrel
      have HM := Lib.hid hmv
      have HA := Lib.hid hall
      have HD := Lib.hid hdone
      clear hmv hall hdone
      by_cases hlt2 : j < xs.length
      · have hi0 : (0 : Int) ≤ (j : Int) := Int.natCast_nonneg _
        have hi1 : (j : Int) < (xs.length : Int) := by omega
        have hk0 : (0 : Int) ≤ ((k + j : Nat) : Int) := Int.natCast_nonneg _
        have hgw : g < wr.heap.size := Nat.lt_of_lt_of_le hlt HM.out.size
        go_wp2_with fail
        refine (markText_any (k + j) _ (by omega) (by omega)).mono ?_
        rintro e w2 ⟨rfl, hb2⟩
        obtain ⟨z, hz1, hz2⟩ := HA.out j hlt2
        have hcl : w2.cell? ⟨g, off + j, none⟩ = some (.string z) := (hb2.cell (p := ⟨g, off + j, none⟩) hgw).trans hz1
        have hfz : w2.frozen? ⟨g, off + j, none⟩ = false := (hb2.frozen (p := ⟨g, off + j, none⟩) hgw).trans hz2
        have HB2 := Lib.hid hb2
        obtain ⟨mk, hmk⟩ : ∃ mk, mk = (⟨#[109]⟩ ++ txt (k + j) ⟨#[]⟩ : ByteArray) := ⟨_, rfl⟩
        rw [← hmk]
        have HMK := Lib.hid hmk
        have HMV : Hid (Moves g (g + 1) w (w2.setCell ⟨g, off + j, none⟩ (.string mk))) := Lib.hid ⟨HB2.out.os.trans HM.out.os, HB2.out.tape.trans HM.out.tape, HB2.out.output.trans HM.out.output, by have := HB2.out.size; have := HM.out.size; simp [World.setCell]; omega, fun i hi ho =>
          (Below.heap_setCell w2 ⟨g, off + j, none⟩ (.string mk) i (by simp only; omega)).trans ((HB2.out.block i (Nat.lt_of_lt_of_le hi HM.out.size)).trans (HM.out.block i hi ho))⟩
        have HALL : Hid (∀ i, i < xs.length → ∃ z, (w2.setCell ⟨g, off + j, none⟩ (.string mk)).cell? ⟨g, off + i, none⟩ = some (.string z) ∧ (w2.setCell ⟨g, off + j, none⟩ (.string mk)).frozen? ⟨g, off + i, none⟩ = false) := Lib.hid (fun i hi => by
          obtain ⟨y, hy1, hy2⟩ := HA.out i hi
          rw [World.frozen?_setCell]
          have hy3 := (HB2.out.frozen (p := ⟨g, off + i, none⟩) hgw).trans hy2
          by_cases e : i = j
          · subst e
            exact ⟨mk, World.cell?_setCell_same _ _ _ hcl, hy3⟩
          · exact ⟨y, by rw [World.cell?_setCell_other _ _ _ _ (by simp only [ne_eq, Addr.mk.injEq]; omega)]; exact (HB2.out.cell (p := ⟨g, off + i, none⟩) hgw).trans hy1, hy3⟩)
        have HDN : Hid (∀ i, i < j + 1 → (w2.setCell ⟨g, off + j, none⟩ (.string mk)).cell? ⟨g, off + i, none⟩ = some (.string (markB (k + i)))) := Lib.hid (fun i hi => by
          by_cases e : i = j
          · subst e
            rw [World.cell?_setCell_same _ _ _ hcl, HMK.out]
            rfl
          · rw [World.cell?_setCell_other _ _ _ _ (by simp only [ne_eq, Addr.mk.injEq]; omega)]
            exact (HB2.out.cell (p := ⟨g, off + i, none⟩) hgw).trans (HD.out i (by omega)))
        clear hmk hb2 hz1 hz2
        go_wp2
        exact ⟨⟨j + 1, by omega, by go_num, by go_num, HMV.out, HALL.out, HDN.out⟩, by simp [intOf]; omega⟩
      · have HJ := Lib.hid (show j = xs.length by omega)
        go_wp2
        go_ret
        refine ⟨ret_intE (by rw [HJ.out]), fun _ => ⟨g, off, rfl, hg, Nat.lt_of_lt_of_le hlt HM.out.size, fun i z hz3 => ?_⟩, fun hb => ⟨HM.out.os, HM.out.tape, HM.out.output, HM.out.size, fun i hi => HM.out.block i (by omega) (.inl (by omega))⟩, HM.out.size⟩
        have hil : i < xs.length := by
          have := (List.getElem?_eq_some_iff.1 hz3).1
          rw [marks_length] at this
          exact this
        rw [marks_at _ _ _ hil] at hz3
        injection hz3 with hz3
        subst hz3
        obtain ⟨_, _, hz4⟩ := HA.out i hil
        exact ⟨HD.out i (by have := HJ.out; omega), hz4⟩
  · have hz0 : xs.length ≤ 0 := by omega
    have HZ := Lib.hid (show xs.length = 0 by omega)
    clear hO
    go_enter Try.func37, Try.ntmps37
    go_wp2
    go_loop [1, 5] (fun m i => i = .int .i64 0 ∧ m = .int .i64 (k : Int)) (fun _ _ => 0)
    case atStart => exact ⟨rfl, rfl⟩
    case round =>
      obtain ⟨rfl, rfl⟩ := hrel
      go_wp2
      go_ret
      refine ⟨ret_intE (by rw [HZ.out]; simp), ?_, fun _ => Below.refl _ _, Nat.le_refl _⟩
      rw [HZ.out]
      exact fun hn => absurd hn (by simp [marks])
end Go.Proofs.Ytbmihbbpdmpmpaa
