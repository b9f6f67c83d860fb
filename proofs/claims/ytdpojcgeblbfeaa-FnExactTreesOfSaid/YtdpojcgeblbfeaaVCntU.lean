/- countUp: a window of a list is filled with ascending ints. -/
import Derived.Test.YtdpojcgeblbfeaaVAdv
set_option linter.all false
namespace Go.Proofs.Ytdpojcgeblbfeaa
open Go.RowKit

def ctuL (xs : List Int) (off j : Nat) (first : Int) : List Int := (List.range xs.length).map fun u => if off ≤ u ∧ u < off + j then first + ((u : Int) - (off : Int)) else xs.getD u 0
theorem ctuL_len (xs : List Int) (off j : Nat) (first : Int) : (ctuL xs off j first).length = xs.length := by simp [ctuL]
theorem ctuL_zero (xs : List Int) (off : Nat) (first : Int) : ctuL xs off 0 first = xs := by
  refine List.ext_getElem (ctuL_len _ _ _ _) fun i h1 h2 => ?_
  simp only [ctuL, List.getElem_map, List.getElem_range]
  rw [if_neg (by omega)]
  simp [List.getD, h2]
theorem ctuL_step {xs : List Int} {off j : Nat} {first : Int} (h : off + j < xs.length) : (ctuL xs off j first).set (off + j) (first + (j : Int)) = ctuL xs off (j + 1) first := by
  refine List.ext_getElem (by rw [List.length_set, ctuL_len, ctuL_len]) fun i h1 h2 => ?_
  rw [List.getElem_set]
  simp only [ctuL, List.getElem_map, List.getElem_range]
  by_cases e : off + j = i
  · subst e
    rw [if_pos rfl, if_pos (by omega)]
    omega
  · rw [if_neg e]
    have : (off ≤ i ∧ i < off + j) = (off ≤ i ∧ i < off + (j + 1)) := by apply propext; omega
    simp only [this]
set_option maxRecDepth 100000 in
set_option maxHeartbeats 1000000 in
theorem countUp_any (g off n cap : Nat) (first : Int) (xs : List Int) (w : World) (hn : n ≤ 100) (hf : -1000 ≤ first ∧ first ≤ 1000) (hl : xs.length = off + n) (hB : Blk w g 3 (intCells xs).toArray) :
    Calls Try.prog 86 #[.slice (some ⟨g, off, none⟩) n cap, .int .i64 first] w fun e w' => e = .returned (.tuple #[]) ∧ Blk w' g 3 (intCells (ctuL xs off n first)).toArray ∧ w.grownBy w' (some g) := by
  have HB := Lib.hid hB
  have HL := Lib.hid hl
  clear hB hl
  go_enter Try.func86, Try.ntmps86
  go_wp2_with fail
  go_loopw [4, 7] (fun _ i wr => ∃ j : Nat, j ≤ n ∧ i = .int .i64 (j : Int) ∧ Blk wr g 3 (intCells (ctuL xs off j first)).toArray ∧ w.grownBy wr (some g)) (fun _ i _ => n - (intOf i).toNat)
  case atStart => exact ⟨0, Nat.zero_le _, rfl, by rw [ctuL_zero]; exact HB.out, ⟨rfl, rfl, rfl, Nat.le_refl _, fun _ _ _ => rfl⟩⟩
  case round =>
    obtain ⟨j, hj, rfl, hb, hg⟩ := hrel
    by_cases hlt : j < n
    · have hj0 : (0 : Int) ≤ (j : Int) := Int.natCast_nonneg _
      have hj1 : (j : Int) < (n : Int) := by omega
      have hz : IntKind.i64.wrap (first + (j : Int)) = first + (j : Int) := by rw [IntKind.wrap_i64]; omega
      have hxl := HL.out
      obtain ⟨old, ho⟩ : ∃ old, (intCells (ctuL xs off j first)).toArray[off + j]? = some old := ⟨_, Array.getElem?_eq_getElem (by simp [intCells, ctuL_len]; omega)⟩
      have hc : wr.cell? ⟨g, off + j, none⟩ = some old := by rw [hb.cell]; exact ho
      have hfz := hb.frozen (off + j)
      have hb2 := hb.set_ (off + j) (.int .i64 (first + (j : Int)))
      rw [intCells_set, ctuL_step (by omega)] at hb2
      have HB2 := Lib.hid hb2
      have HG2 := Lib.hid (grownBy_set (o := off + j) (u := .int .i64 (first + (j : Int))) hg)
      clear hb hb2 hg ho hxl
      go_wp2
      exact ⟨⟨j + 1, by omega, by go_num, HB2.out, HG2.out⟩, by simp [intOf]; omega⟩
    · have hj1 : ¬ (j : Int) < (n : Int) := by omega
      have e : j = n := by omega
      have HB2 := Lib.hid (show Blk wr g 3 (intCells (ctuL xs off n first)).toArray from e ▸ hb)
      have HG2 := Lib.hid hg
      clear hb hg e
      go_wp2
      exact ⟨rfl, .tuple #[], by simp [results, Try.results86, go_sem], rfl, HB2.out, HG2.out⟩
end Go.Proofs.Ytdpojcgeblbfeaa
