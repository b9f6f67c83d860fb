/- Sandpiles: the program's Topple. -/
import Derived.Test.YtndncmjhpbjcoaaKTopI
import Derived.Test.YtndncmjhpbjcoaaKPilB
set_option linter.all false
namespace Go.Proofs.Ytndncmjhpbjcoaa
open Go.RowKit

theorem chips_self {P : List Int} {M : Nat} (hl : P.length = M) (hb : ∀ u, -100000 ≤ P.getD u 0 ∧ P.getD u 0 ≤ 100000) : chipsOf M (fun u => P.getD u 0) = P := by
  refine List.ext_getElem (by rw [chipsOf_len, hl]) fun u h1 h2 => ?_
  have e : P.getD u 0 = P[u] := by simp [List.getD, h2]
  have := hb u
  simp only [chipsOf, List.getElem_map, List.getElem_range]
  rw [wrap64_of (by omega) (by omega), e]
theorem top_board {M q v : Nat} {es : List (Int × Int)} {p : List Int} {n : Nat → Int} (h : PileL M q es p) (ht : Tops M es p q n) : (chipsOf M (fireF (fun u => (pileL M es p q n).getD u 0) (v : Int) 1 es)).set q 0 = pileL M es p q (addAt n v 1) := by
  have hb := ht.chips h
  refine List.ext_getElem (by rw [List.length_set, chipsOf_len, pileL_len]) fun u h1 h2 => ?_
  have hu : u < M := by rw [List.length_set, chipsOf_len] at h1; exact h1
  have e2 : (pileL M es p q (addAt n v 1))[u] = (pileL M es p q (addAt n v 1)).getD u 0 := by simp [List.getD, h2]
  rw [e2, ← pileL_top h.ed hu]
  simp only [List.getElem_set]
  by_cases e : q = u
  · rw [if_pos e, if_pos e.symm]
  · rw [if_neg e, if_neg (fun x => e x.symm)]
    simp only [fireF, chipsOf, List.getElem_map, List.getElem_range]
    rw [pileL_get hu, if_neg (fun x => e x.symm)]
    have h3 : -(12 : Int) ≤ nets (v : Int) u es ∧ nets (v : Int) u es ≤ 100000 := by
      have h12 := h.n12
      have k1 := nets_self v es fun x hx => (h.ed x hx).2.1
      by_cases k : u = v
      · subst k; omega
      · have k2 := nets_other v u k es
        have k3 := nets_cap v u es
        omega
    have h4 := hb u
    rw [Int.one_mul]
    exact wrap64_of (by omega) (by omega)
theorem pile_bound {M q : Nat} {es : List (Int × Int)} {p : List Int} {n : Nat → Int} (h : PileL M q es p) (ht : Tops M es p q n) (u : Nat) : -100000 ≤ (pileL M es p q n).getD u 0 ∧ (pileL M es p q n).getD u 0 ≤ 100000 := by
  have hb := ht.chips h u
  by_cases hu : u < M
  · rw [pileL_get hu]
    split <;> omega
  · have : (pileL M es p q n).getD u 0 = 0 := by rw [List.getD, List.getElem?_eq_none (by rw [pileL_len]; omega)]; rfl
    omega
end Go.Proofs.Ytndncmjhpbjcoaa
