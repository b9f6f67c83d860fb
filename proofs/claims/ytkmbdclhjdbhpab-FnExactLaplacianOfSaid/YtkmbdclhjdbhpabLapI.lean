/- Matrices in memory of the call's own, written cell by cell (for the program's LaplacianOf). -/
import Derived.Test.YtkmbdclhjdbhpabLapSL
import Derived.Test.YtkmbdclhjdbhpabIntSS
namespace Go.Proofs.Ytkmbdclhjdbhpab
open Go.RowKit

/-- a matrix out of a function of two places -/
def mat (M : Nat) (f : Nat → Nat → Int) : List (List Int) := (List.range M).map fun a => (List.range M).map fun b => f a b
theorem mat_len (M : Nat) (f : Nat → Nat → Int) : (mat M f).length = M := by simp [mat]
theorem mat_at {M : Nat} (f : Nat → Nat → Int) {a : Nat} (h : a < M) : (mat M f)[a]? = some ((List.range M).map fun b => f a b) := by simp [mat, h]
/-- one entry turned -/
def bump (f : Nat → Nat → Int) (a b : Nat) (x : Int) : Nat → Nat → Int := fun i j => if i = a ∧ j = b then x else f i j
theorem mat_bump {M a b : Nat} (f : Nat → Nat → Int) (x : Int) : (mat M f).set a (((List.range M).map fun j => f a j).set b x) = mat M (bump f a b x) := by
  apply List.ext_getElem?
  intro i
  by_cases hi : i < M
  · rw [mat_at _ hi]
    by_cases e : a = i
    · subst e
      rw [List.getElem?_set_self (by rw [mat_len]; exact hi)]
      congr 1
      apply List.ext_getElem?
      intro j
      by_cases hj : j < M
      · by_cases e2 : b = j
        · subst e2
          rw [List.getElem?_set_self (by simpa using hj)]
          simp [bump, hj]
        · rw [List.getElem?_set_ne e2]
          have : ¬ j = b := fun h => e2 h.symm
          simp [bump, hj, this]
      · rw [List.getElem?_eq_none (by simp; omega), List.getElem?_eq_none (by simp; omega)]
    · rw [List.getElem?_set_ne e, mat_at _ hi]
      have : ¬ i = a := fun h => e h.symm
      simp [bump, this]
  · rw [List.getElem?_eq_none (by rw [List.length_set, mat_len]; omega), List.getElem?_eq_none (by rw [mat_len]; omega)]

/-- one cell of one row written -/
theorem RowsTo.write {w : World} {g hi a b : Nat} {rs : List (List Int)} {r : List Int} (h : RowsTo w g hi rs rs.length) (hr : rs[a]? = some r) (x : Int) :
    ∃ ga : Nat, g < ga ∧ ga < hi ∧ w.cell? ⟨g, a, none⟩ = some (.slice (some ⟨ga, 0, none⟩) r.length r.length) ∧ Blk w ga 3 (intCells r).toArray ∧
      RowsTo (w.setCell ⟨ga, b, none⟩ (.int .i64 x)) g hi (rs.set a (r.set b x)) (rs.set a (r.set b x)).length := by
  obtain ⟨vals, G, h1, h2, h3, h4⟩ := h
  have ha : a < rs.length := (List.getElem?_eq_some_iff.1 hr).1
  obtain ⟨q1, q2, q3, q4⟩ := h3 a r ha hr
  refine ⟨G a, q2, q3, ?_, q4, ?_⟩
  · rw [h1.cell, List.getElem?_toArray, List.getElem?_append_left (by omega)]
    exact q1
  · rw [List.length_set]
    refine ⟨vals, G, ?_, h2, fun i p hi' hp => ?_, h4⟩
    · rw [List.length_set]
      exact h1.far (p := ⟨G a, b, none⟩) (by simp only; omega) _
    · by_cases e : a = i
      · subst e
        rw [List.getElem?_set_self ha] at hp
        injection hp with hp
        subst hp
        rw [List.length_set]
        refine ⟨q1, q2, q3, ?_⟩
        have h5 := q4.set_ b (.int .i64 x)
        rw [List.setIfInBounds_toArray] at h5
        have : (intCells r).set b (.int .i64 x) = intCells (r.set b x) := by simp [intCells, List.map_set]
        rwa [this] at h5
      · rw [List.getElem?_set_ne e] at hp
        obtain ⟨p1, p2, p3, p4⟩ := h3 i p hi' hp
        refine ⟨p1, p2, p3, p4.far (p := ⟨G a, b, none⟩) ?_ _⟩
        simp only
        rcases Nat.lt_or_gt_of_ne e with l | l
        · have := h4 a i l hi'; omega
        · have := h4 i a l ha; omega
end Go.Proofs.Ytkmbdclhjdbhpab
