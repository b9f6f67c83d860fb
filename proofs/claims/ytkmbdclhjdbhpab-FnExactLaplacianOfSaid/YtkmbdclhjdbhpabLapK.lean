/- The matrix after some of the edges (for the program's LaplacianOf): the plain math. -/
import Derived.Test.YtkmbdclhjdbhpabLapI
namespace Go.Proofs.Ytkmbdclhjdbhpab
open Go.RowKit

/-- the entries after the first k edges -/
def lapK (es : List (Int × Int)) (k : Nat) (a b : Nat) : Int :=
  if a = b then (((es.take k).filter (touch (a : Int))).length : Int) else -((es.take k).count (min (a : Int) (b : Int), max (a : Int) (b : Int)) : Int)
theorem lapK_zero (es : List (Int × Int)) : lapK es 0 = fun _ _ => 0 := by
  funext a b
  simp [lapK]
theorem lapK_bound (es : List (Int × Int)) (k : Nat) (a b : Nat) : -(es.length : Int) ≤ lapK es k a b ∧ lapK es k a b ≤ es.length := by
  unfold lapK
  have hl : (es.take k).length ≤ es.length := by simp; omega
  split
  · have := List.length_filter_le (touch (a : Int)) (es.take k)
    omega
  · have : (es.take k).count (min (a : Int) (b : Int), max (a : Int) (b : Int)) ≤ (es.take k).length := List.count_le_length
    omega
theorem lapK_step {es : List (Int × Int)} {k x y : Nat} (he : es[k]? = some ((x : Int), (y : Int))) (hxy : x < y) :
    lapK es (k + 1) = bump (bump (bump (bump (lapK es k) x x (lapK es k x x + 1)) y y (lapK es k y y + 1)) x y (lapK es k x y - 1)) y x (lapK es k y x - 1) := by
  have hf : ∀ v : Int, ((es.take (k + 1)).filter (touch v)).length = ((es.take k).filter (touch v)).length + if touch v ((x : Int), (y : Int)) = true then 1 else 0 := fun v => by
    rw [List.take_add_one, he]
    simp only [Option.toList, List.filter_append, List.length_append]
    congr 1
    by_cases h : touch v ((x : Int), (y : Int)) = true
    · rw [if_pos h, List.filter_cons_of_pos h]; rfl
    · rw [if_neg h, List.filter_cons_of_neg h]; rfl
  have hc : ∀ f : Int × Int, (es.take (k + 1)).count f = (es.take k).count f + if ((x : Int), (y : Int)) = f then 1 else 0 := fun f => count_snoc he
  funext a b
  by_cases hab : a = b
  · subst hab
    have h1 : lapK es (k + 1) a a = lapK es k a a + if touch (a : Int) ((x : Int), (y : Int)) = true then 1 else 0 := by
      simp only [lapK, if_true]
      rw [hf]
      split <;> simp
    rw [h1]
    by_cases hx : a = x
    · subst hx
      have h2 : ¬ a = y := by omega
      simp [bump, touch, h2]
    · by_cases hy : a = y
      · subst hy
        simp [bump, touch, hx]
      · have h3 : ¬ (x : Int) = (a : Int) := by omega
        have h4 : ¬ (y : Int) = (a : Int) := by omega
        simp [bump, touch, hx, hy, h3, h4]
  · have h1 : lapK es (k + 1) a b = lapK es k a b - if ((x : Int), (y : Int)) = (min (a : Int) (b : Int), max (a : Int) (b : Int)) then 1 else 0 := by
      simp only [lapK, if_neg hab]
      rw [hc]
      split <;> simp <;> omega
    rw [h1]
    by_cases hx : a = x ∧ b = y
    · obtain ⟨rfl, rfl⟩ := hx
      have h2 : ¬ b = a := by omega
      have e1 : min (a : Int) (b : Int) = a := by omega
      have e2 : max (a : Int) (b : Int) = b := by omega
      simp [bump, hab, h2, e1, e2]
    · by_cases hy : a = y ∧ b = x
      · obtain ⟨rfl, rfl⟩ := hy
        have h2 : ¬ b = a := by omega
        have e1 : min (a : Int) (b : Int) = b := by omega
        have e2 : max (a : Int) (b : Int) = a := by omega
        simp [bump, e1, e2]
      · have hne : ¬ (((x : Int), (y : Int)) = (min (a : Int) (b : Int), max (a : Int) (b : Int))) := by
          intro h
          injection h with h3 h4
          rcases Nat.lt_or_gt_of_ne hab with l | l
          · exact hx ⟨by omega, by omega⟩
          · exact hy ⟨by omega, by omega⟩
        rw [if_neg hne]
        have g1 : ¬ (a = x ∧ b = x) := fun h => hab (h.1.trans h.2.symm)
        have g2 : ¬ (a = y ∧ b = y) := fun h => hab (h.1.trans h.2.symm)
        simp only [bump, if_neg hx, if_neg hy, if_neg g1, if_neg g2]
        omega
theorem lapK_all (M : Nat) (es : List (Int × Int)) : mat M (lapK es es.length) = lapM M es := by
  apply List.ext_getElem?
  intro a
  by_cases ha : a < M
  · rw [mat_at _ ha, lapM_at es ha]
    congr 1
    apply List.ext_getElem?
    intro b
    by_cases hb : b < M
    · rw [lapR_at es a hb, List.getElem?_map, List.getElem?_range hb]
      simp only [Option.map_some, Option.some.injEq]
      unfold lapK lapE
      by_cases hab : a = b
      · rw [if_pos hab, if_pos hab, List.take_length, valB_yes (vB_t (by omega))]
      · rw [if_neg hab, if_neg hab, List.take_length, multB_yes (vB_t (by omega)) (vB_t (by omega)) (by omega)]
    · rw [List.getElem?_eq_none (by simp; omega), List.getElem?_eq_none (by rw [lapR_len]; omega)]
  · rw [List.getElem?_eq_none (by rw [mat_len]; omega), List.getElem?_eq_none (by rw [lapM_len]; omega)]
end Go.Proofs.Ytkmbdclhjdbhpab
