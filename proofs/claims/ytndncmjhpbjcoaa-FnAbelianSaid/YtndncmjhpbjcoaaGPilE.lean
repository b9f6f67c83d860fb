/- Sandpiles: IsStable, Stabilize, AvalancheSize: the specification's side. -/
import Derived.OwnWalk
import Derived.Test.YtndncmjhpbjcoaaGPilD
import Derived.Test.YtndncmjhpbjcoaaGBJ
set_option linter.all false
namespace Go.Proofs.Ytndncmjhpbjcoaa
open Go.RowKit

noncomputable def stableB (N : Int) (es : List (Int × Int)) (p : List Int) (q : Int) : Bool := pileB N es p q && decide (unsF N.toNat q.toNat es p = none)
noncomputable def stabX (N : Int) (es : List (Int × Int)) (p : List Int) (q : Int) : List Int := if pileB N es p q = true then pileL N.toNat es p q.toNat (settN N.toNat es p q.toNat) else []
noncomputable def stabC (N : Int) (es : List (Int × Int)) (p : List Int) (q : Int) : List Int := if pileB N es p q = true then cntL N.toNat (settN N.toNat es p q.toNat) else []
noncomputable def avalC (N : Int) (es : List (Int × Int)) (p : List Int) (q : Int) : Int := if pileB N es p q = true then sumV (settN N.toNat es p q.toNat) N.toNat else -1
theorem stabX_f {N : Int} {es : List (Int × Int)} {p : List Int} {q : Int} (h : pileB N es p q = false) : stabX N es p q = [] := by rw [stabX, if_neg (by rw [h]; decide)]
theorem stabC_f {N : Int} {es : List (Int × Int)} {p : List Int} {q : Int} (h : pileB N es p q = false) : stabC N es p q = [] := by rw [stabC, if_neg (by rw [h]; decide)]
theorem avalC_f {N : Int} {es : List (Int × Int)} {p : List Int} {q : Int} (h : pileB N es p q = false) : avalC N es p q = -1 := by rw [avalC, if_neg (by rw [h]; decide)]
theorem stabX_t {M k : Nat} {es : List (Int × Int)} {p : List Int} (h : pileB (M : Int) es p (k : Int) = true) : stabX (M : Int) es p (k : Int) = pileL M es p k (settN M es p k) := by rw [stabX, if_pos h]; rfl
theorem stabC_t {M k : Nat} {es : List (Int × Int)} {p : List Int} (h : pileB (M : Int) es p (k : Int) = true) : stabC (M : Int) es p (k : Int) = cntL M (settN M es p k) := by rw [stabC, if_pos h]; rfl
theorem avalC_t {M k : Nat} {es : List (Int × Int)} {p : List Int} (h : pileB (M : Int) es p (k : Int) = true) : avalC (M : Int) es p (k : Int) = sumV (settN M es p k) M := by rw [avalC, if_pos h]; rfl
theorem deg_cnt {n : Nat → Int} (h : ∀ u, 0 ≤ n u ∧ n u ≤ 2160) {M : Nat} (hM : M ≤ 6) : degB (cntL M n) M = sumV n M := by
  have key : ∀ k, k ≤ M → degB (cntL M n) k = sumV n k ∧ 0 ≤ sumV n k ∧ sumV n k ≤ 2160 * (k : Int) := fun k => by
    induction k with
    | zero => exact fun _ => ⟨rfl, Int.le_refl _, by simp [sumV]⟩
    | succ k ih =>
      intro hk
      obtain ⟨h1, h2, h3⟩ := ih (by omega)
      have h4 := h k
      have h5 : (cntL M n).getD k 0 = n k := by rw [List.getD, cntL_at (by omega)]; rfl
      rw [degB, sumV, h1, h5]
      exact ⟨wrap64_of (by omega) (by omega), by omega, by omega⟩
  exact (key M (Nat.le_refl _)).1
def GivesTwoOk (w : World) (xs ys : List Int) (b : Bool) (e : Ending) (w' : World) : Prop :=
  ∃ (A1 A2 : Option Addr) (c1 c2 : Nat), e = .returned (.tuple #[.slice A1 xs.length c1, .slice A2 ys.length c2, .bool b]) ∧ OwnI w' w.heap.size A1 xs ∧ OwnI w' w.heap.size A2 ys ∧ (0 < xs.length → 0 < ys.length → ∀ g1 o1 g2 o2, A1 = some ⟨g1, o1, none⟩ → A2 = some ⟨g2, o2, none⟩ → g1 ≠ g2) ∧ Below w.heap.size w w'
end Go.Proofs.Ytndncmjhpbjcoaa
