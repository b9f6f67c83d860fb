/- Recurrent configurations: the class's own, sums, and their group. -/
import Derived.Test.YtndncmjhpbjcoaaRRecN
set_option linter.all false
namespace Go.Proofs.Ytndncmjhpbjcoaa
open Go.RowKit

section
variable {M q : Nat} {es : List (Int × Int)} {a b c p : List Int} {n n0 : Nat → Int}
noncomputable def recC (M q : Nat) (es : List (Int × Int)) (p : List Int) : List Int := dualL M q es (chipsOf M (Dv (dualL M q es p) es (redF M es (dualL M q es p) q)))
theorem dual_lim (hes : ∀ e ∈ es, 0 ≤ e.1 ∧ e.1 < e.2 ∧ e.2 < (M : Int)) (hn : es.length ≤ 12) {K : Int} (hK : 0 ≤ K) (hp : ∀ u, -K ≤ p.getD u 0 ∧ p.getD u 0 ≤ K) (u : Nat) : -(K + 1) ≤ (dualL M q es p).getD u 0 ∧ (dualL M q es p).getD u 0 ≤ K + 12 := by
  by_cases hu : u < M
  · rw [dual_get hu]
    have := valP_lim u es fun e he => (hes e he).2.1
    have := hp u
    split <;> omega
  · simp [List.getD, List.getElem?_eq_none (show (dualL M q es p).length ≤ u by rw [dual_len]; omega)]
    omega
theorem recC_len : (recC M q es p).length = M := dual_len _ _ _ _
end
end Go.Proofs.Ytndncmjhpbjcoaa
