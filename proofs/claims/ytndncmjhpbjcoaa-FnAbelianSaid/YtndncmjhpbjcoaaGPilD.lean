/- Sandpiles: stabilizing: the specification's side. -/
import Derived.Test.YtndncmjhpbjcoaaGPilC
import Derived.Test.YtndncmjhpbjcoaaGBI
set_option linter.all false
namespace Go.Proofs.Ytndncmjhpbjcoaa
open Go.RowKit

theorem stab_of {M q : Nat} {es : List (Int × Int)} {p : List Int} {n : Nat → Int} (h : unsF M q es (pileL M es p q n) = none) : Stab M es p q n := fun v hv hq => by
  have := unsF_none h v hv hq
  rwa [pileL_get hv, if_neg hq] at this
theorem tops_of {M q v : Nat} {es : List (Int × Int)} {p : List Int} {n : Nat → Int} (ht : Tops M es p q n) (h : unsF M q es (pileL M es p q n) = some v) : v < M ∧ v ≠ q ∧ Tops M es p q (addAt n v 1) := by
  obtain ⟨h1, h2, h3⟩ := unsF_some h
  rw [pileL_get h1, if_neg h2] at h3
  exact ⟨h1, h2, ht.step h1 h2 h3⟩
end Go.Proofs.Ytndncmjhpbjcoaa
