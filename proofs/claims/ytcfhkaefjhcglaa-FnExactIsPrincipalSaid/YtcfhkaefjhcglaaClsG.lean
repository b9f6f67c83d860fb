/- The plain facts of the program's ways: reduced divisors that are the same have one degree; a divisor is won if its reduced divisor has no debt. -/
import Derived.Test.YtcfhkaefjhcglaaEinF
import Derived.Test.YtcfhkaefjhcglaaEff
namespace Go.Proofs.Ytcfhkaefjhcglaa
open Go.RowKit

section
variable {M : Nat} {es : List (Int × Int)} {a b d : List Int}
theorem eqv_red (h1 : divB 60 (M : Int) es a = true) (h2 : divB 60 (M : Int) es b = true) (ha : ∃ f, IsRed M es a 0 f) (hb : ∃ f, IsRed M es b 0 f) : eqvB (M : Int) es a b = decide (redR (M : Int) es a 0 = redR (M : Int) es b 0) := by
  by_cases h : redR (M : Int) es a 0 = redR (M : Int) es b 0
  · have h3 := (red_facts h1 ha).2.2.1
    have h4 := (red_facts h2 hb).2.2.1
    exact eqv_t h1 h2 (by rw [← h3, ← h4, h])
  · rw [decide_eq_false h]
    simp [eqvB, h]
theorem posAll_iff {xs : List Int} : posAll xs = true ↔ ∀ x ∈ xs, 0 ≤ x := by
  unfold posAll posB
  rw [List.all_eq_true]
  exact ⟨fun h x hx => of_decide_eq_true (h x hx), fun h x hx => decide_eq_true (h x hx)⟩
theorem win_red (hd : divB 60 (M : Int) es d = true) (hex : ∃ f, IsRed M es d 0 f) : winB (M : Int) es d = posAll (redR (M : Int) es d 0) := by
  obtain ⟨r1, r2, -, -⟩ := red_facts hd hex
  obtain ⟨M', hM, hM0, -⟩ := div_limsB hd
  obtain rfl : M' = M := by omega
  unfold winB
  rw [div_burn hd, Bool.true_and]
  by_cases h : 0 ≤ chipR (M' : Int) es d 0
  · rw [decide_eq_true h]
    refine (posAll_iff.2 fun y hy => ?_).symm
    obtain ⟨u, hu⟩ := List.getElem?_of_mem hy
    have hul := (List.getElem?_eq_some_iff.1 hu).1
    have hg : (redR (M' : Int) es d 0).getD u 0 = y := by simp [List.getD, hu]
    by_cases e : u = 0
    · subst e
      unfold chipR at h
      rw [← hg]
      exact h
    · have := (r2 u (by omega) e).1
      omega
  · rw [decide_eq_false h]
    cases hp : posAll (redR (M' : Int) es d 0) with
    | false => rfl
    | true =>
      exfalso
      refine h (posAll_iff.1 hp _ ?_)
      unfold chipR
      cases hl : redR (M' : Int) es d 0 with
      | nil => rw [hl] at r1; simp at r1; omega
      | cons x l => simp [List.getD]
end
end Go.Proofs.Ytcfhkaefjhcglaa
