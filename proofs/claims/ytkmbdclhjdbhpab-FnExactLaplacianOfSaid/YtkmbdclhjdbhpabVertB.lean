/- A vertex of a graph: the plain test and the program's. -/
import Derived.Test.YtkmbdclhjdbhpabEdgesOk
namespace Go.Proofs.Ytkmbdclhjdbhpab
open Go.RowKit

def vB (v N : Int) : Bool := decide (0 ≤ v) && decide (v < N)
theorem vB_t {v N : Int} (h : 0 ≤ v ∧ v < N) : vB v N = true := by simp [vB, h.1, h.2]
theorem vB_f {v N : Int} (h : v < 0 ∨ N ≤ v) : vB v N = false := by
  simp only [vB, Bool.and_eq_false_iff, decide_eq_false_iff_not]
  omega
theorem vB_iff {v N : Int} (h : vB v N = true) : 0 ≤ v ∧ v < N := by simpa [vB] using h
theorem inB_vB (v N : Int) : inB v 0 (N - 1) = vB v N := by
  rw [Bool.eq_iff_iff]
  simp only [inB, vB, Bool.and_eq_true, decide_eq_true_eq]
  omega
set_option maxHeartbeats 400000 in
theorem hasVertex_any (N : Int) (S : Value) (v : Int) (w : World) (hS : ∃ A n c, S = .slice A n c) : Calls Try.prog 69 #[.agg #[.int .i64 N, S], .int .i64 v] w fun e w' => e = .returned (.bool (vB v N)) ∧ Below w.heap.size w w' := by
  obtain ⟨A, n, c, rfl⟩ := hS
  by_cases h : 0 ≤ v
  · by_cases h2 : v < N
    · rw [vB_t ⟨h, h2⟩]
      go_enter Try.func69, Try.ntmps69
      go_wp2
      go_ret
      exact ⟨ret_boolE (by simp), (Below.refl _ _).alloc (Nat.le_refl _) _⟩
    · rw [vB_f (.inr (by omega))]
      have h3 : decide (v < N) = false := decide_eq_false h2
      clear h2
      go_enter Try.func69, Try.ntmps69
      go_wp2
      go_ret
      exact ⟨ret_boolE (by simp), (Below.refl _ _).alloc (Nat.le_refl _) _⟩
  · rw [vB_f (.inl (by omega))]
    have h3 : decide (0 ≤ v) = false := decide_eq_false h
    have h4 : v < 0 := by omega
    clear h
    go_enter Try.func69, Try.ntmps69
    go_wp2
    go_ret
    exact ⟨ret_boolE (by simp), (Below.refl _ _).alloc (Nat.le_refl _) _⟩
end Go.Proofs.Ytkmbdclhjdbhpab
