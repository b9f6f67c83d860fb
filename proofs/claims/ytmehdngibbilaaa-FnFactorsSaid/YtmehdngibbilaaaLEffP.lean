/- All effective divisors of a degree: which they are, and their order. -/
import Derived.Test.YtmehdngibbilaaaLEffM
namespace Go.Proofs.Ytmehdngibbilaaa
open Go.RowKit

theorem effB_sum : ∀ (n : Nat) (k : Int) (r : List Int), r ∈ effB n k → r.sum = k
  | 0, _, r, h => by simp [effB] at h
  | 1, k, r, h => by
    rw [effB] at h
    split at h
    · simp at h
    · rw [List.mem_singleton] at h
      subst h
      simp
  | n + 2, k, r, h => by
    rw [effB] at h
    split at h
    · simp at h
    · rw [List.mem_flatMap] at h
      obtain ⟨x, hx, h⟩ := h
      rw [List.mem_map] at h
      obtain ⟨p, hp, rfl⟩ := h
      have := effB_sum (n + 1) (k - (x : Int)) p hp
      rw [List.sum_cons]
      omega
theorem sum_pos : ∀ {r : List Int}, (∀ y ∈ r, 0 ≤ y) → 0 ≤ r.sum
  | [], _ => by simp
  | x :: l, h => by
    have h1 := h x (by simp)
    have h2 := sum_pos (r := l) (fun y hy => h y (by simp [hy]))
    rw [List.sum_cons]
    omega
theorem effB_in : ∀ (n : Nat) (k : Int) (r : List Int), r.length = n + 1 → (∀ y ∈ r, 0 ≤ y) → r.sum = k → r ∈ effB (n + 1) k
  | 0, k, r, hl, hp, hs => by
    obtain ⟨x, rfl⟩ := List.length_eq_one_iff.1 hl
    have h1 := hp x (by simp)
    simp at hs
    subst hs
    rw [effB_one h1]
    simp
  | n + 1, k, r, hl, hp, hs => by
    cases r with
    | nil => simp at hl
    | cons x p =>
      have h1 := hp x (by simp)
      have h2 := sum_pos (r := p) (fun y hy => hp y (by simp [hy]))
      rw [List.sum_cons] at hs
      have h3 := effB_in n (k - x) p (by simpa using hl) (fun y hy => hp y (by simp [hy])) (by omega)
      rw [effB, if_neg (by omega), List.mem_flatMap]
      refine ⟨x.toNat, by rw [List.mem_range]; omega, ?_⟩
      rw [List.mem_map]
      have h4 : ((x.toNat : Nat) : Int) = x := by omega
      exact ⟨p, by rw [h4]; exact h3, by rw [h4]⟩
def lexLt : List Int → List Int → Prop
  | x :: a, y :: b => x < y ∨ (x = y ∧ lexLt a b)
  | _, _ => False
theorem effB_sorted : ∀ (n : Nat) (k : Int), (effB n k).Pairwise lexLt
  | 0, _ => by simp [effB]
  | 1, k => by
    rw [effB]
    split <;> simp
  | n + 2, k => by
    rw [effB]
    split
    · simp
    · rw [List.pairwise_flatMap]
      refine ⟨fun x _ => ?_, ?_⟩
      · rw [List.pairwise_map]
        exact (effB_sorted (n + 1) _).imp fun h => Or.inr ⟨rfl, h⟩
      · refine List.pairwise_lt_range.imp fun {a b} h x hx y hy => ?_
        obtain ⟨p, _, rfl⟩ := List.mem_map.1 hx
        obtain ⟨q, _, rfl⟩ := List.mem_map.1 hy
        exact Or.inl (by omega)
end Go.Proofs.Ytmehdngibbilaaa
