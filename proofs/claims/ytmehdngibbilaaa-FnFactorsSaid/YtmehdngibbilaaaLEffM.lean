/- All effective divisors of a degree, in order: the plain math. -/
import Derived.Test.YtmehdngibbilaaaLBG
namespace Go.Proofs.Ytmehdngibbilaaa
open Go.RowKit

def effB : Nat → Int → List (List Int)
  | 0, _ => []
  | 1, k => if k < 0 then [] else [[k]]
  | n + 2, k => if k < 0 then [] else (List.range (k.toNat + 1)).flatMap fun (x : Nat) => (effB (n + 1) (k - (x : Int))).map fun r => (x : Int) :: r
def effTo (n : Nat) (k : Int) (j : Nat) : List (List Int) := (List.range j).flatMap fun (x : Nat) => (effB (n + 1) (k - (x : Int))).map fun r => (x : Int) :: r
theorem effB_neg {n : Nat} {k : Int} (h : k < 0) : effB n k = [] := by
  cases n with
  | zero => rfl
  | succ n =>
    cases n with
    | zero => rw [effB, if_pos h]
    | succ n => rw [effB, if_pos h]
theorem effB_one {k : Int} (h : 0 ≤ k) : effB 1 k = [[k]] := by rw [effB, if_neg (by omega)]
theorem effB_two {n k : Nat} : effB (n + 2) (k : Int) = effTo n (k : Int) (k + 1) := by
  rw [effB, if_neg (by omega), Int.toNat_natCast]
  rfl
theorem effTo_step (n : Nat) (k : Int) (j : Nat) : effTo n k (j + 1) = effTo n k j ++ (effB (n + 1) (k - (j : Int))).map fun r => (j : Int) :: r := by
  unfold effTo
  rw [List.range_succ, List.flatMap_append]
  simp
theorem effB_mem : ∀ (n : Nat) (k : Int) (r : List Int), r ∈ effB n k → r.length = n ∧ ∀ y ∈ r, 0 ≤ y ∧ y ≤ k
  | 0, _, r, h => by simp [effB] at h
  | 1, k, r, h => by
    rw [effB] at h
    split at h
    · simp at h
    · rw [List.mem_singleton] at h
      subst h
      refine ⟨rfl, fun y hy => ?_⟩
      rw [List.mem_singleton] at hy
      omega
  | n + 2, k, r, h => by
    rw [effB] at h
    split at h
    · simp at h
    · rw [List.mem_flatMap] at h
      obtain ⟨x, hx, h⟩ := h
      rw [List.mem_map] at h
      obtain ⟨p, hp, rfl⟩ := h
      rw [List.mem_range] at hx
      obtain ⟨h1, h2⟩ := effB_mem (n + 1) (k - (x : Int)) p hp
      refine ⟨by simp [h1], fun y hy => ?_⟩
      rw [List.mem_cons] at hy
      rcases hy with rfl | hy
      · omega
      · have := h2 y hy
        omega
theorem effTo_len {n : Nat} {k : Int} {B : Nat} (h : ∀ x : Nat, (effB (n + 1) (k - (x : Int))).length ≤ B) : ∀ j, (effTo n k j).length ≤ j * B
  | 0 => by simp [effTo]
  | j + 1 => by
    have := effTo_len h j
    have := h j
    rw [effTo_step, List.length_append, List.length_map, Nat.add_mul, Nat.one_mul]
    omega
/-! up to the degree 8 -/
end Go.Proofs.Ytmehdngibbilaaa
