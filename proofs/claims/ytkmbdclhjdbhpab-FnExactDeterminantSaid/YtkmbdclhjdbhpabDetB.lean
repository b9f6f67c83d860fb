/- Minors by sets of columns, the plain math: a set of columns is a number whose bits they are. -/
import Derived.Test.YtkmbdclhjdbhpabDetM
namespace Go.Proofs.Ytkmbdclhjdbhpab

def bitsN (n T : Nat) : List Nat := (List.range n).filter fun c => T.testBit c
/-- how many of the six lowest bits are set -/
def ones (x : Nat) : Nat := ((List.range 6).filter fun c => x.testBit c).length
theorem bit_with : ∀ T, T < 64 → ∀ c, c < 6 → T.testBit c = true → T ^^^ (1 <<< c) ≤ T ∧ (T ^^^ (1 <<< c)).testBit c = false ∧ (T ^^^ (1 <<< c)) ||| (1 <<< c) = T := by decide +kernel
theorem bit_only : ∀ S, S < 64 → ∀ c, c < 6 → S.testBit c = false → (S ||| (1 <<< c)).testBit c = true ∧ (S ||| (1 <<< c)) ^^^ (1 <<< c) = S := by decide +kernel
theorem bit_lt : ∀ n, n ≤ 6 → ∀ S, S < 2 ^ n → ∀ c, c < n → S ||| (1 <<< c) < 2 ^ n := by decide +kernel
theorem bit_list : ∀ n, n ≤ 6 → ∀ T, T < 2 ^ n → ∀ i, i < (bitsN n T).length → (bitsN n T).getD i 0 < n ∧ T.testBit ((bitsN n T).getD i 0) = true ∧
    bitsN n (T ^^^ (1 <<< (bitsN n T).getD i 0)) = (bitsN n T).eraseIdx i ∧ ones ((T ^^^ (1 <<< (bitsN n T).getD i 0)) >>> ((bitsN n T).getD i 0)) = (bitsN n T).length - 1 - i := by decide +kernel
theorem sum_filter (p : Nat → Bool) (h : Nat → Int) : ∀ n, sumN n (fun c => if p c = true then h c else 0) = sumN ((List.range n).filter p).length fun i => h (((List.range n).filter p).getD i 0)
  | 0 => by simp [sumN]
  | n + 1 => by
    rw [sumN, sum_filter p h n, List.range_succ, List.filter_append]
    cases hp : p n with
    | false => simp [hp]
    | true =>
      have e : [n].filter p = [n] := by simp [hp]
      rw [e, List.length_append, List.length_singleton, sumN, if_pos rfl]
      congr 1
      · refine sumN_congr _ fun i hi => ?_
        congr 1
        simp only [List.getD]
        rw [List.getElem?_append_left hi]
      · congr 1
        simp [List.getD]
/-- what the set S with the column c gives to the set T -/
def gives (r A : Nat → Int) (T S c : Nat) : Int := if S.testBit c = false ∧ S ||| (1 <<< c) = T then sgn (ones (S >>> c)) * r c * A S else 0
theorem gives_all (r A : Nat → Int) {n T : Nat} (hn : n ≤ 6) (hT : T < 2 ^ n) : sumN (2 ^ n) (fun S => sumN n fun c => gives r A T S c) =
    sumN (bitsN n T).length fun i => sgn ((bitsN n T).length - 1 - i) * r ((bitsN n T).getD i 0) * A (T ^^^ (1 <<< (bitsN n T).getD i 0)) := by
  have h64 : 2 ^ n ≤ 64 := Nat.pow_le_pow_right (by omega) hn
  rw [sumN_swap]
  have h1 : sumN n (fun c => sumN (2 ^ n) fun S => gives r A T S c) = sumN n fun c => if T.testBit c = true then sgn (ones ((T ^^^ (1 <<< c)) >>> c)) * r c * A (T ^^^ (1 <<< c)) else 0 := by
    refine sumN_congr n fun c hc => ?_
    cases ht : T.testBit c with
    | true =>
      obtain ⟨b1, b2, b3⟩ := bit_with T (by omega) c (by omega) ht
      rw [if_pos rfl, sumN_one (a := T ^^^ (1 <<< c)) (2 ^ n) (by omega) (fun S hS hne => ?_), gives, if_pos ⟨b2, b3⟩]
      rw [gives, if_neg]
      rintro ⟨s1, s2⟩
      have := (bit_only S (by omega) c (by omega) s1).2
      rw [s2] at this
      exact hne this.symm
    | false =>
      rw [if_neg (by simp), sumN_congr (2 ^ n) (g := fun _ => 0) (fun S hS => ?_), sumN_zero]
      rw [gives, if_neg]
      rintro ⟨s1, s2⟩
      have := (bit_only S (by omega) c (by omega) s1).1
      rw [s2, ht] at this
      cases this
  rw [h1, sum_filter (fun c => T.testBit c) (fun c => sgn (ones ((T ^^^ (1 <<< c)) >>> c)) * r c * A (T ^^^ (1 <<< c))) n]
  refine sumN_congr _ fun i hi => ?_
  have hb := bit_list n hn T hT i hi
  have hq := hb.2.2.2
  unfold bitsN at hq ⊢
  rw [hq]
/-- the minor of the rows R (the last one first) and the columns of S -/
def minorA (n : Nat) (R : List (Nat → Int)) (S : Nat) : Int := if (bitsN n S).length = R.length then detL R (bitsN n S) else 0
theorem minorA_step {n T : Nat} (r : Nat → Int) (R : List (Nat → Int)) (hn : n ≤ 6) (hT : T < 2 ^ n) : sumN (2 ^ n) (fun S => sumN n fun c => gives r (minorA n R) T S c) = minorA n (r :: R) T := by
  rw [gives_all r (minorA n R) hn hT]
  have hA : ∀ i, i < (bitsN n T).length → minorA n R (T ^^^ (1 <<< (bitsN n T).getD i 0)) = if (bitsN n T).length = R.length + 1 then detL R ((bitsN n T).eraseIdx i) else 0 := fun i hi => by
    rw [minorA, (bit_list n hn T hT i hi).2.2.1, List.length_eraseIdx_of_lt hi]
    have e : ((bitsN n T).length - 1 = R.length) = ((bitsN n T).length = R.length + 1) := by apply propext; omega
    simp only [e]
  rw [minorA, List.length_cons]
  by_cases h : (bitsN n T).length = R.length + 1
  · rw [if_pos h, detL]
    refine sumN_congr _ fun i hi => ?_
    rw [hA i hi, if_pos h]
  · rw [if_neg h, sumN_congr _ (g := fun _ => 0) (fun i hi => by rw [hA i hi, if_neg h, Int.mul_zero]), sumN_zero]
theorem minorA_none {n S : Nat} (hn : n ≤ 6) (hS : S < 2 ^ n) : minorA n [] S = if S = 0 then 1 else 0 := by
  have h : ∀ n, n ≤ 6 → ∀ S, S < 2 ^ n → ((bitsN n S).length = 0 ↔ S = 0) := by decide +kernel
  rw [minorA, List.length_nil]
  simp only [h n hn S hS]
  rfl
theorem bits_all : ∀ n, n ≤ 6 → bitsN n (2 ^ n - 1) = List.range n := by decide +kernel
theorem minorA_all {n : Nat} (rows : List (Nat → Int)) (hn : n ≤ 6) (hl : rows.length = n) : minorA n rows.reverse (2 ^ n - 1) = detF rows (List.range n) := by
  rw [minorA, bits_all n hn, if_pos (by simp [hl]), det_same n rows _ hl (by simp)]
end Go.Proofs.Ytkmbdclhjdbhpab
