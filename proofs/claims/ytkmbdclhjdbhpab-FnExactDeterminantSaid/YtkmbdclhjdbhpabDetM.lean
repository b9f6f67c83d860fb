/- Determinants, the plain math: expansion along the first row and along the last row agree. -/
namespace Go.Proofs.Ytkmbdclhjdbhpab

/-- the sum of f over 0 .. n - 1 -/
def sumN : Nat → (Nat → Int) → Int
  | 0, _ => 0
  | n + 1, f => sumN n f + f n
theorem sumN_congr {f g : Nat → Int} : ∀ n : Nat, (∀ i, i < n → f i = g i) → sumN n f = sumN n g
  | 0, _ => rfl
  | n + 1, h => by rw [sumN, sumN, sumN_congr n (fun i hi => h i (by omega)), h n (by omega)]
theorem sumN_add (f g : Nat → Int) : ∀ n, sumN n (fun i => f i + g i) = sumN n f + sumN n g
  | 0 => rfl
  | n + 1 => by rw [sumN, sumN, sumN, sumN_add f g n]; omega
theorem sumN_mul (c : Int) (f : Nat → Int) : ∀ n, sumN n (fun i => c * f i) = c * sumN n f
  | 0 => by simp [sumN]
  | n + 1 => by rw [sumN, sumN, sumN_mul c f n, Int.mul_add]
theorem sumN_zero : ∀ n, sumN n (fun _ => 0) = 0
  | 0 => rfl
  | n + 1 => by rw [sumN, sumN_zero n]; rfl
theorem sumN_swap (F : Nat → Nat → Int) : ∀ n m, sumN n (fun i => sumN m (fun j => F i j)) = sumN m (fun j => sumN n (fun i => F i j))
  | 0, m => by simp only [sumN]; rw [sumN_zero]
  | n + 1, m => by
    rw [sumN, sumN_swap F n m]
    simp only [sumN]
    rw [sumN_add]
theorem sumN_one {f : Nat → Int} {a : Nat} : ∀ n, a < n → (∀ i, i < n → i ≠ a → f i = 0) → sumN n f = f a
  | 0, h, _ => by omega
  | n + 1, h, h0 => by
    rw [sumN]
    by_cases e : a = n
    · subst e
      rw [sumN_congr a (g := fun _ => 0) (fun i hi => h0 i (by omega) (by omega)), sumN_zero]
      omega
    · rw [sumN_one n (by omega) (fun i hi => h0 i (by omega)), h0 n (by omega) (Ne.symm e)]
      omega
/-- the j-th of the numbers without a -/
def skip (a j : Nat) : Nat := if j < a then j else j + 1
theorem sumN_skip (h : Nat → Int) {a : Nat} : ∀ n, a ≤ n → sumN (n + 1) h = sumN n (fun j => h (skip a j)) + h a
  | 0, ha => by
    obtain rfl : a = 0 := by omega
    simp [sumN]
  | n + 1, ha => by
    by_cases e : a = n + 1
    · subst e
      rw [sumN, sumN_congr (n + 1) (f := h) (g := fun j => h (skip (n + 1) j)) (fun i hi => by rw [skip, if_pos hi])]
    · rw [sumN, sumN_skip h (a := a) n (by omega), sumN]
      have : skip a n = n + 1 := by rw [skip, if_neg (by omega)]
      rw [this]
      omega
def sgn (n : Nat) : Int := if n % 2 = 0 then 1 else -1
theorem sgn_succ (n : Nat) : sgn (n + 1) = - sgn n := by
  unfold sgn
  by_cases h : n % 2 = 0
  · rw [if_pos h, if_neg (by omega)]
  · rw [if_neg h, if_pos (by omega)]; rfl

/-- expansion along the first row -/
def detF : List (Nat → Int) → List Nat → Int
  | [], _ => 1
  | r :: R, C => sumN C.length fun i => sgn i * r (C.getD i 0) * detF R (C.eraseIdx i)
/-- expansion along the last row; the rows stand in reverse order -/
def detL : List (Nat → Int) → List Nat → Int
  | [], _ => 1
  | r :: R, C => sumN C.length fun i => sgn (C.length - 1 - i) * r (C.getD i 0) * detL R (C.eraseIdx i)

theorem getD_erase (C : List Nat) (a j : Nat) : (C.eraseIdx a).getD j 0 = C.getD (skip a j) 0 := by
  simp only [List.getD, List.getElem?_eraseIdx, skip]
  split <;> rfl
theorem erase_comm (C : List Nat) {a b : Nat} (h : a < b) : (C.eraseIdx a).eraseIdx (b - 1) = (C.eraseIdx b).eraseIdx a := by
  apply List.ext_getElem?
  intro i
  simp only [List.getElem?_eraseIdx]
  by_cases h1 : i < a
  · rw [if_pos (by omega), if_pos h1, if_pos h1, if_pos (by omega)]
  · by_cases h2 : i < b - 1
    · rw [if_pos h2, if_neg h1, if_neg h1, if_pos (by omega)]
    · rw [if_neg h2, if_neg (by omega), if_neg h1, if_neg (by omega)]
theorem erase_len {C : List Nat} {a : Nat} (h : a < C.length) : (C.eraseIdx a).length = C.length - 1 := by rw [List.length_eraseIdx_of_lt h]

/-- one term of the twofold expansion: the first row at column a, the last at column b -/
def term2 (r0 r : Nat → Int) (D : List Nat → Int) (C : List Nat) (n a b : Nat) : Int :=
  if a = b then 0 else if b < a then sgn a * r0 (C.getD a 0) * (sgn (n - b) * r (C.getD b 0) * D ((C.eraseIdx a).eraseIdx b))
  else sgn a * r0 (C.getD a 0) * (sgn (n - (b - 1)) * r (C.getD b 0) * D ((C.eraseIdx a).eraseIdx (b - 1)))
theorem term2_row (r0 r : Nat → Int) (D : List Nat → Int) (C : List Nat) (n a j : Nat) :
    sgn a * r0 (C.getD a 0) * (sgn (n - j) * r ((C.eraseIdx a).getD j 0) * D ((C.eraseIdx a).eraseIdx j)) = term2 r0 r D C n a (skip a j) := by
  rw [getD_erase, term2]
  by_cases h : j < a
  · have hs : skip a j = j := by rw [skip, if_pos h]
    rw [hs, if_neg (by omega), if_pos h]
  · have hs : skip a j = j + 1 := by rw [skip, if_neg h]
    rw [hs, if_neg (by omega), if_neg (by omega), Nat.add_sub_cancel]
theorem mul_swap (s t x y d : Int) : s * x * (t * y * d) = t * y * (s * x * d) := by
  rw [Int.mul_assoc t y d, Int.mul_assoc s x, Int.mul_assoc t y (s * x * d), Int.mul_assoc s x d]
  rw [Int.mul_left_comm x t (y * d), Int.mul_left_comm s t, Int.mul_left_comm x y d, Int.mul_left_comm s y]
theorem term2_col (r0 r : Nat → Int) (D : List Nat → Int) (C : List Nat) (n b i : Nat) (hb : b ≤ n + 1) (hi : i ≤ n) :
    sgn (n + 1 - b) * r (C.getD b 0) * (sgn i * r0 ((C.eraseIdx b).getD i 0) * D ((C.eraseIdx b).eraseIdx i)) = term2 r0 r D C n (skip b i) b := by
  rw [getD_erase, term2]
  by_cases h : i < b
  · have hs : skip b i = i := by rw [skip, if_pos h]
    rw [hs, if_neg (by omega), if_neg (by omega), erase_comm C h, mul_swap]
    have e : n - (b - 1) = n + 1 - b := by omega
    rw [e]
  · have hs : skip b i = i + 1 := by rw [skip, if_neg h]
    rw [hs, if_neg (by omega), if_pos (by omega)]
    have e2 := erase_comm C (a := b) (b := i + 1) (by omega)
    rw [Nat.add_sub_cancel] at e2
    rw [← e2, mul_swap, sgn_succ i]
    have e3 : n + 1 - b = (n - b) + 1 := by omega
    rw [e3, sgn_succ]
    simp only [Int.neg_mul, Int.mul_neg]

theorem det_same : ∀ n (R : List (Nat → Int)) (C : List Nat), R.length = n → C.length = n → detF R C = detL R.reverse C
  | 0, R, C, hR, hC => by
    obtain rfl : R = [] := List.length_eq_zero_iff.1 hR
    rfl
  | 1, R, C, hR, hC => by
    obtain ⟨r, rfl⟩ := List.length_eq_one_iff.1 hR
    simp only [List.reverse_cons, List.reverse_nil, List.nil_append, detF, detL, hC]
    rfl
  | n + 2, R, C, hR, hC => by
    match R, hR with
    | r0 :: Rt, hR =>
      have hRt : Rt.length = n + 1 := by simpa using hR
      obtain ⟨Rm, r, rfl⟩ : ∃ Rm r, Rt = Rm ++ [r] := by
        rcases List.eq_nil_or_concat Rt with h | ⟨L, b, h⟩
        · rw [h] at hRt; simp at hRt
        · exact ⟨L, b, by rw [h, List.concat_eq_append]⟩
      have hRm : Rm.length = n := by simpa using hRt
      have hl : detF (r0 :: (Rm ++ [r])) C = sumN (n + 2) fun a => sumN (n + 2) fun b => term2 r0 r (detL Rm.reverse) C n a b := by
        rw [detF, hC]
        refine sumN_congr _ fun a ha => ?_
        have hCe : (C.eraseIdx a).length = n + 1 := by rw [erase_len (by omega)]; omega
        rw [det_same (n + 1) (Rm ++ [r]) (C.eraseIdx a) hRt hCe, List.reverse_append, List.reverse_singleton, List.singleton_append, detL, hCe, ← sumN_mul,
          sumN_skip (fun b => term2 r0 r (detL Rm.reverse) C n a b) (a := a) (n + 1) (by omega)]
        have h0 : term2 r0 r (detL Rm.reverse) C n a a = 0 := by rw [term2, if_pos rfl]
        rw [h0, Int.add_zero]
        refine sumN_congr _ fun j hj => ?_
        rw [← term2_row]
        rfl
      have hr : detL (r0 :: (Rm ++ [r])).reverse C = sumN (n + 2) fun b => sumN (n + 2) fun a => term2 r0 r (detL Rm.reverse) C n a b := by
        rw [show (r0 :: (Rm ++ [r])).reverse = r :: (r0 :: Rm).reverse by simp, detL, hC]
        refine sumN_congr _ fun b hb => ?_
        have hCe : (C.eraseIdx b).length = n + 1 := by rw [erase_len (by omega)]; omega
        rw [← det_same (n + 1) (r0 :: Rm) (C.eraseIdx b) (by simpa using hRm) hCe, detF, hCe, ← sumN_mul,
          sumN_skip (fun a => term2 r0 r (detL Rm.reverse) C n a b) (a := b) (n + 1) (by omega)]
        have h0 : term2 r0 r (detL Rm.reverse) C n b b = 0 := by rw [term2, if_pos rfl]
        rw [h0, Int.add_zero]
        refine sumN_congr _ fun i hi => ?_
        have hCe2 : ((C.eraseIdx b).eraseIdx i).length = n := by rw [erase_len (by omega), hCe]; omega
        rw [det_same n Rm _ hRm hCe2, ← term2_col r0 r (detL Rm.reverse) C n b i (by omega) (by omega)]
        rfl
      rw [hl, hr, sumN_swap]
end Go.Proofs.Ytkmbdclhjdbhpab
