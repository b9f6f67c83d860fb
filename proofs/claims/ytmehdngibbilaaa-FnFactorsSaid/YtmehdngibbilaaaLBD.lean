/- One text out of several: MatOk DetM DetB InvM Ones DetI DetD DetS DetL. -/
import Derived.Test.YtmehdngibbilaaaLBA
import Derived.Test.YtmehdngibbilaaaLBF
import Derived.Test.YtmehdngibbilaaaLBG
import Derived.Deep.CutRange
import Derived.Deep.AppendLies
import Derived.Deep.RegionLaw
/- MatrixOk: the specification's loops and the program's answer alike: one plain Bool function of the rows. -/
namespace Go.Proofs.Ytmehdngibbilaaa
open Go.RowKit

def entryOk (z : Int) : Bool := decide (-500 ≤ z) && decide (z ≤ 500)
def rowOk (n : Nat) (r : List Int) : Bool := decide (r.length = n) && r.all entryOk
def matB (rs : List (List Int)) : Bool := decide (rs.length ≤ 6) && rs.all (rowOk rs.length)
theorem matB_size {rs : List (List Int)} (h : 6 < rs.length) : matB rs = false := by
  simp only [matB, Bool.and_eq_false_iff, decide_eq_false_iff_not]
  omega
theorem matB_miss {rs : List (List Int)} {k : Nat} {r : List Int} (he : rs[k]? = some r) (h : rowOk rs.length r = false) : matB rs = false := by
  have : rs.all (rowOk rs.length) = false := by
    rw [List.all_eq_false]
    exact ⟨r, List.mem_of_getElem? he, by simp [h]⟩
  simp [matB, this]
theorem matB_all {rs : List (List Int)} (h1 : rs.length ≤ 6) (h : rs.all (rowOk rs.length) = true) : matB rs = true := by simp [matB, h1, h]
theorem rowOk_len {n : Nat} {r : List Int} (h : r.length ≠ n) : rowOk n r = false := by simp [rowOk, h]
theorem rowOk_all {n : Nat} {r : List Int} (h1 : r.length = n) (h : r.all entryOk = true) : rowOk n r = true := by simp [rowOk, h1, h]
theorem within_entry : within 500 = entryOk := rfl
set_option maxHeartbeats 1000000 in
theorem implMatrixOk (A : Option Addr) (c : Nat) (rs : List (List Int)) (w : World) (hn : rs.length ≤ 9223372036854775807) (hl : ∀ r ∈ rs, r.length ≤ 9223372036854775807) (hS : IntSS w w.heap.size A rs) :
    Calls Try.prog 59 #[.slice A rs.length c] w fun e w' => e = .returned (.bool (matB rs)) ∧ Below w.heap.size w w' := by
  have HS := Lib.hid hS
  have HL := Lib.hid hl
  clear hS hl
  by_cases h6 : 6 < rs.length
  · have H := Lib.hid (matB_size h6)
    go_enter Try.func59, Try.ntmps59
    go_wp2
    go_ret
    exact ⟨ret_boolE H.out.symm, Below.refl _ _⟩
  have h6' : rs.length ≤ 6 := by omega
  clear h6
  go_enter Try.func59, Try.ntmps59
  go_wp2
  go_loopw [10] (fun i wr => ∃ k : Nat, k ≤ rs.length ∧ i = .int .i64 k ∧ (rs.take k).all (rowOk rs.length) = true ∧ Below w.heap.size w wr) (fun i _ => rs.length - (intOf i).toNat)
  case atStart => exact ⟨0, Nat.zero_le _, rfl, rfl, Below.refl _ _⟩
  case round =>
    obtain ⟨k, hk, rfl, hall, hb⟩ := hrel
    have HA := Lib.hid hall
    clear hall
    by_cases hlt : k < rs.length
    · obtain ⟨b1, o1, r, Ai, ci, rfl, hb1, he, hc0, hri⟩ := (HS.out.below hb).at_ hlt
      have hi0 : (0 : Int) ≤ (k : Int) := Int.natCast_nonneg _
      have hi1 : (k : Int) < (rs.length : Int) := by omega
      have hrl := HL.out r (List.mem_of_getElem? he)
      have HX := Lib.hid he
      by_cases hlen : r.length = rs.length
      · have t1 : ((r.length : Int) != (rs.length : Int)) = false := by simp [hlen]
        have HLN := Lib.hid hlen
        have HCF := Lib.hid (areWithin_any Ai ci _ r 500 wr (by omega) (by omega) (by omega) hri)
        rw [within_entry] at HCF
        clear hlen he hri
        cases hen : r.all entryOk with
        | true =>
          have H := Lib.hid (allTake_snoc HA.out HX.out (rowOk_all HLN.out hen))
          rw [hen] at HCF
          clear hen
          go_wp2_with (go_at_call 105; refine HCF.out.mono ?_; rintro e w' ⟨rfl, rfl⟩)
          exact ⟨⟨k + 1, by omega, by go_num, H.out, hb⟩, by simp [intOf]; omega⟩
        | false =>
          have H := Lib.hid (matB_miss HX.out (show rowOk rs.length r = false by simp [rowOk, hen]))
          rw [hen] at HCF
          clear hen
          go_wp2_with (go_at_call 105; refine HCF.out.mono ?_; rintro e w' ⟨rfl, rfl⟩)
          go_ret
          exact ⟨ret_boolE H.out.symm, hb⟩
      · have t1 : ((r.length : Int) != (rs.length : Int)) = true := by simp; omega
        have H := Lib.hid (matB_miss HX.out (rowOk_len hlen))
        clear hlen he hri
        go_wp2
        go_ret
        exact ⟨ret_boolE H.out.symm, hb⟩
    · have H := Lib.hid (matB_all h6' (allTake_end HA.out (by omega)))
      go_wp2
      go_ret
      exact ⟨ret_boolE H.out.symm, hb⟩
end Go.Proofs.Ytmehdngibbilaaa

/- Determinants, the plain math: expansion along the first row and along the last row agree. -/
namespace Go.Proofs.Ytmehdngibbilaaa

def sumN : Nat → (Nat → Int) → Int
  | 0, _ => 0
  | n + 1, f => sumN n f + f n
theorem sumN_congr {f g : Nat → Int} : ∀ n : Nat, (∀ i, i < n → f i = g i) → sumN n f = sumN n g
  | 0, _ => rfl
  | n + 1, h => by rw [sumN, sumN, sumN_congr n (fun i hi => h i (by omega)), h n (by omega)]
theorem sumN_add (f g : Nat → Int) : ∀ n, sumN n (fun i => f i + g i) = sumN n f + sumN n g
  | 0 => rfl
  | n + 1 => by rw [sumN, sumN, sumN, sumN_add f g n]; omega
theorem sumN_mul (c : Int) (f : Nat → Int) : ∀ n, sumN n (fun i => c * f i) = c * sumN n f
  | 0 => by simp [sumN]
  | n + 1 => by rw [sumN, sumN, sumN_mul c f n, Int.mul_add]
theorem sumN_zero : ∀ n, sumN n (fun _ => 0) = 0
  | 0 => rfl
  | n + 1 => by rw [sumN, sumN_zero n]; rfl
theorem sumN_swap (F : Nat → Nat → Int) : ∀ n m, sumN n (fun i => sumN m (fun j => F i j)) = sumN m (fun j => sumN n (fun i => F i j))
  | 0, m => by simp only [sumN]; rw [sumN_zero]
  | n + 1, m => by
    rw [sumN, sumN_swap F n m]
    simp only [sumN]
    rw [sumN_add]
theorem sumN_one {f : Nat → Int} {a : Nat} : ∀ n, a < n → (∀ i, i < n → i ≠ a → f i = 0) → sumN n f = f a
  | 0, h, _ => by omega
  | n + 1, h, h0 => by
    rw [sumN]
    by_cases e : a = n
    · subst e
      rw [sumN_congr a (g := fun _ => 0) (fun i hi => h0 i (by omega) (by omega)), sumN_zero]
      omega
    · rw [sumN_one n (by omega) (fun i hi => h0 i (by omega)), h0 n (by omega) (Ne.symm e)]
      omega
def skip (a j : Nat) : Nat := if j < a then j else j + 1
theorem sumN_skip (h : Nat → Int) {a : Nat} : ∀ n, a ≤ n → sumN (n + 1) h = sumN n (fun j => h (skip a j)) + h a
  | 0, ha => by
    obtain rfl : a = 0 := by omega
    simp [sumN]
  | n + 1, ha => by
    by_cases e : a = n + 1
    · subst e
      rw [sumN, sumN_congr (n + 1) (f := h) (g := fun j => h (skip (n + 1) j)) (fun i hi => by rw [skip, if_pos hi])]
    · rw [sumN, sumN_skip h (a := a) n (by omega), sumN]
      have : skip a n = n + 1 := by rw [skip, if_neg (by omega)]
      rw [this]
      omega
def sgn (n : Nat) : Int := if n % 2 = 0 then 1 else -1
theorem sgn_succ (n : Nat) : sgn (n + 1) = - sgn n := by
  unfold sgn
  by_cases h : n % 2 = 0
  · rw [if_pos h, if_neg (by omega)]
  · rw [if_neg h, if_pos (by omega)]; rfl

def detF : List (Nat → Int) → List Nat → Int
  | [], _ => 1
  | r :: R, C => sumN C.length fun i => sgn i * r (C.getD i 0) * detF R (C.eraseIdx i)
def detL : List (Nat → Int) → List Nat → Int
  | [], _ => 1
  | r :: R, C => sumN C.length fun i => sgn (C.length - 1 - i) * r (C.getD i 0) * detL R (C.eraseIdx i)

theorem getD_erase (C : List Nat) (a j : Nat) : (C.eraseIdx a).getD j 0 = C.getD (skip a j) 0 := by
  simp only [List.getD, List.getElem?_eraseIdx, skip]
  split <;> rfl
theorem erase_comm (C : List Nat) {a b : Nat} (h : a < b) : (C.eraseIdx a).eraseIdx (b - 1) = (C.eraseIdx b).eraseIdx a := by
  apply List.ext_getElem?
  intro i
  simp only [List.getElem?_eraseIdx]
  by_cases h1 : i < a
  · rw [if_pos (by omega), if_pos h1, if_pos h1, if_pos (by omega)]
  · by_cases h2 : i < b - 1
    · rw [if_pos h2, if_neg h1, if_neg h1, if_pos (by omega)]
    · rw [if_neg h2, if_neg (by omega), if_neg h1, if_neg (by omega)]
theorem erase_len {C : List Nat} {a : Nat} (h : a < C.length) : (C.eraseIdx a).length = C.length - 1 := by rw [List.length_eraseIdx_of_lt h]

def term2 (r0 r : Nat → Int) (D : List Nat → Int) (C : List Nat) (n a b : Nat) : Int :=
  if a = b then 0 else if b < a then sgn a * r0 (C.getD a 0) * (sgn (n - b) * r (C.getD b 0) * D ((C.eraseIdx a).eraseIdx b))
  else sgn a * r0 (C.getD a 0) * (sgn (n - (b - 1)) * r (C.getD b 0) * D ((C.eraseIdx a).eraseIdx (b - 1)))
theorem term2_row (r0 r : Nat → Int) (D : List Nat → Int) (C : List Nat) (n a j : Nat) :
    sgn a * r0 (C.getD a 0) * (sgn (n - j) * r ((C.eraseIdx a).getD j 0) * D ((C.eraseIdx a).eraseIdx j)) = term2 r0 r D C n a (skip a j) := by
  rw [getD_erase, term2]
  by_cases h : j < a
  · have hs : skip a j = j := by rw [skip, if_pos h]
    rw [hs, if_neg (by omega), if_pos h]
  · have hs : skip a j = j + 1 := by rw [skip, if_neg h]
    rw [hs, if_neg (by omega), if_neg (by omega), Nat.add_sub_cancel]
theorem mul_swap (s t x y d : Int) : s * x * (t * y * d) = t * y * (s * x * d) := by
  rw [Int.mul_assoc t y d, Int.mul_assoc s x, Int.mul_assoc t y (s * x * d), Int.mul_assoc s x d]
  rw [Int.mul_left_comm x t (y * d), Int.mul_left_comm s t, Int.mul_left_comm x y d, Int.mul_left_comm s y]
theorem term2_col (r0 r : Nat → Int) (D : List Nat → Int) (C : List Nat) (n b i : Nat) (hb : b ≤ n + 1) (hi : i ≤ n) :
    sgn (n + 1 - b) * r (C.getD b 0) * (sgn i * r0 ((C.eraseIdx b).getD i 0) * D ((C.eraseIdx b).eraseIdx i)) = term2 r0 r D C n (skip b i) b := by
  rw [getD_erase, term2]
  by_cases h : i < b
  · have hs : skip b i = i := by rw [skip, if_pos h]
    rw [hs, if_neg (by omega), if_neg (by omega), erase_comm C h, mul_swap]
    have e : n - (b - 1) = n + 1 - b := by omega
    rw [e]
  · have hs : skip b i = i + 1 := by rw [skip, if_neg h]
    rw [hs, if_neg (by omega), if_pos (by omega)]
    have e2 := erase_comm C (a := b) (b := i + 1) (by omega)
    rw [Nat.add_sub_cancel] at e2
    rw [← e2, mul_swap, sgn_succ i]
    have e3 : n + 1 - b = (n - b) + 1 := by omega
    rw [e3, sgn_succ]
    simp only [Int.neg_mul, Int.mul_neg]

theorem det_same : ∀ n (R : List (Nat → Int)) (C : List Nat), R.length = n → C.length = n → detF R C = detL R.reverse C
  | 0, R, C, hR, hC => by
    obtain rfl : R = [] := List.length_eq_zero_iff.1 hR
    rfl
  | 1, R, C, hR, hC => by
    obtain ⟨r, rfl⟩ := List.length_eq_one_iff.1 hR
    simp only [List.reverse_cons, List.reverse_nil, List.nil_append, detF, detL, hC]
    rfl
  | n + 2, R, C, hR, hC => by
    match R, hR with
    | r0 :: Rt, hR =>
      have hRt : Rt.length = n + 1 := by simpa using hR
      obtain ⟨Rm, r, rfl⟩ : ∃ Rm r, Rt = Rm ++ [r] := by
        rcases List.eq_nil_or_concat Rt with h | ⟨L, b, h⟩
        · rw [h] at hRt; simp at hRt
        · exact ⟨L, b, by rw [h, List.concat_eq_append]⟩
      have hRm : Rm.length = n := by simpa using hRt
      have hl : detF (r0 :: (Rm ++ [r])) C = sumN (n + 2) fun a => sumN (n + 2) fun b => term2 r0 r (detL Rm.reverse) C n a b := by
        rw [detF, hC]
        refine sumN_congr _ fun a ha => ?_
        have hCe : (C.eraseIdx a).length = n + 1 := by rw [erase_len (by omega)]; omega
        rw [det_same (n + 1) (Rm ++ [r]) (C.eraseIdx a) hRt hCe, List.reverse_append, List.reverse_singleton, List.singleton_append, detL, hCe, ← sumN_mul,
          sumN_skip (fun b => term2 r0 r (detL Rm.reverse) C n a b) (a := a) (n + 1) (by omega)]
        have h0 : term2 r0 r (detL Rm.reverse) C n a a = 0 := by rw [term2, if_pos rfl]
        rw [h0, Int.add_zero]
        refine sumN_congr _ fun j hj => ?_
        rw [← term2_row]
        rfl
      have hr : detL (r0 :: (Rm ++ [r])).reverse C = sumN (n + 2) fun b => sumN (n + 2) fun a => term2 r0 r (detL Rm.reverse) C n a b := by
        rw [show (r0 :: (Rm ++ [r])).reverse = r :: (r0 :: Rm).reverse by simp, detL, hC]
        refine sumN_congr _ fun b hb => ?_
        have hCe : (C.eraseIdx b).length = n + 1 := by rw [erase_len (by omega)]; omega
        rw [← det_same (n + 1) (r0 :: Rm) (C.eraseIdx b) (by simpa using hRm) hCe, detF, hCe, ← sumN_mul,
          sumN_skip (fun a => term2 r0 r (detL Rm.reverse) C n a b) (a := b) (n + 1) (by omega)]
        have h0 : term2 r0 r (detL Rm.reverse) C n b b = 0 := by rw [term2, if_pos rfl]
        rw [h0, Int.add_zero]
        refine sumN_congr _ fun i hi => ?_
        have hCe2 : ((C.eraseIdx b).eraseIdx i).length = n := by rw [erase_len (by omega), hCe]; omega
        rw [det_same n Rm _ hRm hCe2, ← term2_col r0 r (detL Rm.reverse) C n b i (by omega) (by omega)]
        rfl
      rw [hl, hr, sumN_swap]
end Go.Proofs.Ytmehdngibbilaaa

/- Minors by sets of columns, the plain math: a set of columns is a number whose bits they are. -/
namespace Go.Proofs.Ytmehdngibbilaaa

def bitsN (n T : Nat) : List Nat := (List.range n).filter fun c => T.testBit c
def ones (x : Nat) : Nat := ((List.range 6).filter fun c => x.testBit c).length
theorem bit_with : ∀ T, T < 64 → ∀ c, c < 6 → T.testBit c = true → T ^^^ (1 <<< c) ≤ T ∧ (T ^^^ (1 <<< c)).testBit c = false ∧ (T ^^^ (1 <<< c)) ||| (1 <<< c) = T := by decide +kernel
theorem bit_only : ∀ S, S < 64 → ∀ c, c < 6 → S.testBit c = false → (S ||| (1 <<< c)).testBit c = true ∧ (S ||| (1 <<< c)) ^^^ (1 <<< c) = S := by decide +kernel
theorem bit_lt : ∀ n, n ≤ 6 → ∀ S, S < 2 ^ n → ∀ c, c < n → S ||| (1 <<< c) < 2 ^ n := by decide +kernel
theorem bit_list : ∀ n, n ≤ 6 → ∀ T, T < 2 ^ n → ∀ i, i < (bitsN n T).length → (bitsN n T).getD i 0 < n ∧ T.testBit ((bitsN n T).getD i 0) = true ∧
    bitsN n (T ^^^ (1 <<< (bitsN n T).getD i 0)) = (bitsN n T).eraseIdx i ∧ ones ((T ^^^ (1 <<< (bitsN n T).getD i 0)) >>> ((bitsN n T).getD i 0)) = (bitsN n T).length - 1 - i := by decide +kernel
theorem sum_filter (p : Nat → Bool) (h : Nat → Int) : ∀ n, sumN n (fun c => if p c = true then h c else 0) = sumN ((List.range n).filter p).length fun i => h (((List.range n).filter p).getD i 0)
  | 0 => by simp [sumN]
  | n + 1 => by
    rw [sumN, sum_filter p h n, List.range_succ, List.filter_append]
    cases hp : p n with
    | false => simp [hp]
    | true =>
      have e : [n].filter p = [n] := by simp [hp]
      rw [e, List.length_append, List.length_singleton, sumN, if_pos rfl]
      congr 1
      · refine sumN_congr _ fun i hi => ?_
        congr 1
        simp only [List.getD]
        rw [List.getElem?_append_left hi]
      · congr 1
        simp [List.getD]
def gives (r A : Nat → Int) (T S c : Nat) : Int := if S.testBit c = false ∧ S ||| (1 <<< c) = T then sgn (ones (S >>> c)) * r c * A S else 0
theorem gives_all (r A : Nat → Int) {n T : Nat} (hn : n ≤ 6) (hT : T < 2 ^ n) : sumN (2 ^ n) (fun S => sumN n fun c => gives r A T S c) =
    sumN (bitsN n T).length fun i => sgn ((bitsN n T).length - 1 - i) * r ((bitsN n T).getD i 0) * A (T ^^^ (1 <<< (bitsN n T).getD i 0)) := by
  have h64 : 2 ^ n ≤ 64 := Nat.pow_le_pow_right (by omega) hn
  rw [sumN_swap]
  have h1 : sumN n (fun c => sumN (2 ^ n) fun S => gives r A T S c) = sumN n fun c => if T.testBit c = true then sgn (ones ((T ^^^ (1 <<< c)) >>> c)) * r c * A (T ^^^ (1 <<< c)) else 0 := by
    refine sumN_congr n fun c hc => ?_
    cases ht : T.testBit c with
    | true =>
      obtain ⟨b1, b2, b3⟩ := bit_with T (by omega) c (by omega) ht
      rw [if_pos rfl, sumN_one (a := T ^^^ (1 <<< c)) (2 ^ n) (by omega) (fun S hS hne => ?_), gives, if_pos ⟨b2, b3⟩]
      rw [gives, if_neg]
      rintro ⟨s1, s2⟩
      have := (bit_only S (by omega) c (by omega) s1).2
      rw [s2] at this
      exact hne this.symm
    | false =>
      rw [if_neg (by simp), sumN_congr (2 ^ n) (g := fun _ => 0) (fun S hS => ?_), sumN_zero]
      rw [gives, if_neg]
      rintro ⟨s1, s2⟩
      have := (bit_only S (by omega) c (by omega) s1).1
      rw [s2, ht] at this
      cases this
  rw [h1, sum_filter (fun c => T.testBit c) (fun c => sgn (ones ((T ^^^ (1 <<< c)) >>> c)) * r c * A (T ^^^ (1 <<< c))) n]
  refine sumN_congr _ fun i hi => ?_
  have hb := bit_list n hn T hT i hi
  have hq := hb.2.2.2
  unfold bitsN at hq ⊢
  rw [hq]
def minorA (n : Nat) (R : List (Nat → Int)) (S : Nat) : Int := if (bitsN n S).length = R.length then detL R (bitsN n S) else 0
theorem minorA_step {n T : Nat} (r : Nat → Int) (R : List (Nat → Int)) (hn : n ≤ 6) (hT : T < 2 ^ n) : sumN (2 ^ n) (fun S => sumN n fun c => gives r (minorA n R) T S c) = minorA n (r :: R) T := by
  rw [gives_all r (minorA n R) hn hT]
  have hA : ∀ i, i < (bitsN n T).length → minorA n R (T ^^^ (1 <<< (bitsN n T).getD i 0)) = if (bitsN n T).length = R.length + 1 then detL R ((bitsN n T).eraseIdx i) else 0 := fun i hi => by
    rw [minorA, (bit_list n hn T hT i hi).2.2.1, List.length_eraseIdx_of_lt hi]
    have e : ((bitsN n T).length - 1 = R.length) = ((bitsN n T).length = R.length + 1) := by apply propext; omega
    simp only [e]
  rw [minorA, List.length_cons]
  by_cases h : (bitsN n T).length = R.length + 1
  · rw [if_pos h, detL]
    refine sumN_congr _ fun i hi => ?_
    rw [hA i hi, if_pos h]
  · rw [if_neg h, sumN_congr _ (g := fun _ => 0) (fun i hi => by rw [hA i hi, if_neg h, Int.mul_zero]), sumN_zero]
theorem minorA_none {n S : Nat} (hn : n ≤ 6) (hS : S < 2 ^ n) : minorA n [] S = if S = 0 then 1 else 0 := by
  have h : ∀ n, n ≤ 6 → ∀ S, S < 2 ^ n → ((bitsN n S).length = 0 ↔ S = 0) := by decide +kernel
  rw [minorA, List.length_nil]
  simp only [h n hn S hS]
  rfl
theorem bits_all : ∀ n, n ≤ 6 → bitsN n (2 ^ n - 1) = List.range n := by decide +kernel
theorem minorA_all {n : Nat} (rows : List (Nat → Int)) (hn : n ≤ 6) (hl : rows.length = n) : minorA n rows.reverse (2 ^ n - 1) = detF rows (List.range n) := by
  rw [minorA, bits_all n hn, if_pos (by simp [hl]), det_same n rows _ hl (by simp)]
end Go.Proofs.Ytmehdngibbilaaa

/- Invariant factors, the plain math: bounds of determinants, greatest common divisors of lists, sets of rows. -/
namespace Go.Proofs.Ytmehdngibbilaaa

theorem lin_all (f : Int → Int) (K : Int) (h : ∃ p q : Int, ∀ x, f x = x * p + q) (h1 : ∀ s, s ∈ [500, -500] → -K ≤ f s ∧ f s ≤ K) (x : Int) (hx : -500 ≤ x ∧ x ≤ 500) : -K ≤ f x ∧ f x ≤ K := by
  obtain ⟨p, q, h⟩ := h
  have a1 := h1 500 (by simp)
  have a2 := h1 (-500) (by simp)
  rw [h] at a1 a2 ⊢
  rcases Int.le_total 0 p with hp | hp
  · have b1 := Int.mul_le_mul_of_nonneg_right hx.2 hp
    have b2 := Int.mul_le_mul_of_nonneg_right hx.1 hp
    omega
  · have b1 := Int.mul_le_mul_of_nonpos_right hx.2 hp
    have b2 := Int.mul_le_mul_of_nonpos_right hx.1 hp
    omega
def D3 (a b c d e f g h i : Int) : Int := a * (e * i - f * h) - b * (d * i - f * g) + c * (d * h - e * g)
theorem D3_corners : ∀ a ∈ [500, -500], ∀ b ∈ [500, -500], ∀ c ∈ [500, -500], ∀ d ∈ [500, -500], ∀ e ∈ [500, -500], ∀ f ∈ [500, -500], ∀ g ∈ [500, -500], ∀ h ∈ [500, -500], ∀ i ∈ [500, -500],
    (-500000000 : Int) ≤ D3 a b c d e f g h i ∧ D3 a b c d e f g h i ≤ 500000000 := by decide +kernel
def in5 (x : Int) : Prop := -500 ≤ x ∧ x ≤ 500
theorem D3_bound {a b c d e f g h i : Int} (ha : in5 a) (hb : in5 b) (hc : in5 c) (hd : in5 d) (he : in5 e) (hf : in5 f) (hg : in5 g) (hh : in5 h) (hi : in5 i) :
    (-500000000 : Int) ≤ D3 a b c d e f g h i ∧ D3 a b c d e f g h i ≤ 500000000 := by
  refine lin_all (fun a => D3 a b c d e f g h i) 500000000 ⟨e * i - f * h, - b * (d * i - f * g) + c * (d * h - e * g), fun x => by unfold D3; grind⟩ (fun a ja => ?_) a ha
  refine lin_all (fun b => D3 a b c d e f g h i) 500000000 ⟨- (d * i - f * g), a * (e * i - f * h) + c * (d * h - e * g), fun x => by unfold D3; grind⟩ (fun b jb => ?_) b hb
  refine lin_all (fun c => D3 a b c d e f g h i) 500000000 ⟨d * h - e * g, a * (e * i - f * h) - b * (d * i - f * g), fun x => by unfold D3; grind⟩ (fun c jc => ?_) c hc
  refine lin_all (fun d => D3 a b c d e f g h i) 500000000 ⟨- b * i + c * h, a * (e * i - f * h) + b * (f * g) - c * (e * g), fun x => by unfold D3; grind⟩ (fun d jd => ?_) d hd
  refine lin_all (fun e => D3 a b c d e f g h i) 500000000 ⟨a * i - c * g, - a * (f * h) - b * (d * i - f * g) + c * (d * h), fun x => by unfold D3; grind⟩ (fun e je => ?_) e he
  refine lin_all (fun f => D3 a b c d e f g h i) 500000000 ⟨- a * h + b * g, a * (e * i) - b * (d * i) + c * (d * h - e * g), fun x => by unfold D3; grind⟩ (fun f jf => ?_) f hf
  refine lin_all (fun g => D3 a b c d e f g h i) 500000000 ⟨b * f - c * e, a * (e * i - f * h) - b * (d * i) + c * (d * h), fun x => by unfold D3; grind⟩ (fun g jg => ?_) g hg
  refine lin_all (fun h => D3 a b c d e f g h i) 500000000 ⟨- a * f + c * d, a * (e * i) - b * (d * i - f * g) - c * (e * g), fun x => by unfold D3; grind⟩ (fun h jh => ?_) h hh
  refine lin_all (fun i => D3 a b c d e f g h i) 500000000 ⟨a * e - b * d, - a * (f * h) + b * (f * g) + c * (d * h - e * g), fun x => by unfold D3; grind⟩ (fun i ji => ?_) i hi
  exact D3_corners a ja b jb c jc d jd e je f jf g jg h jh i ji

def absB (b x : Int) : Prop := -b ≤ x ∧ x ≤ b
theorem sumN_abs {f : Nat → Int} {b : Int} : ∀ n : Nat, (∀ i, i < n → absB b (f i)) → absB (n * b) (sumN n f)
  | 0, _ => by simp [absB, sumN]
  | n + 1, h => by
    have h1 := sumN_abs n (fun i hi => h i (by omega))
    have h2 := h n (by omega)
    unfold absB at *
    rw [sumN]
    have e : ((n + 1 : Nat) : Int) * b = n * b + b := by rw [Int.natCast_add, Int.add_mul]; omega
    rw [e]
    omega
theorem mul_abs {x y b : Int} (hx : in5 x) (hy : absB b y) : absB (500 * b) (x * y) := by
  unfold in5 at hx
  unfold absB at *
  rcases Int.le_total 0 y with hp | hp
  · have b1 := Int.mul_le_mul_of_nonneg_right hx.2 hp
    have b2 := Int.mul_le_mul_of_nonneg_right hx.1 hp
    omega
  · have b1 := Int.mul_le_mul_of_nonpos_right hx.2 hp
    have b2 := Int.mul_le_mul_of_nonpos_right hx.1 hp
    omega
theorem sgn_abs {i : Nat} {x : Int} (h : in5 x) : in5 (sgn i * x) := by
  unfold in5 at *
  unfold sgn
  split <;> omega
theorem det_step {r : Nat → Int} {R : List (Nat → Int)} {n : Nat} {b : Int} (hr : ∀ c, in5 (r c)) (h : ∀ C : List Nat, C.length = n → absB b (detF R C)) (C : List Nat) (hC : C.length = n + 1) : absB ((n + 1 : Nat) * (500 * b)) (detF (r :: R) C) := by
  rw [detF, hC]
  refine sumN_abs _ fun i hi => ?_
  exact mul_abs (sgn_abs (hr _)) (h _ (by rw [List.length_eraseIdx_of_lt (by omega)]; omega))
theorem det_three {r s t : Nat → Int} (hr : ∀ c, in5 (r c)) (hs : ∀ c, in5 (s c)) (ht : ∀ c, in5 (t c)) (C : List Nat) (hC : C.length = 3) : absB 500000000 (detF [r, s, t] C) := by
  match C, hC with
  | [x, y, z], _ =>
    have e : detF [r, s, t] [x, y, z] = D3 (r x) (r y) (r z) (s x) (s y) (s z) (t x) (t y) (t z) := by
      simp [detF, sumN, sgn, D3, List.getD]
      grind
    rw [e]
    exact D3_bound (hr x) (hr y) (hr z) (hs x) (hs y) (hs z) (ht x) (ht y) (ht z)
theorem det_bound : ∀ (R : List (Nat → Int)) (C : List Nat), R.length ≤ 6 → C.length = R.length → (∀ r ∈ R, ∀ c, in5 (r c)) → absB 7500000000000000000 (detF R C) := by
  have h0 : ∀ C : List Nat, C.length = 0 → absB 1 (detF [] C) := fun C _ => by simp [detF, absB]
  have up : ∀ {a b x : Int}, absB a x → a ≤ b → absB b x := fun h hab => by unfold absB at *; omega
  intro R C h6 hC hR
  match R, h6, hC, hR with
  | [], _, hC, _ => exact up (h0 C hC) (by omega)
  | [r], _, hC, hR => exact up (det_step (hR r (by simp)) h0 C hC) (by omega)
  | [r, s], _, hC, hR => exact up (det_step (hR r (by simp)) (det_step (hR s (by simp)) h0) C hC) (by omega)
  | [r, s, t], _, hC, hR => exact up (det_three (hR r (by simp)) (hR s (by simp)) (hR t (by simp)) C hC) (by omega)
  | [q, r, s, t], _, hC, hR => exact up (det_step (hR q (by simp)) (det_three (hR r (by simp)) (hR s (by simp)) (hR t (by simp))) C hC) (by omega)
  | [p, q, r, s, t], _, hC, hR => exact up (det_step (hR p (by simp)) (det_step (hR q (by simp)) (det_three (hR r (by simp)) (hR s (by simp)) (hR t (by simp)))) C hC) (by omega)
  | [o, p, q, r, s, t], _, hC, hR => exact up (det_step (hR o (by simp)) (det_step (hR p (by simp)) (det_step (hR q (by simp)) (det_three (hR r (by simp)) (hR s (by simp)) (hR t (by simp))))) C hC) (by omega)
  | _ :: _ :: _ :: _ :: _ :: _ :: _ :: _, h, _, _ => simp at h

def gcdL : Nat → List Int → Nat
  | g, [] => g
  | g, x :: l => gcdL (Nat.gcd g x.natAbs) l
theorem dvd_gcdL {d : Nat} : ∀ (l : List Int) (g : Nat), d ∣ gcdL g l ↔ d ∣ g ∧ ∀ x ∈ l, d ∣ x.natAbs
  | [], g => by simp [gcdL]
  | x :: l, g => by
    rw [gcdL, dvd_gcdL l, Nat.dvd_gcd_iff]
    simp [and_assoc]
theorem gcdL_append : ∀ (a b : List Int) (g : Nat), gcdL g (a ++ b) = gcdL (gcdL g a) b
  | [], _, _ => rfl
  | _ :: a, b, _ => by rw [List.cons_append, gcdL, gcdL, gcdL_append a b]
theorem eq_of_dvd {a b : Nat} (h : ∀ d, d ∣ a ↔ d ∣ b) : a = b := Nat.dvd_antisymm ((h a).1 (Nat.dvd_refl a)) ((h b).2 (Nat.dvd_refl b))
def subl {α : Type} : List α → List (List α)
  | [] => [[]]
  | x :: l => subl l ++ (subl l).map (x :: ·)
theorem nil_subl {α : Type} : ∀ l : List α, [] ∈ subl l
  | [] => by simp [subl]
  | _ :: l => by simp [subl, nil_subl l]
theorem subl_map {α β : Type} (f : α → β) : ∀ l : List α, subl (l.map f) = (subl l).map (List.map f)
  | [] => rfl
  | x :: l => by simp [subl, subl_map f l, List.map_map, Function.comp_def]
def collectF (n : Nat) : Nat → List (Nat → Int) → List (Nat → Int) → List Nat → List Nat
  | _, _, [], D => D
  | size, R, r :: rest, D => collectF n size R rest (collectF n (size + 1) (r :: R) rest (D.set size (gcdL (D.getD size 0) ((List.range (2 ^ n)).map (minorA n (r :: R))))))
theorem collectF_len (n : Nat) : ∀ (rest : List (Nat → Int)) (size : Nat) (R : List (Nat → Int)) (D : List Nat), (collectF n size R rest D).length = D.length
  | [], _, _, _ => rfl
  | r :: rest, size, R, D => by rw [collectF, collectF_len n rest, collectF_len n rest, List.length_set]
theorem dvd_collectF (n d j : Nat) : ∀ (rest : List (Nat → Int)) (size : Nat) (R : List (Nat → Int)) (D : List Nat), size + rest.length ≤ D.length →
    (d ∣ (collectF n size R rest D).getD j 0 ↔ d ∣ D.getD j 0 ∧ ∀ T ∈ subl rest, T ≠ [] → T.length + size = j + 1 → ∀ S, S < 2 ^ n → d ∣ (minorA n (T.reverse ++ R) S).natAbs)
  | [], size, R, D, _ => by simp [collectF, subl]
  | r :: rest, size, R, D, hD => by
    rw [List.length_cons] at hD
    rw [collectF, dvd_collectF n d j rest size R _ (by rw [collectF_len, List.length_set]; omega), dvd_collectF n d j rest (size + 1) (r :: R) _ (by rw [List.length_set]; omega)]
    have h1 : d ∣ (D.set size (gcdL (D.getD size 0) ((List.range (2 ^ n)).map (minorA n (r :: R))))).getD j 0 ↔ d ∣ D.getD j 0 ∧ (size = j → ∀ S, S < 2 ^ n → d ∣ (minorA n (r :: R) S).natAbs) := by
      by_cases e : size = j
      · subst e
        rw [List.getD_eq_getElem?_getD, List.getElem?_set_self (by omega), Option.getD_some, dvd_gcdL]
        simp
      · rw [List.getD_eq_getElem?_getD, List.getElem?_set_ne e, ← List.getD_eq_getElem?_getD]
        simp [e]
    rw [h1]
    constructor
    · rintro ⟨⟨⟨h2, h3⟩, h4⟩, h5⟩
      refine ⟨h2, fun T hT hne hl S hS => ?_⟩
      simp only [subl, List.mem_append, List.mem_map] at hT
      rcases hT with hT | ⟨T', hT', rfl⟩
      · exact h5 T hT hne hl S hS
      · have er : (r :: T').reverse ++ R = T'.reverse ++ r :: R := by simp
        rw [er]
        rw [List.length_cons] at hl
        by_cases hn : T' = []
        · subst hn
          exact h3 (by simp at hl; omega) S hS
        · exact h4 T' hT' hn (by omega) S hS
    · rintro ⟨h2, h3⟩
      refine ⟨⟨⟨h2, fun e S hS => ?_⟩, fun T hT hne hl S hS => ?_⟩, fun T hT hne hl S hS => ?_⟩
      · exact h3 [r] (by simp [subl, nil_subl]) (by simp) (by simp; omega) S hS
      · have h4 := h3 (r :: T) (by simp [subl, hT]) (by simp) (by simp; omega) S hS
        have er : (r :: T).reverse ++ R = T.reverse ++ r :: R := by simp
        rwa [er] at h4
      · exact h3 T (by simp [subl, hT]) hne hl S hS
def behind (s : List Nat) : Nat := match s.getLast? with
  | none => 0
  | some x => x + 1
def setsB (n : Nat) : Nat → List (List Nat)
  | 0 => [[]]
  | k + 1 => (setsB n k).flatMap fun s => (List.range' (behind s) (n - behind s)).map fun i => s ++ [i]
theorem sets_subl1 : ∀ n, n ≤ 6 → ∀ k, k ≤ 6 → ∀ s ∈ setsB n k, s ∈ subl (List.range n) := by decide +kernel
theorem sets_subl2 : ∀ n, n ≤ 6 → ∀ k, k ≤ 6 → ∀ s ∈ setsB n k, s ∈ (List.range (2 ^ n)).map (bitsN n) := by decide +kernel
theorem sets_subl3 : ∀ n, n ≤ 6 → ∀ k, k ≤ 6 → ∀ s ∈ setsB n k, s.length = k := by decide +kernel
theorem sets_subl (n : Nat) (hn : n ≤ 6) (k : Nat) (hk : k ≤ 6) (s : List Nat) (hs : s ∈ setsB n k) : s ∈ subl (List.range n) ∧ s.length = k ∧ s ∈ (List.range (2 ^ n)).map (bitsN n) :=
  ⟨sets_subl1 n hn k hk s hs, sets_subl3 n hn k hk s hs, sets_subl2 n hn k hk s hs⟩
theorem subl_sets : ∀ n, n ≤ 6 → ∀ s ∈ subl (List.range n), s ∈ setsB n s.length := by decide +kernel
theorem bits_sets : ∀ n, n ≤ 6 → ∀ S, S < 2 ^ n → bitsN n S ∈ setsB n (bitsN n S).length ∧ (bitsN n S).length ≤ n := by decide +kernel
theorem sets_size : ∀ n, n ≤ 6 → ∀ k, k ≤ 6 → (setsB n k).length ≤ 20 ∧ ∀ s ∈ setsB n k, s.length = k ∧ (∀ i ∈ s, i < n) ∧ behind s ≤ n := by decide +kernel
def gSets (n : Nat) (f : Nat → Nat → Int) (k : Nat) : Nat := gcdL 0 ((setsB n k).flatMap fun R => (setsB n k).map fun C => detF (R.map f) C)
theorem collect_sets {n k : Nat} (f : Nat → Nat → Int) (hn : n ≤ 6) (hk : k < n) : (collectF n 0 [] ((List.range n).map f) (List.replicate n 0)).getD k 0 = gSets n f (k + 1) := by
  refine eq_of_dvd fun d => ?_
  rw [dvd_collectF n d k _ 0 [] _ (by simp), gSets, dvd_gcdL]
  have h0 : (List.replicate n 0).getD k 0 = 0 := by
    rw [List.getD_eq_getElem?_getD, List.getElem?_replicate]
    split <;> rfl
  rw [h0]
  constructor
  · rintro ⟨_, h⟩
    refine ⟨Nat.dvd_zero d, fun x hx => ?_⟩
    simp only [List.mem_flatMap, List.mem_map] at hx
    obtain ⟨R, hR, C, hC, rfl⟩ := hx
    obtain ⟨r1, r2, _⟩ := sets_subl n hn (k + 1) (by omega) R hR
    obtain ⟨_, c2, c3⟩ := sets_subl n hn (k + 1) (by omega) C hC
    simp only [List.mem_map, List.mem_range] at c3
    obtain ⟨S, hS, rfl⟩ := c3
    have h1 := h (R.map f) (by rw [subl_map]; exact List.mem_map_of_mem r1) (by intro e; have := congrArg List.length e; simp at this; simp [this] at r2) (by simp; omega) S hS
    rwa [List.append_nil, minorA, List.length_reverse, List.length_map, if_pos (by omega), ← det_same (k + 1) _ _ (by simp; omega) c2] at h1
  · rintro ⟨_, h⟩
    refine ⟨Nat.dvd_zero d, fun T hT hne hl S hS => ?_⟩
    rw [subl_map, List.mem_map] at hT
    obtain ⟨R, hR, rfl⟩ := hT
    rw [List.length_map] at hl
    have r1 := subl_sets n hn R hR
    have b1 := bits_sets n hn S hS
    rw [List.append_nil, minorA, List.length_reverse, List.length_map]
    by_cases e : (bitsN n S).length = R.length
    · rw [if_pos e, ← det_same (k + 1) _ _ (by simp; omega) (by omega)]
      refine h _ ?_
      simp only [List.mem_flatMap, List.mem_map]
      rw [show R.length = k + 1 by omega] at r1
      rw [show (bitsN n S).length = k + 1 by omega] at b1
      exact ⟨R, r1, bitsN n S, b1.1, rfl⟩
    · rw [if_neg e]
      exact Nat.dvd_zero d
def facB : Nat → List Nat → List Nat
  | _, [] => []
  | b, g :: l => if b = 0 ∨ g = 0 then 0 :: facB 0 l else g / b :: facB g l
theorem facB_zero : ∀ l : List Nat, facB 0 l = List.replicate l.length 0
  | [] => rfl
  | _ :: l => by rw [facB, if_pos (.inl rfl), facB_zero l]; rfl
theorem facB_len : ∀ (l : List Nat) (b : Nat), (facB b l).length = l.length
  | [], _ => rfl
  | _ :: l, b => by
    rw [facB]
    split <;> simp [facB_len l]
end Go.Proofs.Ytmehdngibbilaaa

/- bits.OnesCount of numbers below 64. -/
namespace Go.Proofs.Ytmehdngibbilaaa
open Go.RowKit

set_option maxRecDepth 100000 in
set_option maxHeartbeats 1000000 in
theorem ones64 (x : Nat) (hx : x < 64) (w : World) : Calls Try.prog 157 #[.int .u64 (x : Int)] w fun e w' => e = .returned (.int .i64 (ones x)) ∧ w = w' := by
  go_enter Try.func157, Try.ntmps157
  go_wp2
  go_ret
  refine ⟨ret_intE ?_, rfl⟩
  revert hx
  revert x
  decide +kernel
theorem onesU (x : Nat) (hx : x < 64) (w : World) : Calls Try.prog 145 #[.int .u64 (x : Int)] w fun e w' => e = .returned (.int .i64 (ones x)) ∧ w = w' := by
  go_enter Try.func145, Try.ntmps145
  go_wp2_with (go_at_call 157; refine (ones64 x hx _).mono ?_; rintro e w' ⟨rfl, rfl⟩)
  go_ret
  exact ⟨rfl, rfl⟩
end Go.Proofs.Ytmehdngibbilaaa

/- The program's minors: minorsOfNoRows and minorsWithRow. -/
namespace Go.Proofs.Ytmehdngibbilaaa
open Go.RowKit

theorem wrap_mul (a e b : Int) : wrap64 (wrap64 a + wrap64 (e * wrap64 b)) = wrap64 (a + e * b) := by
  obtain ⟨k, hk⟩ : ∃ k : Int, wrap64 b = b + 18446744073709551616 * k := ⟨-((b + 9223372036854775808) / 18446744073709551616), by unfold wrap64; omega⟩
  rw [hk, Int.mul_add]
  have h : e * (18446744073709551616 * k) = 18446744073709551616 * (e * k) := by rw [Int.mul_left_comm]
  rw [h]
  generalize e * k = m
  generalize e * b = q
  unfold wrap64
  omega
def part2 (r A : Nat → Int) (n S c T : Nat) : Int := sumN S (fun S' => sumN n fun c' => gives r A T S' c') + sumN c fun c' => gives r A T S c'
theorem part2_zero (r A : Nat → Int) (n : Nat) : part2 r A n 0 0 = fun _ => 0 := by funext T; simp [part2, sumN]
theorem part2_next (r A : Nat → Int) (n S : Nat) : part2 r A n S n = part2 r A n (S + 1) 0 := by
  funext T
  simp only [part2, sumN]
  omega
theorem part2_skip {r A : Nat → Int} {n S c : Nat} (h : S.testBit c = true) : part2 r A n S (c + 1) = part2 r A n S c := by
  funext T
  simp only [part2, sumN]
  rw [gives, if_neg (by rw [h]; simp)]
  omega
theorem part2_add {r A : Nat → Int} {n S c : Nat} (h : S.testBit c = false) : part2 r A n S (c + 1) = addAt (part2 r A n S c) (S ||| (1 <<< c)) (sgn (ones (S >>> c)) * r c * A S) := by
  funext T
  simp only [part2, sumN, addAt, gives]
  by_cases e : T = S ||| (1 <<< c)
  · rw [if_pos ⟨h, e.symm⟩, if_pos e]
    omega
  · rw [if_neg (fun q => e q.2.symm), if_neg e]
    omega
theorem part2_all (r : Nat → Int) (R : List (Nat → Int)) {n : Nat} (hn : n ≤ 6) : chipsOf (2 ^ n) (part2 r (minorA n R) n (2 ^ n) 0) = chipsOf (2 ^ n) (minorA n (r :: R)) := chipsOf_eq fun T hT => by
  rw [part2, ← minorA_step r R hn hT]
  simp [sumN]
theorem bit_test : ∀ S : Nat, S < 64 → ∀ c : Nat, c < 6 → (bits BinOp.and IntKind.i64 ((S : Int) / 2 ^ c) 1 == 1) = S.testBit c := by decide +kernel
theorem bit_shift : ∀ S : Nat, S < 64 → ∀ c : Nat, c < 6 → IntKind.u64.wrap ((S : Int) / 2 ^ c) = ((S >>> c : Nat) : Int) := by decide +kernel
theorem bit_or : ∀ S : Nat, S < 64 → ∀ c : Nat, c < 6 → bits BinOp.or IntKind.i64 (S : Int) (wrap64 (2 ^ c)) = ((S ||| (1 <<< c) : Nat) : Int) := by decide +kernel
theorem shift_lt : ∀ S : Nat, S < 64 → ∀ c : Nat, c < 6 → S >>> c < 64 := by decide +kernel
theorem ones_le : ∀ S : Nat, S < 64 → ones S ≤ 6 := by decide +kernel
set_option maxRecDepth 100000 in
set_option maxHeartbeats 2000000 in
theorem withRow_any (n : Nat) (A C : Option Addr) (ca cc : Nat) (R : List (Nat → Int)) (row : List Int) (w : World) (hn : n ≤ 6) (hl : row.length = n) (hr : ∀ x ∈ row, -500 ≤ x ∧ x ≤ 500)
    (hS : IntS w w.heap.size A (chipsOf (2 ^ n) (minorA n R))) (hT : IntS w w.heap.size C row) :
    Calls Try.prog 107 #[.slice A (2 ^ n : Nat) ca, .slice C row.length cc] w (GivesInts w (chipsOf (2 ^ n) (minorA n ((fun c => row.getD c 0) :: R)))) := by
  obtain ⟨K, hK⟩ : ∃ K, K = 2 ^ n := ⟨_, rfl⟩
  have hK64 : K ≤ 64 := by rw [hK]; exact Nat.pow_le_pow_right (by omega) hn
  have HK := Lib.hid hK
  have HAL := Lib.hid (part2_all (fun c => row.getD c 0) R hn)
  obtain ⟨M, hM⟩ : ∃ M, M = minorA n R := ⟨_, rfl⟩
  rw [← hK] at hS HAL ⊢
  rw [← hM] at hS HAL
  rw [← HAL.out]
  have hmk := make_ints K (by omega)
  have HS := Lib.hid hS
  have HT := Lib.hid hT
  have HR := Lib.hid hr
  have HL := Lib.hid hl
  have hl6 : row.length ≤ 6 := by omega
  have HLC := Lib.hid (chipsOf_len K M)
  clear hS hT hr hl hM hK HAL
  go_enter Try.func107, Try.ntmps107
  go_wp2
  go_loopw [16] (fun i wr => ∃ S : Nat, S ≤ K ∧ i = .int .i64 S ∧ Blk wr w.heap.size 3 (intCells (chipsOf K (part2 (fun c => row.getD c 0) M n S 0))).toArray ∧ Below w.heap.size w wr) (fun i _ => K - (intOf i).toNat)
  case atStart =>
    refine ⟨0, Nat.zero_le _, rfl, ?_, (Below.refl _ _).alloc (Nat.le_refl _) _⟩
    have e : chipsOf K (part2 (fun c => row.getD c 0) M n 0 0) = List.replicate K 0 := by
      rw [part2_zero]
      apply List.ext_getElem?
      intro i
      by_cases hi : i < K
      · rw [chipsOf_at _ hi, List.getElem?_replicate, if_pos hi, wrap64_of (by omega) (by omega)]
      · rw [List.getElem?_eq_none (by rw [chipsOf_len]; omega), List.getElem?_eq_none (by simp; omega)]
    rw [e]
    exact Blk.new w _ _
  case round =>
    obtain ⟨S, hSK, rfl, hblk, hb⟩ := hrel
    have HB := Lib.hid hblk
    clear hblk hmk
    by_cases hlt : S < K
    · obtain ⟨b1, o1, m, rfl, hb1, hm, hc0⟩ := (HS.out.below hb).at_ (k := S) (by rw [HLC.out]; exact hlt)
      rw [chipsOf_at _ hlt] at hm
      injection hm with hm
      subst hm
      have hS0 : (0 : Int) ≤ (S : Int) := Int.natCast_nonneg _
      have hS1 : (S : Int) < (K : Int) := by omega
      have hbw := hb.size
      obtain ⟨wo, rfl⟩ : ∃ wo, wo = wr := ⟨_, rfl⟩
      go_wp2
      go_loopw [23] (fun i wr => ∃ c : Nat, c ≤ row.length ∧ i = .int .i64 c ∧ Blk wr w.heap.size 3 (intCells (chipsOf K (part2 (fun c => row.getD c 0) M n S c))).toArray ∧ Below w.heap.size w wr) (fun i _ => row.length - (intOf i).toNat)
      case atStart => exact ⟨0, Nat.zero_le _, rfl, HB.out, hb⟩
      case round =>
        obtain ⟨c, hc, rfl, hblk2, hb2⟩ := hrel
        have HB2 := Lib.hid hblk2
        clear hblk2
        by_cases hlt2 : c < row.length
        · obtain ⟨b2, o2, x, rfl, hb3, hx, hd0⟩ := (HT.out.below hb2).at_ hlt2
          have hc0' : (0 : Int) ≤ (c : Int) := Int.natCast_nonneg _
          have hc1 : (c : Int) < (row.length : Int) := by omega
          have hxr := HR.out x (List.mem_of_getElem? hx)
          have hS64 : S < 64 := by omega
          have hc6 : c < 6 := by omega
          have hbt := bit_test S hS64 c hc6
          have harg := bit_shift S hS64 c hc6
          cases hsb : S.testBit c with
          | true =>
            rw [hsb] at hbt
            have hC := HB2.out
            rw [← part2_skip (r := fun c => row.getD c 0) (A := M) (n := n) hsb] at hC
            have HC := Lib.hid hC
            clear hC hsb harg hx
            go_wp2
            exact ⟨⟨c + 1, by omega, by go_num, HC.out, hb2⟩, by simp [intOf]; omega⟩
          | false =>
            rw [hsb] at hbt
            have hk64 := shift_lt S hS64 c hc6
            have hk6 := ones_le _ hk64
            obtain ⟨k, hk⟩ : ∃ k, k = S >>> c := ⟨_, rfl⟩
            obtain ⟨o, ho⟩ : ∃ o, o = ones k := ⟨_, rfl⟩
            rw [← hk] at harg hk64 hk6
            rw [← ho] at hk6
            have HK1 := Lib.hid hk
            have HO1 := Lib.hid ho
            have HON := fun w => Lib.hid (onesU k hk64 w)
            rw [← ho] at HON
            clear hk ho
            go_wp2_with fail
            refine (HON _).out.mono ?_
            rintro e w' ⟨rfl, rfl⟩
            have hTK := bit_lt n hn S (by have := HK.out; omega) c (by have := HL.out; omega)
            have hor := bit_or S hS64 c hc6
            have hadd := part2_add (r := fun c => row.getD c 0) (A := M) (n := n) hsb
            obtain ⟨T, hT⟩ : ∃ T, T = S ||| (1 <<< c) := ⟨_, rfl⟩
            rw [← hT] at hTK hor hadd
            have hTK2 : T < K := by have := HK.out; omega
            have hgd : row.getD c 0 = x := by simp [List.getD, hx]
            rw [← HK1.out, ← HO1.out, hgd] at hadd
            obtain ⟨f, hf⟩ : ∃ f, f = part2 (fun c => row.getD c 0) M n S c := ⟨_, rfl⟩
            have hB2 := HB2.out
            rw [← hf] at hadd hB2
            have hcl : wr.cell? ⟨w.heap.size, T, none⟩ = some (.int .i64 (wrap64 (f T))) := by rw [hB2.cell]; simp [intCells, chipsOf_at f hTK2]
            have hfz := hB2.frozen T
            have hT0 : (0 : Int) ≤ (T : Int) := Int.natCast_nonneg _
            have hT1 : (T : Int) < (K : Int) := by omega
            have HADD := Lib.hid hadd
            have HBB := Lib.hid hB2
            have hset : ∀ e : Int, e = sgn o * x → Blk (wr.setCell ⟨w.heap.size, T, none⟩ (.int .i64 (wrap64 (wrap64 (f T) + wrap64 (e * wrap64 (M S)))))) w.heap.size 3 (intCells (chipsOf K (part2 (fun c => row.getD c 0) M n S (c + 1)))).toArray := fun e he => by
              have h2 := HBB.out.set_ T (.int .i64 (wrap64 (wrap64 (f T) + wrap64 (e * wrap64 (M S)))))
              rw [List.setIfInBounds_toArray] at h2
              have e1 : (intCells (chipsOf K f)).set T (.int .i64 (wrap64 (wrap64 (f T) + wrap64 (e * wrap64 (M S))))) = intCells ((chipsOf K f).set T (wrap64 (wrap64 (f T) + wrap64 (e * wrap64 (M S))))) := by simp [intCells, List.map_set]
              rw [e1, chipsOf_set K f T _ (sgn o * x * M S) (by rw [wrap_mul, he])] at h2
              rw [HADD.out]
              exact h2
            have HSET := Lib.hid hset
            clear hT hTK hTK2 hgd hf hadd hB2 hset hsb hx HB2
            by_cases hodd : o % 2 = 1
            · have t2 : (((o : Nat) : Int) % 2 == 1) = true := by simp; omega
              have HF := Lib.hid (HSET.out (-x) (by rw [sgn, if_neg (by omega)]; omega))
              clear hodd
              go_wp2
              exact ⟨⟨c + 1, by omega, by go_num, HF.out, hb2.setCell (Nat.le_refl _) _⟩, by simp [intOf]; omega⟩
            · have t2 : (((o : Nat) : Int) % 2 == 1) = false := by simp; omega
              have HF := Lib.hid (HSET.out x (by rw [sgn, if_pos (by omega)]; omega))
              clear hodd
              go_wp2
              exact ⟨⟨c + 1, by omega, by go_num, HF.out, hb2.setCell (Nat.le_refl _) _⟩, by simp [intOf]; omega⟩
        · have hC := HB2.out
          rw [show c = n by have := HL.out; omega, part2_next] at hC
          have HC := Lib.hid hC
          clear hC
          go_wp2
          exact ⟨⟨S + 1, by omega, by go_num, HC.out, hb2⟩, by simp [intOf]; omega⟩
    · have HB3 := HB.out
      rw [show S = K by omega] at HB3
      have HB4 := Lib.hid HB3
      have HLL := Lib.hid (chipsOf_len K (part2 (fun c => row.getD c 0) M n K 0))
      clear HB3
      go_wp2
      go_ret
      exact ⟨some ⟨w.heap.size, 0, none⟩, K, by rw [HLL.out]; rfl, OwnI.of_blk HB4.out (Nat.le_refl _), hb⟩
end Go.Proofs.Ytmehdngibbilaaa

/- The program's Determinant. -/
namespace Go.Proofs.Ytmehdngibbilaaa
open Go.RowKit

theorem bit_pow : ∀ n : Nat, n < 7 → wrap64 ((2 : Int) ^ n) = ((2 ^ n : Nat) : Int) := by decide +kernel
theorem none_cells {n : Nat} (hn : n ≤ 6) : (intCells (List.replicate (2 ^ n) 0)).set 0 (.int .i64 1) = intCells (chipsOf (2 ^ n) (minorA n [])) := by
  have e : (intCells (List.replicate (2 ^ n) 0)).set 0 (.int .i64 1) = intCells ((List.replicate (2 ^ n) 0).set 0 1) := by simp [intCells, List.map_set]
  rw [e]
  congr 1
  apply List.ext_getElem?
  intro i
  by_cases hi : i < 2 ^ n
  · rw [chipsOf_at _ hi, minorA_none hn hi]
    by_cases h0 : i = 0
    · subst h0
      rw [List.getElem?_set_self (by simpa using hi), if_pos rfl, wrap64_of (by omega) (by omega)]
    · rw [List.getElem?_set_ne (Ne.symm h0), List.getElem?_replicate, if_pos hi, if_neg h0, wrap64_of (by omega) (by omega)]
  · rw [List.getElem?_eq_none (by simp; omega), List.getElem?_eq_none (by rw [chipsOf_len]; omega)]
set_option maxHeartbeats 1000000 in
theorem noRows_any (n : Nat) (w : World) (hn : n ≤ 6) :
    Calls Try.prog 109 #[.int .i64 (n : Int)] w (GivesInts w (chipsOf (2 ^ n) (minorA n []))) := by
  have hNC := none_cells hn
  have hpow := bit_pow n (by omega)
  obtain ⟨M, hM⟩ : ∃ M, M = minorA n [] := ⟨_, rfl⟩
  rw [← hM] at hNC ⊢
  have hK0 : 0 < 2 ^ n := Nat.two_pow_pos n
  obtain ⟨K, hK⟩ : ∃ K, K = 2 ^ n := ⟨_, rfl⟩
  have hK64 : K ≤ 64 := by rw [hK]; exact Nat.pow_le_pow_right (by omega) hn
  rw [← hK] at hNC hpow hK0 ⊢
  have hmk := make_ints K (by omega)
  have HNC := Lib.hid hNC
  have HL := Lib.hid (chipsOf_len K M)
  have hbl := Blk.new w 3 (intCells (List.replicate K 0)).toArray
  have hcl : (w.alloc (Obj.cells (intCells (List.replicate K 0)).toArray 3)).cell? ⟨w.heap.size, 0, none⟩ = some (.int .i64 0) := by rw [hbl.cell]; simp [intCells, hK0]
  have hfz := hbl.frozen 0
  have hk1 : (0 : Int) < (K : Int) := by omega
  clear hNC hK hM hbl
  go_enter Try.func109, Try.ntmps109
  go_wp2
  go_ret
  exact ⟨some ⟨w.heap.size, 0, none⟩, K, by rw [HL.out]; rfl, OwnI.of_blk (t := 3) (by rw [← HNC.out]; exact Blk.new _ _ _) (Nat.le_refl _), (Below.refl _ _).alloc (Nat.le_refl _) _⟩

def GivesK (w : World) (K : Nat) (zs : List Int) (e : Ending) (w' : World) : Prop := ∃ (A : Option Addr) (c : Nat), e = .returned (.slice A K c) ∧ IntS w' w'.heap.size A zs ∧ Below w.heap.size w w'
theorem GivesK.of {P : Program} {f : FuncId} {args : Array Value} {w : World} {K : Nat} {zs : List Int} (hz : zs.length = K) (h : Calls P f args w (GivesInts w zs)) : Calls P f args w (GivesK w K zs) :=
  h.mono fun e w' ⟨A, c, he, ho, hb⟩ => ⟨A, c, by rw [he, hz], ho.ints, hb⟩
def rowF (r : List Int) (c : Nat) : Int := r.getD c 0
def detB (rs : List (List Int)) : Int := if matB rs = true then wrap64 (detF (rs.map rowF) (List.range rs.length)) else 0
theorem detB_f {rs : List (List Int)} (h : matB rs = false) : detB rs = 0 := by rw [detB, if_neg (by rw [h]; decide)]
theorem detB_t {rs : List (List Int)} (h : matB rs = true) : detB rs = wrap64 (detF (rs.map rowF) (List.range rs.length)) := by rw [detB, if_pos h]
theorem matB_entries {rs : List (List Int)} (h : matB rs = true) : rs.length ≤ 6 ∧ ∀ r ∈ rs, r.length = rs.length ∧ ∀ x ∈ r, -500 ≤ x ∧ x ≤ 500 := by
  simp only [matB, Bool.and_eq_true, decide_eq_true_eq, List.all_eq_true] at h
  refine ⟨h.1, fun r hr => ?_⟩
  have := h.2 r hr
  simp only [rowOk, Bool.and_eq_true, decide_eq_true_eq, List.all_eq_true] at this
  refine ⟨this.1, fun x hx => ?_⟩
  have h3 := this.2 x hx
  simp only [entryOk, Bool.and_eq_true, decide_eq_true_eq] at h3
  exact h3
def revTo (rs : List (List Int)) (k : Nat) : List (Nat → Int) := ((rs.take k).map rowF).reverse
theorem revTo_step {rs : List (List Int)} {k : Nat} {r : List Int} (h : rs[k]? = some r) : revTo rs (k + 1) = (fun c => r.getD c 0) :: revTo rs k := by
  rw [revTo, List.take_add_one, h, Option.toList_some, List.map_append, List.reverse_append]
  rfl
set_option maxHeartbeats 1000000 in
theorem implDet (A : Option Addr) (c : Nat) (rs : List (List Int)) (w : World) (hn : rs.length ≤ 1048576) (hl : ∀ r ∈ rs, r.length ≤ 1048576) (hS : IntSS w w.heap.size A rs) :
    Calls Try.prog 65 #[.slice A rs.length c] w fun e w' => e = .returned (.int .i64 (detB rs)) ∧ Below w.heap.size w w' := by
  have HM := Lib.hid (implMatrixOk A c rs w (by omega) (fun r hr => by have := hl r hr; omega) hS)
  have HS := Lib.hid hS
  clear hS hl
  cases hB : matB rs with
  | false =>
    rw [hB] at HM
    rw [detB_f hB]
    clear hB
    go_enter Try.func65, Try.ntmps65
    go_wp2_with fail
    refine HM.out.mono ?_
    rintro e w1 ⟨rfl, hb1⟩
    go_wp2
    go_ret
    exact ⟨rfl, hb1⟩
  | true =>
    rw [hB] at HM
    rw [detB_t hB]
    obtain ⟨h6, hent⟩ := matB_entries hB
    have HA := minorA_all (n := rs.length) (rs.map rowF) h6 (by simp)
    have hK0 : 0 < 2 ^ rs.length := Nat.two_pow_pos _
    obtain ⟨K, hK⟩ : ∃ K, K = 2 ^ rs.length := ⟨_, rfl⟩
    have hK64 : K ≤ 64 := by rw [hK]; exact Nat.pow_le_pow_right (by omega) h6
    have HEN := Lib.hid hent
    have HNR := fun w => GivesK.of (chipsOf_len _ _) (noRows_any rs.length w h6)
    have HWR := fun A C ca cc R row w h1 h2 h3 h4 => Lib.hid (GivesK.of (chipsOf_len _ _) (withRow_any rs.length A C ca cc R row w h6 h1 h2 h3 h4))
    have hr0 : minorA rs.length [] = minorA rs.length (revTo rs 0) := by simp [revTo]
    rw [← hK] at HNR HWR HA hK0
    rw [hr0] at HNR
    have HNR2 := fun w => Lib.hid (HNR w)
    have HALL := Lib.hid (show minorA rs.length (revTo rs rs.length) (K - 1) = detF (rs.map rowF) (List.range rs.length) by rw [← HA, revTo, List.take_length])
    have HST := fun k r h => Lib.hid (revTo_step (rs := rs) (k := k) (r := r) h)
    clear hB hK hr0 HA hent HNR
    go_enter Try.func65, Try.ntmps65
    go_wp2_with fail
    refine HM.out.mono ?_
    rintro e w1 ⟨rfl, hb1⟩
    have hs1 := hb1.size
    go_wp2_with fail
    refine (HNR2 _).out.mono ?_
    rintro e w2 ⟨A2, c2, rfl, ho2, hb2⟩
    have hbb := hb1.trans (hb2.mono hs1)
    have HO2 := Lib.hid ho2
    clear ho2 hb2
    go_wp2_with fail
    go_loopw [3, 15] (fun v i wr => ∃ k : Nat, k ≤ rs.length ∧ i = .int .i64 k ∧ (∃ A' c', v = .slice A' K c' ∧ IntS wr wr.heap.size A' (chipsOf K (minorA rs.length (revTo rs k)))) ∧ Below w.heap.size w wr) (fun _ i _ => rs.length - (intOf i).toNat)
    case atStart => exact ⟨0, Nat.zero_le _, rfl, ⟨A2, c2, rfl, HO2.out⟩, hbb⟩
    case round =>
      obtain ⟨k, hk, rfl, ⟨A', c', rfl, hms⟩, hb⟩ := hrel
      have HMS := Lib.hid hms
      clear hms
      by_cases hlt : k < rs.length
      · obtain ⟨b1, o1, r, Ai, ci, rfl, hb1', he, hc0, hri⟩ := (HS.out.below hb).at_ hlt
        have hk0 : (0 : Int) ≤ (k : Int) := Int.natCast_nonneg _
        have hk1 : (k : Int) < (rs.length : Int) := by omega
        obtain ⟨hrl, hre⟩ := HEN.out r (List.mem_of_getElem? he)
        have HST1 := Lib.hid (HST k r he).out
        have HRE := Lib.hid hre
        have HRL := Lib.hid (show r.length = rs.length by omega)
        have hbs := hb.size
        have HRI := Lib.hid (IntS.wide hri (show w.heap.size ≤ wr.heap.size by omega))
        clear he hre hrl hri
        go_wp2_with fail
        refine (HWR _ _ _ _ _ _ _ HRL.out HRE.out HMS.out HRI.out).out.mono ?_
        rintro e w4 ⟨A4, c4, rfl, ho4, hb4⟩
        rw [← HST1.out] at ho4
        have HO4 := Lib.hid ho4
        have hb5 := hb.trans (hb4.mono hbs)
        clear ho4 hb4
        go_wp2
        exact ⟨⟨k + 1, by omega, by go_num, ⟨A4, c4, rfl, HO4.out⟩, hb5⟩, by simp [intOf]; omega⟩
      · have hms2 := HMS.out
        rw [show k = rs.length by omega] at hms2
        obtain ⟨b1, o1, z, rfl, hb1', hz, hc0⟩ := hms2.at_ (k := K - 1) (by rw [chipsOf_len]; omega)
        rw [chipsOf_at _ (by omega), HALL.out] at hz
        injection hz with hz
        subst hz
        have hkk : (K : Int) - 1 = ((K - 1 : Nat) : Int) := by omega
        have hk0 : (0 : Int) ≤ ((K - 1 : Nat) : Int) := Int.natCast_nonneg _
        have hk1 : ((K - 1 : Nat) : Int) < (K : Int) := by omega
        clear hms2
        go_wp2
        go_ret
        exact ⟨rfl, hb⟩
end Go.Proofs.Ytmehdngibbilaaa

/- The specification's l03Det: expansion along the first row. -/
namespace Go.Proofs.Ytmehdngibbilaaa
open Go.RowKit

section
variable {P : Program} {w : World}
end
def pick (rs : List (List Int)) (R : List Nat) : List (Nat → Int) := R.map fun i => rowF (rs.getD i [])
def natI (l : List Nat) : List Int := l.map fun (n : Nat) => (n : Int)
theorem natI_len (l : List Nat) : (natI l).length = l.length := by simp [natI]
theorem natI_at {l : List Nat} {i n : Nat} (h : l[i]? = some n) : (natI l)[i]? = some (n : Int) := by simp [natI, h]
end Go.Proofs.Ytmehdngibbilaaa

/- The specification's Determinant. -/
namespace Go.Proofs.Ytmehdngibbilaaa
open Go.RowKit

theorem pick_all (rs : List (List Int)) : pick rs (List.range rs.length) = rs.map rowF := by
  apply List.ext_getElem?
  intro i
  simp only [pick, List.getElem?_map]
  by_cases h : i < rs.length
  · simp [List.getD, h]
  · rw [List.getElem?_eq_none (by simp; omega), List.getElem?_eq_none (by omega)]
    rfl
end Go.Proofs.Ytmehdngibbilaaa
