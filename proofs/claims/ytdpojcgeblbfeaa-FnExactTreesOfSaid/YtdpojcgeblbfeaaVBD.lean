/- One text out of several: MatOk DetM DetB InvM Ones DetI DetD DetS DetL. -/
import Derived.Test.YtdpojcgeblbfeaaVBA
import Derived.Test.YtdpojcgeblbfeaaVBF
import Derived.Test.YtdpojcgeblbfeaaVBG
import Derived.Deep.CutRange
import Derived.Deep.AppendLies
import Derived.Deep.RegionLaw
set_option linter.all false
/- MatrixOk: the specification's loops and the program's answer alike: one plain Bool function of the rows. -/
namespace Go.Proofs.Ytdpojcgeblbfeaa
open Go.RowKit

def entryOk (z : Int) : Bool := decide (-500 ≤ z) && decide (z ≤ 500)
def rowOk (n : Nat) (r : List Int) : Bool := decide (r.length = n) && r.all entryOk
def matB (rs : List (List Int)) : Bool := decide (rs.length ≤ 6) && rs.all (rowOk rs.length)
theorem matB_size {rs : List (List Int)} (h : 6 < rs.length) : matB rs = false := by
  simp only [matB, Bool.and_eq_false_iff, decide_eq_false_iff_not]
  omega
theorem matB_miss {rs : List (List Int)} {k : Nat} {r : List Int} (he : rs[k]? = some r) (h : rowOk rs.length r = false) : matB rs = false := by
  have : rs.all (rowOk rs.length) = false := by
    rw [List.all_eq_false]
    exact ⟨r, List.mem_of_getElem? he, by simp [h]⟩
  simp [matB, this]
theorem matB_all {rs : List (List Int)} (h1 : rs.length ≤ 6) (h : rs.all (rowOk rs.length) = true) : matB rs = true := by simp [matB, h1, h]
theorem rowOk_len {n : Nat} {r : List Int} (h : r.length ≠ n) : rowOk n r = false := by simp [rowOk, h]
theorem rowOk_miss {n : Nat} {r : List Int} {k : Nat} {z : Int} (he : r[k]? = some z) (h : entryOk z = false) : rowOk n r = false := by
  have : r.all entryOk = false := by
    rw [List.all_eq_false]
    exact ⟨z, List.mem_of_getElem? he, by simp [h]⟩
  simp [rowOk, this]
theorem rowOk_all {n : Nat} {r : List Int} (h1 : r.length = n) (h : r.all entryOk = true) : rowOk n r = true := by simp [rowOk, h1, h]
set_option maxHeartbeats 1000000 in
theorem specMatrixOk (A : Option Addr) (c : Nat) (rs : List (List Int)) (w : World) (hn : rs.length ≤ 9223372036854775807) (hl : ∀ r ∈ rs, r.length ≤ 9223372036854775807) (hS : IntSS w w.heap.size A rs) :
    Calls Try.prog 176 #[.slice A rs.length c] w fun e w' => e = .returned (.bool (matB rs)) ∧ w = w' := by
  have HS := Lib.hid hS
  have HL := Lib.hid hl
  clear hS hl
  by_cases h6 : 6 < rs.length
  · have H := Lib.hid (matB_size h6)
    go_enter Try.func176, Try.ntmps176
    go_wp2
    go_ret
    exact ⟨ret_boolE H.out.symm, rfl⟩
  have h6' : rs.length ≤ 6 := by omega
  clear h6
  go_enter Try.func176, Try.ntmps176
  go_wp2
  go_loopw [12] (fun i wr => ∃ k : Nat, k ≤ rs.length ∧ i = .int .i64 k ∧ (rs.take k).all (rowOk rs.length) = true ∧ w = wr) (fun i _ => rs.length - (intOf i).toNat)
  case atStart => exact ⟨0, Nat.zero_le _, rfl, rfl, rfl⟩
  case round =>
    obtain ⟨k, hk, rfl, hall, rfl⟩ := hrel
    have HA := Lib.hid hall
    clear hall
    by_cases hlt : k < rs.length
    · obtain ⟨b1, o1, r, Ai, ci, rfl, hb1, he, hc0, hri⟩ := HS.out.at_ hlt
      have hi0 : (0 : Int) ≤ (k : Int) := Int.natCast_nonneg _
      have hi1 : (k : Int) < (rs.length : Int) := by omega
      have hrl := HL.out r (List.mem_of_getElem? he)
      have HX := Lib.hid he
      have HRI := Lib.hid hri
      clear he hri
      by_cases hlen : r.length = rs.length
      · have t1 : ((r.length : Int) != (rs.length : Int)) = false := by simp [hlen]
        have HLN := Lib.hid hlen
        clear hlen
        go_wp2
        go_loopw [23] (fun i wr => ∃ j : Nat, j ≤ r.length ∧ i = .int .i64 j ∧ (r.take j).all entryOk = true ∧ w = wr) (fun i _ => r.length - (intOf i).toNat)
        case atStart => exact ⟨0, Nat.zero_le _, rfl, rfl, rfl⟩
        case round =>
          obtain ⟨j, hj, rfl, hall2, rfl⟩ := hrel
          have HA2 := Lib.hid hall2
          clear hall2
          by_cases hlt2 : j < r.length
          · obtain ⟨b2, o2, z, rfl, hb2, hz, hd0⟩ := HRI.out.at_ hlt2
            have hj0 : (0 : Int) ≤ (j : Int) := Int.natCast_nonneg _
            have hj1 : (j : Int) < (r.length : Int) := by omega
            have HZ := Lib.hid hz
            clear hz
            cases hen : entryOk z with
            | true =>
              have hin : inB z (-500) 500 = true := hen
              have H := Lib.hid (allTake_snoc HA2.out HZ.out hen)
              clear hen
              go_wp2_with (go_at_call 68; refine (l01In_any _ _ _ _).mono ?_; rintro e w' ⟨rfl, rfl⟩)
              exact ⟨⟨j + 1, by omega, by go_num, H.out, trivial⟩, by simp [intOf]; omega⟩
            | false =>
              have hin : inB z (-500) 500 = false := hen
              have H := Lib.hid (matB_miss HX.out (rowOk_miss HZ.out hen))
              clear hen
              go_wp2_with (go_at_call 68; refine (l01In_any _ _ _ _).mono ?_; rintro e w' ⟨rfl, rfl⟩)
              go_ret
              exact ⟨ret_boolE H.out.symm, rfl⟩
          · have H := Lib.hid (allTake_snoc HA.out HX.out (rowOk_all HLN.out (allTake_end HA2.out (by omega))))
            go_wp2
            exact ⟨⟨k + 1, by omega, by go_num, H.out, trivial⟩, by simp [intOf]; omega⟩
      · have t1 : ((r.length : Int) != (rs.length : Int)) = true := by simp; omega
        have H := Lib.hid (matB_miss HX.out (rowOk_len hlen))
        clear hlen
        go_wp2
        go_ret
        exact ⟨ret_boolE H.out.symm, rfl⟩
    · have H := Lib.hid (matB_all h6' (allTake_end HA.out (by omega)))
      go_wp2
      go_ret
      exact ⟨ret_boolE H.out.symm, rfl⟩

theorem within_entry : within 500 = entryOk := rfl
set_option maxHeartbeats 1000000 in
theorem implMatrixOk (A : Option Addr) (c : Nat) (rs : List (List Int)) (w : World) (hn : rs.length ≤ 9223372036854775807) (hl : ∀ r ∈ rs, r.length ≤ 9223372036854775807) (hS : IntSS w w.heap.size A rs) :
    Calls Try.prog 180 #[.slice A rs.length c] w fun e w' => e = .returned (.bool (matB rs)) ∧ Below w.heap.size w w' := by
  have HS := Lib.hid hS
  have HL := Lib.hid hl
  clear hS hl
  by_cases h6 : 6 < rs.length
  · have H := Lib.hid (matB_size h6)
    go_enter Try.func180, Try.ntmps180
    go_wp2
    go_ret
    exact ⟨ret_boolE H.out.symm, Below.refl _ _⟩
  have h6' : rs.length ≤ 6 := by omega
  clear h6
  go_enter Try.func180, Try.ntmps180
  go_wp2
  go_loopw [10] (fun i wr => ∃ k : Nat, k ≤ rs.length ∧ i = .int .i64 k ∧ (rs.take k).all (rowOk rs.length) = true ∧ Below w.heap.size w wr) (fun i _ => rs.length - (intOf i).toNat)
  case atStart => exact ⟨0, Nat.zero_le _, rfl, rfl, Below.refl _ _⟩
  case round =>
    obtain ⟨k, hk, rfl, hall, hb⟩ := hrel
    have HA := Lib.hid hall
    clear hall
    by_cases hlt : k < rs.length
    · obtain ⟨b1, o1, r, Ai, ci, rfl, hb1, he, hc0, hri⟩ := (HS.out.below hb).at_ hlt
      have hi0 : (0 : Int) ≤ (k : Int) := Int.natCast_nonneg _
      have hi1 : (k : Int) < (rs.length : Int) := by omega
      have hrl := HL.out r (List.mem_of_getElem? he)
      have HX := Lib.hid he
      by_cases hlen : r.length = rs.length
      · have t1 : ((r.length : Int) != (rs.length : Int)) = false := by simp [hlen]
        have HLN := Lib.hid hlen
        have HCF := Lib.hid (areWithin_any Ai ci _ r 500 wr (by omega) (by omega) (by omega) hri)
        rw [within_entry] at HCF
        clear hlen he hri
        cases hen : r.all entryOk with
        | true =>
          have H := Lib.hid (allTake_snoc HA.out HX.out (rowOk_all HLN.out hen))
          rw [hen] at HCF
          clear hen
          go_wp2_with (go_at_call 158; refine HCF.out.mono ?_; rintro e w' ⟨rfl, rfl⟩)
          exact ⟨⟨k + 1, by omega, by go_num, H.out, hb⟩, by simp [intOf]; omega⟩
        | false =>
          have H := Lib.hid (matB_miss HX.out (show rowOk rs.length r = false by simp [rowOk, hen]))
          rw [hen] at HCF
          clear hen
          go_wp2_with (go_at_call 158; refine HCF.out.mono ?_; rintro e w' ⟨rfl, rfl⟩)
          go_ret
          exact ⟨ret_boolE H.out.symm, hb⟩
      · have t1 : ((r.length : Int) != (rs.length : Int)) = true := by simp; omega
        have H := Lib.hid (matB_miss HX.out (rowOk_len hlen))
        clear hlen he hri
        go_wp2
        go_ret
        exact ⟨ret_boolE H.out.symm, hb⟩
    · have H := Lib.hid (matB_all h6' (allTake_end HA.out (by omega)))
      go_wp2
      go_ret
      exact ⟨ret_boolE H.out.symm, hb⟩
end Go.Proofs.Ytdpojcgeblbfeaa

/- Determinants, the plain math: expansion along the first row and along the last row agree. -/
namespace Go.Proofs.Ytdpojcgeblbfeaa

def sumN : Nat → (Nat → Int) → Int
  | 0, _ => 0
  | n + 1, f => sumN n f + f n
theorem sumN_congr {f g : Nat → Int} : ∀ n : Nat, (∀ i, i < n → f i = g i) → sumN n f = sumN n g
  | 0, _ => rfl
  | n + 1, h => by rw [sumN, sumN, sumN_congr n (fun i hi => h i (by omega)), h n (by omega)]
theorem sumN_add (f g : Nat → Int) : ∀ n, sumN n (fun i => f i + g i) = sumN n f + sumN n g
  | 0 => rfl
  | n + 1 => by rw [sumN, sumN, sumN, sumN_add f g n]; omega
theorem sumN_mul (c : Int) (f : Nat → Int) : ∀ n, sumN n (fun i => c * f i) = c * sumN n f
  | 0 => by simp [sumN]
  | n + 1 => by rw [sumN, sumN, sumN_mul c f n, Int.mul_add]
theorem sumN_zero : ∀ n, sumN n (fun _ => 0) = 0
  | 0 => rfl
  | n + 1 => by rw [sumN, sumN_zero n]; rfl
theorem sumN_swap (F : Nat → Nat → Int) : ∀ n m, sumN n (fun i => sumN m (fun j => F i j)) = sumN m (fun j => sumN n (fun i => F i j))
  | 0, m => by simp only [sumN]; rw [sumN_zero]
  | n + 1, m => by
    rw [sumN, sumN_swap F n m]
    simp only [sumN]
    rw [sumN_add]
theorem sumN_one {f : Nat → Int} {a : Nat} : ∀ n, a < n → (∀ i, i < n → i ≠ a → f i = 0) → sumN n f = f a
  | 0, h, _ => by omega
  | n + 1, h, h0 => by
    rw [sumN]
    by_cases e : a = n
    · subst e
      rw [sumN_congr a (g := fun _ => 0) (fun i hi => h0 i (by omega) (by omega)), sumN_zero]
      omega
    · rw [sumN_one n (by omega) (fun i hi => h0 i (by omega)), h0 n (by omega) (Ne.symm e)]
      omega
def skip (a j : Nat) : Nat := if j < a then j else j + 1
theorem sumN_skip (h : Nat → Int) {a : Nat} : ∀ n, a ≤ n → sumN (n + 1) h = sumN n (fun j => h (skip a j)) + h a
  | 0, ha => by
    obtain rfl : a = 0 := by omega
    simp [sumN]
  | n + 1, ha => by
    by_cases e : a = n + 1
    · subst e
      rw [sumN, sumN_congr (n + 1) (f := h) (g := fun j => h (skip (n + 1) j)) (fun i hi => by rw [skip, if_pos hi])]
    · rw [sumN, sumN_skip h (a := a) n (by omega), sumN]
      have : skip a n = n + 1 := by rw [skip, if_neg (by omega)]
      rw [this]
      omega
def sgn (n : Nat) : Int := if n % 2 = 0 then 1 else -1
theorem sgn_succ (n : Nat) : sgn (n + 1) = - sgn n := by
  unfold sgn
  by_cases h : n % 2 = 0
  · rw [if_pos h, if_neg (by omega)]
  · rw [if_neg h, if_pos (by omega)]; rfl

def detF : List (Nat → Int) → List Nat → Int
  | [], _ => 1
  | r :: R, C => sumN C.length fun i => sgn i * r (C.getD i 0) * detF R (C.eraseIdx i)
def detL : List (Nat → Int) → List Nat → Int
  | [], _ => 1
  | r :: R, C => sumN C.length fun i => sgn (C.length - 1 - i) * r (C.getD i 0) * detL R (C.eraseIdx i)

theorem getD_erase (C : List Nat) (a j : Nat) : (C.eraseIdx a).getD j 0 = C.getD (skip a j) 0 := by
  simp only [List.getD, List.getElem?_eraseIdx, skip]
  split <;> rfl
theorem erase_comm (C : List Nat) {a b : Nat} (h : a < b) : (C.eraseIdx a).eraseIdx (b - 1) = (C.eraseIdx b).eraseIdx a := by
  apply List.ext_getElem?
  intro i
  simp only [List.getElem?_eraseIdx]
  by_cases h1 : i < a
  · rw [if_pos (by omega), if_pos h1, if_pos h1, if_pos (by omega)]
  · by_cases h2 : i < b - 1
    · rw [if_pos h2, if_neg h1, if_neg h1, if_pos (by omega)]
    · rw [if_neg h2, if_neg (by omega), if_neg h1, if_neg (by omega)]
theorem erase_len {C : List Nat} {a : Nat} (h : a < C.length) : (C.eraseIdx a).length = C.length - 1 := by rw [List.length_eraseIdx_of_lt h]

def term2 (r0 r : Nat → Int) (D : List Nat → Int) (C : List Nat) (n a b : Nat) : Int :=
  if a = b then 0 else if b < a then sgn a * r0 (C.getD a 0) * (sgn (n - b) * r (C.getD b 0) * D ((C.eraseIdx a).eraseIdx b))
  else sgn a * r0 (C.getD a 0) * (sgn (n - (b - 1)) * r (C.getD b 0) * D ((C.eraseIdx a).eraseIdx (b - 1)))
theorem term2_row (r0 r : Nat → Int) (D : List Nat → Int) (C : List Nat) (n a j : Nat) :
    sgn a * r0 (C.getD a 0) * (sgn (n - j) * r ((C.eraseIdx a).getD j 0) * D ((C.eraseIdx a).eraseIdx j)) = term2 r0 r D C n a (skip a j) := by
  rw [getD_erase, term2]
  by_cases h : j < a
  · have hs : skip a j = j := by rw [skip, if_pos h]
    rw [hs, if_neg (by omega), if_pos h]
  · have hs : skip a j = j + 1 := by rw [skip, if_neg h]
    rw [hs, if_neg (by omega), if_neg (by omega), Nat.add_sub_cancel]
theorem mul_swap (s t x y d : Int) : s * x * (t * y * d) = t * y * (s * x * d) := by
  rw [Int.mul_assoc t y d, Int.mul_assoc s x, Int.mul_assoc t y (s * x * d), Int.mul_assoc s x d]
  rw [Int.mul_left_comm x t (y * d), Int.mul_left_comm s t, Int.mul_left_comm x y d, Int.mul_left_comm s y]
theorem term2_col (r0 r : Nat → Int) (D : List Nat → Int) (C : List Nat) (n b i : Nat) (hb : b ≤ n + 1) (hi : i ≤ n) :
    sgn (n + 1 - b) * r (C.getD b 0) * (sgn i * r0 ((C.eraseIdx b).getD i 0) * D ((C.eraseIdx b).eraseIdx i)) = term2 r0 r D C n (skip b i) b := by
  rw [getD_erase, term2]
  by_cases h : i < b
  · have hs : skip b i = i := by rw [skip, if_pos h]
    rw [hs, if_neg (by omega), if_neg (by omega), erase_comm C h, mul_swap]
    have e : n - (b - 1) = n + 1 - b := by omega
    rw [e]
  · have hs : skip b i = i + 1 := by rw [skip, if_neg h]
    rw [hs, if_neg (by omega), if_pos (by omega)]
    have e2 := erase_comm C (a := b) (b := i + 1) (by omega)
    rw [Nat.add_sub_cancel] at e2
    rw [← e2, mul_swap, sgn_succ i]
    have e3 : n + 1 - b = (n - b) + 1 := by omega
    rw [e3, sgn_succ]
    simp only [Int.neg_mul, Int.mul_neg]

theorem det_same : ∀ n (R : List (Nat → Int)) (C : List Nat), R.length = n → C.length = n → detF R C = detL R.reverse C
  | 0, R, C, hR, hC => by
    obtain rfl : R = [] := List.length_eq_zero_iff.1 hR
    rfl
  | 1, R, C, hR, hC => by
    obtain ⟨r, rfl⟩ := List.length_eq_one_iff.1 hR
    simp only [List.reverse_cons, List.reverse_nil, List.nil_append, detF, detL, hC]
    rfl
  | n + 2, R, C, hR, hC => by
    match R, hR with
    | r0 :: Rt, hR =>
      have hRt : Rt.length = n + 1 := by simpa using hR
      obtain ⟨Rm, r, rfl⟩ : ∃ Rm r, Rt = Rm ++ [r] := by
        rcases List.eq_nil_or_concat Rt with h | ⟨L, b, h⟩
        · rw [h] at hRt; simp at hRt
        · exact ⟨L, b, by rw [h, List.concat_eq_append]⟩
      have hRm : Rm.length = n := by simpa using hRt
      have hl : detF (r0 :: (Rm ++ [r])) C = sumN (n + 2) fun a => sumN (n + 2) fun b => term2 r0 r (detL Rm.reverse) C n a b := by
        rw [detF, hC]
        refine sumN_congr _ fun a ha => ?_
        have hCe : (C.eraseIdx a).length = n + 1 := by rw [erase_len (by omega)]; omega
        rw [det_same (n + 1) (Rm ++ [r]) (C.eraseIdx a) hRt hCe, List.reverse_append, List.reverse_singleton, List.singleton_append, detL, hCe, ← sumN_mul,
          sumN_skip (fun b => term2 r0 r (detL Rm.reverse) C n a b) (a := a) (n + 1) (by omega)]
        have h0 : term2 r0 r (detL Rm.reverse) C n a a = 0 := by rw [term2, if_pos rfl]
        rw [h0, Int.add_zero]
        refine sumN_congr _ fun j hj => ?_
        rw [← term2_row]
        rfl
      have hr : detL (r0 :: (Rm ++ [r])).reverse C = sumN (n + 2) fun b => sumN (n + 2) fun a => term2 r0 r (detL Rm.reverse) C n a b := by
        rw [show (r0 :: (Rm ++ [r])).reverse = r :: (r0 :: Rm).reverse by simp, detL, hC]
        refine sumN_congr _ fun b hb => ?_
        have hCe : (C.eraseIdx b).length = n + 1 := by rw [erase_len (by omega)]; omega
        rw [← det_same (n + 1) (r0 :: Rm) (C.eraseIdx b) (by simpa using hRm) hCe, detF, hCe, ← sumN_mul,
          sumN_skip (fun a => term2 r0 r (detL Rm.reverse) C n a b) (a := b) (n + 1) (by omega)]
        have h0 : term2 r0 r (detL Rm.reverse) C n b b = 0 := by rw [term2, if_pos rfl]
        rw [h0, Int.add_zero]
        refine sumN_congr _ fun i hi => ?_
        have hCe2 : ((C.eraseIdx b).eraseIdx i).length = n := by rw [erase_len (by omega), hCe]; omega
        rw [det_same n Rm _ hRm hCe2, ← term2_col r0 r (detL Rm.reverse) C n b i (by omega) (by omega)]
        rfl
      rw [hl, hr, sumN_swap]
end Go.Proofs.Ytdpojcgeblbfeaa

/- Minors by sets of columns, the plain math: a set of columns is a number whose bits they are. -/
namespace Go.Proofs.Ytdpojcgeblbfeaa

def bitsN (n T : Nat) : List Nat := (List.range n).filter fun c => T.testBit c
def ones (x : Nat) : Nat := ((List.range 6).filter fun c => x.testBit c).length
theorem bit_with : ∀ T, T < 64 → ∀ c, c < 6 → T.testBit c = true → T ^^^ (1 <<< c) ≤ T ∧ (T ^^^ (1 <<< c)).testBit c = false ∧ (T ^^^ (1 <<< c)) ||| (1 <<< c) = T := by decide +kernel
theorem bit_only : ∀ S, S < 64 → ∀ c, c < 6 → S.testBit c = false → (S ||| (1 <<< c)).testBit c = true ∧ (S ||| (1 <<< c)) ^^^ (1 <<< c) = S := by decide +kernel
theorem bit_lt : ∀ n, n ≤ 6 → ∀ S, S < 2 ^ n → ∀ c, c < n → S ||| (1 <<< c) < 2 ^ n := by decide +kernel
theorem bit_list : ∀ n, n ≤ 6 → ∀ T, T < 2 ^ n → ∀ i, i < (bitsN n T).length → (bitsN n T).getD i 0 < n ∧ T.testBit ((bitsN n T).getD i 0) = true ∧
    bitsN n (T ^^^ (1 <<< (bitsN n T).getD i 0)) = (bitsN n T).eraseIdx i ∧ ones ((T ^^^ (1 <<< (bitsN n T).getD i 0)) >>> ((bitsN n T).getD i 0)) = (bitsN n T).length - 1 - i := by decide +kernel
theorem sum_filter (p : Nat → Bool) (h : Nat → Int) : ∀ n, sumN n (fun c => if p c = true then h c else 0) = sumN ((List.range n).filter p).length fun i => h (((List.range n).filter p).getD i 0)
  | 0 => by simp [sumN]
  | n + 1 => by
    rw [sumN, sum_filter p h n, List.range_succ, List.filter_append]
    cases hp : p n with
    | false => simp [hp]
    | true =>
      have e : [n].filter p = [n] := by simp [hp]
      rw [e, List.length_append, List.length_singleton, sumN, if_pos rfl]
      congr 1
      · refine sumN_congr _ fun i hi => ?_
        congr 1
        simp only [List.getD]
        rw [List.getElem?_append_left hi]
      · congr 1
        simp [List.getD]
def gives (r A : Nat → Int) (T S c : Nat) : Int := if S.testBit c = false ∧ S ||| (1 <<< c) = T then sgn (ones (S >>> c)) * r c * A S else 0
theorem gives_all (r A : Nat → Int) {n T : Nat} (hn : n ≤ 6) (hT : T < 2 ^ n) : sumN (2 ^ n) (fun S => sumN n fun c => gives r A T S c) =
    sumN (bitsN n T).length fun i => sgn ((bitsN n T).length - 1 - i) * r ((bitsN n T).getD i 0) * A (T ^^^ (1 <<< (bitsN n T).getD i 0)) := by
  have h64 : 2 ^ n ≤ 64 := Nat.pow_le_pow_right (by omega) hn
  rw [sumN_swap]
  have h1 : sumN n (fun c => sumN (2 ^ n) fun S => gives r A T S c) = sumN n fun c => if T.testBit c = true then sgn (ones ((T ^^^ (1 <<< c)) >>> c)) * r c * A (T ^^^ (1 <<< c)) else 0 := by
    refine sumN_congr n fun c hc => ?_
    cases ht : T.testBit c with
    | true =>
      obtain ⟨b1, b2, b3⟩ := bit_with T (by omega) c (by omega) ht
      rw [if_pos rfl, sumN_one (a := T ^^^ (1 <<< c)) (2 ^ n) (by omega) (fun S hS hne => ?_), gives, if_pos ⟨b2, b3⟩]
      rw [gives, if_neg]
      rintro ⟨s1, s2⟩
      have := (bit_only S (by omega) c (by omega) s1).2
      rw [s2] at this
      exact hne this.symm
    | false =>
      rw [if_neg (by simp), sumN_congr (2 ^ n) (g := fun _ => 0) (fun S hS => ?_), sumN_zero]
      rw [gives, if_neg]
      rintro ⟨s1, s2⟩
      have := (bit_only S (by omega) c (by omega) s1).1
      rw [s2, ht] at this
      cases this
  rw [h1, sum_filter (fun c => T.testBit c) (fun c => sgn (ones ((T ^^^ (1 <<< c)) >>> c)) * r c * A (T ^^^ (1 <<< c))) n]
  refine sumN_congr _ fun i hi => ?_
  have hb := bit_list n hn T hT i hi
  have hq := hb.2.2.2
  unfold bitsN at hq ⊢
  rw [hq]
def minorA (n : Nat) (R : List (Nat → Int)) (S : Nat) : Int := if (bitsN n S).length = R.length then detL R (bitsN n S) else 0
theorem minorA_step {n T : Nat} (r : Nat → Int) (R : List (Nat → Int)) (hn : n ≤ 6) (hT : T < 2 ^ n) : sumN (2 ^ n) (fun S => sumN n fun c => gives r (minorA n R) T S c) = minorA n (r :: R) T := by
  rw [gives_all r (minorA n R) hn hT]
  have hA : ∀ i, i < (bitsN n T).length → minorA n R (T ^^^ (1 <<< (bitsN n T).getD i 0)) = if (bitsN n T).length = R.length + 1 then detL R ((bitsN n T).eraseIdx i) else 0 := fun i hi => by
    rw [minorA, (bit_list n hn T hT i hi).2.2.1, List.length_eraseIdx_of_lt hi]
    have e : ((bitsN n T).length - 1 = R.length) = ((bitsN n T).length = R.length + 1) := by apply propext; omega
    simp only [e]
  rw [minorA, List.length_cons]
  by_cases h : (bitsN n T).length = R.length + 1
  · rw [if_pos h, detL]
    refine sumN_congr _ fun i hi => ?_
    rw [hA i hi, if_pos h]
  · rw [if_neg h, sumN_congr _ (g := fun _ => 0) (fun i hi => by rw [hA i hi, if_neg h, Int.mul_zero]), sumN_zero]
theorem minorA_none {n S : Nat} (hn : n ≤ 6) (hS : S < 2 ^ n) : minorA n [] S = if S = 0 then 1 else 0 := by
  have h : ∀ n, n ≤ 6 → ∀ S, S < 2 ^ n → ((bitsN n S).length = 0 ↔ S = 0) := by decide +kernel
  rw [minorA, List.length_nil]
  simp only [h n hn S hS]
  rfl
theorem bits_all : ∀ n, n ≤ 6 → bitsN n (2 ^ n - 1) = List.range n := by decide +kernel
theorem minorA_all {n : Nat} (rows : List (Nat → Int)) (hn : n ≤ 6) (hl : rows.length = n) : minorA n rows.reverse (2 ^ n - 1) = detF rows (List.range n) := by
  rw [minorA, bits_all n hn, if_pos (by simp [hl]), det_same n rows _ hl (by simp)]
end Go.Proofs.Ytdpojcgeblbfeaa

/- Invariant factors, the plain math: bounds of determinants, greatest common divisors of lists, sets of rows. -/
namespace Go.Proofs.Ytdpojcgeblbfeaa

theorem lin_all (f : Int → Int) (K : Int) (h : ∃ p q : Int, ∀ x, f x = x * p + q) (h1 : ∀ s, s ∈ [500, -500] → -K ≤ f s ∧ f s ≤ K) (x : Int) (hx : -500 ≤ x ∧ x ≤ 500) : -K ≤ f x ∧ f x ≤ K := by
  obtain ⟨p, q, h⟩ := h
  have a1 := h1 500 (by simp)
  have a2 := h1 (-500) (by simp)
  rw [h] at a1 a2 ⊢
  rcases Int.le_total 0 p with hp | hp
  · have b1 := Int.mul_le_mul_of_nonneg_right hx.2 hp
    have b2 := Int.mul_le_mul_of_nonneg_right hx.1 hp
    omega
  · have b1 := Int.mul_le_mul_of_nonpos_right hx.2 hp
    have b2 := Int.mul_le_mul_of_nonpos_right hx.1 hp
    omega
def D3 (a b c d e f g h i : Int) : Int := a * (e * i - f * h) - b * (d * i - f * g) + c * (d * h - e * g)
theorem D3_corners : ∀ a ∈ [500, -500], ∀ b ∈ [500, -500], ∀ c ∈ [500, -500], ∀ d ∈ [500, -500], ∀ e ∈ [500, -500], ∀ f ∈ [500, -500], ∀ g ∈ [500, -500], ∀ h ∈ [500, -500], ∀ i ∈ [500, -500],
    (-500000000 : Int) ≤ D3 a b c d e f g h i ∧ D3 a b c d e f g h i ≤ 500000000 := by decide +kernel
def in5 (x : Int) : Prop := -500 ≤ x ∧ x ≤ 500
theorem D3_bound {a b c d e f g h i : Int} (ha : in5 a) (hb : in5 b) (hc : in5 c) (hd : in5 d) (he : in5 e) (hf : in5 f) (hg : in5 g) (hh : in5 h) (hi : in5 i) :
    (-500000000 : Int) ≤ D3 a b c d e f g h i ∧ D3 a b c d e f g h i ≤ 500000000 := by
  refine lin_all (fun a => D3 a b c d e f g h i) 500000000 ⟨e * i - f * h, - b * (d * i - f * g) + c * (d * h - e * g), fun x => by unfold D3; grind⟩ (fun a ja => ?_) a ha
  refine lin_all (fun b => D3 a b c d e f g h i) 500000000 ⟨- (d * i - f * g), a * (e * i - f * h) + c * (d * h - e * g), fun x => by unfold D3; grind⟩ (fun b jb => ?_) b hb
  refine lin_all (fun c => D3 a b c d e f g h i) 500000000 ⟨d * h - e * g, a * (e * i - f * h) - b * (d * i - f * g), fun x => by unfold D3; grind⟩ (fun c jc => ?_) c hc
  refine lin_all (fun d => D3 a b c d e f g h i) 500000000 ⟨- b * i + c * h, a * (e * i - f * h) + b * (f * g) - c * (e * g), fun x => by unfold D3; grind⟩ (fun d jd => ?_) d hd
  refine lin_all (fun e => D3 a b c d e f g h i) 500000000 ⟨a * i - c * g, - a * (f * h) - b * (d * i - f * g) + c * (d * h), fun x => by unfold D3; grind⟩ (fun e je => ?_) e he
  refine lin_all (fun f => D3 a b c d e f g h i) 500000000 ⟨- a * h + b * g, a * (e * i) - b * (d * i) + c * (d * h - e * g), fun x => by unfold D3; grind⟩ (fun f jf => ?_) f hf
  refine lin_all (fun g => D3 a b c d e f g h i) 500000000 ⟨b * f - c * e, a * (e * i - f * h) - b * (d * i) + c * (d * h), fun x => by unfold D3; grind⟩ (fun g jg => ?_) g hg
  refine lin_all (fun h => D3 a b c d e f g h i) 500000000 ⟨- a * f + c * d, a * (e * i) - b * (d * i - f * g) - c * (e * g), fun x => by unfold D3; grind⟩ (fun h jh => ?_) h hh
  refine lin_all (fun i => D3 a b c d e f g h i) 500000000 ⟨a * e - b * d, - a * (f * h) + b * (f * g) + c * (d * h - e * g), fun x => by unfold D3; grind⟩ (fun i ji => ?_) i hi
  exact D3_corners a ja b jb c jc d jd e je f jf g jg h jh i ji

def absB (b x : Int) : Prop := -b ≤ x ∧ x ≤ b
theorem sumN_abs {f : Nat → Int} {b : Int} : ∀ n : Nat, (∀ i, i < n → absB b (f i)) → absB (n * b) (sumN n f)
  | 0, _ => by simp [absB, sumN]
  | n + 1, h => by
    have h1 := sumN_abs n (fun i hi => h i (by omega))
    have h2 := h n (by omega)
    unfold absB at *
    rw [sumN]
    have e : ((n + 1 : Nat) : Int) * b = n * b + b := by rw [Int.natCast_add, Int.add_mul]; omega
    rw [e]
    omega
theorem mul_abs {x y b : Int} (hx : in5 x) (hy : absB b y) : absB (500 * b) (x * y) := by
  unfold in5 at hx
  unfold absB at *
  rcases Int.le_total 0 y with hp | hp
  · have b1 := Int.mul_le_mul_of_nonneg_right hx.2 hp
    have b2 := Int.mul_le_mul_of_nonneg_right hx.1 hp
    omega
  · have b1 := Int.mul_le_mul_of_nonpos_right hx.2 hp
    have b2 := Int.mul_le_mul_of_nonpos_right hx.1 hp
    omega
theorem sgn_abs {i : Nat} {x : Int} (h : in5 x) : in5 (sgn i * x) := by
  unfold in5 at *
  unfold sgn
  split <;> omega
theorem det_step {r : Nat → Int} {R : List (Nat → Int)} {n : Nat} {b : Int} (hr : ∀ c, in5 (r c)) (h : ∀ C : List Nat, C.length = n → absB b (detF R C)) (C : List Nat) (hC : C.length = n + 1) : absB ((n + 1 : Nat) * (500 * b)) (detF (r :: R) C) := by
  rw [detF, hC]
  refine sumN_abs _ fun i hi => ?_
  exact mul_abs (sgn_abs (hr _)) (h _ (by rw [List.length_eraseIdx_of_lt (by omega)]; omega))
theorem det_three {r s t : Nat → Int} (hr : ∀ c, in5 (r c)) (hs : ∀ c, in5 (s c)) (ht : ∀ c, in5 (t c)) (C : List Nat) (hC : C.length = 3) : absB 500000000 (detF [r, s, t] C) := by
  match C, hC with
  | [x, y, z], _ =>
    have e : detF [r, s, t] [x, y, z] = D3 (r x) (r y) (r z) (s x) (s y) (s z) (t x) (t y) (t z) := by
      simp [detF, sumN, sgn, D3, List.getD]
      grind
    rw [e]
    exact D3_bound (hr x) (hr y) (hr z) (hs x) (hs y) (hs z) (ht x) (ht y) (ht z)
theorem det_bound : ∀ (R : List (Nat → Int)) (C : List Nat), R.length ≤ 6 → C.length = R.length → (∀ r ∈ R, ∀ c, in5 (r c)) → absB 7500000000000000000 (detF R C) := by
  have h0 : ∀ C : List Nat, C.length = 0 → absB 1 (detF [] C) := fun C _ => by simp [detF, absB]
  have up : ∀ {a b x : Int}, absB a x → a ≤ b → absB b x := fun h hab => by unfold absB at *; omega
  intro R C h6 hC hR
  match R, h6, hC, hR with
  | [], _, hC, _ => exact up (h0 C hC) (by omega)
  | [r], _, hC, hR => exact up (det_step (hR r (by simp)) h0 C hC) (by omega)
  | [r, s], _, hC, hR => exact up (det_step (hR r (by simp)) (det_step (hR s (by simp)) h0) C hC) (by omega)
  | [r, s, t], _, hC, hR => exact up (det_three (hR r (by simp)) (hR s (by simp)) (hR t (by simp)) C hC) (by omega)
  | [q, r, s, t], _, hC, hR => exact up (det_step (hR q (by simp)) (det_three (hR r (by simp)) (hR s (by simp)) (hR t (by simp))) C hC) (by omega)
  | [p, q, r, s, t], _, hC, hR => exact up (det_step (hR p (by simp)) (det_step (hR q (by simp)) (det_three (hR r (by simp)) (hR s (by simp)) (hR t (by simp)))) C hC) (by omega)
  | [o, p, q, r, s, t], _, hC, hR => exact up (det_step (hR o (by simp)) (det_step (hR p (by simp)) (det_step (hR q (by simp)) (det_three (hR r (by simp)) (hR s (by simp)) (hR t (by simp))))) C hC) (by omega)
  | _ :: _ :: _ :: _ :: _ :: _ :: _ :: _, h, _, _ => simp at h

def gcdL : Nat → List Int → Nat
  | g, [] => g
  | g, x :: l => gcdL (Nat.gcd g x.natAbs) l
theorem dvd_gcdL {d : Nat} : ∀ (l : List Int) (g : Nat), d ∣ gcdL g l ↔ d ∣ g ∧ ∀ x ∈ l, d ∣ x.natAbs
  | [], g => by simp [gcdL]
  | x :: l, g => by
    rw [gcdL, dvd_gcdL l, Nat.dvd_gcd_iff]
    simp [and_assoc]
theorem eq_of_dvd {a b : Nat} (h : ∀ d, d ∣ a ↔ d ∣ b) : a = b := Nat.dvd_antisymm ((h a).1 (Nat.dvd_refl a)) ((h b).2 (Nat.dvd_refl b))
def subl {α : Type} : List α → List (List α)
  | [] => [[]]
  | x :: l => subl l ++ (subl l).map (x :: ·)
def behind (s : List Nat) : Nat := match s.getLast? with
  | none => 0
  | some x => x + 1
def setsB (n : Nat) : Nat → List (List Nat)
  | 0 => [[]]
  | k + 1 => (setsB n k).flatMap fun s => (List.range' (behind s) (n - behind s)).map fun i => s ++ [i]
theorem subl_sets : ∀ n, n ≤ 6 → ∀ s ∈ subl (List.range n), s ∈ setsB n s.length := by decide +kernel
theorem sets_size : ∀ n, n ≤ 6 → ∀ k, k ≤ 6 → (setsB n k).length ≤ 20 ∧ ∀ s ∈ setsB n k, s.length = k ∧ (∀ i ∈ s, i < n) ∧ behind s ≤ n := by decide +kernel
def gSets (n : Nat) (f : Nat → Nat → Int) (k : Nat) : Nat := gcdL 0 ((setsB n k).flatMap fun R => (setsB n k).map fun C => detF (R.map f) C)
end Go.Proofs.Ytdpojcgeblbfeaa

/- bits.OnesCount of numbers below 64. -/
namespace Go.Proofs.Ytdpojcgeblbfeaa
open Go.RowKit

set_option maxRecDepth 100000 in
set_option maxHeartbeats 1000000 in
theorem ones64 (x : Nat) (hx : x < 64) (w : World) : Calls Try.prog 220 #[.int .u64 (x : Int)] w fun e w' => e = .returned (.int .i64 (ones x)) ∧ w = w' := by
  go_enter Try.func220, Try.ntmps220
  go_wp2
  go_ret
  refine ⟨ret_intE ?_, rfl⟩
  revert hx
  revert x
  decide +kernel
theorem onesU (x : Nat) (hx : x < 64) (w : World) : Calls Try.prog 201 #[.int .u64 (x : Int)] w fun e w' => e = .returned (.int .i64 (ones x)) ∧ w = w' := by
  go_enter Try.func201, Try.ntmps201
  go_wp2_with (go_at_call 220; refine (ones64 x hx _).mono ?_; rintro e w' ⟨rfl, rfl⟩)
  go_ret
  exact ⟨rfl, rfl⟩
end Go.Proofs.Ytdpojcgeblbfeaa

/- The program's minors: minorsOfNoRows and minorsWithRow. -/
namespace Go.Proofs.Ytdpojcgeblbfeaa
open Go.RowKit

theorem wrap_mul (a e b : Int) : wrap64 (wrap64 a + wrap64 (e * wrap64 b)) = wrap64 (a + e * b) := by
  obtain ⟨k, hk⟩ : ∃ k : Int, wrap64 b = b + 18446744073709551616 * k := ⟨-((b + 9223372036854775808) / 18446744073709551616), by unfold wrap64; omega⟩
  rw [hk, Int.mul_add]
  have h : e * (18446744073709551616 * k) = 18446744073709551616 * (e * k) := by rw [Int.mul_left_comm]
  rw [h]
  generalize e * k = m
  generalize e * b = q
  unfold wrap64
  omega
def part2 (r A : Nat → Int) (n S c T : Nat) : Int := sumN S (fun S' => sumN n fun c' => gives r A T S' c') + sumN c fun c' => gives r A T S c'
theorem part2_zero (r A : Nat → Int) (n : Nat) : part2 r A n 0 0 = fun _ => 0 := by funext T; simp [part2, sumN]
theorem part2_next (r A : Nat → Int) (n S : Nat) : part2 r A n S n = part2 r A n (S + 1) 0 := by
  funext T
  simp only [part2, sumN]
  omega
theorem part2_skip {r A : Nat → Int} {n S c : Nat} (h : S.testBit c = true) : part2 r A n S (c + 1) = part2 r A n S c := by
  funext T
  simp only [part2, sumN]
  rw [gives, if_neg (by rw [h]; simp)]
  omega
theorem part2_add {r A : Nat → Int} {n S c : Nat} (h : S.testBit c = false) : part2 r A n S (c + 1) = addAt (part2 r A n S c) (S ||| (1 <<< c)) (sgn (ones (S >>> c)) * r c * A S) := by
  funext T
  simp only [part2, sumN, addAt, gives]
  by_cases e : T = S ||| (1 <<< c)
  · rw [if_pos ⟨h, e.symm⟩, if_pos e]
    omega
  · rw [if_neg (fun q => e q.2.symm), if_neg e]
    omega
theorem part2_all (r : Nat → Int) (R : List (Nat → Int)) {n : Nat} (hn : n ≤ 6) : chipsOf (2 ^ n) (part2 r (minorA n R) n (2 ^ n) 0) = chipsOf (2 ^ n) (minorA n (r :: R)) := chipsOf_eq fun T hT => by
  rw [part2, ← minorA_step r R hn hT]
  simp [sumN]
theorem bit_test : ∀ S : Nat, S < 64 → ∀ c : Nat, c < 6 → (bits BinOp.and IntKind.i64 ((S : Int) / 2 ^ c) 1 == 1) = S.testBit c := by decide +kernel
theorem bit_shift : ∀ S : Nat, S < 64 → ∀ c : Nat, c < 6 → IntKind.u64.wrap ((S : Int) / 2 ^ c) = ((S >>> c : Nat) : Int) := by decide +kernel
theorem bit_or : ∀ S : Nat, S < 64 → ∀ c : Nat, c < 6 → bits BinOp.or IntKind.i64 (S : Int) (wrap64 (2 ^ c)) = ((S ||| (1 <<< c) : Nat) : Int) := by decide +kernel
theorem shift_lt : ∀ S : Nat, S < 64 → ∀ c : Nat, c < 6 → S >>> c < 64 := by decide +kernel
theorem ones_le : ∀ S : Nat, S < 64 → ones S ≤ 6 := by decide +kernel
set_option maxRecDepth 100000 in
set_option maxHeartbeats 2000000 in
theorem withRow_any (n : Nat) (A C : Option Addr) (ca cc : Nat) (R : List (Nat → Int)) (row : List Int) (w : World) (hn : n ≤ 6) (hl : row.length = n) (hr : ∀ x ∈ row, -500 ≤ x ∧ x ≤ 500)
    (hS : IntS w w.heap.size A (chipsOf (2 ^ n) (minorA n R))) (hT : IntS w w.heap.size C row) :
    Calls Try.prog 182 #[.slice A (2 ^ n : Nat) ca, .slice C row.length cc] w (GivesInts w (chipsOf (2 ^ n) (minorA n ((fun c => row.getD c 0) :: R)))) := by
  obtain ⟨K, hK⟩ : ∃ K, K = 2 ^ n := ⟨_, rfl⟩
  have hK64 : K ≤ 64 := by rw [hK]; exact Nat.pow_le_pow_right (by omega) hn
  have HK := Lib.hid hK
  have HAL := Lib.hid (part2_all (fun c => row.getD c 0) R hn)
  obtain ⟨M, hM⟩ : ∃ M, M = minorA n R := ⟨_, rfl⟩
  rw [← hK] at hS HAL ⊢
  rw [← hM] at hS HAL
  rw [← HAL.out]
  have hmk := make_ints K (by omega)
  have HS := Lib.hid hS
  have HT := Lib.hid hT
  have HR := Lib.hid hr
  have HL := Lib.hid hl
  have hl6 : row.length ≤ 6 := by omega
  have HLC := Lib.hid (chipsOf_len K M)
  clear hS hT hr hl hM hK HAL
  go_enter Try.func182, Try.ntmps182
  go_wp2
  go_loopw [16] (fun i wr => ∃ S : Nat, S ≤ K ∧ i = .int .i64 S ∧ Blk wr w.heap.size 3 (intCells (chipsOf K (part2 (fun c => row.getD c 0) M n S 0))).toArray ∧ Below w.heap.size w wr) (fun i _ => K - (intOf i).toNat)
  case atStart =>
    refine ⟨0, Nat.zero_le _, rfl, ?_, (Below.refl _ _).alloc (Nat.le_refl _) _⟩
    have e : chipsOf K (part2 (fun c => row.getD c 0) M n 0 0) = List.replicate K 0 := by
      rw [part2_zero]
      apply List.ext_getElem?
      intro i
      by_cases hi : i < K
      · rw [chipsOf_at _ hi, List.getElem?_replicate, if_pos hi, wrap64_of (by omega) (by omega)]
      · rw [List.getElem?_eq_none (by rw [chipsOf_len]; omega), List.getElem?_eq_none (by simp; omega)]
    rw [e]
    exact Blk.new w _ _
  case round =>
    obtain ⟨S, hSK, rfl, hblk, hb⟩ := hrel
    have HB := Lib.hid hblk
    clear hblk hmk
    by_cases hlt : S < K
    · obtain ⟨b1, o1, m, rfl, hb1, hm, hc0⟩ := (HS.out.below hb).at_ (k := S) (by rw [HLC.out]; exact hlt)
      rw [chipsOf_at _ hlt] at hm
      injection hm with hm
      subst hm
      have hS0 : (0 : Int) ≤ (S : Int) := Int.natCast_nonneg _
      have hS1 : (S : Int) < (K : Int) := by omega
      have hbw := hb.size
      obtain ⟨wo, rfl⟩ : ∃ wo, wo = wr := ⟨_, rfl⟩
      go_wp2
      go_loopw [23] (fun i wr => ∃ c : Nat, c ≤ row.length ∧ i = .int .i64 c ∧ Blk wr w.heap.size 3 (intCells (chipsOf K (part2 (fun c => row.getD c 0) M n S c))).toArray ∧ Below w.heap.size w wr) (fun i _ => row.length - (intOf i).toNat)
      case atStart => exact ⟨0, Nat.zero_le _, rfl, HB.out, hb⟩
      case round =>
        obtain ⟨c, hc, rfl, hblk2, hb2⟩ := hrel
        have HB2 := Lib.hid hblk2
        clear hblk2
        by_cases hlt2 : c < row.length
        · obtain ⟨b2, o2, x, rfl, hb3, hx, hd0⟩ := (HT.out.below hb2).at_ hlt2
          have hc0' : (0 : Int) ≤ (c : Int) := Int.natCast_nonneg _
          have hc1 : (c : Int) < (row.length : Int) := by omega
          have hxr := HR.out x (List.mem_of_getElem? hx)
          have hS64 : S < 64 := by omega
          have hc6 : c < 6 := by omega
          have hbt := bit_test S hS64 c hc6
          have harg := bit_shift S hS64 c hc6
          cases hsb : S.testBit c with
          | true =>
            rw [hsb] at hbt
            have hC := HB2.out
            rw [← part2_skip (r := fun c => row.getD c 0) (A := M) (n := n) hsb] at hC
            have HC := Lib.hid hC
            clear hC hsb harg hx
            go_wp2
            exact ⟨⟨c + 1, by omega, by go_num, HC.out, hb2⟩, by simp [intOf]; omega⟩
          | false =>
            rw [hsb] at hbt
            have hk64 := shift_lt S hS64 c hc6
            have hk6 := ones_le _ hk64
            obtain ⟨k, hk⟩ : ∃ k, k = S >>> c := ⟨_, rfl⟩
            obtain ⟨o, ho⟩ : ∃ o, o = ones k := ⟨_, rfl⟩
            rw [← hk] at harg hk64 hk6
            rw [← ho] at hk6
            have HK1 := Lib.hid hk
            have HO1 := Lib.hid ho
            have HON := fun w => Lib.hid (onesU k hk64 w)
            rw [← ho] at HON
            clear hk ho
            go_wp2_with fail
            refine (HON _).out.mono ?_
            rintro e w' ⟨rfl, rfl⟩
            have hTK := bit_lt n hn S (by have := HK.out; omega) c (by have := HL.out; omega)
            have hor := bit_or S hS64 c hc6
            have hadd := part2_add (r := fun c => row.getD c 0) (A := M) (n := n) hsb
            obtain ⟨T, hT⟩ : ∃ T, T = S ||| (1 <<< c) := ⟨_, rfl⟩
            rw [← hT] at hTK hor hadd
            have hTK2 : T < K := by have := HK.out; omega
            have hgd : row.getD c 0 = x := by simp [List.getD, hx]
            rw [← HK1.out, ← HO1.out, hgd] at hadd
            obtain ⟨f, hf⟩ : ∃ f, f = part2 (fun c => row.getD c 0) M n S c := ⟨_, rfl⟩
            have hB2 := HB2.out
            rw [← hf] at hadd hB2
            have hcl : wr.cell? ⟨w.heap.size, T, none⟩ = some (.int .i64 (wrap64 (f T))) := by rw [hB2.cell]; simp [intCells, chipsOf_at f hTK2]
            have hfz := hB2.frozen T
            have hT0 : (0 : Int) ≤ (T : Int) := Int.natCast_nonneg _
            have hT1 : (T : Int) < (K : Int) := by omega
            have HADD := Lib.hid hadd
            have HBB := Lib.hid hB2
            have hset : ∀ e : Int, e = sgn o * x → Blk (wr.setCell ⟨w.heap.size, T, none⟩ (.int .i64 (wrap64 (wrap64 (f T) + wrap64 (e * wrap64 (M S)))))) w.heap.size 3 (intCells (chipsOf K (part2 (fun c => row.getD c 0) M n S (c + 1)))).toArray := fun e he => by
              have h2 := HBB.out.set_ T (.int .i64 (wrap64 (wrap64 (f T) + wrap64 (e * wrap64 (M S)))))
              rw [List.setIfInBounds_toArray] at h2
              have e1 : (intCells (chipsOf K f)).set T (.int .i64 (wrap64 (wrap64 (f T) + wrap64 (e * wrap64 (M S))))) = intCells ((chipsOf K f).set T (wrap64 (wrap64 (f T) + wrap64 (e * wrap64 (M S))))) := by simp [intCells, List.map_set]
              rw [e1, chipsOf_set K f T _ (sgn o * x * M S) (by rw [wrap_mul, he])] at h2
              rw [HADD.out]
              exact h2
            have HSET := Lib.hid hset
            clear hT hTK hTK2 hgd hf hadd hB2 hset hsb hx HB2
            by_cases hodd : o % 2 = 1
            · have t2 : (((o : Nat) : Int) % 2 == 1) = true := by simp; omega
              have HF := Lib.hid (HSET.out (-x) (by rw [sgn, if_neg (by omega)]; omega))
              clear hodd
              go_wp2
              exact ⟨⟨c + 1, by omega, by go_num, HF.out, hb2.setCell (Nat.le_refl _) _⟩, by simp [intOf]; omega⟩
            · have t2 : (((o : Nat) : Int) % 2 == 1) = false := by simp; omega
              have HF := Lib.hid (HSET.out x (by rw [sgn, if_pos (by omega)]; omega))
              clear hodd
              go_wp2
              exact ⟨⟨c + 1, by omega, by go_num, HF.out, hb2.setCell (Nat.le_refl _) _⟩, by simp [intOf]; omega⟩
        · have hC := HB2.out
          rw [show c = n by have := HL.out; omega, part2_next] at hC
          have HC := Lib.hid hC
          clear hC
          go_wp2
          exact ⟨⟨S + 1, by omega, by go_num, HC.out, hb2⟩, by simp [intOf]; omega⟩
    · have HB3 := HB.out
      rw [show S = K by omega] at HB3
      have HB4 := Lib.hid HB3
      have HLL := Lib.hid (chipsOf_len K (part2 (fun c => row.getD c 0) M n K 0))
      clear HB3
      go_wp2
      go_ret
      exact ⟨some ⟨w.heap.size, 0, none⟩, K, by rw [HLL.out]; rfl, OwnI.of_blk HB4.out (Nat.le_refl _), hb⟩
end Go.Proofs.Ytdpojcgeblbfeaa

/- The program's Determinant. -/
namespace Go.Proofs.Ytdpojcgeblbfeaa
open Go.RowKit

theorem bit_pow : ∀ n : Nat, n < 7 → wrap64 ((2 : Int) ^ n) = ((2 ^ n : Nat) : Int) := by decide +kernel
theorem none_cells {n : Nat} (hn : n ≤ 6) : (intCells (List.replicate (2 ^ n) 0)).set 0 (.int .i64 1) = intCells (chipsOf (2 ^ n) (minorA n [])) := by
  have e : (intCells (List.replicate (2 ^ n) 0)).set 0 (.int .i64 1) = intCells ((List.replicate (2 ^ n) 0).set 0 1) := by simp [intCells, List.map_set]
  rw [e]
  congr 1
  apply List.ext_getElem?
  intro i
  by_cases hi : i < 2 ^ n
  · rw [chipsOf_at _ hi, minorA_none hn hi]
    by_cases h0 : i = 0
    · subst h0
      rw [List.getElem?_set_self (by simpa using hi), if_pos rfl, wrap64_of (by omega) (by omega)]
    · rw [List.getElem?_set_ne (Ne.symm h0), List.getElem?_replicate, if_pos hi, if_neg h0, wrap64_of (by omega) (by omega)]
  · rw [List.getElem?_eq_none (by simp; omega), List.getElem?_eq_none (by rw [chipsOf_len]; omega)]
set_option maxHeartbeats 1000000 in
theorem noRows_any (n : Nat) (w : World) (hn : n ≤ 6) :
    Calls Try.prog 181 #[.int .i64 (n : Int)] w (GivesInts w (chipsOf (2 ^ n) (minorA n []))) := by
  have hNC := none_cells hn
  have hpow := bit_pow n (by omega)
  obtain ⟨M, hM⟩ : ∃ M, M = minorA n [] := ⟨_, rfl⟩
  rw [← hM] at hNC ⊢
  have hK0 : 0 < 2 ^ n := Nat.two_pow_pos n
  obtain ⟨K, hK⟩ : ∃ K, K = 2 ^ n := ⟨_, rfl⟩
  have hK64 : K ≤ 64 := by rw [hK]; exact Nat.pow_le_pow_right (by omega) hn
  rw [← hK] at hNC hpow hK0 ⊢
  have hmk := make_ints K (by omega)
  have HNC := Lib.hid hNC
  have HL := Lib.hid (chipsOf_len K M)
  have hbl := Blk.new w 3 (intCells (List.replicate K 0)).toArray
  have hcl : (w.alloc (Obj.cells (intCells (List.replicate K 0)).toArray 3)).cell? ⟨w.heap.size, 0, none⟩ = some (.int .i64 0) := by rw [hbl.cell]; simp [intCells, hK0]
  have hfz := hbl.frozen 0
  have hk1 : (0 : Int) < (K : Int) := by omega
  clear hNC hK hM hbl
  go_enter Try.func181, Try.ntmps181
  go_wp2
  go_ret
  exact ⟨some ⟨w.heap.size, 0, none⟩, K, by rw [HL.out]; rfl, OwnI.of_blk (t := 3) (by rw [← HNC.out]; exact Blk.new _ _ _) (Nat.le_refl _), (Below.refl _ _).alloc (Nat.le_refl _) _⟩

def GivesK (w : World) (K : Nat) (zs : List Int) (e : Ending) (w' : World) : Prop := ∃ (A : Option Addr) (c : Nat), e = .returned (.slice A K c) ∧ IntS w' w'.heap.size A zs ∧ Below w.heap.size w w'
theorem GivesK.of {P : Program} {f : FuncId} {args : Array Value} {w : World} {K : Nat} {zs : List Int} (hz : zs.length = K) (h : Calls P f args w (GivesInts w zs)) : Calls P f args w (GivesK w K zs) :=
  h.mono fun e w' ⟨A, c, he, ho, hb⟩ => ⟨A, c, by rw [he, hz], ho.ints, hb⟩
def rowF (r : List Int) (c : Nat) : Int := r.getD c 0
def detB (rs : List (List Int)) : Int := if matB rs = true then wrap64 (detF (rs.map rowF) (List.range rs.length)) else 0
theorem detB_f {rs : List (List Int)} (h : matB rs = false) : detB rs = 0 := by rw [detB, if_neg (by rw [h]; decide)]
theorem detB_t {rs : List (List Int)} (h : matB rs = true) : detB rs = wrap64 (detF (rs.map rowF) (List.range rs.length)) := by rw [detB, if_pos h]
theorem matB_entries {rs : List (List Int)} (h : matB rs = true) : rs.length ≤ 6 ∧ ∀ r ∈ rs, r.length = rs.length ∧ ∀ x ∈ r, -500 ≤ x ∧ x ≤ 500 := by
  simp only [matB, Bool.and_eq_true, decide_eq_true_eq, List.all_eq_true] at h
  refine ⟨h.1, fun r hr => ?_⟩
  have := h.2 r hr
  simp only [rowOk, Bool.and_eq_true, decide_eq_true_eq, List.all_eq_true] at this
  refine ⟨this.1, fun x hx => ?_⟩
  have h3 := this.2 x hx
  simp only [entryOk, Bool.and_eq_true, decide_eq_true_eq] at h3
  exact h3
def revTo (rs : List (List Int)) (k : Nat) : List (Nat → Int) := ((rs.take k).map rowF).reverse
theorem revTo_step {rs : List (List Int)} {k : Nat} {r : List Int} (h : rs[k]? = some r) : revTo rs (k + 1) = (fun c => r.getD c 0) :: revTo rs k := by
  rw [revTo, List.take_add_one, h, Option.toList_some, List.map_append, List.reverse_append]
  rfl
set_option maxHeartbeats 1000000 in
theorem implDet (A : Option Addr) (c : Nat) (rs : List (List Int)) (w : World) (hn : rs.length ≤ 1048576) (hl : ∀ r ∈ rs, r.length ≤ 1048576) (hS : IntSS w w.heap.size A rs) :
    Calls Try.prog 131 #[.slice A rs.length c] w fun e w' => e = .returned (.int .i64 (detB rs)) ∧ Below w.heap.size w w' := by
  have HM := Lib.hid (implMatrixOk A c rs w (by omega) (fun r hr => by have := hl r hr; omega) hS)
  have HS := Lib.hid hS
  clear hS hl
  cases hB : matB rs with
  | false =>
    rw [hB] at HM
    rw [detB_f hB]
    clear hB
    go_enter Try.func131, Try.ntmps131
    go_wp2_with fail
    refine HM.out.mono ?_
    rintro e w1 ⟨rfl, hb1⟩
    go_wp2
    go_ret
    exact ⟨rfl, hb1⟩
  | true =>
    rw [hB] at HM
    rw [detB_t hB]
    obtain ⟨h6, hent⟩ := matB_entries hB
    have HA := minorA_all (n := rs.length) (rs.map rowF) h6 (by simp)
    have hK0 : 0 < 2 ^ rs.length := Nat.two_pow_pos _
    obtain ⟨K, hK⟩ : ∃ K, K = 2 ^ rs.length := ⟨_, rfl⟩
    have hK64 : K ≤ 64 := by rw [hK]; exact Nat.pow_le_pow_right (by omega) h6
    have HEN := Lib.hid hent
    have HNR := fun w => GivesK.of (chipsOf_len _ _) (noRows_any rs.length w h6)
    have HWR := fun A C ca cc R row w h1 h2 h3 h4 => Lib.hid (GivesK.of (chipsOf_len _ _) (withRow_any rs.length A C ca cc R row w h6 h1 h2 h3 h4))
    have hr0 : minorA rs.length [] = minorA rs.length (revTo rs 0) := by simp [revTo]
    rw [← hK] at HNR HWR HA hK0
    rw [hr0] at HNR
    have HNR2 := fun w => Lib.hid (HNR w)
    have HALL := Lib.hid (show minorA rs.length (revTo rs rs.length) (K - 1) = detF (rs.map rowF) (List.range rs.length) by rw [← HA, revTo, List.take_length])
    have HST := fun k r h => Lib.hid (revTo_step (rs := rs) (k := k) (r := r) h)
    clear hB hK hr0 HA hent HNR
    go_enter Try.func131, Try.ntmps131
    go_wp2_with fail
    refine HM.out.mono ?_
    rintro e w1 ⟨rfl, hb1⟩
    have hs1 := hb1.size
    go_wp2_with fail
    refine (HNR2 _).out.mono ?_
    rintro e w2 ⟨A2, c2, rfl, ho2, hb2⟩
    have hbb := hb1.trans (hb2.mono hs1)
    have HO2 := Lib.hid ho2
    clear ho2 hb2
    go_wp2_with fail
    go_loopw [3, 15] (fun v i wr => ∃ k : Nat, k ≤ rs.length ∧ i = .int .i64 k ∧ (∃ A' c', v = .slice A' K c' ∧ IntS wr wr.heap.size A' (chipsOf K (minorA rs.length (revTo rs k)))) ∧ Below w.heap.size w wr) (fun _ i _ => rs.length - (intOf i).toNat)
    case atStart => exact ⟨0, Nat.zero_le _, rfl, ⟨A2, c2, rfl, HO2.out⟩, hbb⟩
    case round =>
      obtain ⟨k, hk, rfl, ⟨A', c', rfl, hms⟩, hb⟩ := hrel
      have HMS := Lib.hid hms
      clear hms
      by_cases hlt : k < rs.length
      · obtain ⟨b1, o1, r, Ai, ci, rfl, hb1', he, hc0, hri⟩ := (HS.out.below hb).at_ hlt
        have hk0 : (0 : Int) ≤ (k : Int) := Int.natCast_nonneg _
        have hk1 : (k : Int) < (rs.length : Int) := by omega
        obtain ⟨hrl, hre⟩ := HEN.out r (List.mem_of_getElem? he)
        have HST1 := Lib.hid (HST k r he).out
        have HRE := Lib.hid hre
        have HRL := Lib.hid (show r.length = rs.length by omega)
        have hbs := hb.size
        have HRI := Lib.hid (IntS.wide hri (show w.heap.size ≤ wr.heap.size by omega))
        clear he hre hrl hri
        go_wp2_with fail
        refine (HWR _ _ _ _ _ _ _ HRL.out HRE.out HMS.out HRI.out).out.mono ?_
        rintro e w4 ⟨A4, c4, rfl, ho4, hb4⟩
        rw [← HST1.out] at ho4
        have HO4 := Lib.hid ho4
        have hb5 := hb.trans (hb4.mono hbs)
        clear ho4 hb4
        go_wp2
        exact ⟨⟨k + 1, by omega, by go_num, ⟨A4, c4, rfl, HO4.out⟩, hb5⟩, by simp [intOf]; omega⟩
      · have hms2 := HMS.out
        rw [show k = rs.length by omega] at hms2
        obtain ⟨b1, o1, z, rfl, hb1', hz, hc0⟩ := hms2.at_ (k := K - 1) (by rw [chipsOf_len]; omega)
        rw [chipsOf_at _ (by omega), HALL.out] at hz
        injection hz with hz
        subst hz
        have hkk : (K : Int) - 1 = ((K - 1 : Nat) : Int) := by omega
        have hk0 : (0 : Int) ≤ ((K - 1 : Nat) : Int) := Int.natCast_nonneg _
        have hk1 : ((K - 1 : Nat) : Int) < (K : Int) := by omega
        clear hms2
        go_wp2
        go_ret
        exact ⟨rfl, hb⟩
end Go.Proofs.Ytdpojcgeblbfeaa

/- The specification's l03Det: expansion along the first row. -/
namespace Go.Proofs.Ytdpojcgeblbfeaa
open Go.RowKit

theorem own_emptyD (w : World) (base : Nat) (hb : base ≤ w.heap.size) (t : TypeId) : (w.alloc (.cells #[] t)).ownsRow base t 1 (.slice (some ⟨w.heap.size, 0, none⟩) 0 0) 0 [] :=
  ⟨rfl, .inr ⟨w.heap.size, 0, #[], rfl, hb, heap_alloc_new w _, Nat.le_refl _, Nat.zero_le _, rfl, rfl⟩⟩
section
variable {P : Program} {w : World}
theorem step_append_ownD {ops : Array Oper} {o : Oper} {a : Act} {K : Act → World → Prop} {Q : Exit → Act → World → Prop} {E : Prop} (hgd : o.guard = none) (s x : Operand) (t : TypeId)
    (ho : o.op = .call { callee := .builtin .append, args := #[s, x], argTypes := #[t, t] })
    (base : Nat) (e : TypeId) (i : TypeInfo) (z : Value) (size bytes : Nat) (ht : P.underlying t = some (.slice e)) (hi : P.info? e = some i) (hz : i.zero = some z)
    (hsize : i.size = size) (hby : i.bytes = bytes) (hzs : z.cells.size = size) (hsz : 0 < size)
    (v : Value) (n : Nat) (xs : List Value) (hs : a.eval s = v) (hown : w.ownsRow base e size v n xs)
    (ad : Addr) (m c : Nat) (news : List Value) (hx : a.eval x = .slice (some ad) m c) (hl : news.length = m * size) (hnews : ∀ j u, news[j]? = some u → w.cell? (ad.add j) = some u) (h1 : ∀ u ∈ news, u.oneCell' = true)
    (h63 : n + m ≤ maxLen) (hbytes : (n + m) * bytes ≤ 140737488355328) (hbase : base ≤ w.heap.size)
    (h : ∀ v' w', w'.ownsRow base e size v' (n + m) (xs ++ news) → w.grownBy w' v.ownBlock → K (a.put o.dst v') w') :
    if Region.wanted o (yielded ops a.tmps) = true then Oper.wp P o a w K Q else E := by
  have hw : Region.wanted o (yielded ops a.tmps) = true := by simp [Region.wanted, hgd]
  rw [if_pos hw]
  exact wp_append_own w s x t ho base e i z size bytes ht hi hz hsize hby hzs hsz v n xs hs hown ad m c news hx hl hnews h1 h63 hbytes hbase fun v' w' h2 h3 _ => h v' w' h2 h3
end
theorem own_form {w : World} {base n : Nat} {v : Value} {l : List Int} (h : w.ownsRow base 3 1 v n (intCells l)) : ∃ (A : Option Addr) (c : Nat), v = .slice A l.length c ∧ l.length ≤ c ∧ IntS w w.heap.size A l := by
  have hl : l.length = n := by simpa [intCells] using h.1
  rcases h.2 with ⟨h1, h2⟩ | ⟨g, cap, cur, h1, _, _, hnc, _⟩
  · refine ⟨none, 0, by rw [h1, hl, h2], by omega, fun hn => absurd hn (by omega)⟩
  · have h3 := h
    rw [h1] at h3
    rw [hl]
    exact ⟨_, cap, h1, hnc, (OwnI.of_own h3).ints⟩
def pick (rs : List (List Int)) (R : List Nat) : List (Nat → Int) := R.map fun i => rowF (rs.getD i [])
def natI (l : List Nat) : List Int := l.map fun (n : Nat) => (n : Int)
theorem natI_len (l : List Nat) : (natI l).length = l.length := by simp [natI]
theorem natI_at {l : List Nat} {i n : Nat} (h : l[i]? = some n) : (natI l)[i]? = some (n : Int) := by simp [natI, h]
theorem natI_erase (C : List Nat) (j : Nat) : [] ++ intCells (natI (C.take j)) ++ intCells (natI (C.drop (j + 1))) = intCells (natI (C.eraseIdx j)) := by
  rw [List.nil_append, List.eraseIdx_eq_take_drop_succ]
  simp [intCells, natI]
def sumTo (r : Nat → Int) (R : List (Nat → Int)) (C : List Nat) (j : Nat) : Int := sumN j fun i => sgn i * r (C.getD i 0) * detF R (C.eraseIdx i)
theorem sumTo_step {r : Nat → Int} {R : List (Nat → Int)} {C : List Nat} {j cj : Nat} (h : C[j]? = some cj) : sumTo r R C (j + 1) = sumTo r R C j + sgn j * r cj * detF R (C.eraseIdx j) := by
  rw [sumTo, sumN, sumTo]
  simp [List.getD, h]
theorem wrap_mul2 (a e b : Int) : wrap64 (a + wrap64 e * b) = wrap64 (a + e * b) := by
  obtain ⟨k, hk⟩ : ∃ k : Int, wrap64 e = e + 18446744073709551616 * k := ⟨-((e + 9223372036854775808) / 18446744073709551616), by unfold wrap64; omega⟩
  rw [hk, Int.add_mul]
  have h : 18446744073709551616 * k * b = 18446744073709551616 * (k * b) := by rw [Int.mul_assoc]
  rw [h]
  generalize k * b = m
  generalize e * b = q
  unfold wrap64
  omega
theorem wrap_term (S e D : Int) : wrap64 (wrap64 S + wrap64 (wrap64 e * wrap64 D)) = wrap64 (S + e * D) := by rw [wrap_mul, wrap_mul2]
theorem natI_tail {w : World} {B bb ob r0 : Nat} {R : List Nat} (h : IntS w B (some ⟨bb, ob, none⟩) (natI (r0 :: R))) : IntS w B (some ⟨bb, ob + 1, none⟩) (natI R) := fun hn => by
  obtain ⟨b, o, e, hb, hc⟩ := h (by simp [natI])
  injection e with e
  injection e with e1 e2
  subst e1
  subst e2
  refine ⟨_, _, rfl, hb, fun i x hx => ?_⟩
  have := hc (i + 1) x (by simpa [natI] using hx)
  rw [Nat.add_assoc, Nat.add_comm 1 i]
  exact this
set_option maxRecDepth 100000 in
set_option maxHeartbeats 4000000 in
theorem l03Det_any (rs : List (List Int)) (hrr : ∀ r ∈ rs, r.length = rs.length ∧ ∀ x ∈ r, -500 ≤ x ∧ x ≤ 500) : ∀ (n : Nat) (R C : List Nat), R.length = n → n ≤ 6 → C.length ≤ 6 → (∀ i ∈ R, i < rs.length) → (∀ i ∈ C, i < rs.length) →
    ∀ (A B D : Option Addr) (ca cb cd : Nat) (w : World), R.length ≤ cb → C.length ≤ cd → IntSS w w.heap.size A rs → IntS w w.heap.size B (natI R) → IntS w w.heap.size D (natI C) →
    Calls Try.prog 177 #[.slice A rs.length ca, .slice B R.length cb, .slice D C.length cd] w fun e w' => e = .returned (.int .i64 (wrap64 (detF (pick rs R) C))) ∧ Below w.heap.size w w' := by
  obtain ⟨i0, hi, hz0, hz1, hz2⟩ := info_parts intInfo
  intro n
  induction n with
  | zero =>
    intro R C hR _ _ _ _ A B D ca cb cd w _ _ _ _ _
    obtain rfl : R = [] := List.length_eq_zero_iff.1 hR
    go_enter Try.func177, Try.ntmps177
    go_wp2
    go_ret
    exact ⟨ret_intE (by rw [pick, List.map_nil, detF, wrap64_of (by omega) (by omega)]), Below.refl _ _⟩
  | succ n ih =>
    intro R C hR hn6 hC6 hRi hCi A B D ca cb cd w hcb hcd hS hB hD
    match R, hR with
    | r0 :: R, hR =>
    have hRl : R.length = n := by simpa using hR
    have hr0 : r0 < rs.length := hRi r0 (by simp)
    obtain ⟨row, hrow⟩ : ∃ row, rs[r0]? = some row := ⟨_, List.getElem?_eq_getElem (by omega)⟩
    obtain ⟨hrowl, hrowe⟩ := hrr row (List.mem_of_getElem? hrow)
    have HS := Lib.hid hS
    have HB := Lib.hid hB
    have HD := Lib.hid hD
    have hrw1 : row.length ≤ rs.length := by omega
    have hrw2 : rs.length ≤ row.length := by omega
    clear hrowl
    have HC := Lib.hid hCi
    have HRI := Lib.hid hRi
    have IH := Lib.hid ih
    have HRE := Lib.hid hrowe
    have HRW := Lib.hid hrow
    have HRL := Lib.hid hRl
    have hlen : (r0 :: R).length = R.length + 1 := rfl
    have hl1 : (r0 :: R).length ≤ 6 := by rw [hlen]; omega
    have hl0 : 0 < (r0 :: R).length := by rw [hlen]; omega
    obtain ⟨rl, hrlen⟩ : ∃ rl, rl = (r0 :: R).length := ⟨_, rfl⟩
    rw [← hrlen] at hl1 hl0 hcb ⊢
    have HLEN := Lib.hid hrlen
    have t0 : ((rl : Int) == 0) = false := by simp; omega
    have hpk : pick rs (r0 :: R) = rowF row :: pick rs R := by simp [pick, List.getD, hrow]
    rw [hpk]
    clear hS hB hD hCi hRi ih hrowe hrow hRl hlen hrlen hR hrr hpk
    go_enter Try.func177, Try.ntmps177
    go_wp2
    go_loopw [7, 8, 18] (fun s sg i wr => ∃ j : Nat, j ≤ C.length ∧ i = .int .i64 j ∧ s = .int .i64 (wrap64 (sumTo (rowF row) (pick rs R) C j)) ∧ sg = .int .i64 (sgn j) ∧ Below w.heap.size w wr) (fun _ _ i _ => C.length - (intOf i).toNat)
    case atStart => exact ⟨0, Nat.zero_le _, rfl, by rw [sumTo, sumN, wrap64_of (by omega) (by omega)], rfl, Below.refl _ _⟩
    case round =>
      obtain ⟨j, hj, rfl, rfl, rfl, hb⟩ := hrel
      have hbn := hb.size
      have hsg : -1 ≤ sgn j ∧ sgn j ≤ 1 := by unfold sgn; split <;> omega
      by_cases hlt : j < C.length
      · have hji0 : (0 : Int) ≤ (j : Int) := Int.natCast_nonneg _
        have hji1 : (j : Int) < (C.length : Int) := by omega
        obtain ⟨cj, hcj⟩ : ∃ cj, C[j]? = some cj := ⟨_, List.getElem?_eq_getElem hlt⟩
        have hcM : cj < rs.length := HC.out cj (List.mem_of_getElem? hcj)
        have hDD := HD.out.below hb
        obtain ⟨bd, od, x0, rfl, hbd, hx0, hd0⟩ := hDD.at_ (k := j) (by rw [natI_len]; exact hlt)
        have HDC : Hid (∀ (i m : Nat), C[i]? = some m → wr.cell? ⟨bd, od + i, none⟩ = some (.int .i64 (m : Int))) := Lib.hid (fun i m hm => by
          obtain ⟨b', o', e', _, h'⟩ := hDD (by rw [natI_len]; omega)
          injection e' with e'
          injection e' with e1 e2
          subst e1
          subst e2
          exact h' i _ (natI_at hm))
        clear hDD
        rw [natI_at hcj] at hx0
        injection hx0 with hx0
        subst hx0
        obtain ⟨bb, ob, x1, rfl, hbb, hx1, hd1⟩ := (HB.out.below hb).at_ (k := 0) (by rw [natI_len]; simp)
        rw [natI_at (l := r0 :: R) (n := r0) rfl] at hx1
        injection hx1 with hx1
        subst hx1
        obtain ⟨ba, oa, row', Ar, cr, rfl, hba, hrw, hd2, hri⟩ := (HS.out.below hb).at_ (k := r0) (by omega)
        rw [HRW.out] at hrw
        injection hrw with hrw
        subst hrw
        obtain ⟨br, orr, x, rfl, hbr, hx, hd3⟩ := hri.at_ (k := cj) (by omega)
        have hxe := HRE.out x (List.mem_of_getElem? hx)
        have hc0 : (0 : Int) ≤ (cj : Int) := Int.natCast_nonneg _
        have hc1 : (cj : Int) < (row.length : Int) := by omega
        have hr0' : (0 : Int) ≤ (r0 : Int) := Int.natCast_nonneg _
        have hr1 : (r0 : Int) < (rs.length : Int) := by omega
        have hrl0 : (0 : Int) < (rl : Int) := by omega
        rw [Nat.add_zero] at hd1
        have HX := Lib.hid hx
        have HCJ := Lib.hid hcj
        clear hri hx hcj
        have hrx : rowF row cj = x := by simp [rowF, List.getD, HX.out]
        have hst := sumTo_step (r := rowF row) (R := pick rs R) HCJ.out
        rw [hrx] at hst
        have hsn := sgn_succ j
        by_cases hx0 : x = 0
        · have t1 : (x != 0) = false := by simp [hx0]
          have HST := Lib.hid (show sumTo (rowF row) (pick rs R) C j = sumTo (rowF row) (pick rs R) C (j + 1) by rw [hst, hx0]; simp)
          have HSN := Lib.hid hsn.symm
          clear hst hsn hrx hx0
          go_wp2
          exact ⟨⟨j + 1, by omega, by go_num, by rw [HST.out], by rw [HSN.out], hb⟩, by simp [intOf]; omega⟩
        · have t1 : (x != 0) = true := by simp [hx0]
          have HST := Lib.hid hst
          have HSN := Lib.hid hsn.symm
          clear hst hsn hrx
          go_wp2_with fail
          have hbA : Below wr.heap.size wr (wr.drew.alloc (Obj.cells #[] 3)) := (Below.refl _ _).drew.alloc (Nat.le_refl _) _
          have hO1 := own_emptyD wr.drew w.heap.size hbn 3
          have hn1 : ∀ (i : Nat) (u : Value), (intCells (natI (C.take j)))[i]? = some u → (wr.drew.alloc (Obj.cells #[] 3)).cell? ((⟨bd, od, none⟩ : Addr).add i) = some u := fun i u hu => by
            simp only [intCells, natI, List.getElem?_map, Option.map_eq_some_iff] at hu
            obtain ⟨z, ⟨m, hm, rfl⟩, rfl⟩ := hu
            have hij : i < j := by have := (List.getElem?_eq_some_iff.1 hm).1; simp at this; omega
            rw [List.getElem?_take_of_lt hij] at hm
            rw [Addr.add_lit]
            exact (hbA.cell (p := ⟨bd, od + i, none⟩) (by simp only; omega)).trans (HDC.out i m hm)
          have hn2 : ∀ (i : Nat) (u : Value), (intCells (natI (C.drop (j + 1))))[i]? = some u → wr.cell? ((⟨bd, od + (j + 1), none⟩ : Addr).add i) = some u := fun i u hu => by
            simp only [intCells, natI, List.getElem?_map, Option.map_eq_some_iff] at hu
            obtain ⟨z, ⟨m, hm, rfl⟩, rfl⟩ := hu
            rw [List.getElem?_drop] at hm
            rw [Addr.add_lit, Nat.add_assoc]
            exact HDC.out _ m hm
          have hq1 : (j : Int) ≤ (cd : Int) := by omega
          have hq2 : (j : Int) + 1 ≤ (C.length : Int) := by omega
          have hq3 : (C.length : Int) ≤ (cd : Int) := by omega
          have hq4 : (0 : Int) ≤ (j : Int) + 1 := by omega
          have hq5 : j ≤ cd := by omega
          have hq6 : j + 1 ≤ C.length := by omega
          have HO1 := Lib.hid hO1
          have HN1 := Lib.hid hn1
          have HN2 := Lib.hid hn2
          have HBA := Lib.hid hbA
          clear hO1 hn1 hn2 hbA
          go_cut [12, 18] from 18 to 57 (fun s12 s18 wx => s18 = .int .i64 (j : Int) ∧ (∃ A12 c12, s12 = .slice A12 (C.eraseIdx j).length c12 ∧ (C.eraseIdx j).length ≤ c12 ∧ IntS wx wx.heap.size A12 (natI (C.eraseIdx j))) ∧ Below w.heap.size w wx)
          case first =>
            have g1 : (intCells (natI (C.take j))).length = j * 1 := by simp [intCells, natI]; omega
            have g2 : ∀ u ∈ intCells (natI (C.take j)), u.oneCell' = true := fun u hu => by
              simp only [intCells, List.mem_map] at hu
              obtain ⟨z, _, rfl⟩ := hu
              rfl
            have g3 : 0 + j ≤ maxLen := by unfold maxLen; omega
            have g4 : (0 + j) * 8 ≤ 140737488355328 := by omega
            have g5 : w.heap.size ≤ (wr.drew.alloc (Obj.cells #[] 3)).heap.size := by simp; omega
            have k1 : (intCells (natI (C.drop (j + 1)))).length = (C.length - (j + 1)) * 1 := by simp [intCells, natI]
            have k2 : ∀ u ∈ intCells (natI (C.drop (j + 1))), u.oneCell' = true := fun u hu => by
              simp only [intCells, List.mem_map] at hu
              obtain ⟨z, _, rfl⟩ := hu
              rfl
            have k3 : 0 + j + (C.length - (j + 1)) ≤ maxLen := by unfold maxLen; omega
            have k4 : (0 + j + (C.length - (j + 1))) * 8 ≤ 140737488355328 := by omega
            have G2 := Lib.hid g2
            have K2 := Lib.hid k2
            have G1 := Lib.hid g1
            have K1 := Lib.hid k1
            clear g1 g2 k1 k2
            have GS1 : Hid (∀ w1, World.grownBy (wr.drew.alloc (Obj.cells #[] 3)) w1 (some wr.heap.size) → w.heap.size ≤ w1.heap.size) := Lib.hid (fun w1 h => by have := h.size; simp at this; omega)
            have GC1 : Hid (∀ w1, World.grownBy (wr.drew.alloc (Obj.cells #[] 3)) w1 (some wr.heap.size) → ∀ (i : Nat) (u : Value), (intCells (natI (C.drop (j + 1))))[i]? = some u → w1.cell? ((⟨bd, od + (j + 1), none⟩ : Addr).add i) = some u) := Lib.hid (fun w1 h i u hu => by
              have h1 := HN2.out i u hu
              rw [Addr.add_lit] at h1 ⊢
              rw [h.cell_far ⟨bd, od + (j + 1) + i, none⟩ (by simp; omega) (by simp only [ne_eq, Option.some.injEq]; omega)]
              exact (HBA.out.cell (p := ⟨bd, od + (j + 1) + i, none⟩) (by simp only; omega)).trans h1)
            have FIN : Hid (∀ (v1 : Value) (w1 : World) (v2 : Value) (w2 : World), w1.ownsRow w.heap.size 3 1 v1 (0 + j) ([] ++ intCells (natI (C.take j))) → World.grownBy (wr.drew.alloc (Obj.cells #[] 3)) w1 (some wr.heap.size) →
                w2.ownsRow w.heap.size 3 1 v2 (0 + j + (C.length - (j + 1))) ([] ++ intCells (natI (C.take j)) ++ intCells (natI (C.drop (j + 1)))) → World.grownBy w1 w2 v1.ownBlock →
                (∃ A12 c12, v2 = .slice A12 (C.eraseIdx j).length c12 ∧ (C.eraseIdx j).length ≤ c12 ∧ IntS w2 w2.heap.size A12 (natI (C.eraseIdx j))) ∧ Below w.heap.size w w2) := Lib.hid (fun v1 w1 v2 w2 o1 g1 o2 g2 => by
              rw [natI_erase] at o2
              obtain ⟨A2, c2, e1, e2, e3⟩ := own_form o2
              rw [natI_len] at e1 e2
              have s1 := GS1.out w1 g1
              have b1 : Below w.heap.size w w1 := (hb.trans (HBA.out.mono hbn)).grown g1 (by simp; omega) (fun q hq => by injection hq with hq; omega)
              exact ⟨⟨A2, c2, e1, e2, e3⟩, b1.grown g2 s1 (fun q hq => (o1.lt q hq).1)⟩)
            by_cases hcd1 : cd = j + 1
            · have hdr : C.drop (j + 1) = [] := List.drop_eq_nil_iff.2 (by omega)
              have GE : Hid (∀ (w : World) (ad : Addr) (i : Nat) (u : Value), (intCells (natI (C.drop (j + 1))))[i]? = some u → w.cell? (ad.add i) = some u) := Lib.hid (fun w ad i u hu => by rw [hdr] at hu; simp [intCells, natI] at hu)
              have z1 : IntKind.i64.wrap ((j : Int) + 1) = (j : Int) + 1 := by rw [IntKind.wrap_i64]; omega
              have z2 : ((j : Int) + 1).toNat = j + 1 := by omega
              have HZ := Lib.hid (show C.length - (j + 1) = 0 by omega)
              have K1E := Lib.hid (show (intCells (natI (C.drop (j + 1)))).length = 0 * 1 by rw [K1.out, HZ.out])
              have k3E : 0 + j + 0 ≤ maxLen := by have := HZ.out; omega
              have k4E : (0 + j + 0) * 8 ≤ 140737488355328 := by have := HZ.out; omega
              have hq7 : (j : Int) ≤ (j : Int) + 1 := by omega
              have hq8 : (C.length : Int) ≤ (j : Int) + 1 := by omega
              clear hdr
              subst hcd1
              go_region_law (first
                | (refine step_append_ownD rfl (.tmp 34) (.tmp 37) 28 rfl w.heap.size 3 i0 (.int .i64 0) 1 8 Try.underlying28 hi hz0 hz1 hz2 rfl (by decide) _ _ _ rfl HO1.out ⟨bd, od, none⟩ j (j + 1) (intCells (natI (C.take j))) rfl G1.out HN1.out G2.out g3 g4 g5 ?_
                   intro v1 w1 hown1 hgrow1
                   have hg1 : World.grownBy (wr.drew.alloc (Obj.cells #[] 3)) w1 (some wr.heap.size) := hgrow1
                   have HG1 := Lib.hid hg1
                   have hs1 : w.heap.size ≤ w1.heap.size := GS1.out w1 hg1
                   clear hgrow1 hg1)
                | (refine step_append_ownD rfl (.tmp 38) (.tmp 42) 28 rfl w.heap.size 3 i0 (.int .i64 0) 1 8 Try.underlying28 hi hz0 hz1 hz2 rfl (by decide) _ _ _ rfl hown1 _ _ _ (intCells (natI (C.drop (j + 1)))) rfl K1E.out (GE.out w1 _) K2.out k3E k4E hs1 ?_
                   intro v2 w2 hown2 hgrow2))
              go_wp2_with fail
              go_meet
              exact ⟨rfl, FIN.out v1 w1 v2 w2 hown1 HG1.out (by rw [HZ.out]; exact hown2) hgrow2⟩
            · have z1 : IntKind.i64.wrap ((j : Int) + 1) = (j : Int) + 1 := by rw [IntKind.wrap_i64]; omega
              have z2 : ((j : Int) + 1).toNat = j + 1 := by omega
              go_region_law (first
                | (refine step_append_ownD rfl (.tmp 34) (.tmp 37) 28 rfl w.heap.size 3 i0 (.int .i64 0) 1 8 Try.underlying28 hi hz0 hz1 hz2 rfl (by decide) _ _ _ rfl HO1.out ⟨bd, od, none⟩ j cd (intCells (natI (C.take j))) rfl G1.out HN1.out G2.out g3 g4 g5 ?_
                   intro v1 w1 hown1 hgrow1
                   have hg1 : World.grownBy (wr.drew.alloc (Obj.cells #[] 3)) w1 (some wr.heap.size) := hgrow1
                   have HG1 := Lib.hid hg1
                   have hs1 : w.heap.size ≤ w1.heap.size := GS1.out w1 hg1
                   clear hgrow1 hg1)
                | (refine step_append_ownD rfl (.tmp 38) (.tmp 42) 28 rfl w.heap.size 3 i0 (.int .i64 0) 1 8 Try.underlying28 hi hz0 hz1 hz2 rfl (by decide) _ _ _ rfl hown1 _ _ _ (intCells (natI (C.drop (j + 1)))) rfl K1.out (GC1.out w1 HG1.out) K2.out k3 k4 hs1 ?_
                   intro v2 w2 hown2 hgrow2))
              go_wp2_with fail
              go_meet
              exact ⟨rfl, FIN.out v1 w1 v2 w2 hown1 HG1.out hown2 hgrow2⟩
          case rest =>
            obtain ⟨rfl, ⟨A12, c12, rfl, hc12, hi12⟩, hbx⟩ := hcut
            have hel : (C.eraseIdx j).length ≤ 6 := by rw [List.length_eraseIdx_of_lt hlt]; omega
            have hem : ∀ i ∈ C.eraseIdx j, i < rs.length := fun i hi => HC.out i (List.mem_of_mem_eraseIdx hi)
            have hRm : ∀ i ∈ R, i < rs.length := fun i hi => HRI.out i (by simp [hi])
            have hRn : R.length ≤ rl := by have := HLEN.out; simp at this; omega
            have HI := fun A B D ca cb cd w h1 h2 h3 h4 h5 => Lib.hid (IH.out R (C.eraseIdx j) HRL.out (by omega) hel hRm hem A B D ca cb cd w h1 h2 h3 h4 h5)
            have HS2 := Lib.hid (HS.out.up_ hbx)
            have HB2 := Lib.hid (HB.out.up_ hbx)
            have H12 := Lib.hid hi12
            have HR1 := Lib.hid (show rl - 1 = R.length by have := HLEN.out; simp at this; omega)
            have HBX := Lib.hid hbx
            have hbxs := hbx.size
            clear hel hem hRm hi12 hbx HD HDC HO1 HN1 HN2 HBA
            by_cases hcb1 : cb = 1
            · have hq9 : (1 : Int) ≤ (rl : Int) := by omega
              have hqb : (rl : Int) ≤ 1 := by omega
              obtain rfl : R = [] := List.length_eq_zero_iff.1 (by have := HR1.out; omega)
              subst hcb1
              go_wp2_with fail
              refine (HI _ (some ⟨bb, ob, none⟩) _ _ 0 _ _ (Nat.le_refl _) hc12 HS2.out (fun h => absurd h (by simp [natI])) H12.out).out.mono ?_
              rintro e w5 ⟨rfl, hb5⟩
              have hb6 := HBX.out.trans (hb5.mono hbxs)
              clear hb5
              go_wp2
              go_roundw
              case rel => exact ⟨j + 1, by omega, by go_num, by rw [HST.out, wrap_term], by rw [HSN.out], hb6⟩
              case measure => simp [intOf]; omega
            · have hq9 : (1 : Int) ≤ (rl : Int) := by omega
              have hqa : (rl : Int) ≤ (cb : Int) := by omega
              go_wp2_with fail
              rw [HR1.out]
              refine (HI _ _ _ _ _ _ _ (by have := HR1.out; omega) hc12 HS2.out (natI_tail HB2.out) H12.out).out.mono ?_
              rintro e w5 ⟨rfl, hb5⟩
              have hb6 := HBX.out.trans (hb5.mono hbxs)
              clear hb5
              go_wp2
              go_roundw
              case rel => exact ⟨j + 1, by omega, by go_num, by rw [HST.out, wrap_term], by rw [HSN.out], hb6⟩
              case measure => simp [intOf]; omega
      · have hjC : j = C.length := by omega
        have HJ := Lib.hid (show sumTo (rowF row) (pick rs R) C j = detF (rowF row :: pick rs R) C by rw [hjC]; rfl)
        clear hjC
        go_wp2
        go_ret
        exact ⟨ret_intE (by rw [HJ.out]), hb⟩
end Go.Proofs.Ytdpojcgeblbfeaa

/- The specification's Determinant. -/
namespace Go.Proofs.Ytdpojcgeblbfeaa
open Go.RowKit

def GivesIntsC (w : World) (zs : List Int) (e : Ending) (w' : World) : Prop :=
  ∃ (A : Option Addr) (c : Nat), e = .returned (.slice A zs.length c) ∧ zs.length ≤ c ∧ IntS w' w'.heap.size A zs ∧ Below w.heap.size w w'
set_option maxHeartbeats 1000000 in
theorem l03All_any (n : Nat) (w : World) (hn : n ≤ 6) :
    Calls Try.prog 178 #[.int .i64 (n : Int)] w (GivesIntsC w (natI (List.range n))) := by
  obtain ⟨i0, hi, hz0, hz1, hz2⟩ := info_parts intInfo
  have HL := Lib.hid (show (natI (List.range n)).length = n by simp [natI])
  go_enter Try.func178, Try.ntmps178
  go_wp2
  go_loopw [3, 4] (fun v i wr => ∃ k : Nat, k ≤ n ∧ i = .int .i64 k ∧ wr.ownsRow w.heap.size 3 1 v k (intCells ((natI (List.range n)).take k)) ∧ Below w.heap.size w wr) (fun _ i _ => n - (intOf i).toNat)
  case atStart => exact ⟨0, Nat.zero_le _, rfl, own_emptyD w w.heap.size (Nat.le_refl _) _, (Below.refl _ _).alloc (Nat.le_refl _) _⟩
  case round =>
    obtain ⟨k, hk, rfl, hown, hb⟩ := hrel
    have HO := Lib.hid hown
    have hbn := hb.size
    clear hown
    by_cases hlt : k < n
    · have hi0 : (0 : Int) ≤ (k : Int) := Int.natCast_nonneg _
      have hi1 : (k : Int) < (n : Int) := by omega
      have hat : (natI (List.range n))[k]? = some (k : Int) := natI_at (by simp [hlt])
      have HMT := Lib.hid (show (natI (List.range n)).take (k + 1) = (natI (List.range n)).take k ++ [(k : Int)] by rw [List.take_add_one, hat]; rfl)
      clear hat
      go_wp2_with (at_builtin; refine wpList_append_own _ rfl _ _ 28 rfl w.heap.size 3 i0 (.int .i64 0) 1 8 Try.underlying28 hi hz0 hz1 hz2 rfl (by decide) _ _ _ rfl (HO.out.alloc _) ⟨wr.heap.size, 0, none⟩ 1 1 [.int .i64 (k : Int)] rfl rfl ?c1 ?c2 ?c3 ?c4 ?c5 ?_)
      case c1 => exact one_cellI _ _ (by simp) _ _
      case c2 => simp [Value.oneCell']
      case c3 => unfold maxLen; omega
      case c4 => omega
      case c5 => simp; omega
      intro v' w1 hown' hgrow _
      have HO2 := Lib.hid hown'
      clear hown'
      go_wp2
      refine ⟨⟨k + 1, by omega, by go_num, ?_, (hb.alloc hb.size _).grown hgrow (by simp; omega) (fun q hq => (HO.out.lt q hq).1)⟩, by simp [intOf]; omega⟩
      have h3 := HO2.out
      rw [HMT.out]
      simpa [intCells] using h3
    · have HO3 := HO.out
      rw [List.take_of_length_le (by rw [HL.out]; omega)] at HO3
      obtain ⟨Ar, cr, rfl, hcr, hir⟩ := own_form HO3
      have HI := Lib.hid hir
      clear HO3 hir
      go_wp2
      go_ret
      exact ⟨Ar, cr, rfl, hcr, HI.out, hb⟩
theorem pick_all (rs : List (List Int)) : pick rs (List.range rs.length) = rs.map rowF := by
  apply List.ext_getElem?
  intro i
  simp only [pick, List.getElem?_map]
  by_cases h : i < rs.length
  · simp [List.getD, h]
  · rw [List.getElem?_eq_none (by simp; omega), List.getElem?_eq_none (by omega)]
    rfl
set_option maxHeartbeats 1000000 in
theorem specDet (A : Option Addr) (c : Nat) (rs : List (List Int)) (w : World) (hn : rs.length ≤ 1048576) (hl : ∀ r ∈ rs, r.length ≤ 1048576) (hS : IntSS w w.heap.size A rs) :
    Calls Try.prog 129 #[.slice A rs.length c] w fun e w' => e = .returned (.int .i64 (detB rs)) ∧ Below w.heap.size w w' := by
  have HM := Lib.hid (specMatrixOk A c rs w (by omega) (fun r hr => by have := hl r hr; omega) hS)
  have HS := Lib.hid hS
  clear hS hl
  cases hB : matB rs with
  | false =>
    rw [hB] at HM
    rw [detB_f hB]
    clear hB
    go_enter Try.func129, Try.ntmps129
    go_wp2_with fail
    refine HM.out.mono ?_
    rintro e w' ⟨rfl, rfl⟩
    go_wp2
    go_ret
    exact ⟨rfl, Below.refl _ _⟩
  | true =>
    rw [hB] at HM
    rw [detB_t hB, ← pick_all]
    obtain ⟨h6, hent⟩ := matB_entries hB
    have HD := fun B D ca cb cd w h1 h2 h3 h4 h5 => Lib.hid (l03Det_any rs hent rs.length (List.range rs.length) (List.range rs.length) (by simp) h6 (by simpa using h6) (fun i hi => List.mem_range.1 hi) (fun i hi => List.mem_range.1 hi) A B D ca cb cd w h1 h2 h3 h4 h5)
    have HA := fun w => Lib.hid (l03All_any rs.length w h6)
    have HRL := Lib.hid (show (natI (List.range rs.length)).length = (List.range rs.length).length by simp [natI])
    clear hB hent
    go_enter Try.func129, Try.ntmps129
    go_wp2_with fail
    refine HM.out.mono ?_
    rintro e w' ⟨rfl, rfl⟩
    go_wp2_with fail
    refine (HA _).out.mono ?_
    rintro e w1 ⟨A1, c1, rfl, hc1, hi1, hb1⟩
    have HI1 := Lib.hid hi1
    clear hi1
    go_wp2_with fail
    refine (HA _).out.mono ?_
    rintro e w2 ⟨A2, c2, rfl, hc2, hi2, hb2⟩
    have HI2 := Lib.hid hi2
    have hbb := hb1.trans (hb2.mono hb1.size)
    have HI3 := Lib.hid (HI1.out.up_ hb2)
    rw [HRL.out] at hc1 hc2
    clear hi2 hb1 hb2 HI1
    go_wp2_with fail
    rw [HRL.out]
    refine (HD _ _ _ _ _ _ hc1 hc2 (HS.out.up_ hbb) HI3.out HI2.out).out.mono ?_
    rintro e w3 ⟨rfl, hb3⟩
    have hbc := hbb.trans (hb3.mono hbb.size)
    go_wp2
    go_ret
    exact ⟨rfl, hbc⟩
end Go.Proofs.Ytdpojcgeblbfeaa
