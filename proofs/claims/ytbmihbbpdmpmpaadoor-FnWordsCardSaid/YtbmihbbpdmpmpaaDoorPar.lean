/- Numerals, the plain math: what a text of digits spells, and back. -/
import Derived.Lib.ItoaLen
import Derived.Lib.ItoaMem
import Derived.Lib.AtoiAll
import Derived.WideShapes
namespace Go.Proofs.YtbmihbbpdmpmpaaDoor
open Go.Lib

def isDg (c : UInt8) : Prop := 48 ≤ c.toNat ∧ c.toNat ≤ 57
/-- what digits spell, behind a number that is spelt already -/
def valA (acc : Nat) (l : List UInt8) : Nat := l.foldl (fun v c => v * 10 + (c.toNat - 48)) acc
theorem valA_nil (acc : Nat) : valA acc [] = acc := rfl
theorem valA_cons (acc : Nat) (c : UInt8) (r : List UInt8) : valA acc (c :: r) = valA (acc * 10 + (c.toNat - 48)) r := List.foldl_cons ..
theorem valA_append (a b : List UInt8) (acc : Nat) : valA acc (a ++ b) = valA (valA acc a) b := List.foldl_append ..
theorem valA_le : ∀ (l : List UInt8) (acc : Nat), acc ≤ valA acc l
  | [], _ => Nat.le_refl _
  | c :: l, acc => by
    rw [valA_cons]
    have := valA_le l (acc * 10 + (c.toNat - 48))
    omega
theorem valA_take (l : List UInt8) (k : Nat) : valA 0 (l.take k) ≤ valA 0 l := by
  have h := valA_append (l.take k) (l.drop k) 0
  rw [List.take_append_drop] at h
  rw [h]
  exact valA_le _ _
theorem dgOf (x : Nat) (h : x < 10) : isDg (UInt8.ofNat (48 + x)) ∧ (UInt8.ofNat (48 + x)).toNat - 48 = x := by
  have : ∀ x : Nat, x < 10 → (48 ≤ (UInt8.ofNat (48 + x)).toNat ∧ (UInt8.ofNat (48 + x)).toNat ≤ 57) ∧ (UInt8.ofNat (48 + x)).toNat - 48 = x := by decide
  exact this x h
theorem decDigits_dg (u : Nat) : ∀ c ∈ decDigits u, isDg c := by
  induction u using Nat.strongRecOn with
  | _ u ih =>
    by_cases h : u < 10
    · rw [decDigits, dif_pos h]
      intro c hc
      rw [List.mem_singleton] at hc
      rw [hc]
      exact (dgOf u h).1
    · rw [decDigits, dif_neg h]
      intro c hc
      rw [List.mem_append, List.mem_singleton] at hc
      rcases hc with hc | hc
      · exact ih _ (by omega) c hc
      · rw [hc]
        exact (dgOf (u % 10) (by omega)).1
theorem val_decDigits (u : Nat) : valA 0 (decDigits u) = u := by
  induction u using Nat.strongRecOn with
  | _ u ih =>
    by_cases h : u < 10
    · rw [decDigits, dif_pos h, valA_cons, valA_nil, (dgOf u h).2]
      omega
    · rw [decDigits, dif_neg h, valA_append, ih _ (by omega), valA_cons, valA_nil, (dgOf (u % 10) (by omega)).2]
      omega
theorem nDigits_of : ∀ (k u : Nat), u < 10 ^ (k + 1) → nDigits u ≤ k + 1
  | 0, u, h => by rw [nDigits_small (by simpa using h)]; omega
  | k + 1, u, h => by
    by_cases h2 : u < 10
    · rw [nDigits_small h2]; omega
    · rw [nDigits_big h2]
      have := nDigits_of k (u / 10) (by rw [Nat.pow_succ] at h; omega)
      omega
theorem decDigits_len (u : Nat) (h : u ≤ 9223372036854775808) : (decDigits u).length ≤ 19 ∧ 1 ≤ (decDigits u).length := by
  rw [decDigits_length]
  exact ⟨nDigits_of 18 u (by have : (10 : Nat) ^ (18 + 1) = 10000000000000000000 := by decide
                             omega), nDigits_pos u⟩
theorem parseUint10_of : ∀ (l : List UInt8) (acc : Nat), (∀ c ∈ l, isDg c) → valA acc l < 18446744073709551616 → parseUint10 acc l = .ok (valA acc l)
  | [], _, _, _ => rfl
  | c :: r, acc, hd, hv => by
    have hc := hd c (by simp)
    unfold isDg at hc
    rw [valA_cons] at hv
    have hle := valA_le r (acc * 10 + (c.toNat - 48))
    rw [parseUint10, if_pos hc, if_neg (by omega), if_neg (by omega), valA_cons]
    exact parseUint10_of r _ (fun x hx => hd x (by simp [hx])) hv
theorem parseMag_dec (u : Nat) (h : u < 18446744073709551616) : parseMag (decDigits u) = .ok u := by
  have hl : 1 ≤ (decDigits u).length := by rw [decDigits_length]; exact nDigits_pos u
  rw [parseMag, if_neg (by intro e; rw [e] at hl; simp at hl), parseUint10_of _ _ (decDigits_dg u) (by rw [val_decDigits]; exact h), val_decDigits]
/-- a numeral is read back -/
theorem atoi_itoa (n : Int) (h0 : -9223372036854775808 ≤ n) (h1 : n ≤ 9223372036854775807) : atoiAll (itoa n) = .ok n := by
  by_cases h : n < 0
  · obtain ⟨u, rfl⟩ : ∃ u : Nat, n = -(u : Int) := ⟨n.natAbs, by omega⟩
    rw [itoa_neg u (by omega)]
    have e : (45 : UInt8).toNat = 45 := rfl
    simp only [atoiAll, e, or_true, if_true, parseMag_dec u (by omega), not_true_eq_false, false_and, if_false, true_and]
    rw [if_neg (by omega)]
  · obtain ⟨u, rfl⟩ : ∃ u : Nat, n = (u : Int) := ⟨n.toNat, by omega⟩
    rw [itoa_nonneg]
    have hl := decDigits_len u (by omega)
    have hm := parseMag_dec u (by omega)
    match hd : decDigits u, hl with
    | [], hl => simp at hl
    | c :: r, _ =>
      have hc := decDigits_dg u c (by rw [hd]; simp)
      unfold isDg at hc
      rw [hd] at hm
      have n43 : ¬ (c.toNat = 43 ∨ c.toNat = 45) := by omega
      have n45 : ¬ c.toNat = 45 := by omega
      simp only [atoiAll]
      rw [if_neg n43, hm]
      simp only
      rw [if_neg (by omega), if_neg (by omega), if_neg n45]
/-- the numbers of an int -/
def in64 (n : Int) : Prop := -9223372036854775808 ≤ n ∧ n ≤ 9223372036854775807
theorem itoa_inj {n m : Int} (hn : in64 n) (hm : in64 m) (h : itoa n = itoa m) : n = m := by
  have h1 := atoi_itoa n hn.1 hn.2
  rw [h, atoi_itoa m hm.1 hm.2] at h1
  injection h1 with h1
  exact h1.symm
def numeral (n : Int) : ByteArray := ⟨(itoa n).toArray⟩
/-- the int that a text spells as it is written, and whether there is one -/
noncomputable def parseV (s : ByteArray) : Int := open Classical in if h : ∃ n, in64 n ∧ s = numeral n then h.choose else 0
noncomputable def parseK (s : ByteArray) : Bool := open Classical in decide (∃ n, in64 n ∧ s = numeral n)
theorem numeral_inj {n m : Int} (hn : in64 n) (hm : in64 m) (h : numeral n = numeral m) : n = m := by
  refine itoa_inj hn hm ?_
  have := congrArg (fun b : ByteArray => b.data.toList) h
  simpa [numeral] using this
theorem parse_yes {s : ByteArray} {n : Int} (hn : in64 n) (h : s = numeral n) : parseV s = n ∧ parseK s = true := by
  have hx : ∃ n, in64 n ∧ s = numeral n := ⟨n, hn, h⟩
  refine ⟨?_, ?_⟩
  · rw [parseV, dif_pos hx]
    exact numeral_inj hx.choose_spec.1 hn (hx.choose_spec.2.symm.trans h)
  · rw [parseK]
    exact @decide_eq_true _ (Classical.propDecidable _) hx
theorem parse_no {s : ByteArray} (h : ∀ n, in64 n → s ≠ numeral n) : parseV s = 0 ∧ parseK s = false := by
  have hx : ¬ ∃ n, in64 n ∧ s = numeral n := fun ⟨n, hn, e⟩ => h n hn e
  refine ⟨?_, ?_⟩
  · rw [parseV, dif_neg hx]
  · rw [parseK]
    exact @decide_eq_false _ (Classical.propDecidable _) hx
end Go.Proofs.YtbmihbbpdmpmpaaDoor
