/- MatrixOk: the specification's loops and the program's answer alike: one plain Bool function of the rows. -/
import Derived.Test.YtkmbdclhjdbhpabIntSS
import Derived.Test.YtkmbdclhjdbhpabEdgesOk
import Derived.Test.YtkmbdclhjdbhpabWithin
namespace Go.Proofs.Ytkmbdclhjdbhpab
open Go.RowKit

def entryOk (z : Int) : Bool := decide (-500 ≤ z) && decide (z ≤ 500)
def rowOk (n : Nat) (r : List Int) : Bool := decide (r.length = n) && r.all entryOk
def matB (rs : List (List Int)) : Bool := decide (rs.length ≤ 6) && rs.all (rowOk rs.length)
theorem matB_size {rs : List (List Int)} (h : 6 < rs.length) : matB rs = false := by
  simp only [matB, Bool.and_eq_false_iff, decide_eq_false_iff_not]
  omega
theorem matB_miss {rs : List (List Int)} {k : Nat} {r : List Int} (he : rs[k]? = some r) (h : rowOk rs.length r = false) : matB rs = false := by
  have : rs.all (rowOk rs.length) = false := by
    rw [List.all_eq_false]
    exact ⟨r, List.mem_of_getElem? he, by simp [h]⟩
  simp [matB, this]
theorem matB_all {rs : List (List Int)} (h1 : rs.length ≤ 6) (h : rs.all (rowOk rs.length) = true) : matB rs = true := by simp [matB, h1, h]
theorem rowOk_len {n : Nat} {r : List Int} (h : r.length ≠ n) : rowOk n r = false := by simp [rowOk, h]
theorem rowOk_miss {n : Nat} {r : List Int} {k : Nat} {z : Int} (he : r[k]? = some z) (h : entryOk z = false) : rowOk n r = false := by
  have : r.all entryOk = false := by
    rw [List.all_eq_false]
    exact ⟨z, List.mem_of_getElem? he, by simp [h]⟩
  simp [rowOk, this]
theorem rowOk_all {n : Nat} {r : List Int} (h1 : r.length = n) (h : r.all entryOk = true) : rowOk n r = true := by simp [rowOk, h1, h]
theorem entry_in (z : Int) : inB z (-500) 500 = entryOk z := rfl

set_option maxHeartbeats 1000000 in
theorem specMatrixOk (A : Option Addr) (c : Nat) (rs : List (List Int)) (w : World) (hn : rs.length ≤ 9223372036854775807) (hl : ∀ r ∈ rs, r.length ≤ 9223372036854775807) (hS : IntSS w w.heap.size A rs) :
    Calls Try.prog 59 #[.slice A rs.length c] w fun e w' => e = .returned (.bool (matB rs)) ∧ w = w' := by
  have HS := Lib.hid hS
  have HL := Lib.hid hl
  clear hS hl
  by_cases h6 : 6 < rs.length
  · have H := Lib.hid (matB_size h6)
    go_enter Try.func59, Try.ntmps59
    go_wp2
    go_ret
    exact ⟨ret_boolE H.out.symm, rfl⟩
  have h6' : rs.length ≤ 6 := by omega
  clear h6
  go_enter Try.func59, Try.ntmps59
  go_wp2
  go_loopw [12] (fun i wr => ∃ k : Nat, k ≤ rs.length ∧ i = .int .i64 k ∧ (rs.take k).all (rowOk rs.length) = true ∧ w = wr) (fun i _ => rs.length - (intOf i).toNat)
  case atStart => exact ⟨0, Nat.zero_le _, rfl, rfl, rfl⟩
  case round =>
    obtain ⟨k, hk, rfl, hall, rfl⟩ := hrel
    have HA := Lib.hid hall
    clear hall
    by_cases hlt : k < rs.length
    · obtain ⟨b1, o1, r, Ai, ci, rfl, hb1, he, hc0, hri⟩ := HS.out.at_ hlt
      have hi0 : (0 : Int) ≤ (k : Int) := Int.natCast_nonneg _
      have hi1 : (k : Int) < (rs.length : Int) := by omega
      have hrl := HL.out r (List.mem_of_getElem? he)
      have HX := Lib.hid he
      have HRI := Lib.hid hri
      clear he hri
      by_cases hlen : r.length = rs.length
      · have t1 : ((r.length : Int) != (rs.length : Int)) = false := by simp [hlen]
        have HLN := Lib.hid hlen
        clear hlen
        go_wp2
        go_loopw [23] (fun i wr => ∃ j : Nat, j ≤ r.length ∧ i = .int .i64 j ∧ (r.take j).all entryOk = true ∧ w = wr) (fun i _ => r.length - (intOf i).toNat)
        case atStart => exact ⟨0, Nat.zero_le _, rfl, rfl, rfl⟩
        case round =>
          obtain ⟨j, hj, rfl, hall2, rfl⟩ := hrel
          have HA2 := Lib.hid hall2
          clear hall2
          by_cases hlt2 : j < r.length
          · obtain ⟨b2, o2, z, rfl, hb2, hz, hd0⟩ := HRI.out.at_ hlt2
            have hj0 : (0 : Int) ≤ (j : Int) := Int.natCast_nonneg _
            have hj1 : (j : Int) < (r.length : Int) := by omega
            have HZ := Lib.hid hz
            clear hz
            cases hen : entryOk z with
            | true =>
              have hin : inB z (-500) 500 = true := hen
              have H := Lib.hid (allTake_snoc HA2.out HZ.out hen)
              clear hen
              go_wp2_with (go_at_call 68; refine (l01In_any _ _ _ _).mono ?_; rintro e w' ⟨rfl, rfl⟩)
              exact ⟨⟨j + 1, by omega, by go_num, H.out, trivial⟩, by simp [intOf]; omega⟩
            | false =>
              have hin : inB z (-500) 500 = false := hen
              have H := Lib.hid (matB_miss HX.out (rowOk_miss HZ.out hen))
              clear hen
              go_wp2_with (go_at_call 68; refine (l01In_any _ _ _ _).mono ?_; rintro e w' ⟨rfl, rfl⟩)
              go_ret
              exact ⟨ret_boolE H.out.symm, rfl⟩
          · have H := Lib.hid (allTake_snoc HA.out HX.out (rowOk_all HLN.out (allTake_end HA2.out (by omega))))
            go_wp2
            exact ⟨⟨k + 1, by omega, by go_num, H.out, trivial⟩, by simp [intOf]; omega⟩
      · have t1 : ((r.length : Int) != (rs.length : Int)) = true := by simp; omega
        have H := Lib.hid (matB_miss HX.out (rowOk_len hlen))
        clear hlen
        go_wp2
        go_ret
        exact ⟨ret_boolE H.out.symm, rfl⟩
    · have H := Lib.hid (matB_all h6' (allTake_end HA.out (by omega)))
      go_wp2
      go_ret
      exact ⟨ret_boolE H.out.symm, rfl⟩

theorem within_entry : within 500 = entryOk := rfl
set_option maxHeartbeats 1000000 in
theorem implMatrixOk (A : Option Addr) (c : Nat) (rs : List (List Int)) (w : World) (hn : rs.length ≤ 9223372036854775807) (hl : ∀ r ∈ rs, r.length ≤ 9223372036854775807) (hS : IntSS w w.heap.size A rs) :
    Calls Try.prog 60 #[.slice A rs.length c] w fun e w' => e = .returned (.bool (matB rs)) ∧ Below w.heap.size w w' := by
  have HS := Lib.hid hS
  have HL := Lib.hid hl
  clear hS hl
  by_cases h6 : 6 < rs.length
  · have H := Lib.hid (matB_size h6)
    go_enter Try.func60, Try.ntmps60
    go_wp2
    go_ret
    exact ⟨ret_boolE H.out.symm, Below.refl _ _⟩
  have h6' : rs.length ≤ 6 := by omega
  clear h6
  go_enter Try.func60, Try.ntmps60
  go_wp2
  go_loopw [10] (fun i wr => ∃ k : Nat, k ≤ rs.length ∧ i = .int .i64 k ∧ (rs.take k).all (rowOk rs.length) = true ∧ Below w.heap.size w wr) (fun i _ => rs.length - (intOf i).toNat)
  case atStart => exact ⟨0, Nat.zero_le _, rfl, rfl, Below.refl _ _⟩
  case round =>
    obtain ⟨k, hk, rfl, hall, hb⟩ := hrel
    have HA := Lib.hid hall
    clear hall
    by_cases hlt : k < rs.length
    · obtain ⟨b1, o1, r, Ai, ci, rfl, hb1, he, hc0, hri⟩ := (HS.out.below hb).at_ hlt
      have hi0 : (0 : Int) ≤ (k : Int) := Int.natCast_nonneg _
      have hi1 : (k : Int) < (rs.length : Int) := by omega
      have hrl := HL.out r (List.mem_of_getElem? he)
      have HX := Lib.hid he
      by_cases hlen : r.length = rs.length
      · have t1 : ((r.length : Int) != (rs.length : Int)) = false := by simp [hlen]
        have HLN := Lib.hid hlen
        have HCF := Lib.hid (areWithin_any Ai ci _ r 500 wr (by omega) (by omega) (by omega) hri)
        rw [within_entry] at HCF
        clear hlen he hri
        cases hen : r.all entryOk with
        | true =>
          have H := Lib.hid (allTake_snoc HA.out HX.out (rowOk_all HLN.out hen))
          rw [hen] at HCF
          clear hen
          go_wp2_with (go_at_call 95; refine HCF.out.mono ?_; rintro e w' ⟨rfl, rfl⟩)
          exact ⟨⟨k + 1, by omega, by go_num, H.out, hb⟩, by simp [intOf]; omega⟩
        | false =>
          have H := Lib.hid (matB_miss HX.out (show rowOk rs.length r = false by simp [rowOk, hen]))
          rw [hen] at HCF
          clear hen
          go_wp2_with (go_at_call 95; refine HCF.out.mono ?_; rintro e w' ⟨rfl, rfl⟩)
          go_ret
          exact ⟨ret_boolE H.out.symm, hb⟩
      · have t1 : ((r.length : Int) != (rs.length : Int)) = true := by simp; omega
        have H := Lib.hid (matB_miss HX.out (rowOk_len hlen))
        clear hlen he hri
        go_wp2
        go_ret
        exact ⟨ret_boolE H.out.symm, hb⟩
    · have H := Lib.hid (matB_all h6' (allTake_end HA.out (by omega)))
      go_wp2
      go_ret
      exact ⟨ret_boolE H.out.symm, hb⟩
end Go.Proofs.Ytkmbdclhjdbhpab
