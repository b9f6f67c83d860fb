/- MatrixOk: the specification's loops and the program's answer alike: one plain Bool function of the rows. -/
import Derived.Test.YthdpfmgljnmafabIntSS
import Derived.Test.YthdpfmgljnmafabShCFunc
import Derived.Test.YthdpfmgljnmafabEdgesOk
namespace Go.Proofs.Ythdpfmgljnmafab
open Go.RowKit

def entryOk (z : Int) : Bool := decide (-500 ≤ z) && decide (z ≤ 500)
def rowOk (n : Nat) (r : List Int) : Bool := decide (r.length = n) && r.all entryOk
def matB (rs : List (List Int)) : Bool := decide (rs.length ≤ 6) && rs.all (rowOk rs.length)
theorem matB_size {rs : List (List Int)} (h : 6 < rs.length) : matB rs = false := by
  simp only [matB, Bool.and_eq_false_iff, decide_eq_false_iff_not]
  omega
theorem matB_miss {rs : List (List Int)} {k : Nat} {r : List Int} (he : rs[k]? = some r) (h : rowOk rs.length r = false) : matB rs = false := by
  have : rs.all (rowOk rs.length) = false := by
    rw [List.all_eq_false]
    exact ⟨r, List.mem_of_getElem? he, by simp [h]⟩
  simp [matB, this]
theorem matB_all {rs : List (List Int)} (h1 : rs.length ≤ 6) (h : rs.all (rowOk rs.length) = true) : matB rs = true := by simp [matB, h1, h]
theorem rowOk_len {n : Nat} {r : List Int} (h : r.length ≠ n) : rowOk n r = false := by simp [rowOk, h]
theorem rowOk_miss {n : Nat} {r : List Int} {k : Nat} {z : Int} (he : r[k]? = some z) (h : entryOk z = false) : rowOk n r = false := by
  have : r.all entryOk = false := by
    rw [List.all_eq_false]
    exact ⟨z, List.mem_of_getElem? he, by simp [h]⟩
  simp [rowOk, this]
theorem rowOk_all {n : Nat} {r : List Int} (h1 : r.length = n) (h : r.all entryOk = true) : rowOk n r = true := by simp [rowOk, h1, h]
theorem entry_in (z : Int) : inB z (-500) 500 = entryOk z := rfl

set_option maxHeartbeats 1000000 in
theorem specMatrixOk (A : Option Addr) (c : Nat) (rs : List (List Int)) (w : World) (hn : rs.length ≤ 9223372036854775807) (hl : ∀ r ∈ rs, r.length ≤ 9223372036854775807) (hS : IntSS w w.heap.size A rs) :
    Calls Try.prog 34 #[.slice A rs.length c] w fun e w' => e = .returned (.bool (matB rs)) ∧ w = w' := by
  have HS := Lib.hid hS
  have HL := Lib.hid hl
  clear hS hl
  by_cases h6 : 6 < rs.length
  · have H := Lib.hid (matB_size h6)
    go_enter Try.func34, Try.ntmps34
    go_wp2
    go_ret
    exact ⟨ret_boolE H.out.symm, rfl⟩
  have h6' : rs.length ≤ 6 := by omega
  clear h6
  go_enter Try.func34, Try.ntmps34
  go_wp2
  go_loopw [12] (fun i wr => ∃ k : Nat, k ≤ rs.length ∧ i = .int .i64 k ∧ (rs.take k).all (rowOk rs.length) = true ∧ w = wr) (fun i _ => rs.length - (intOf i).toNat)
  case atStart => exact ⟨0, Nat.zero_le _, rfl, rfl, rfl⟩
  case round =>
    obtain ⟨k, hk, rfl, hall, rfl⟩ := hrel
    have HA := Lib.hid hall
    clear hall
    by_cases hlt : k < rs.length
    · obtain ⟨b1, o1, r, Ai, ci, rfl, hb1, he, hc0, hri⟩ := HS.out.at_ hlt
      have hi0 : (0 : Int) ≤ (k : Int) := Int.natCast_nonneg _
      have hi1 : (k : Int) < (rs.length : Int) := by omega
      have hrl := HL.out r (List.mem_of_getElem? he)
      have HX := Lib.hid he
      have HRI := Lib.hid hri
      clear he hri
      by_cases hlen : r.length = rs.length
      · have t1 : ((r.length : Int) != (rs.length : Int)) = false := by simp [hlen]
        have HLN := Lib.hid hlen
        clear hlen
        go_wp2
        go_loopw [23] (fun i wr => ∃ j : Nat, j ≤ r.length ∧ i = .int .i64 j ∧ (r.take j).all entryOk = true ∧ w = wr) (fun i _ => r.length - (intOf i).toNat)
        case atStart => exact ⟨0, Nat.zero_le _, rfl, rfl, rfl⟩
        case round =>
          obtain ⟨j, hj, rfl, hall2, rfl⟩ := hrel
          have HA2 := Lib.hid hall2
          clear hall2
          by_cases hlt2 : j < r.length
          · obtain ⟨b2, o2, z, rfl, hb2, hz, hd0⟩ := HRI.out.at_ hlt2
            have hj0 : (0 : Int) ≤ (j : Int) := Int.natCast_nonneg _
            have hj1 : (j : Int) < (r.length : Int) := by omega
            have HZ := Lib.hid hz
            clear hz
            cases hen : entryOk z with
            | true =>
              have hin : inB z (-500) 500 = true := hen
              have H := Lib.hid (allTake_snoc HA2.out HZ.out hen)
              clear hen
              go_wp2_with (go_at_call 58; refine (l01In_any _ _ _ _).mono ?_; rintro e w' ⟨rfl, rfl⟩)
              exact ⟨⟨j + 1, by omega, by go_num, H.out, trivial⟩, by simp [intOf]; omega⟩
            | false =>
              have hin : inB z (-500) 500 = false := hen
              have H := Lib.hid (matB_miss HX.out (rowOk_miss HZ.out hen))
              clear hen
              go_wp2_with (go_at_call 58; refine (l01In_any _ _ _ _).mono ?_; rintro e w' ⟨rfl, rfl⟩)
              go_ret
              exact ⟨ret_boolE H.out.symm, rfl⟩
          · have H := Lib.hid (allTake_snoc HA.out HX.out (rowOk_all HLN.out (allTake_end HA2.out (by omega))))
            go_wp2
            exact ⟨⟨k + 1, by omega, by go_num, H.out, trivial⟩, by simp [intOf]; omega⟩
      · have t1 : ((r.length : Int) != (rs.length : Int)) = true := by simp; omega
        have H := Lib.hid (matB_miss HX.out (rowOk_len hlen))
        clear hlen
        go_wp2
        go_ret
        exact ⟨ret_boolE H.out.symm, rfl⟩
    · have H := Lib.hid (matB_all h6' (allTake_end HA.out (by omega)))
      go_wp2
      go_ret
      exact ⟨ret_boolE H.out.symm, rfl⟩

theorem beyond_at (w : World) : PredAt Try.prog 74 #[] (fun z : Int => .int .i64 z) (fun z => !entryOk z) w := by
  intro W z _
  show Calls Try.prog 74 #[.int .i64 z] W fun e w' => e = .returned (.bool (!entryOk z)) ∧ ∃ q, w' = W.drewN q
  by_cases h1 : z < -500
  · have H : (!entryOk z) = true := by simp only [entryOk]; rw [decide_eq_false (by omega)]; rfl
    rw [H]
    have t1 : decide (z < -500) = true := decide_eq_true h1
    clear H
    go_enter Try.func74, Try.ntmps74
    go_wp2
    go_ret
    exact ⟨rfl, 0, rfl⟩
  · have t1 : decide (z < -500) = false := decide_eq_false h1
    have h1' : -500 ≤ z := by omega
    clear h1
    by_cases h2 : 500 < z
    · have H : (!entryOk z) = true := by simp only [entryOk]; rw [decide_eq_false (p := z ≤ 500) (by omega)]; simp
      rw [H]
      have t2 : decide (500 < z) = true := decide_eq_true h2
      clear H
      go_enter Try.func74, Try.ntmps74
      go_wp2
      go_ret
      exact ⟨rfl, 0, rfl⟩
    · have H : (!entryOk z) = false := by simp only [entryOk]; rw [decide_eq_true h1', decide_eq_true (by omega)]; rfl
      rw [H]
      have t2 : decide (500 < z) = false := decide_eq_false h2
      have h2' : z ≤ 500 := by omega
      clear H h2
      go_enter Try.func74, Try.ntmps74
      go_wp2
      go_ret
      exact ⟨rfl, 0, rfl⟩
theorem beyond_enters : ∀ args w, (callFunc 74 args).run Try.prog w = .ok (.enter 74 args) w := enters_of Try.func74 (by kernel_rfl) rfl
theorem contains_beyond (A : Option Addr) (c B : Nat) (r : List Int) (w : World) (hn : r.length ≤ 9223372036854775807) (hS : IntS w B A r) :
    Calls Try.prog 73 #[.slice A r.length c, .func (.func 74) #[] #[]] w fun e w' => e = .returned (.bool (!r.all entryOk)) ∧ ∃ q, w' = w.drewN q := by
  by_cases h0 : 0 < r.length
  · obtain ⟨b, off, rfl, hb, hc⟩ := hS h0
    have h := Try.slices_ContainsFunc (fun z : Int => .int .i64 z) (fun z => !entryOk z) 74 #[] beyond_enters b off r.length c r w (beyond_at w) (Nat.le_refl _) hn
      (fun j hj => by rw [hc j r[j] (List.getElem?_eq_getElem hj)]; simp [getElem!_pos r j hj])
    rw [List.take_length] at h
    have e : (r.any fun z => !entryOk z) = !r.all entryOk := by rw [List.not_all_eq_any_not]
    rwa [e] at h
  · obtain rfl : r = [] := by
      cases r with
      | nil => rfl
      | cons a l => simp at h0
    refine (Try.slices_ContainsFunc_empty (α := Int) A c (.func (.func 74) #[] #[]) w).mono ?_
    rintro e w' ⟨rfl, rfl⟩
    exact ⟨rfl, 0, rfl⟩

set_option maxHeartbeats 1000000 in
theorem implMatrixOk (A : Option Addr) (c : Nat) (rs : List (List Int)) (w : World) (hn : rs.length ≤ 9223372036854775807) (hl : ∀ r ∈ rs, r.length ≤ 9223372036854775807) (hS : IntSS w w.heap.size A rs) :
    Calls Try.prog 36 #[.slice A rs.length c] w fun e w' => e = .returned (.bool (matB rs)) ∧ Below w.heap.size w w' := by
  have HS := Lib.hid hS
  have HL := Lib.hid hl
  clear hS hl
  by_cases h6 : 6 < rs.length
  · have H := Lib.hid (matB_size h6)
    go_enter Try.func36, Try.ntmps36
    go_wp2
    go_ret
    exact ⟨ret_boolE H.out.symm, Below.refl _ _⟩
  have h6' : rs.length ≤ 6 := by omega
  clear h6
  go_enter Try.func36, Try.ntmps36
  go_wp2
  go_loopw [10] (fun i wr => ∃ k : Nat, k ≤ rs.length ∧ i = .int .i64 k ∧ (rs.take k).all (rowOk rs.length) = true ∧ Below w.heap.size w wr) (fun i _ => rs.length - (intOf i).toNat)
  case atStart => exact ⟨0, Nat.zero_le _, rfl, rfl, Below.refl _ _⟩
  case round =>
    obtain ⟨k, hk, rfl, hall, hb⟩ := hrel
    have HA := Lib.hid hall
    clear hall
    by_cases hlt : k < rs.length
    · obtain ⟨b1, o1, r, Ai, ci, rfl, hb1, he, hc0, hri⟩ := (HS.out.below hb).at_ hlt
      have hi0 : (0 : Int) ≤ (k : Int) := Int.natCast_nonneg _
      have hi1 : (k : Int) < (rs.length : Int) := by omega
      have hrl := HL.out r (List.mem_of_getElem? he)
      have HX := Lib.hid he
      by_cases hlen : r.length = rs.length
      · have t1 : ((r.length : Int) != (rs.length : Int)) = false := by simp [hlen]
        have HLN := Lib.hid hlen
        have HCF := Lib.hid (contains_beyond Ai ci _ r wr hrl hri)
        clear hlen he hri
        cases hen : r.all entryOk with
        | true =>
          have H := Lib.hid (allTake_snoc HA.out HX.out (rowOk_all HLN.out hen))
          go_wp2_with (go_at_call 73; refine HCF.out.mono ?_; rintro e w' ⟨rfl, q, rfl⟩)
          exact ⟨⟨k + 1, by omega, by go_num, H.out, below_drewN hb _⟩, by simp [intOf]; omega⟩
        | false =>
          have H := Lib.hid (matB_miss HX.out (show rowOk rs.length r = false by simp [rowOk, hen]))
          go_wp2_with (go_at_call 73; refine HCF.out.mono ?_; rintro e w' ⟨rfl, q, rfl⟩)
          go_ret
          exact ⟨ret_boolE H.out.symm, below_drewN hb _⟩
      · have t1 : ((r.length : Int) != (rs.length : Int)) = true := by simp; omega
        have H := Lib.hid (matB_miss HX.out (rowOk_len hlen))
        clear hlen he hri
        go_wp2
        go_ret
        exact ⟨ret_boolE H.out.symm, hb⟩
    · have H := Lib.hid (matB_all h6' (allTake_end HA.out (by omega)))
      go_wp2
      go_ret
      exact ⟨ret_boolE H.out.symm, hb⟩
end Go.Proofs.Ythdpfmgljnmafab
