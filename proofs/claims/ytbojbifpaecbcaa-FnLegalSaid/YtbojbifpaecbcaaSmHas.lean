/- The laws' own same and has. -/
import Derived.Test.YtbojbifpaecbcaaBA
namespace Go.Proofs.Ytbojbifpaecbcaa
open Go.RowKit

theorem hasI_miss {xs : List Int} {k : Nat} {x v : Int} (h : xs[k]? = some x) (hn : ¬ v ∈ xs.take k) (hne : x ≠ v) : ¬ v ∈ xs.take (k + 1) := by
  rw [List.take_add_one, h]
  simp only [Option.toList, List.mem_append, List.mem_singleton]
  rintro (h1 | h1)
  · exact hn h1
  · exact hne h1.symm
set_option maxHeartbeats 1000000 in
theorem hasI_any (A : Option Addr) (c : Nat) (xs : List Int) (v : Int) (w : World) (hn : xs.length ≤ 1048576) (hS : IntS w w.heap.size A xs) :
    Calls Try.prog 35 #[.slice A xs.length c, .int .i64 v] w fun e w' => e = .returned (.bool (decide (v ∈ xs))) ∧ w' = w := by
  have HS := Lib.hid hS
  clear hS
  go_enter Try.func35, Try.ntmps35
  go_wp2
  go_loopw [9] (fun i wr => ∃ k : Nat, k ≤ xs.length ∧ i = .int .i64 k ∧ Hid (¬ v ∈ xs.take k) ∧ wr = w) (fun i _ => xs.length - (intOf i).toNat)
  case atStart => exact ⟨0, Nat.zero_le _, rfl, Lib.hid (by simp), rfl⟩
  case round =>
    obtain ⟨k, hk, rfl, HN, rfl⟩ := hrel
    by_cases hlt : k < xs.length
    · obtain ⟨b1, o1, x, rfl, hb1, he, hc0⟩ := HS.out.at_ hlt
      have hi0 : (0 : Int) ≤ (k : Int) := Int.natCast_nonneg _
      have hi1 : (k : Int) < (xs.length : Int) := by omega
      by_cases hx : x = v
      · have HM := Lib.hid (show decide (v ∈ xs) = true from by rw [decide_eq_true_eq, ← hx]; exact List.mem_of_getElem? he)
        have t1 : (x == v) = true := by simp [hx]
        clear he hx
        go_wp2
        go_ret
        exact ⟨by rw [HM.out]; rfl, rfl⟩
      · have HN2 := Lib.hid (hasI_miss he HN.out hx)
        have t1 : (x == v) = false := by simp [hx]
        clear he HN
        go_wp2
        exact ⟨⟨k + 1, by omega, by go_num, HN2, by trivial⟩, by simp [intOf]; omega⟩
    · have HM := Lib.hid (show decide (v ∈ xs) = false from by
        have h := HN.out
        rw [List.take_of_length_le (by omega)] at h
        exact decide_eq_false h)
      go_wp2
      go_ret
      exact ⟨by rw [HM.out]; rfl, rfl⟩
theorem take_sameI {xs ys : List Int} {k : Nat} {x y : Int} (h1 : xs[k]? = some x) (h2 : ys[k]? = some y) (h : xs.take k = ys.take k) (he : x = y) : xs.take (k + 1) = ys.take (k + 1) := by
  rw [List.take_add_one, List.take_add_one, h1, h2, h, he]
set_option maxHeartbeats 1000000 in
theorem sameI_any (A C : Option Addr) (ca cc : Nat) (xs ys : List Int) (w : World) (hn : xs.length ≤ 1048576) (hm : ys.length ≤ 1048576) (hS : IntS w w.heap.size A xs) (hT : IntS w w.heap.size C ys) :
    Calls Try.prog 27 #[.slice A xs.length ca, .slice C ys.length cc] w fun e w' => e = .returned (.bool (decide (xs = ys))) ∧ w' = w := by
  have HS := Lib.hid hS
  have HT := Lib.hid hT
  clear hS hT
  by_cases hl : xs.length = ys.length
  · have t0 : ((xs.length : Int) == (ys.length : Int)) = true := by simp [hl]
    have t1 : ((xs.length : Int) ≠ (ys.length : Int)) = False := by simp [hl]
    have hl2 : (xs.length : Int) = (ys.length : Int) := by omega
    have HL := Lib.hid hl
    clear hl
    go_enter Try.func27, Try.ntmps27
    go_wp2
    go_loopw [14] (fun i wr => ∃ k : Nat, k ≤ xs.length ∧ i = .int .i64 k ∧ Hid (xs.take k = ys.take k) ∧ wr = w) (fun i _ => xs.length - (intOf i).toNat)
    case atStart => exact ⟨0, Nat.zero_le _, rfl, Lib.hid (by simp), rfl⟩
    case round =>
      obtain ⟨k, hk, rfl, HN, rfl⟩ := hrel
      by_cases hlt : k < xs.length
      · obtain ⟨b1, o1, x, rfl, hb1, he, hc0⟩ := HS.out.at_ hlt
        obtain ⟨b2, o2, y, rfl, hb2, hf, hc1⟩ := HT.out.at_ (show k < ys.length by have := HL.out; omega)
        have hi0 : (0 : Int) ≤ (k : Int) := Int.natCast_nonneg _
        have hi1 : (k : Int) < (xs.length : Int) := by omega
        have hi2 : (k : Int) < (ys.length : Int) := by omega
        by_cases hx : x = y
        · have HN2 := Lib.hid (take_sameI he hf HN.out hx)
          have t2 : (x == y) = true := by simp [hx]
          clear he hf HN
          subst hx
          go_wp2
          exact ⟨⟨k + 1, by omega, by go_num, HN2, by trivial⟩, by simp [intOf]; omega⟩
        · have HM := Lib.hid (show decide (xs = ys) = false from by
            rw [decide_eq_false_iff_not]
            rintro rfl
            rw [he] at hf
            injection hf with hf
            exact hx hf)
          have t2 : (x == y) = false := by simp [hx]
          clear he hf HN
          go_wp2
          go_ret
          exact ⟨by rw [HM.out]; rfl, rfl⟩
      · have HM := Lib.hid (show decide (xs = ys) = true from by
          have h := HN.out
          rw [List.take_of_length_le (by omega), List.take_of_length_le (by have := HL.out; omega)] at h
          exact decide_eq_true h)
        go_wp2
        go_ret
        exact ⟨by rw [HM.out]; rfl, rfl⟩
  · have HM := Lib.hid (show decide (xs = ys) = false from by
      rw [decide_eq_false_iff_not]
      rintro rfl
      exact hl rfl)
    have t0 : ((xs.length : Int) == (ys.length : Int)) = false := by simp; omega
    have hl2 : ¬ (xs.length : Int) = (ys.length : Int) := by omega
    clear hl
    go_enter Try.func27, Try.ntmps27
    go_wp2
    go_ret
    exact ⟨by rw [HM.out]; rfl, rfl⟩
end Go.Proofs.Ytbojbifpaecbcaa
