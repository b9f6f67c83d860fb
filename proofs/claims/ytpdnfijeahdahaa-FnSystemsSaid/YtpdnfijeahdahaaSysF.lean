/- laws.FnSystems: the plain facts, and laws.less. -/
import Derived.Test.YtpdnfijeahdahaaBL
import Derived.Test.YtpdnfijeahdahaaBM
namespace Go.Proofs.Ytpdnfijeahdahaa
open Go.RowKit

theorem lexLt_at : ∀ {a b : List Int}, lexLt a b → ∃ (k : Nat) (x y : Int), a[k]? = some x ∧ b[k]? = some y ∧ x < y ∧ ∀ i, i < k → a[i]? = b[i]?
  | x :: a, y :: b, h => by
    rcases h with h | ⟨rfl, h⟩
    · exact ⟨0, x, y, rfl, rfl, h, fun i hi => absurd hi (by omega)⟩
    · obtain ⟨k, p, q, h1, h2, h3, h4⟩ := lexLt_at h
      refine ⟨k + 1, p, q, h1, h2, h3, fun i hi => ?_⟩
      cases i with
      | zero => rfl
      | succ i => exact h4 i (by omega)
  | [], _, h => by cases h
  | _ :: _, [], h => by cases h
set_option maxRecDepth 100000 in
set_option maxHeartbeats 1000000 in
theorem less_any (A C : Option Addr) (ca cc : Nat) (xs ys : List Int) (w : World) (hn : xs.length ≤ 1048576) (h : lexLt xs ys) (hS : IntS w w.heap.size A xs) (hT : IntS w w.heap.size C ys) :
    Calls Try.prog 13 #[.slice A xs.length ca, .slice C ys.length cc] w fun e w' => e = .returned (.bool true) ∧ w' = w := by
  obtain ⟨K, x, y, h1, h2, h3, h4⟩ := lexLt_at h
  have hK1 := (List.getElem?_eq_some_iff.1 h1).1
  have hK2 := (List.getElem?_eq_some_iff.1 h2).1
  have HS := Lib.hid hS
  have HT := Lib.hid hT
  have H1 := Lib.hid h1
  have H2 := Lib.hid h2
  have H4 := Lib.hid h4
  clear hS hT h h1 h2 h4
  go_enter Try.func13, Try.ntmps13
  go_wp2
  go_loop [9] (fun i => ∃ j : Nat, j ≤ K ∧ i = .int .i64 j) (fun i => K + 1 - (intOf i).toNat)
  case atStart => exact ⟨0, Nat.zero_le _, rfl⟩
  case round =>
    obtain ⟨j, hj, rfl⟩ := hrel
    obtain ⟨b1, o1, p, rfl, hb1, he, hc0⟩ := HS.out.at_ (k := j) (by omega)
    obtain ⟨b2, o2, q, rfl, hb2, hf, hd0⟩ := HT.out.at_ (k := j) (by omega)
    have hj0 : (0 : Int) ≤ (j : Int) := Int.natCast_nonneg _
    have hj1 : (j : Int) < (xs.length : Int) := by omega
    have hj2 : (j : Int) < (ys.length : Int) := by omega
    by_cases hjk : j = K
    · have e1 : p = x := by
        have := H1.out
        rw [← hjk, he] at this
        injection this
      have e2 : q = y := by
        have := H2.out
        rw [← hjk, hf] at this
        injection this
      have t1 : (p != q) = true := by simp only [bne_iff_ne]; omega
      have t2 : decide (p < q) = true := by rw [decide_eq_true_eq]; omega
      clear he hf e1 e2 hjk
      go_wp2
      go_ret
      exact ⟨ret_boolE (by simp), rfl⟩
    · have e1 : p = q := by
        have := H4.out j (by omega)
        rw [he, hf] at this
        injection this
      have t1 : (p != q) = false := by simp only [bne_eq_false_iff_eq]; exact e1
      have hjK : j + 1 ≤ K := by omega
      clear he hf e1 hjk
      go_wp2
      exact ⟨⟨j + 1, by omega, by go_num⟩, by simp [intOf]; omega⟩
end Go.Proofs.Ytpdnfijeahdahaa
