/- laws.FnSystems: the plain facts, and laws.less. -/
import Derived.Test.YtcfhkaefjhcglaaBL
import Derived.Test.YtcfhkaefjhcglaaBM
namespace Go.Proofs.Ytcfhkaefjhcglaa
open Go.RowKit

theorem lexLt_at : ∀ {a b : List Int}, lexLt a b → ∃ (k : Nat) (x y : Int), a[k]? = some x ∧ b[k]? = some y ∧ x < y ∧ ∀ i, i < k → a[i]? = b[i]?
  | x :: a, y :: b, h => by
    rcases h with h | ⟨rfl, h⟩
    · exact ⟨0, x, y, rfl, rfl, h, fun i hi => absurd hi (by omega)⟩
    · obtain ⟨k, p, q, h1, h2, h3, h4⟩ := lexLt_at h
      refine ⟨k + 1, p, q, h1, h2, h3, fun i hi => ?_⟩
      cases i with
      | zero => rfl
      | succ i => exact h4 i (by omega)
  | [], _, h => by cases h
  | _ :: _, [], h => by cases h
set_option maxRecDepth 100000 in
set_option maxHeartbeats 1000000 in
theorem less_any (A C : Option Addr) (ca cc : Nat) (xs ys : List Int) (w : World) (hn : xs.length ≤ 1048576) (h : lexLt xs ys) (hS : IntS w w.heap.size A xs) (hT : IntS w w.heap.size C ys) :
    Calls Try.prog 35 #[.slice A xs.length ca, .slice C ys.length cc] w fun e w' => e = .returned (.bool true) ∧ w' = w := by
  obtain ⟨K, x, y, h1, h2, h3, h4⟩ := lexLt_at h
  have hK1 := (List.getElem?_eq_some_iff.1 h1).1
  have hK2 := (List.getElem?_eq_some_iff.1 h2).1
  have HS := Lib.hid hS
  have HT := Lib.hid hT
  have H1 := Lib.hid h1
  have H2 := Lib.hid h2
  have H4 := Lib.hid h4
  clear hS hT h h1 h2 h4
  go_enter Try.func35, Try.ntmps35
  go_wp2
  go_loop [9] (fun i => ∃ j : Nat, j ≤ K ∧ i = .int .i64 j) (fun i => K + 1 - (intOf i).toNat)
  case atStart => exact ⟨0, Nat.zero_le _, rfl⟩
  case round =>
    obtain ⟨j, hj, rfl⟩ := hrel
    obtain ⟨b1, o1, p, rfl, hb1, he, hc0⟩ := HS.out.at_ (k := j) (by omega)
    obtain ⟨b2, o2, q, rfl, hb2, hf, hd0⟩ := HT.out.at_ (k := j) (by omega)
    have hj0 : (0 : Int) ≤ (j : Int) := Int.natCast_nonneg _
    have hj1 : (j : Int) < (xs.length : Int) := by omega
    have hj2 : (j : Int) < (ys.length : Int) := by omega
    by_cases hjk : j = K
    · have e1 : p = x := by
        have := H1.out
        rw [← hjk, he] at this
        injection this
      have e2 : q = y := by
        have := H2.out
        rw [← hjk, hf] at this
        injection this
      have t1 : (p != q) = true := by simp only [bne_iff_ne]; omega
      have t2 : decide (p < q) = true := by rw [decide_eq_true_eq]; omega
      clear he hf e1 e2 hjk
      go_wp2
      go_ret
      exact ⟨ret_boolE (by simp), rfl⟩
    · have e1 : p = q := by
        have := H4.out j (by omega)
        rw [he, hf] at this
        injection this
      have t1 : (p != q) = false := by simp only [bne_eq_false_iff_eq]; exact e1
      have hjK : j + 1 ≤ K := by omega
      clear he hf e1 hjk
      go_wp2
      exact ⟨⟨j + 1, by omega, by go_num⟩, by simp [intOf]; omega⟩
section
variable {M : Nat} {es : List (Int × Int)} {d e : List Int}
/-- what is listed is effective and of the class -/
theorem sys_mem (hd : divB 60 (M : Int) es d = true) (hk : degB d d.length ≤ 7) (h : e ∈ einB (M : Int) es d) : e ∈ effB M (degB d d.length) ∧ redR (M : Int) es d 0 = redR (M : Int) es e 0 ∧ e.length = M ∧ posAll e = true ∧ eqvB (M : Int) es d e = true := by
  cases hw : winB (M : Int) es d with
  | false => rw [einB_n hw] at h; cases h
  | true =>
    rw [einB_t (ein_yes hd hk) hw, Int.toNat_natCast] at h
    unfold einL at h
    rw [List.mem_filter, decide_eq_true_eq] at h
    obtain ⟨h1, h2⟩ := h
    obtain ⟨h3, h4⟩ := effB_mem _ _ e h1
    refine ⟨h1, h2, h3, posAll_iff.2 fun y hy => (h4 y hy).1, ?_⟩
    rw [eff_eqv hd hk h1, decide_eq_true h2]
theorem sys_sorted (N : Int) (es : List (Int × Int)) (d : List Int) : (einB N es d).Pairwise lexLt := by
  unfold einB
  split
  · unfold einL
    exact List.Pairwise.filter _ (effB_sorted _ _)
  · exact List.Pairwise.nil
/-- there is one just where d is won -/
theorem sys_some (hd : divB 60 (M : Int) es d = true) (hk : degB d d.length ≤ 7) (hex : ∃ f, IsRed M es d 0 f) : decide (0 < (einB (M : Int) es d).length) = winB (M : Int) es d := by
  cases hw : winB (M : Int) es d with
  | false => rw [einB_n hw]; simp
  | true =>
    have h1 : 0 ≤ chipR (M : Int) es d 0 := by
      simp only [winB, Bool.and_eq_true, decide_eq_true_eq] at hw
      exact hw.2
    obtain ⟨h2, h3⟩ := win_in hd hk hex h1
    rw [einB_t (ein_yes hd hk) hw, Int.toNat_natCast]
    have h4 : redR (M : Int) es d 0 ∈ einL (M : Int) es d (effB M (degB d d.length)) := by
      unfold einL
      rw [List.mem_filter, decide_eq_true_eq]
      exact ⟨h2, h3.symm⟩
    rw [decide_eq_true_eq]
    exact List.length_pos_of_mem h4
/-- an effective divisor of the degree is listed just where it is of the class -/
theorem sys_in (hd : divB 60 (M : Int) es d = true) (hk : degB d d.length ≤ 7) (he : e ∈ effB M (degB d d.length)) (hex : ∃ f, IsRed M es e 0 f) : eqvB (M : Int) es d e = decide (e ∈ einB (M : Int) es d) := by
  rw [eff_eqv hd hk he]
  refine decide_eq_decide.2 ⟨fun h => ?_, fun h => (sys_mem hd hk h).2.1⟩
  have h1 := in_win hd hk he hex h
  have hw : winB (M : Int) es d = true := by
    unfold winB
    rw [div_burn hd, decide_eq_true h1]
    rfl
  rw [einB_t (ein_yes hd hk) hw, Int.toNat_natCast]
  unfold einL
  rw [List.mem_filter, decide_eq_true_eq]
  exact ⟨he, h⟩
theorem mem_takeS {L : List (List Int)} {j : Nat} {x : List Int} (h : L[j]? = some x) : decide (e ∈ L.take (j + 1)) = (decide (e ∈ L.take j) || decide (x = e)) := by
  rw [List.take_add_one, h]
  simp only [Option.toList_some, List.mem_append, List.mem_singleton, Bool.decide_or]
  congr 1
  exact decide_eq_decide.2 eq_comm
end
end Go.Proofs.Ytcfhkaefjhcglaa
