/- CountEffective: the specification's side. -/
import Derived.Test.YtklaanohbpcifaaEinS
namespace Go.Proofs.Ytklaanohbpcifaa
open Go.RowKit

noncomputable def cntB (N : Int) (es : List (Int × Int)) (d : List Int) : Int := if einOk N es d = true then ((einB N es d).length : Int) else -1
theorem cntB_t {N : Int} {es : List (Int × Int)} {d : List Int} (h : einOk N es d = true) : cntB N es d = ((einB N es d).length : Int) := by rw [cntB, if_pos h]
theorem cntB_f {N : Int} {es : List (Int × Int)} {d : List Int} (h : einOk N es d = false) : cntB N es d = -1 := by rw [cntB, if_neg (by rw [h]; decide)]
theorem effB_len8 : ∀ (n : Nat) (k : Int), k ≤ 7 → (effB (n + 1) k).length ≤ 8 ^ n
  | 0, k, _ => by
    rw [effB]
    split <;> simp
  | n + 1, k, h => by
    by_cases hk : k < 0
    · rw [effB_neg hk]; simp
    · obtain ⟨m, rfl⟩ : ∃ m : Nat, k = (m : Int) := ⟨k.toNat, by omega⟩
      rw [effB_two]
      have h1 := effTo_len (n := n) (k := (m : Int)) (B := 8 ^ n) (fun x => effB_len8 n _ (by omega)) (m + 1)
      have h2 : (m + 1) * 8 ^ n ≤ 8 * 8 ^ n := Nat.mul_le_mul_right _ (by omega)
      have h3 : 8 ^ (n + 1) = 8 * 8 ^ n := by rw [Nat.pow_succ 8 n, Nat.mul_comm]
      omega
theorem lens_le {M : Nat} : ∀ {rs : List (List Int)}, (∀ r ∈ rs, r.length ≤ M) → lens rs ≤ rs.length * M
  | [], _ => by simp [lens]
  | r :: l, h => by
    have h1 := h r (by simp)
    have h2 := lens_le (M := M) (rs := l) (fun p hp => h p (by simp [hp]))
    rw [lens, List.length_cons, Nat.add_mul, Nat.one_mul]
    omega
/-- few and short rows -/
theorem einB_few (N : Int) (es : List (Int × Int)) (d : List Int) : (einB N es d).length ≤ 32768 ∧ lens (einB N es d) ≤ 1048576 := by
  by_cases h : einOk N es d = true ∧ winB N es d = true
  · rw [einB_t h.1 h.2]
    have h1 := h.1
    simp only [einOk, Bool.and_eq_true, decide_eq_true_eq] at h1
    obtain ⟨M, rfl, hM0, hM6, -⟩ := div_limsB h1.1
    rw [Int.toNat_natCast]
    obtain ⟨n, rfl⟩ : ∃ n, M = n + 1 := ⟨M - 1, by omega⟩
    have h2 := effB_len8 n (degB d d.length) h1.2
    have h3 : 8 ^ n ≤ 8 ^ 5 := Nat.pow_le_pow_right (by omega) (by omega)
    have h4 : (einL ((n + 1 : Nat) : Int) es d (effB (n + 1) (degB d d.length))).length ≤ (effB (n + 1) (degB d d.length)).length := List.length_filter_le _ _
    have h5 := lens_le (M := 6) (rs := einL ((n + 1 : Nat) : Int) es d (effB (n + 1) (degB d d.length))) (fun r hr => by
      have := (effB_mem _ _ r (List.mem_filter.1 hr).1).1
      omega)
    omega
  · have h2 : einB N es d = [] := by rw [einB, if_neg h]
    rw [h2]
    simp [lens]
set_option maxRecDepth 100000 in
set_option maxHeartbeats 2000000 in
theorem specCnt (N : Int) (A D : Option Addr) (c cd : Nat) (es : List (Int × Int)) (d : List Int) (w : World) (hn : es.length ≤ 1048576) (hd : d.length ≤ 1048576) (hE : EdgeS w w.heap.size A es) (hS : IntS w w.heap.size D d) :
    Calls Try.prog 5 #[.agg #[.int .i64 N, .slice A es.length c], .slice D d.length cd] w fun e w' => e = .returned (.int .i64 (cntB N es d)) ∧ Below w.heap.size w w' := by
  have HE := Lib.hid hE
  have HS := Lib.hid hS
  clear hE hS
  have G0 := GB.start w N A c es
  have HD := fun w h1 h2 => Lib.hid (specEin N A D c cd es d w hn hd h1 h2)
  cases h1 : einOk N es d with
  | false =>
    rw [h1] at HD
    rw [cntB_f h1]
    clear h1
    go_enter Try.func5, Try.ntmps5
    go_wp2_with fail
    refine (HD _ (HE.out.up_ G0.old) (HS.out.up_ G0.old)).out.mono ?_
    rintro e w1 ⟨A1, c1, rfl, -, hb1⟩
    have G1 := Lib.hid (G0.next hb1)
    clear G0 hb1
    go_wp2
    go_ret
    exact ⟨rfl, G1.out.old⟩
  | true =>
    rw [h1] at HD
    rw [cntB_t h1]
    clear h1
    go_enter Try.func5, Try.ntmps5
    go_wp2_with fail
    refine (HD _ (HE.out.up_ G0.old) (HS.out.up_ G0.old)).out.mono ?_
    rintro e w1 ⟨A1, c1, rfl, -, hb1⟩
    have G1 := Lib.hid (G0.next hb1)
    clear G0 hb1
    go_wp2
    go_ret
    exact ⟨rfl, G1.out.old⟩
end Go.Proofs.Ytklaanohbpcifaa
