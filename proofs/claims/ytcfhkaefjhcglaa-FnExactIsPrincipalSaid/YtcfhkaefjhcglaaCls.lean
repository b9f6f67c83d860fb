/- Equivalence: the plain functions. -/
import Derived.Test.YtcfhkaefjhcglaaBG
import Derived.Test.YtcfhkaefjhcglaaRedO
import Derived.Test.YtcfhkaefjhcglaaChipAt
import Derived.Test.YtcfhkaefjhcglaaDeg
namespace Go.Proofs.Ytcfhkaefjhcglaa
open Go.RowKit

noncomputable def eqvB (N : Int) (es : List (Int × Int)) (a b : List Int) : Bool := divB 60 N es a && (divB 60 N es b && (decide (degB a a.length = degB b b.length) && decide (redR N es a 0 = redR N es b 0)))
noncomputable def betB (N : Int) (es : List (Int × Int)) (a b : List Int) : List Int := if eqvB N es a b = true then liftB (subB (scrR N es a 0) (scrR N es b 0)) else []
noncomputable def prinB (N : Int) (es : List (Int × Int)) (d : List Int) : Bool := divB 60 N es d && eqvB N es d (List.replicate N.toNat 0)
noncomputable def winB (N : Int) (es : List (Int × Int)) (d : List Int) : Bool := burnOk N es d 0 && decide (0 ≤ chipR N es d 0)
noncomputable def winS (N : Int) (es : List (Int × Int)) (d : List Int) : List Int := if winB N es d = true then liftB (scrR N es d 0) else []
theorem eqv_no1 {N : Int} {es : List (Int × Int)} {a b : List Int} (h : divB 60 N es a = false) : eqvB N es a b = false := by simp [eqvB, h]
theorem eqv_no2 {N : Int} {es : List (Int × Int)} {a b : List Int} (h : divB 60 N es b = false) : eqvB N es a b = false := by simp [eqvB, h]
theorem eqv_no3 {N : Int} {es : List (Int × Int)} {a b : List Int} (h : degB a a.length ≠ degB b b.length) : eqvB N es a b = false := by simp [eqvB, h]
theorem eqv_t {N : Int} {es : List (Int × Int)} {a b : List Int} (h1 : divB 60 N es a = true) (h2 : divB 60 N es b = true) (h3 : degB a a.length = degB b b.length) : eqvB N es a b = decide (redR N es a 0 = redR N es b 0) := by simp [eqvB, h1, h2, h3]
theorem bet_f {N : Int} {es : List (Int × Int)} {a b : List Int} (h : eqvB N es a b = false) : betB N es a b = [] := by rw [betB, if_neg (by rw [h]; decide)]
theorem bet_t {N : Int} {es : List (Int × Int)} {a b : List Int} (h : eqvB N es a b = true) : betB N es a b = liftB (subB (scrR N es a 0) (scrR N es b 0)) := by rw [betB, if_pos h]
theorem winS_f {N : Int} {es : List (Int × Int)} {d : List Int} (h : winB N es d = false) : winS N es d = [] := by rw [winS, if_neg (by rw [h]; decide)]
theorem winS_t {N : Int} {es : List (Int × Int)} {d : List Int} (h : winB N es d = true) : winS N es d = liftB (scrR N es d 0) := by rw [winS, if_pos h]
theorem eqv_div {N : Int} {es : List (Int × Int)} {a b : List Int} (h : eqvB N es a b = true) : divB 60 N es a = true ∧ divB 60 N es b = true ∧ redR N es a 0 = redR N es b 0 := by
  simp only [eqvB, Bool.and_eq_true, decide_eq_true_eq] at h
  exact ⟨h.1, h.2.1, h.2.2.2⟩
theorem div_burn {N : Int} {es : List (Int × Int)} {d : List Int} (h : divB 60 N es d = true) : burnOk N es d 0 = true := by
  obtain ⟨M, rfl, h0, _⟩ := div_limsB h
  unfold burnOk
  rw [h, vB_t (by omega)]
  rfl
theorem win_div {N : Int} {es : List (Int × Int)} {d : List Int} (h : winB N es d = true) : divB 60 N es d = true := by
  simp only [winB, burnOk, Bool.and_eq_true] at h
  exact h.1.1
/-- the specification's reducing, as lists -/
theorem specRd2 (A D : Option Addr) (c cd M : Nat) (es : List (Int × Int)) (d : List Int) (w : World) (hd : divB 60 (M : Int) es d = true) (hE : EdgeS w w.heap.size A es) (hS : IntS w w.heap.size D d) :
    Calls Try.prog 83 #[.agg #[.int .i64 (M : Int), .slice A es.length c], .slice D d.length cd, .int .i64 0] w (fun e w' => ∃ (A1 A2 : Option Addr) (c1 c2 : Nat), e = .returned (.tuple #[.slice A1 M c1, .slice A2 M c2]) ∧ OwnI w' w.heap.size A1 (redR (M : Int) es d 0) ∧ OwnI w' w.heap.size A2 (scrR (M : Int) es d 0) ∧ Below w.heap.size w w') := by
  obtain ⟨M', hM, h0, h6, hn, hl, hes, hdb, hc⟩ := div_limsB hd
  obtain rfl : M' = M := by omega
  refine (l05Reduce_any A D c cd M' 0 es d w h0 h6 h0 hl hn hes hdb hc.cut hE hS).mono ?_
  rintro e w' ⟨A1, A2, c1, c2, f, rfl, hf, o1, o2, hb⟩
  have h1 := red_same hf h0 hn hdb hes
  have hb0 := div_burn hd
  refine ⟨A1, A2, c1, c2, rfl, ?_, ?_, hb⟩
  · rw [redR_t hb0, Int.toNat_natCast]
    rw [h1.2] at o1
    exact o1
  · rw [scrR_t hb0, Int.toNat_natCast]
    rw [h1.1] at o2
    exact o2
theorem red_len {M : Nat} {es : List (Int × Int)} {d : List Int} (h : divB 60 (M : Int) es d = true) : (redR (M : Int) es d 0).length = M ∧ (scrR (M : Int) es d 0).length = M := by
  rw [redR_t (div_burn h), scrR_t (div_burn h), chipsOf_len, chipsOf_len, Int.toNat_natCast]
  exact ⟨rfl, rfl⟩
theorem betB_len (N : Int) (es : List (Int × Int)) (a b : List Int) : (betB N es a b).length ≤ 1048576 := by
  cases h : eqvB N es a b with
  | false => rw [bet_f h]; simp
  | true =>
    have := (redR_len N es a 0).2
    rw [bet_t h, liftB_len, subB_len]
    omega
theorem winS_len (N : Int) (es : List (Int × Int)) (d : List Int) : (winS N es d).length ≤ 1048576 := by
  cases h : winB N es d with
  | false => rw [winS_f h]; simp
  | true =>
    have := (redR_len N es d 0).2
    rw [winS_t h, liftB_len]
    omega
end Go.Proofs.Ytcfhkaefjhcglaa
