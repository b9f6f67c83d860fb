/- laws.FnSystems, the plain facts: which effective divisors are d's, and when there is one. -/
import Derived.Test.YtcfhkaefjhcglaaEinM
import Derived.Test.YtcfhkaefjhcglaaEffP
import Derived.Test.YtcfhkaefjhcglaaEffW
import Derived.Test.YtcfhkaefjhcglaaClsF
namespace Go.Proofs.Ytcfhkaefjhcglaa
open Go.RowKit

theorem sumV_shift (f : Nat → Int) : ∀ M : Nat, sumV f (M + 1) = f 0 + sumV (fun u => f (u + 1)) M
  | 0 => by simp [sumV]
  | M + 1 => by
    have h := sumV_shift f M
    rw [sumV, h, sumV]
    omega
theorem sumV_list : ∀ l : List Int, sumV (fun u => l.getD u 0) l.length = l.sum
  | [] => rfl
  | x :: l => by
    have h := sumV_list l
    rw [List.length_cons, sumV_shift, List.sum_cons, ← h]
    rfl
section
variable {M : Nat} {es : List (Int × Int)} {d e : List Int}
/-- an effective divisor of d's degree is of d's class if they have one reduced divisor -/
theorem eff_eqv (hd : divB 60 (M : Int) es d = true) (hk : degB d d.length ≤ 7) (he : e ∈ effB M (degB d d.length)) : eqvB (M : Int) es d e = decide (redR (M : Int) es d 0 = redR (M : Int) es e 0) := by
  have h1 := eff_div (divB_all hd).1 hk he
  obtain ⟨h2, h3⟩ := effB_mem _ _ e he
  obtain ⟨M', hM, hM0, hM6, -⟩ := div_limsB hd
  have h4 := getD_boundC (d := e) (lo := -7) (hi := 7) (fun x hx => by have := h3 x hx; omega) (by omega) (by omega)
  have h5 := (deg_sum (xs := e) (fun u => by have := h4 u; omega) e.length (by omega)).1
  rw [sumV_list, effB_sum _ _ _ he] at h5
  exact eqv_t hd h1 h5.symm
/-- the reduced divisor: no debt but at 0, in small numbers, its own reduced divisor -/
theorem red_facts (hd : divB 60 (M : Int) es d = true) (hex : ∃ f, IsRed M es d 0 f) :
    (redR (M : Int) es d 0).length = M ∧ (∀ u, u < M → u ≠ 0 → 0 ≤ (redR (M : Int) es d 0).getD u 0 ∧ (redR (M : Int) es d 0).getD u 0 < es.length) ∧ (redR (M : Int) es d 0).sum = degB d d.length ∧
    (∀ u, u < M → (redR (M : Int) es d 0).getD u 0 = Dv d es (redF M es d 0) u) := by
  obtain ⟨M', hM, hM0, hM6, hn12, hdl, hes, hdb, hcn⟩ := div_limsB hd
  obtain rfl : M' = M := by omega
  obtain ⟨f0, hf0⟩ := hex
  have hf := redF_is hf0
  have hR : redR (M' : Int) es d 0 = chipsOf M' (Dv d es (redF M' es d 0)) := by rw [redR_t (div_burn hd), Int.toNat_natCast]; rfl
  have hb := Dv_bound (d := d) (M := M') hn12 (fun u => by have := hdb u; omega) hes hf.bound
  have hget : ∀ u, u < M' → (redR (M' : Int) es d 0).getD u 0 = Dv d es (redF M' es d 0) u := fun u hu => by rw [hR]; exact chips_get hu (hb u)
  have hlen : (redR (M' : Int) es d 0).length = M' := (red_len hd).1
  refine ⟨hlen, fun u hu hu0 => ?_, ?_, hget⟩
  · rw [hget u hu]
    exact hf.few hM0 hn12 (fun u => by have := hdb u; omega) hes u hu hu0
  · rw [← sumV_list, hlen, sumV_eqC hget, Dv_sum hes, (deg_sum (xs := d) (fun u => by have := hdb u; omega) d.length (by omega)).1, hdl]
/-- a won divisor's reduced divisor is one of its effective divisors -/
theorem win_in (hd : divB 60 (M : Int) es d = true) (hk : degB d d.length ≤ 7) (hex : ∃ f, IsRed M es d 0 f) (hw : 0 ≤ chipR (M : Int) es d 0) : redR (M : Int) es d 0 ∈ effB M (degB d d.length) ∧ redR (M : Int) es (redR (M : Int) es d 0) 0 = redR (M : Int) es d 0 := by
  obtain ⟨r1, r2, r3, r4⟩ := red_facts hd hex
  obtain ⟨M', hM, hM0, hM6, hn12, hdl, hes, hdb, hcn⟩ := div_limsB hd
  obtain rfl : M' = M := by omega
  obtain ⟨f0, hf0⟩ := hex
  have hf := redF_is hf0
  have hR : redR (M' : Int) es d 0 = chipsOf M' (Dv d es (redF M' es d 0)) := by rw [redR_t (div_burn hd), Int.toNat_natCast]; rfl
  have hpos : ∀ y ∈ redR (M' : Int) es d 0, 0 ≤ y := fun y hy => by
    obtain ⟨u, hu⟩ := List.getElem?_of_mem hy
    have hul := (List.getElem?_eq_some_iff.1 hu).1
    have hg : (redR (M' : Int) es d 0).getD u 0 = y := by simp [List.getD, hu]
    by_cases e : u = 0
    · subst e
      unfold chipR at hw
      rw [← hg]
      exact hw
    · have := (r2 u (by omega) e).1
      omega
  obtain ⟨n, rfl⟩ : ∃ n, M' = n + 1 := ⟨M' - 1, by omega⟩
  have hin : redR ((n + 1 : Nat) : Int) es d 0 ∈ effB (n + 1) (degB d d.length) := effB_in n _ _ r1 hpos r3
  have hdv := eff_div (divB_all hd).1 hk hin
  refine ⟨hin, ?_⟩
  have hself : ∀ u, u < n + 1 → Dv (redR ((n + 1 : Nat) : Int) es d 0) es (fun _ => 0) u = Dv d es (redF (n + 1) es d 0) u := fun u hu => by
    rw [← r4 u hu, Dv, termsF_zero (fun _ => rfl)]
    omega
  have hIs : IsRed (n + 1) es (redR ((n + 1 : Nat) : Int) es d 0) 0 (fun _ => 0) := ⟨rfl, fun _ _ => by omega, fun u hu h0 => by rw [hself u hu]; exact hf.pos u hu h0, by rw [chipsOf_eq hself]; exact hf.all⟩
  obtain ⟨M2, hM2, -, -, -, -, -, hdb2, -⟩ := div_limsB hdv
  have h1 := (redF_eq hIs (by omega) hn12 (fun u => by have := hdb2 u; omega) hes).2
  rw [redR_t (div_burn hdv), Int.toNat_natCast]
  show chipsOf (n + 1) (Dv _ es (redF (n + 1) es _ 0)) = _
  rw [← h1, chipsOf_eq hself, ← hR]
/-- d is won if an effective divisor has its reduced divisor -/
theorem in_win (hd : divB 60 (M : Int) es d = true) (hk : degB d d.length ≤ 7) (he : e ∈ effB M (degB d d.length)) (hex : ∃ f, IsRed M es e 0 f) (h : redR (M : Int) es d 0 = redR (M : Int) es e 0) : 0 ≤ chipR (M : Int) es d 0 := by
  have h1 := eff_div (divB_all hd).1 hk he
  obtain ⟨h2, h3⟩ := effB_mem _ _ e he
  obtain ⟨M', hM, hM0, hM6, hn12, hdl, hes, hdb, hcn⟩ := div_limsB h1
  obtain rfl : M' = M := by omega
  obtain ⟨r1, r2, r3, r4⟩ := red_facts h1 hex
  obtain ⟨f0, hf0⟩ := hex
  have hf := redF_is hf0
  have hw := red_won (fun u _ => (getD_boundC (d := e) (lo := 0) (hi := 7) (fun x hx => by have := h3 x hx; omega) (by omega) (by omega) u).1) hf hM0 hn12 (fun u => by have := hdb u; omega) hes 0 hM0
  unfold chipR
  rw [h]
  show 0 ≤ (redR (M' : Int) es e 0).getD 0 0
  rw [r4 0 hM0]
  exact hw
end
end Go.Proofs.Ytcfhkaefjhcglaa
