/- Recurrent configurations: one in each class. -/
import Derived.Test.YtdpojcgeblbfeaaTRecM
import Derived.Test.YtdpojcgeblbfeaaTBP
import Derived.Test.YtdpojcgeblbfeaaTPilA
set_option linter.all false
namespace Go.Proofs.Ytdpojcgeblbfeaa
open Go.RowKit

section
variable {M q : Nat} {es : List (Int × Int)} {d x c p : List Int} {f : Nat → Int}
def dualL (M q : Nat) (es : List (Int × Int)) (c : List Int) : List Int := (List.range M).map fun u => if u = q then 0 else valP es u - 1 - c.getD u 0
theorem dual_len (M q : Nat) (es : List (Int × Int)) (c : List Int) : (dualL M q es c).length = M := by simp [dualL]
theorem dual_get {u : Nat} (hu : u < M) : (dualL M q es c).getD u 0 = if u = q then 0 else valP es u - 1 - c.getD u 0 := by simp [dualL, List.getD, hu]
structure RecP (M q : Nat) (es : List (Int × Int)) (c : List Int) : Prop where
  len : c.length = M
  zero : c.getD q 0 = 0
  lim : ∀ u, u < M → u ≠ q → 0 ≤ c.getD u 0 ∧ c.getD u 0 < valP es u
  all : (burntL M es (dualL M q es c) (q : Int)).length = M
theorem dual_hx : ∀ u, u < M → u ≠ q → (dualL M q es c).getD u 0 = valP es u - 1 - c.getD u 0 := fun u hu hne => by rw [dual_get hu, if_neg hne]
theorem RecP.set (h : RecP M q es c) (hes : ∀ e ∈ es, 0 ≤ e.1 ∧ e.1 < e.2 ∧ e.2 < (M : Int)) (hq : q < M) : IsSet M es (litL M es c q) q (onesQ M q) := rec_set hes hq dual_hx h.all fun u hu hne => (h.lim u hu hne).2
theorem RecP.of_set (hes : ∀ e ∈ es, 0 ≤ e.1 ∧ e.1 < e.2 ∧ e.2 < (M : Int)) (hq : q < M) (hl : c.length = M) (hz : c.getD q 0 = 0) (hc : ∀ u, u < M → u ≠ q → 0 ≤ c.getD u 0 ∧ c.getD u 0 < valP es u)
    {n : Nat → Int} (h : Tops M es (litL M es c q) q n) (h1 : ∀ u, u < M → u ≠ q → n u = 1) : RecP M q es c := by
  refine ⟨hl, hz, hc, ?_⟩
  have hb := (burntL_all (M := M) (es := es) (d := dualL M q es c) (q := (q : Int)) ⟨by omega, by omega⟩).1
  refine hb.full_iff.2 fun v hv => ?_
  by_cases e : v = q
  · rw [e]
    exact hb.first
  · exact set_rec hes hq dual_hx (fun u hu hne => (hc u hu hne).1) h (fun u hu hne => by rw [h1 u hu hne]; omega) v hv (by rw [h1 v hv e]; omega)
def EqQ (M q : Nat) (es : List (Int × Int)) (f g : Nat → Int) : Prop := ∃ t : Nat → Int, t q = 0 ∧ ∀ u, u < M → u ≠ q → f u = g u + termsF t u es
theorem EqQ.refl (f : Nat → Int) : EqQ M q es f f := ⟨fun _ => 0, rfl, fun u _ _ => by rw [termsF_zero fun _ => rfl]; omega⟩
theorem EqQ.symm {f g : Nat → Int} (h : EqQ M q es f g) : EqQ M q es g f := by
  obtain ⟨t, h0, h1⟩ := h
  exact ⟨fun i => -t i, show -t q = 0 by omega, fun u hu hne => by rw [termsF_neg, h1 u hu hne]; omega⟩
theorem EqQ.trans {f g k : Nat → Int} (h : EqQ M q es f g) (h' : EqQ M q es g k) : EqQ M q es f k := by
  obtain ⟨t, h0, h1⟩ := h
  obtain ⟨s, g0, g1⟩ := h'
  exact ⟨fun i => t i + s i, show t q + s q = 0 by omega, fun u hu hne => by rw [termsF_add t s, h1 u hu hne, g1 u hu hne]; omega⟩
theorem EqQ.add {f g f' g' : Nat → Int} (h : EqQ M q es f g) (h' : EqQ M q es f' g') : EqQ M q es (fun u => f u + f' u) fun u => g u + g' u := by
  obtain ⟨t, h0, h1⟩ := h
  obtain ⟨s, g0, g1⟩ := h'
  exact ⟨fun i => t i + s i, show t q + s q = 0 by omega, fun u hu hne => by
    show f u + f' u = g u + g' u + _
    rw [termsF_add t s, h1 u hu hne, g1 u hu hne]
    omega⟩
theorem EqQ.neg {f g : Nat → Int} (h : EqQ M q es f g) : EqQ M q es (fun u => -f u) fun u => -g u := by
  obtain ⟨t, h0, h1⟩ := h
  exact ⟨fun i => -t i, show -t q = 0 by omega, fun u hu hne => by
    show -f u = -g u + _
    rw [termsF_neg, h1 u hu hne]
    omega⟩
theorem EqQ.off {f g f' g' : Nat → Int} (h : EqQ M q es f g) (h1 : ∀ u, u < M → u ≠ q → f' u = f u) (h2 : ∀ u, u < M → u ≠ q → g' u = g u) : EqQ M q es f' g' := by
  obtain ⟨t, h0, k⟩ := h
  exact ⟨t, h0, fun u hu hne => by rw [h1 u hu hne, h2 u hu hne, k u hu hne]⟩
theorem RecP.uniq {c' : List Int} (hc : Cut M es) (hes : ∀ e ∈ es, 0 ≤ e.1 ∧ e.1 < e.2 ∧ e.2 < (M : Int)) (hq : q < M) (h6 : M ≤ 6) (hn : es.length ≤ 12) (h : RecP M q es c) (h' : RecP M q es c') (he : EqQ M q es (fun u => c'.getD u 0) fun u => c.getD u 0) : c' = c := by
  obtain ⟨t, t0, ht⟩ := he
  have hes1 : ∀ e ∈ es, e.1 < e.2 := fun e he => (hes e he).2.1
  have lim : ∀ u, u < M → u ≠ q → 0 ≤ c.getD u 0 ∧ c.getD u 0 ≤ 12 ∧ 0 ≤ c'.getD u 0 ∧ c'.getD u 0 ≤ 12 := fun u hu hne => by
    have := h.lim u hu hne
    have := h'.lim u hu hne
    have := (valP_lim u es hes1).2
    omega
  have ht2 : ∀ u, u < M → u ≠ q → c'.getD u 0 = c.getD u 0 + termsF t u es := ht
  have hsq : (M : Int) * (M : Int) ≤ 6 * 6 := Int.mul_le_mul (by omega) (by omega) (by omega) (by omega)
  have tb : ∀ u, u < M → -432 ≤ t u ∧ t u ≤ 432 := fun u hu => by
    have a1 := lev_top (B := 12) (q := q) (f := t) hc hes (by omega) hq (fun u hu hne => by
      have := ht2 u hu hne
      have := lim u hu hne
      omega) u hu
    have a2 := lev_top (B := 12) (q := q) (f := fun i => -t i) hc hes (by omega) hq (fun u hu hne => by
      have := ht2 u hu hne
      have := lim u hu hne
      rw [termsF_neg]
      omega) u hu
    have a2 : -t u ≤ -t q + 12 * (M : Int) * (M : Int) := a2
    rw [Int.mul_assoc] at a1 a2
    omega
  have db : ∀ u, -1000000 ≤ (dualL M q es c).getD u 0 ∧ (dualL M q es c).getD u 0 ≤ 1000000 := fun u => by
    by_cases hu : u < M
    · rw [dual_get hu]
      have := valP_lim u es hes1
      split
      · omega
      · rename_i hne
        have := lim u hu hne
        omega
    · simp [List.getD, List.getElem?_eq_none (show (dualL M q es c).length ≤ u by rw [dual_len]; omega)]
  have red : ∀ (c2 : List Int) (s : Nat → Int), RecP M q es c2 → s q = 0 → (∀ u, u < M → -1000000000 ≤ s u ∧ s u ≤ 1000000000) → (∀ u, u < M → u ≠ q → Dv (dualL M q es c) es s u = (dualL M q es c2).getD u 0) → IsRed M es (dualL M q es c) q s := fun c2 s r s0 sb hs => by
    refine ⟨s0, sb, fun u hu hne => ?_, ?_⟩
    · rw [hs u hu hne, dual_hx u hu hne]
      have := r.lim u hu hne
      omega
    · have hx : ∀ u, u < M → u ≠ q → (chipsOf M (Dv (dualL M q es c) es s)).getD u 0 = (dualL M q es c2).getD u 0 := fun u hu hne => by
        rw [chips_get hu (Dv_bound hn db hes sb u), hs u hu hne]
      have := r.all
      unfold burntL at this ⊢
      rwa [burnL_off hx M [(q : Int)] (by simp)]
  have r1 := red c (fun _ => 0) h rfl (fun _ _ => by omega) fun u _ _ => by
    rw [Dv, termsF_zero fun _ => rfl]
    omega
  have r2 := red c' (fun i => -t i) h' (show -t q = 0 by omega) (fun u hu => by have := tb u hu; omega) fun u hu hne => by
    rw [Dv, termsF_neg, dual_hx u hu hne, dual_hx u hu hne, ht2 u hu hne]
    omega
  have hs := r1.same r2 hq hn db hes
  refine List.ext_getElem (by rw [h.len, h'.len]) fun u k1 k2 => ?_
  have hu : u < M := by rw [← h.len]; exact k2
  have e1 : c'.getD u 0 = c'[u] := by simp [List.getD, k1]
  have e2 : c.getD u 0 = c[u] := by simp [List.getD, k2]
  rw [← e1, ← e2]
  by_cases hne : u = q
  · rw [hne, h.zero, h'.zero]
  · rw [ht2 u hu hne, termsF_congr (g := fun _ => 0) u es fun e he => ?_, termsF_zero fun _ => rfl]
    · omega
    · have k := hes e he
      have a := hs e.1.toNat (by omega)
      have b := hs e.2.toNat (by omega)
      omega
end
end Go.Proofs.Ytdpojcgeblbfeaa
