/- Reducing a drawn divisor, the plain math: the script stays small, the chips stay within the limit, and what a script leads to has the same reduced divisor. -/
import Derived.Test.YtbojbifpaecbcaaRdP
namespace Go.Proofs.Ytbojbifpaecbcaa
open Go.RowKit

section
variable {M : Nat} {es : List (Int × Int)} {d : List Int} {q : Nat} {f g : Nat → Int} {σ : Nat → Int}
/-- what the edges take away, weighed -/
def dualE (σ f : Nat → Int) : List (Int × Int) → Int
  | [] => 0
  | e :: l => (σ e.1.toNat * (f e.2.toNat - f e.1.toNat) + σ e.2.toNat * (f e.1.toNat - f e.2.toNat)) + dualE σ f l
theorem dualE_eq (σ f : Nat → Int) (M : Nat) : ∀ es : List (Int × Int), (∀ e ∈ es, 0 ≤ e.1 ∧ e.1 < e.2 ∧ e.2 < (M : Int)) → sumV (fun u => σ u * termsF f u es) M = dualE σ f es
  | [], _ => by simp [termsF, sumV_const, dualE]
  | e :: l, h => by
    obtain ⟨h1, h2, h3⟩ := h e (by simp)
    have ih := dualE_eq σ f M l (fun x hx => h x (by simp [hx]))
    obtain ⟨x, y⟩ := e
    simp only at h1 h2 h3
    obtain ⟨a, rfl⟩ : ∃ a : Nat, x = (a : Int) := ⟨x.toNat, by omega⟩
    obtain ⟨b, rfl⟩ : ∃ b : Nat, y = (b : Int) := ⟨y.toNat, by omega⟩
    simp only [termsF, Int.mul_add, dualE]
    rw [sumV_add, ih, dual_e σ f (by omega) (by omega)]
    simp only [Int.toNat_natCast]
/-- the vertices that fire t times at least -/
def lev (f : Nat → Int) (t : Int) (u : Nat) : Int := if t ≤ f u then 1 else 0
theorem lev_term (f : Nat → Int) (t : Int) (a b : Nat) : lev f t a * (f b - f a) + lev f t b * (f a - f b) ≤ 0 := by
  unfold lev
  split <;> split <;> omega
theorem lev_all (f : Nat → Int) (t : Int) : ∀ es : List (Int × Int), dualE (lev f t) f es ≤ 0
  | [] => by simp [dualE]
  | e :: l => by
    have h1 := lev_term f t e.1.toNat e.2.toNat
    have h2 := lev_all f t l
    simp only [dualE]
    omega
theorem lev_edge (f : Nat → Int) (t : Int) {x : Int × Int} : ∀ es : List (Int × Int), x ∈ es → dualE (lev f t) f es ≤ lev f t x.1.toNat * (f x.2.toNat - f x.1.toNat) + lev f t x.2.toNat * (f x.1.toNat - f x.2.toNat)
  | [], h => by cases h
  | e :: l, h => by
    rw [List.mem_cons] at h
    rcases h with rfl | h
    · have h2 := lev_all f t l
      simp only [dualE]
      omega
    · have h1 := lev_term f t e.1.toNat e.2.toNat
      have h2 := lev_edge f t l h
      simp only [dualE]
      omega
/-- below a level without q there is a vertex that is not far below -/
theorem lev_next (hc : Cut M es) (hes : ∀ e ∈ es, 0 ≤ e.1 ∧ e.1 < e.2 ∧ e.2 < (M : Int)) {B t : Int} (hB : 0 ≤ B) (hq : q < M) (hb : ∀ u, u < M → u ≠ q → -B ≤ termsF f u es) (hqt : f q < t) (hex : ∃ a, a < M ∧ t ≤ f a) : ∃ w, w < M ∧ f w < t ∧ t - B * (M : Int) ≤ f w := by
  obtain ⟨a, ha, hat⟩ := hex
  obtain ⟨x, hx, hne⟩ := hc (fun y => decide (t ≤ f y.toNat)) ⟨(a : Int), by omega, by omega, by simpa using hat⟩ ⟨(q : Int), by omega, by omega, by simpa using hqt⟩
  obtain ⟨h1, h2, h3⟩ := hes x hx
  have hlow : -(B * (M : Int)) ≤ sumV (fun u => lev f t u * termsF f u es) M := by
    have := sumV_le (f := fun _ => -B) (g := fun u => lev f t u * termsF f u es) M (fun u hu => by
      by_cases e : u = q
      · subst e
        have : lev f t u = 0 := by unfold lev; rw [if_neg (by omega)]
        simp only [this, Int.zero_mul]
        omega
      · have := hb u hu e
        unfold lev
        split
        · omega
        · omega)
    rw [sumV_const, Int.neg_mul] at this
    exact this
  rw [dualE_eq _ _ M es hes] at hlow
  have h4 := lev_edge f t es hx
  by_cases p1 : t ≤ f x.1.toNat
  · by_cases p2 : t ≤ f x.2.toNat
    · simp [p1, p2] at hne
    · have e1 : lev f t x.1.toNat = 1 := by unfold lev; rw [if_pos p1]
      have e2 : lev f t x.2.toNat = 0 := by unfold lev; rw [if_neg p2]
      rw [e1, e2] at h4
      exact ⟨x.2.toNat, by omega, by omega, by omega⟩
  · by_cases p2 : t ≤ f x.2.toNat
    · have e1 : lev f t x.1.toNat = 0 := by unfold lev; rw [if_neg p1]
      have e2 : lev f t x.2.toNat = 1 := by unfold lev; rw [if_pos p2]
      rw [e1, e2] at h4
      exact ⟨x.1.toNat, by omega, by omega, by omega⟩
    · simp [p1, p2] at hne
/-- no vertex lies far above q -/
theorem lev_top (hc : Cut M es) (hes : ∀ e ∈ es, 0 ≤ e.1 ∧ e.1 < e.2 ∧ e.2 < (M : Int)) {B : Int} (hB : 0 ≤ B) (hq : q < M) (hb : ∀ u, u < M → u ≠ q → -B ≤ termsF f u es) (a : Nat) (ha : a < M) : f a ≤ f q + B * (M : Int) * (M : Int) := by
  obtain ⟨C, hC⟩ : ∃ C, C = B * (M : Int) := ⟨_, rfl⟩
  have hC0 : 0 ≤ C := by rw [hC]; exact Int.mul_nonneg hB (by omega)
  rw [← hC]
  have key : ∀ k : Nat, f q < f a - C * (k : Int) → (k : Int) + 1 ≤ sumV (lev f (f a - C * (k : Int))) M := by
    intro k
    induction k with
    | zero =>
      intro _
      have h1 := sumV_le (f := fun u => 1 * ind u (a : Int)) (g := lev f (f a - C * ((0 : Nat) : Int))) M (fun u _ => by
        unfold ind lev
        by_cases e : u = a
        · subst e
          simp
        · rw [if_neg (by omega)]
          split <;> omega)
      rw [sumV_ind (fun _ => 1), if_pos ha] at h1
      omega
    | succ k ih =>
      intro hk
      have hCk : C * ((k + 1 : Nat) : Int) = C * (k : Int) + C := by rw [Int.natCast_add, Int.mul_add]; simp
      rw [hCk] at hk ⊢
      have h0 : 0 ≤ C * (k : Int) := Int.mul_nonneg hC0 (by omega)
      have h1 := ih (by omega)
      obtain ⟨w, hw, hw1, hw2⟩ := lev_next hc hes hB hq hb (t := f a - C * (k : Int)) (by omega) ⟨a, ha, by omega⟩
      rw [← hC] at hw2
      have h2 := sumV_le (f := fun u => lev f (f a - C * (k : Int)) u + 1 * ind u (w : Int)) (g := lev f (f a - (C * (k : Int) + C))) M (fun u _ => by
        unfold ind lev
        by_cases e : u = w
        · subst e
          rw [if_neg (by omega), if_pos rfl, if_pos (by omega)]
          omega
        · rw [if_neg (show ¬ ((u : Int) = (w : Int)) by omega)]
          split <;> split <;> omega)
      rw [sumV_add, sumV_ind (fun _ => 1), if_pos hw] at h2
      simp only [Int.natCast_add, Int.natCast_one]
      omega
  by_cases h : f q < f a - C * (M : Int)
  · have h1 := key M h
    have h2 := sumV_le (f := lev f (f a - C * (M : Int))) (g := fun _ => 1) M (fun u _ => by unfold lev; split <;> omega)
    rw [sumV_const] at h2
    omega
  · omega
theorem termsF_neg (f : Nat → Int) (u : Nat) (es : List (Int × Int)) : termsF (fun i => -f i) u es = -termsF f u es := by
  have h1 := termsF_add (fun i => -f i) f u es
  rw [termsF_zero (f := fun i => -f i + f i) (fun i => by omega)] at h1
  omega
theorem termsF_const (c : Int) (u : Nat) : ∀ es : List (Int × Int), termsF (fun _ => c) u es = 0
  | [] => rfl
  | e :: l => by rw [termsF, termsF_const c u l]; simp [termF]
theorem heat_cap (p : Int → Bool) (u : Nat) : ∀ es : List (Int × Int), (∀ e ∈ es, e.1 < e.2) → heat p u es ≤ es.length
  | [], _ => by simp [heat]
  | e :: l, h => by
    have h1 := h e (by simp)
    have ih := heat_cap p u l (fun x hx => h x (by simp [hx]))
    have key : heatE p u e ≤ 1 := by
      unfold heatE ind
      by_cases g1 : (u : Int) = e.1
      · rw [if_neg (show ¬ (u : Int) = e.2 by omega)]
        split <;> split <;> omega
      · rw [if_neg g1]
        split <;> split <;> omega
    simp only [heat, List.length_cons, Int.natCast_add, Int.natCast_one]
    omega
/-- a reduced divisor has fewer chips than edges beside q -/
theorem IsRed.few (h : IsRed M es d q f) (hq : q < M) (hn : es.length ≤ 12) (hd : ∀ u, -1000000 ≤ d.getD u 0 ∧ d.getD u 0 ≤ 1000000) (hes : ∀ e ∈ es, 0 ≤ e.1 ∧ e.1 < e.2 ∧ e.2 < (M : Int)) (u : Nat) (hu : u < M) (huq : u ≠ q) : 0 ≤ Dv d es f u ∧ Dv d es f u < es.length := by
  refine ⟨h.pos u hu huq, ?_⟩
  have hq2 : 0 ≤ (q : Int) ∧ (q : Int) < (M : Int) := by omega
  have hb := (burntL_all (es := es) (d := chipsOf M (Dv d es f)) hq2).1.full h.all
  obtain ⟨v, hv, hA, hlt⟩ := burn_meets (d := chipsOf M (Dv d es f)) (es := es) hq2 (fun x => decide (x = (u : Int))) (by
    rw [decide_eq_false_iff_not]
    omega) ⟨(u : Int), hb u hu, by simp⟩
  simp only [decide_eq_true_eq] at hA
  have hvu : v = u := by omega
  subst hvu
  rw [chips_get hv (Dv_bound hn hd hes h.bound v)] at hlt
  exact Int.lt_of_lt_of_le hlt (heat_cap _ v es fun e he => (hes e he).2.1)
theorem Dv_sum (hes : ∀ e ∈ es, 0 ≤ e.1 ∧ e.1 < e.2 ∧ e.2 < (M : Int)) (d : List Int) (f : Nat → Int) : sumV (Dv d es f) M = sumV (fun u => d.getD u 0) M := by
  have h := pot_eq hes d f (fun _ => 1)
  have h1 : ∀ u, f u * termsF (fun _ => 1) u es = 0 := fun u => by rw [termsF_const, Int.mul_zero]
  rw [sumV_congr M (fun u _ => h1 u), sumV_const] at h
  rw [sumV_congr M (f := Dv d es f) (g := fun u => 1 * Dv d es f u) (fun u _ => by omega), h, sumV_congr M (f := fun u => 1 * d.getD u 0) (g := fun u => d.getD u 0) (fun u _ => by omega)]
  omega
/-- the chips of the reduced divisor and its script, for a divisor with few chips -/
theorem IsRed.small (h : IsRed M es d q f) (hc : Cut M es) (hM : M ≤ 5) (hq : q < M) (hn : es.length ≤ 8) (hd : ∀ u, u < M → -2 ≤ d.getD u 0 ∧ d.getD u 0 ≤ 6) (hd2 : ∀ u, -1000000 ≤ d.getD u 0 ∧ d.getD u 0 ≤ 1000000) (hes : ∀ e ∈ es, 0 ≤ e.1 ∧ e.1 < e.2 ∧ e.2 < (M : Int)) (u : Nat) (hu : u < M) :
    (-60 ≤ Dv d es f u ∧ Dv d es f u ≤ 60) ∧ -100000 ≤ f u ∧ f u ≤ 100000 := by
  have hM5 : (M : Int) ≤ 5 := by omega
  have hM0 : (0 : Int) ≤ (M : Int) := by omega
  have hmm : (M : Int) * (M : Int) ≤ 25 := by
    have h1 := Int.mul_le_mul hM5 hM5 hM0 (by omega)
    omega
  have hfew := fun u hu huq => h.few hq (by omega) hd2 hes u hu huq
  have h10 : 10 * (M : Int) * (M : Int) ≤ 250 := by rw [Int.mul_assoc]; omega
  have t1 := lev_top (B := 10) (f := f) hc hes (by omega) hq (fun u hu huq => by
    have h1 := hfew u hu huq
    have h2 := hd u hu
    unfold Dv at h1
    omega) u hu
  have t2 := lev_top (B := 10) (f := fun i => -f i) hc hes (by omega) hq (fun u hu huq => by
    have h1 := hfew u hu huq
    have h2 := hd u hu
    rw [termsF_neg]
    unfold Dv at h1
    omega) u hu
  have hz := h.zero
  refine ⟨?_, by omega, by omega⟩
  by_cases e : u = q
  · subst e
    have s1 := Dv_sum hes d f
    have s2 := sumV_le (f := fun _ => -2) (g := fun u => d.getD u 0) M (fun v hv => (hd v hv).1)
    have s3 := sumV_le (f := fun u => d.getD u 0) (g := fun _ => 6) M (fun v hv => (hd v hv).2)
    have s4 := sumV_le (f := fun v => (Dv d es f u) * ind v (u : Int)) (g := Dv d es f) M (fun v hv => by
      unfold ind
      by_cases e : v = u
      · subst e
        rw [if_pos rfl]
        omega
      · rw [if_neg (by omega)]
        have := (hfew v hv e).1
        omega)
    have s5 := sumV_le (f := Dv d es f) (g := fun v => 8 + (Dv d es f u - 8) * ind v (u : Int)) M (fun v hv => by
      unfold ind
      by_cases e : v = u
      · subst e
        rw [if_pos rfl]
        omega
      · rw [if_neg (by omega)]
        have := (hfew v hv e).2
        omega)
    rw [sumV_add, sumV_const, sumV_ind (fun _ => Dv d es f u - 8), if_pos hu] at s5
    rw [sumV_ind (fun _ => Dv d es f u), if_pos hu] at s4
    rw [sumV_const] at s2 s3
    omega
  · have := hfew u hu e
    omega
/-- what a script leads to has the same reduced divisor -/
theorem IsRed.fired (h : IsRed M es d q f) {e : List Int} {t : Nat → Int} (hq : q < M) (he : ∀ u, u < M → e.getD u 0 = Dv d es t u) (ht : ∀ u, u < M → -1000 ≤ t u ∧ t u ≤ 1000) (hf : ∀ u, u < M → -100000 ≤ f u ∧ f u ≤ 100000) : (∀ u, u < M → Dv e es (fun i => f i + (-t i + t q)) u = Dv d es f u) ∧ IsRed M es e q (fun i => f i + (-t i + t q)) := by
  have hD : ∀ u, u < M → Dv e es (fun i => f i + (-t i + t q)) u = Dv d es f u := fun u hu => by
    unfold Dv
    rw [he u hu, Dv, termsF_add, termsF_add, termsF_neg, termsF_const]
    omega
  refine ⟨hD, ⟨?_, fun u hu => ?_, fun u hu huq => ?_, ?_⟩⟩
  · have := h.zero
    omega
  · have h1 := ht u hu
    have h2 := ht q hq
    have h3 := hf u hu
    omega
  · rw [hD u hu]
    exact h.pos u hu huq
  · rw [chipsOf_eq hD]
    exact h.all
end
end Go.Proofs.Ytbojbifpaecbcaa
