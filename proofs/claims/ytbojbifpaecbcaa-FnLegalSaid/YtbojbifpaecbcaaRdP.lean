/- Reducing, the plain math: the two phases stay bounded, and there is one reduced divisor only. -/
import Derived.Test.YtbojbifpaecbcaaRdM
namespace Go.Proofs.Ytbojbifpaecbcaa
open Go.RowKit

/-- the chips at u after the script f -/
def Dv (d : List Int) (es : List (Int × Int)) (f : Nat → Int) (u : Nat) : Int := d.getD u 0 + termsF f u es
theorem Dv_addAt (d : List Int) {es : List (Int × Int)} (f : Nat → Int) (v : Nat) (t : Int) (u : Nat) (h : ∀ e ∈ es, 0 ≤ e.1 ∧ e.1 < e.2) : Dv d es (addAt f v t) u = Dv d es f u + t * nets (v : Int) u es := by
  rw [Dv, Dv, termsF_addAt f v t u es h]
  omega
theorem termsF_bound {f : Nat → Int} {K : Int} (u M : Nat) (hK : ∀ v, v < M → -K ≤ f v ∧ f v ≤ K) : ∀ es : List (Int × Int), (∀ e ∈ es, 0 ≤ e.1 ∧ e.1 < e.2 ∧ e.2 < (M : Int)) → -(2 * K * es.length) ≤ termsF f u es ∧ termsF f u es ≤ 2 * K * es.length
  | [], _ => by simp [termsF]
  | e :: l, h => by
    obtain ⟨h1, h2, h3⟩ := h e (by simp)
    have ih := termsF_bound u M hK l (fun x hx => h x (by simp [hx]))
    have b1 := hK e.1.toNat (by omega)
    have b2 := hK e.2.toNat (by omega)
    have key : -(2 * K) ≤ termF f u e ∧ termF f u e ≤ 2 * K := by
      unfold termF ind
      by_cases g1 : (u : Int) = e.1
      · rw [if_pos g1, if_neg (by omega)]; omega
      · by_cases g2 : (u : Int) = e.2
        · rw [if_neg g1, if_pos g2]; omega
        · rw [if_neg g1, if_neg g2]; omega
    simp only [termsF, List.length_cons, Int.natCast_add, Int.mul_add, Int.natCast_one, Int.mul_one]
    omega
theorem Dv_bound {d : List Int} {es : List (Int × Int)} {f : Nat → Int} {M : Nat} (hn : es.length ≤ 12) (hd : ∀ u, -1000000 ≤ d.getD u 0 ∧ d.getD u 0 ≤ 1000000) (hes : ∀ e ∈ es, 0 ≤ e.1 ∧ e.1 < e.2 ∧ e.2 < (M : Int)) (hf : ∀ v, v < M → -1000000000 ≤ f v ∧ f v ≤ 1000000000) (u : Nat) : -1000000000000 ≤ Dv d es f u ∧ Dv d es f u ≤ 1000000000000 := by
  have h1 := termsF_bound u M hf es hes
  have h2 := hd u
  unfold Dv
  omega

/-- the first phase: vertices other than q borrow -/
structure Ph1 (M : Nat) (es : List (Int × Int)) (d : List Int) (q : Nat) (f : Nat → Int) : Prop where
  zero : f q = 0
  neg : ∀ u, u < M → f u ≤ 0
  cap : ∀ u, u < M → u ≠ q → Dv d es f u ≤ 60
section
variable {M : Nat} {es : List (Int × Int)} {d : List Int} {q : Nat} {f g : Nat → Int} {σ : Nat → Int}
theorem Ph1.start (hd : ∀ u, -60 ≤ d.getD u 0 ∧ d.getD u 0 ≤ 60) : Ph1 M es d q (fun _ => 0) := ⟨rfl, fun _ _ => Int.le_refl _, fun u _ _ => by rw [Dv, termsF_zero (fun _ => rfl)]; have := hd u; omega⟩
theorem Ph1.step (h : Ph1 M es d q f) (hes : ∀ e ∈ es, 0 ≤ e.1 ∧ e.1 < e.2 ∧ e.2 < (M : Int)) {v : Nat} {k : Int} (hv : v ≠ q) (hk : 0 ≤ k) (hc : Dv d es f v + k * -nets (v : Int) v es ≤ 60) : Ph1 M es d q (addAt f v (-k)) where
  zero := by rw [addAt, if_neg (Ne.symm hv)]; exact h.zero
  neg := fun u hu => by
    have := h.neg u hu
    unfold addAt
    split <;> omega
  cap := fun u hu huq => by
    rw [Dv_addAt d f v (-k) u (fun e he => ⟨(hes e he).1, (hes e he).2.1⟩)]
    by_cases e : u = v
    · subst e
      rw [Int.neg_mul]
      rw [Int.mul_neg] at hc
      omega
    · have h1 := nets_other v u e es
      have h2 := h.cap u hu huq
      have h3 : 0 ≤ k * nets (v : Int) u es := Int.mul_nonneg hk h1
      rw [Int.neg_mul]
      omega
theorem pot_eq (hes : ∀ e ∈ es, 0 ≤ e.1 ∧ e.1 < e.2 ∧ e.2 < (M : Int)) (d : List Int) (f σ : Nat → Int) : sumV (fun u => σ u * Dv d es f u) M = sumV (fun u => σ u * d.getD u 0) M + sumV (fun u => f u * termsF σ u es) M := by
  rw [← dual_p σ f M es hes, ← sumV_add]
  exact sumV_congr M fun u _ => by rw [Dv, Int.mul_add]
theorem wt_sum (hw : Wt M es q σ) (hM : M ≤ 6) : 0 ≤ sumV σ M ∧ sumV σ M ≤ 8143560 := by
  have h1 := sumV_le M (f := fun _ => 0) (g := σ) (fun u _ => (hw.lo u).1)
  have h2 := sumV_le M (f := σ) (g := fun _ => 1357260) (fun u _ => (hw.lo u).2)
  rw [sumV_const] at h1 h2
  omega
theorem wt_dlo (hw : Wt M es q σ) (hd : ∀ u, -60 ≤ d.getD u 0 ∧ d.getD u 0 ≤ 60) : -60 * sumV σ M ≤ sumV (fun u => σ u * d.getD u 0) M := by
  rw [← sumV_mul]
  refine sumV_le M fun u _ => ?_
  have := Int.mul_le_mul_of_nonneg_left (hd u).1 (hw.lo u).1
  rw [Int.mul_comm]
  exact this
theorem Ph1.pot (h : Ph1 M es d q f) (hw : Wt M es q σ) : sumV (fun u => σ u * Dv d es f u) M ≤ 60 * sumV σ M := by
  rw [← sumV_mul]
  refine sumV_le M fun u hu => ?_
  by_cases e : u = q
  · rw [e, hw.zero]; simp
  · have := Int.mul_le_mul_of_nonneg_left (h.cap u hu e) (hw.lo u).1
    rw [Int.mul_comm 60]
    exact this
theorem Ph1.sum (h : Ph1 M es d q f) (hw : Wt M es q σ) (hM : M ≤ 6) (hes : ∀ e ∈ es, 0 ≤ e.1 ∧ e.1 < e.2 ∧ e.2 < (M : Int)) (hd : ∀ u, -60 ≤ d.getD u 0 ∧ d.getD u 0 ≤ 60) : -16287120 ≤ sumV f M := by
  have h1 := h.pot hw
  rw [pot_eq hes] at h1
  have h2 := wt_dlo hw hd
  have h3 := wt_sum hw hM
  have h4 : -60 * sumV f M ≤ sumV (fun u => f u * termsF σ u es) M := by
    rw [← sumV_mul]
    refine sumV_le M fun u hu => ?_
    by_cases e : u = q
    · rw [e, h.zero]; simp
    · have := Int.mul_le_mul_of_nonpos_left (h.neg u hu) (hw.drop u hu e)
      rw [Int.mul_comm]
      exact this
  omega
theorem sum_part (hf : ∀ u, u < M → f u ≤ 0) {v : Nat} (hv : v < M) : sumV f M ≤ f v := by
  have h1 := sumV_le M (f := f) (g := fun u => f v * ind u (v : Int)) (fun u hu => by
    have := hf u hu
    unfold ind
    split
    · rename_i e
      rw [show u = v by omega]; simp
    · simp; exact this)
  rw [show (fun u => f v * ind u (v : Int)) = (fun u => (fun _ => f v) u * ind u (v : Int)) from rfl, sumV_ind, if_pos hv] at h1
  exact h1
theorem Ph1.low (h : Ph1 M es d q f) (hw : Wt M es q σ) (hM : M ≤ 6) (hes : ∀ e ∈ es, 0 ≤ e.1 ∧ e.1 < e.2 ∧ e.2 < (M : Int)) (hd : ∀ u, -60 ≤ d.getD u 0 ∧ d.getD u 0 ≤ 60) (u : Nat) (hu : u < M) : -16287120 ≤ f u ∧ f u ≤ 0 :=
  ⟨Int.le_trans (h.sum hw hM hes hd) (sum_part h.neg hu), h.neg u hu⟩

/-- the second phase: sets without q fire, and no vertex but q is in debt -/
structure Ph2 (M : Nat) (es : List (Int × Int)) (d : List Int) (q : Nat) (σ f : Nat → Int) : Prop where
  zero : f q = 0
  low : ∀ u, u < M → -16287120 ≤ f u
  pos : ∀ u, u < M → u ≠ q → 0 ≤ Dv d es f u
  pot : sumV (fun u => σ u * d.getD u 0) M + sumV (fun u => f u * (termsF σ u es + 60)) M ≤ 60 * sumV σ M
theorem Ph1.end_ (h : Ph1 M es d q f) (hw : Wt M es q σ) (hM : M ≤ 6) (hes : ∀ e ∈ es, 0 ≤ e.1 ∧ e.1 < e.2 ∧ e.2 < (M : Int)) (hd : ∀ u, -60 ≤ d.getD u 0 ∧ d.getD u 0 ≤ 60) (hp : ∀ u, u < M → u ≠ q → 0 ≤ Dv d es f u) : Ph2 M es d q σ f where
  zero := h.zero
  low := fun u hu => (h.low hw hM hes hd u hu).1
  pos := hp
  pot := by
    have h1 := h.pot hw
    rw [pot_eq hes] at h1
    have h2 : sumV (fun u => f u * (termsF σ u es + 60)) M ≤ sumV (fun u => f u * termsF σ u es) M := sumV_le M fun u hu => by
      have := h.neg u hu
      rw [Int.mul_add]
      omega
    omega
theorem Ph2.step (h : Ph2 M es d q σ f) (hw : Wt M es q σ) (hz : g q = 0) (hm : ∀ u, u < M → f u ≤ g u) (hp : ∀ u, u < M → u ≠ q → 0 ≤ Dv d es g u) : Ph2 M es d q σ g where
  zero := hz
  low := fun u hu => Int.le_trans (h.low u hu) (hm u hu)
  pos := hp
  pot := by
    have h1 := h.pot
    have h2 : sumV (fun u => g u * (termsF σ u es + 60)) M ≤ sumV (fun u => f u * (termsF σ u es + 60)) M := sumV_le M fun u hu => by
      by_cases e : u = q
      · rw [e, hz, h.zero]; exact Int.le_refl _
      · exact Int.mul_le_mul_of_nonpos_right (hm u hu) (by have := hw.drop u hu e; omega)
    omega
theorem Ph2.sum (h : Ph2 M es d q σ f) (hw : Wt M es q σ) (hM : M ≤ 6) (hes : ∀ e ∈ es, 0 ≤ e.1 ∧ e.1 < e.2 ∧ e.2 < (M : Int)) : sumV f M ≤ 8143560 := by
  have h1 := h.pot
  have h2 : sumV (fun u => f u * (termsF σ u es + 60)) M = sumV (fun u => f u * termsF σ u es) M + 60 * sumV f M := by
    rw [← sumV_mul, ← sumV_add]
    exact sumV_congr M fun u _ => by rw [Int.mul_add, Int.mul_comm (f u) 60]
  have h3 : 0 ≤ sumV (fun u => σ u * Dv d es f u) M := by
    have := sumV_le M (f := fun _ => 0) (g := fun u => σ u * Dv d es f u) (fun u hu => by
      by_cases e : u = q
      · rw [e, hw.zero]; simp
      · exact Int.mul_nonneg (hw.lo u).1 (h.pos u hu e))
    rw [sumV_const] at this
    omega
  rw [pot_eq hes] at h3
  have h4 := wt_sum hw hM
  omega
theorem Ph2.high (h : Ph2 M es d q σ f) (hw : Wt M es q σ) (hM : M ≤ 6) (hes : ∀ e ∈ es, 0 ≤ e.1 ∧ e.1 < e.2 ∧ e.2 < (M : Int)) (u : Nat) (hu : u < M) : -1000000000 ≤ f u ∧ f u ≤ 1000000000 := by
  have h1 := h.low u hu
  have h2 := h.sum hw hM hes
  refine ⟨by omega, ?_⟩
  have h3 := sum_part (M := M) (f := fun v => -16287120 - f v) (fun v hv => by have := h.low v hv; omega) hu
  have h4 : sumV (fun v => -16287120 - f v) M = -16287120 * (M : Int) - sumV f M := by
    have e1 := sumV_add (fun _ => (-16287120 : Int)) (fun v => -1 * f v) M
    rw [sumV_const, sumV_mul] at e1
    rw [show (fun v => -16287120 - f v) = (fun v => -16287120 + -1 * f v) from by funext v; omega, e1]
    omega
  have h5 := sum_part (M := M) (f := fun v => -16287120 - f v) (fun v hv => by have := h.low v hv; omega) hu
  -- the others are at least the lowest
  have h6 : sumV (fun v => -16287120 * (1 - ind v (u : Int)) + f u * ind v (u : Int)) M ≤ sumV f M := sumV_le M fun v hv => by
    have := h.low v hv
    unfold ind
    split
    · rename_i e
      rw [show v = u by omega]; omega
    · omega
  have h7 : sumV (fun v => -16287120 * (1 - ind v (u : Int)) + f u * ind v (u : Int)) M = -16287120 * (M : Int) + (16287120 + f u) := by
    have e1 := sumV_add (fun _ => (-16287120 : Int)) (fun v => (16287120 + f u) * ind v (u : Int)) M
    rw [sumV_const, show (fun v => (16287120 + f u) * ind v (u : Int)) = (fun v => (fun _ => 16287120 + f u) v * ind v (u : Int)) from rfl, sumV_ind, if_pos hu] at e1
    rw [← e1]
    refine sumV_congr M fun v _ => ?_
    unfold ind
    split <;> omega
  omega

/-- a script leads to a reduced divisor -/
structure IsRed (M : Nat) (es : List (Int × Int)) (d : List Int) (q : Nat) (f : Nat → Int) : Prop where
  zero : f q = 0
  bound : ∀ u, u < M → -1000000000 ≤ f u ∧ f u ≤ 1000000000
  pos : ∀ u, u < M → u ≠ q → 0 ≤ Dv d es f u
  all : (burntL M es (chipsOf M (Dv d es f)) (q : Int)).length = M
theorem chips_get {M : Nat} {f : Nat → Int} {u : Nat} (hu : u < M) (h : -1000000000000 ≤ f u ∧ f u ≤ 1000000000000) : (chipsOf M f).getD u 0 = f u := by
  simp only [List.getD, chipsOf_at f hu, Option.getD_some]
  exact wrap64_of (by omega) (by omega)
theorem maxV (t : Nat → Int) : ∀ M : Nat, 0 < M → ∃ u, u < M ∧ ∀ v, v < M → t v ≤ t u
  | 0, h => by omega
  | 1, _ => ⟨0, by omega, fun v hv => by rw [show v = 0 by omega]; exact Int.le_refl _⟩
  | M + 2, _ => by
    obtain ⟨u, hu, h⟩ := maxV t (M + 1) (by omega)
    by_cases e : t u ≤ t (M + 1)
    · refine ⟨M + 1, by omega, fun v hv => ?_⟩
      by_cases e2 : v = M + 1
      · rw [e2]; exact Int.le_refl _
      · exact Int.le_trans (h v (by omega)) e
    · refine ⟨u, by omega, fun v hv => ?_⟩
      by_cases e2 : v = M + 1
      · rw [e2]; omega
      · exact h v (by omega)
theorem top_fire {t : Nat → Int} {m : Int} (M : Nat) (ht : ∀ v, v < M → t v ≤ m) {v : Nat} (hv : t v = m) : ∀ es : List (Int × Int), (∀ e ∈ es, 0 ≤ e.1 ∧ e.1 < e.2 ∧ e.2 < (M : Int)) → termsF t v es ≤ -heat (fun x => !decide (t x.toNat = m)) v es
  | [], _ => by simp [termsF, heat]
  | e :: l, h => by
    obtain ⟨h1, h2, h3⟩ := h e (by simp)
    have ih := top_fire M ht hv l (fun x hx => h x (by simp [hx]))
    have b1 := ht e.1.toNat (by omega)
    have b2 := ht e.2.toNat (by omega)
    have key : termF t v e ≤ -heatE (fun x => !decide (t x.toNat = m)) v e := by
      unfold termF heatE ind
      by_cases g1 : (v : Int) = e.1
      · have e1 : e.1.toNat = v := by omega
        rw [if_pos g1, if_neg (by omega), e1, hv]
        by_cases g3 : t e.2.toNat = m <;> simp [g3] <;> omega
      · by_cases g2 : (v : Int) = e.2
        · have e1 : e.2.toNat = v := by omega
          rw [if_neg g1, if_pos g2, e1, hv]
          by_cases g3 : t e.1.toNat = m <;> simp [g3] <;> omega
        · rw [if_neg g1, if_neg g2]; simp
    simp only [termsF, heat]
    omega
theorem IsRed.le (hf : IsRed M es d q f) (hg : IsRed M es d q g) (hq : q < M) (hn : es.length ≤ 12) (hd : ∀ u, -1000000 ≤ d.getD u 0 ∧ d.getD u 0 ≤ 1000000) (hes : ∀ e ∈ es, 0 ≤ e.1 ∧ e.1 < e.2 ∧ e.2 < (M : Int)) : ∀ u, u < M → f u ≤ g u := by
  obtain ⟨a, ha, hmax⟩ := maxV (fun u => f u + -1 * g u) M (by omega)
  obtain ⟨m, hm⟩ : ∃ m, m = f a + -1 * g a := ⟨_, rfl⟩
  by_cases hm0 : m ≤ 0
  · intro u hu
    have := hmax u hu
    omega
  exfalso
  have hq2 : 0 ≤ (q : Int) ∧ (q : Int) < (M : Int) := by omega
  have hb := (burntL_all (es := es) (d := chipsOf M (Dv d es g)) hq2).1.full hg.all
  obtain ⟨v, hv, hA, hlt⟩ := burn_meets (d := chipsOf M (Dv d es g)) (es := es) hq2 (fun x => decide (f x.toNat + -1 * g x.toNat = m)) (by
    simp only [Int.toNat_natCast, hf.zero, hg.zero, decide_eq_false_iff_not]
    omega) ⟨(a : Int), hb a ha, by simp [hm]⟩
  simp only [Int.toNat_natCast, decide_eq_true_eq] at hA
  rw [chips_get hv (Dv_bound hn hd hes hg.bound v)] at hlt
  have h1 := top_fire (t := fun u => f u + -1 * g u) (m := m) M (fun w hw => by rw [hm]; exact hmax w hw) (v := v) hA es hes
  have h2 : termsF (fun u => f u + -1 * g u) v es = termsF f v es - termsF g v es := by
    have e1 := termsF_add (fun u => f u + -1 * g u) g v es
    rw [show (fun i => f i + -1 * g i + g i) = f from by funext i; omega] at e1
    omega
  have hvq : v ≠ q := by
    rintro rfl
    rw [hf.zero, hg.zero] at hA
    omega
  have h3 := hf.pos v hv hvq
  simp only [Dv] at h3 hlt
  omega
theorem IsRed.same (hf : IsRed M es d q f) (hg : IsRed M es d q g) (hq : q < M) (hn : es.length ≤ 12) (hd : ∀ u, -1000000 ≤ d.getD u 0 ∧ d.getD u 0 ≤ 1000000) (hes : ∀ e ∈ es, 0 ≤ e.1 ∧ e.1 < e.2 ∧ e.2 < (M : Int)) (u : Nat) (hu : u < M) : f u = g u :=
  Int.le_antisymm (hf.le hg hq hn hd hes u hu) (hg.le hf hq hn hd hes u hu)
open Classical in
/-- the reducing script -/
noncomputable def redF (M : Nat) (es : List (Int × Int)) (d : List Int) (q : Nat) : Nat → Int := if h : ∃ f, IsRed M es d q f then Classical.choose h else fun _ => 0
theorem redF_is (h : IsRed M es d q f) : IsRed M es d q (redF M es d q) := by
  have hx : ∃ f, IsRed M es d q f := ⟨f, h⟩
  rw [redF, dif_pos hx]
  exact Classical.choose_spec hx
theorem redF_eq (hf : IsRed M es d q f) (hq : q < M) (hn : es.length ≤ 12) (hd : ∀ u, -1000000 ≤ d.getD u 0 ∧ d.getD u 0 ≤ 1000000) (hes : ∀ e ∈ es, 0 ≤ e.1 ∧ e.1 < e.2 ∧ e.2 < (M : Int)) :
    chipsOf M f = chipsOf M (redF M es d q) ∧ chipsOf M (Dv d es f) = chipsOf M (Dv d es (redF M es d q)) := by
  have h := hf.same (redF_is hf) hq hn hd hes
  exact ⟨chipsOf_eq h, chipsOf_eq fun u hu => by
    rw [Dv, Dv, termsF_congr u es fun e he => ?_]
    obtain ⟨h1, h2, h3⟩ := hes e he
    exact ⟨h _ (by omega), h _ (by omega)⟩⟩
/-- after t firings of the vertices of U -/
def addSet (f : Nat → Int) (U : Int → Bool) (t : Int) (u : Nat) : Int := if U (u : Int) = true then f u + t else f u
theorem addSet_in (f : Nat → Int) (U : Int → Bool) (t : Int) {v : Nat} (hv : U (v : Int) = true) : ∀ es : List (Int × Int), (∀ e ∈ es, 0 ≤ e.1 ∧ e.1 < e.2) → termsF (addSet f U t) v es = termsF f v es - t * heat (fun x => !U x) v es
  | [], _ => by simp [termsF, heat]
  | e :: l, h => by
    obtain ⟨h1, h2⟩ := h e (by simp)
    have ih := addSet_in f U t hv l (fun x hx => h x (by simp [hx]))
    have key : termF (addSet f U t) v e = termF f v e - t * heatE (fun x => !U x) v e := by
      unfold termF heatE ind addSet
      by_cases g1 : (v : Int) = e.1
      · have e1 : e.1.toNat = v := by omega
        have e3 : ((e.2.toNat : Nat) : Int) = e.2 := by omega
        have n2 : ¬ (v : Int) = e.2 := by omega
        rw [if_pos g1, if_neg n2, e1, if_pos hv, e3]
        by_cases g3 : U e.2 = true
        · simp [g3]; omega
        · simp [g3]; omega
      · by_cases g2 : (v : Int) = e.2
        · have e1 : e.2.toNat = v := by omega
          have e3 : ((e.1.toNat : Nat) : Int) = e.1 := by omega
          rw [if_neg g1, if_pos g2, e1, if_pos hv, e3]
          by_cases g3 : U e.1 = true
          · simp [g3]; omega
          · simp [g3]; omega
        · rw [if_neg g1, if_neg g2]; simp
    simp only [termsF, heat, key, ih, Int.mul_add]
    omega
theorem addSet_out (f : Nat → Int) (U : Int → Bool) (t : Int) (ht : 0 ≤ t) {v : Nat} (hv : U (v : Int) = false) : ∀ es : List (Int × Int), (∀ e ∈ es, 0 ≤ e.1 ∧ e.1 < e.2) → termsF f v es ≤ termsF (addSet f U t) v es
  | [], _ => by simp [termsF]
  | e :: l, h => by
    obtain ⟨h1, h2⟩ := h e (by simp)
    have ih := addSet_out f U t ht hv l (fun x hx => h x (by simp [hx]))
    have key : termF f v e ≤ termF (addSet f U t) v e := by
      unfold termF ind addSet
      have hv2 : ¬ U (v : Int) = true := by simp [hv]
      by_cases g1 : (v : Int) = e.1
      · have e1 : e.1.toNat = v := by omega
        have n2 : ¬ (v : Int) = e.2 := by omega
        rw [if_pos g1, if_neg n2, e1, if_neg hv2]
        split <;> omega
      · by_cases g2 : (v : Int) = e.2
        · have e1 : e.2.toNat = v := by omega
          rw [if_neg g1, if_pos g2, e1, if_neg hv2]
          split <;> omega
        · rw [if_neg g1, if_neg g2]; omega
    simp only [termsF]
    omega
/-- t firings of the vertices that do not burn keep the second phase, if each of them has the chips -/
theorem Ph2.fire (h : Ph2 M es d q σ f) (hw : Wt M es q σ) (hes : ∀ e ∈ es, 0 ≤ e.1 ∧ e.1 < e.2 ∧ e.2 < (M : Int)) {U : Int → Bool} {t : Int} (ht : 0 ≤ t) (hq : U (q : Int) = false) (hc : ∀ v, v < M → U (v : Int) = true → t * heat (fun x => !U x) v es ≤ Dv d es f v) : Ph2 M es d q σ (addSet f U t) :=
  h.step hw (by rw [addSet, if_neg (by rw [hq]; decide)]; exact h.zero) (fun u _ => by unfold addSet; split <;> omega) (fun u hu huq => by
    have he : ∀ e ∈ es, 0 ≤ e.1 ∧ e.1 < e.2 := fun e he => ⟨(hes e he).1, (hes e he).2.1⟩
    cases hU : U (u : Int) with
    | true =>
      have := hc u hu hU
      rw [Dv] at this ⊢
      rw [addSet_in f U t hU es he]
      omega
    | false =>
      have h1 := addSet_out f U t ht hU es he
      have h2 := h.pos u hu huq
      rw [Dv] at h2 ⊢
      omega)
end
end Go.Proofs.Ytbojbifpaecbcaa
