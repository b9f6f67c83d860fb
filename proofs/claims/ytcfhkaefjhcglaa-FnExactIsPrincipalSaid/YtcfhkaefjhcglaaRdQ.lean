/- Reducing: what the walks ask of the plain math. -/
import Derived.Test.YtcfhkaefjhcglaaBG
import Derived.Test.YtcfhkaefjhcglaaDebt
namespace Go.Proofs.Ytcfhkaefjhcglaa
open Go.RowKit

theorem near_cut {es : List (Int × Int)} {p : Int → Bool} {v : Int} {k : Nat} {u : Int} (h : Near es v k u) (hne : p v ≠ p u) : ∃ e ∈ es, p e.1 ≠ p e.2 := by
  induction h with
  | start => exact absurd rfl hne
  | stay _ ih => exact ih hne
  | @step k a b _ ht ih =>
    by_cases hab : p v = p a
    · rcases ht with g | g
      · exact ⟨(a, b), g, by rw [← hab]; exact hne⟩
      · exact ⟨(b, a), g, by simp only; rw [← hab]; exact Ne.symm hne⟩
    · exact ih hab
theorem Conn.cut {M : Nat} {es : List (Int × Int)} (h : Conn (M : Int) es) : Cut M es := by
  rintro p ⟨x, hx0, hx1, hpx⟩ ⟨y, hy0, hy1, hpy⟩
  obtain ⟨k1, n1⟩ := h x hx0 hx1
  obtain ⟨k2, n2⟩ := h y hy0 hy1
  cases hp : p 0 with
  | true => exact near_cut n2 (by rw [hp, hpy]; decide)
  | false => exact near_cut n1 (by rw [hp, hpx]; decide)
section
variable {M : Nat} {es : List (Int × Int)} {d : List Int} {q : Nat} {f : Nat → Int} {σ : Nat → Int}
theorem fired_Dv (hes : ∀ e ∈ es, 0 ≤ e.1 ∧ e.1 < e.2 ∧ e.2 < (M : Int)) (hf : ∀ u, u < M → -1000000000 ≤ f u ∧ f u ≤ 1000000000) : firedB M es d (chipsOf M f) = chipsOf M (Dv d es f) := by
  unfold firedB
  refine chipsOf_eq fun u hu => ?_
  rw [Dv, terms_F, termsF_congr u es fun e he => ?_]
  obtain ⟨h1, h2, h3⟩ := hes e he
  have a1 := hf e.1.toNat (by omega)
  have a2 := hf e.2.toNat (by omega)
  exact ⟨chips_get (by omega) (by omega), chips_get (by omega) (by omega)⟩
theorem addSet_sum {U : Int → Bool} {t : Int} (ht : 0 ≤ t) (hx : ∃ v, v < M ∧ U ((v : Nat) : Int) = true) : sumV f M + t ≤ sumV (addSet f U t) M := by
  obtain ⟨v, hv, hU⟩ := hx
  have h1 := sumV_le M (f := fun u => f u + t * ind u (v : Int)) (g := addSet f U t) (fun u _ => by
    unfold addSet ind
    by_cases e : u = v
    · subst e
      rw [if_pos rfl, if_pos hU]; omega
    · rw [if_neg (by omega)]
      split <;> omega)
  rw [sumV_add, show (fun u => t * ind u (v : Int)) = (fun u => (fun _ => t) u * ind u (v : Int)) from rfl, sumV_ind, if_pos hv] at h1
  exact h1
/-- the vertices up to k that do not burn -/
def upU (ord : List Int) (k : Nat) (x : Int) : Bool := !inL ord x && decide (x < (k : Int))
theorem upU_zero (f : Nat → Int) (ord : List Int) (t : Int) : addSet f (upU ord 0) t = f := by
  funext u
  rw [addSet, if_neg]
  simp [upU]
theorem upU_in {ord : List Int} {k : Nat} {t : Int} (f : Nat → Int) (h : inL ord (k : Int) = true) : addSet f (upU ord (k + 1)) t = addSet f (upU ord k) t := by
  funext u
  unfold addSet upU
  by_cases e : u = k
  · subst e
    simp [h]
  · have : ((u : Int) < ((k + 1 : Nat) : Int)) = ((u : Int) < (k : Int)) := by apply propext; omega
    simp only [this]
theorem upU_out {ord : List Int} {k : Nat} {t : Int} (f : Nat → Int) (h : inL ord (k : Int) = false) : addSet f (upU ord (k + 1)) t = addAt (addSet f (upU ord k) t) k t := by
  funext u
  unfold addAt addSet upU
  by_cases e : u = k
  · subst e
    have : (u : Int) < ((u + 1 : Nat) : Int) := by omega
    simp only [h, this, decide_true, Bool.not_false, Bool.and_self, if_true]
    simp
  · have : ((u : Int) < ((k + 1 : Nat) : Int)) = ((u : Int) < (k : Int)) := by apply propext; omega
    simp only [this, if_neg e]
theorem upU_at {ord : List Int} {k : Nat} {t : Int} (f : Nat → Int) : addSet f (upU ord k) t k = f k := by
  unfold addSet upU
  simp
/-- the chips of a script's divisor, as they are -/
theorem Dv_get (hn : es.length ≤ 12) (hd : ∀ u, -60 ≤ d.getD u 0 ∧ d.getD u 0 ≤ 60) (hes : ∀ e ∈ es, 0 ≤ e.1 ∧ e.1 < e.2 ∧ e.2 < (M : Int)) (hf : ∀ u, u < M → -1000000000 ≤ f u ∧ f u ≤ 1000000000) {u : Nat} (hu : u < M) : (chipsOf M (Dv d es f)).getD u 0 = Dv d es f u :=
  chips_get hu (Dv_bound hn (fun u => by have := hd u; omega) hes hf u)
theorem Ph1.wide (h : Ph1 M es d q f) (hw : Wt M es q σ) (hM : M ≤ 6) (hes : ∀ e ∈ es, 0 ≤ e.1 ∧ e.1 < e.2 ∧ e.2 < (M : Int)) (hd : ∀ u, -60 ≤ d.getD u 0 ∧ d.getD u 0 ≤ 60) : ∀ u, u < M → -1000000000 ≤ f u ∧ f u ≤ 1000000000 := fun u hu => by
  have := h.low hw hM hes hd u hu
  omega
theorem Ph1.one (h : Ph1 M es d q f) (hn : es.length ≤ 12) (hes : ∀ e ∈ es, 0 ≤ e.1 ∧ e.1 < e.2 ∧ e.2 < (M : Int)) {v : Nat} (hv : v ≠ q) (hlt : Dv d es f v < 0) : Ph1 M es d q (addAt f v (-1)) :=
  h.step hes hv (k := 1) (by omega) (by have := nets_self v es (fun e he => (hes e he).2.1); omega)
/-- the spared vertices may fire -/
theorem Ph2.next (h : Ph2 M es d q σ f) (hw : Wt M es q σ) (hq : q < M) (hes : ∀ e ∈ es, 0 ≤ e.1 ∧ e.1 < e.2 ∧ e.2 < (M : Int)) {t : Int} (ht : 0 ≤ t)
    (hc : ∀ v : Nat, v < M → ¬ (v : Int) ∈ burntL M es (chipsOf M (Dv d es f)) (q : Int) → t * heat (inL (burntL M es (chipsOf M (Dv d es f)) (q : Int))) v es ≤ Dv d es f v) :
    Ph2 M es d q σ (addSet f (upU (burntL M es (chipsOf M (Dv d es f)) (q : Int)) M) t) := by
  obtain ⟨hb, hnx⟩ := burntL_all (M := M) (es := es) (d := chipsOf M (Dv d es f)) (q := (q : Int)) (by omega)
  refine h.fire hw hes ht ?_ fun v hv hU => ?_
  · simp [upU, inL, hb.first]
  · simp only [upU, Bool.and_eq_true, Bool.not_eq_true', decide_eq_true_eq] at hU
    have h1 := hc v hv (by simpa [inL] using hU.1)
    rw [heat_congr (r := inL (burntL M es (chipsOf M (Dv d es f)) (q : Int))) v es fun e he => ?_]
    · exact h1
    · obtain ⟨g1, g2, g3⟩ := hes e he
      have a1 : e.1 < (M : Int) := by omega
      simp [upU, a1, g3]
theorem Ph2.one (h : Ph2 M es d q σ f) (hw : Wt M es q σ) (hM : M ≤ 6) (hn : es.length ≤ 12) (hq : q < M) (hd : ∀ u, -60 ≤ d.getD u 0 ∧ d.getD u 0 ≤ 60) (hes : ∀ e ∈ es, 0 ≤ e.1 ∧ e.1 < e.2 ∧ e.2 < (M : Int)) :
    Ph2 M es d q σ (addSet f (upU (burntL M es (chipsOf M (Dv d es f)) (q : Int)) M) 1) :=
  h.next hw hq hes (by omega) fun v hv hnb => by
    have h1 := nextV_no (burntL_all (M := M) (es := es) (d := chipsOf M (Dv d es f)) (q := (q : Int)) (by omega)).2 v hv
    simp only [catchV, Bool.and_eq_false_iff, decide_eq_false_iff_not, Bool.not_eq_false'] at h1
    rw [Dv_get hn hd hes (h.high hw hM hes) hv] at h1
    rcases h1 with g | g
    · omega
    · exact absurd (by simpa [inL] using g) hnb
theorem Ph2.more {ord : List Int} (hb : Burns M (q : Int) ord) (hl : ord.length ≠ M) : ∃ v, v < M ∧ upU ord M ((v : Nat) : Int) = true := by
  apply Classical.byContradiction
  intro hno
  refine hl (hb.full_iff.2 fun v hv => ?_)
  apply Classical.byContradiction
  intro hn
  exact hno ⟨v, hv, by simp [upU, inL, hn, hv]⟩
theorem Ph2.red (h : Ph2 M es d q σ f) (hw : Wt M es q σ) (hM : M ≤ 6) (hes : ∀ e ∈ es, 0 ≤ e.1 ∧ e.1 < e.2 ∧ e.2 < (M : Int)) (hl : (burntL M es (chipsOf M (Dv d es f)) (q : Int)).length = M) : IsRed M es d q f := ⟨h.zero, h.high hw hM hes, h.pos, hl⟩
theorem debt_Dv (hn : es.length ≤ 12) (hd : ∀ u, -60 ≤ d.getD u 0 ∧ d.getD u 0 ≤ 60) (hes : ∀ e ∈ es, 0 ≤ e.1 ∧ e.1 < e.2 ∧ e.2 < (M : Int)) (hf : ∀ u, u < M → -1000000000 ≤ f u ∧ f u ≤ 1000000000) {u : Nat} (hu : u < M) : debtAt (chipsOf M (Dv d es f)) (q : Int) u = (!decide ((u : Int) = (q : Int)) && decide (Dv d es f u < 0)) := by
  rw [debtAt, Dv_get hn hd hes hf hu]
theorem noDebt (hn : es.length ≤ 12) (hd : ∀ u, -60 ≤ d.getD u 0 ∧ d.getD u 0 ≤ 60) (hes : ∀ e ∈ es, 0 ≤ e.1 ∧ e.1 < e.2 ∧ e.2 < (M : Int)) (hf : ∀ u, u < M → -1000000000 ≤ f u ∧ f u ≤ 1000000000) (h : hasDebt (chipsOf M (Dv d es f)) (q : Int) = false) : ∀ u, u < M → u ≠ q → 0 ≤ Dv d es f u := fun u hu huq => by
  have h1 : debtAt (chipsOf M (Dv d es f)) (q : Int) u = false := by
    rw [hasDebt, List.any_eq_false, chipsOf_len] at h
    simpa using h u (List.mem_range.2 hu)
  rw [debt_Dv hn hd hes hf hu] at h1
  have : ¬ (u : Int) = (q : Int) := by omega
  simp [this] at h1
  exact h1
end
end Go.Proofs.Ytcfhkaefjhcglaa
