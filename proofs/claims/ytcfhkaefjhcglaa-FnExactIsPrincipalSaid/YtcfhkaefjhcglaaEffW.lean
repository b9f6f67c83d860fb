/- An effective divisor is won: its reduced divisor has no less at the vertex than it has. -/
import Derived.Test.YtcfhkaefjhcglaaBG
namespace Go.Proofs.Ytcfhkaefjhcglaa
open Go.RowKit

/-- the reducing script of a divisor without debt takes from no vertex -/
theorem red_lo {M : Nat} {es : List (Int × Int)} {d : List Int} {q : Nat} {g : Nat → Int} (hp : ∀ u, u < M → u ≠ q → 0 ≤ d.getD u 0) (hg : IsRed M es d q g) (hq : q < M) (hn : es.length ≤ 12) (hd : ∀ u, -1000000 ≤ d.getD u 0 ∧ d.getD u 0 ≤ 1000000) (hes : ∀ e ∈ es, 0 ≤ e.1 ∧ e.1 < e.2 ∧ e.2 < (M : Int)) : ∀ u, u < M → 0 ≤ g u := by
  obtain ⟨a, ha, hmax⟩ := maxV (fun u => -g u) M (by omega)
  obtain ⟨m, hm⟩ : ∃ m, m = -g a := ⟨_, rfl⟩
  by_cases hm0 : m ≤ 0
  · intro u hu
    have := hmax u hu
    omega
  exfalso
  have hq2 : 0 ≤ (q : Int) ∧ (q : Int) < (M : Int) := by omega
  have hb := (burntL_all (es := es) (d := chipsOf M (Dv d es g)) hq2).1.full hg.all
  obtain ⟨v, hv, hA, hlt⟩ := burn_meets (d := chipsOf M (Dv d es g)) (es := es) hq2 (fun x => decide (-g x.toNat = m)) (by
    simp only [Int.toNat_natCast, hg.zero, decide_eq_false_iff_not]
    omega) ⟨(a : Int), hb a ha, by simp [hm]⟩
  simp only [Int.toNat_natCast, decide_eq_true_eq] at hA
  rw [chips_get hv (Dv_bound hn hd hes hg.bound v)] at hlt
  have h1 := top_fire (t := fun u => -g u) (m := m) M (fun w hw => by rw [hm]; exact hmax w hw) (v := v) hA es hes
  rw [termsF_neg] at h1
  have hvq : v ≠ q := by
    rintro rfl
    rw [hg.zero] at hA
    omega
  have h3 := hp v hv hvq
  simp only [Dv] at hlt
  omega
theorem termsF_low {g : Nat → Int} {M q : Nat} (hz : g q = 0) (h : ∀ u, u < M → 0 ≤ g u) : ∀ es : List (Int × Int), (∀ e ∈ es, 0 ≤ e.1 ∧ e.1 < e.2 ∧ e.2 < (M : Int)) → 0 ≤ termsF g q es
  | [], _ => by simp [termsF]
  | e :: es, hes => by
    have h1 := termsF_low (q := q) hz h es (fun x hx => hes x (by simp [hx]))
    obtain ⟨e1, e2, e3⟩ := hes e (by simp)
    have h2 := h e.1.toNat (by omega)
    have h3 := h e.2.toNat (by omega)
    have h4 : 0 ≤ termF g q e := by
      unfold termF ind
      by_cases c1 : (q : Int) = e.1
      · have : g e.1.toNat = 0 := by rw [← c1, Int.toNat_natCast]; exact hz
        rw [if_pos c1, if_neg (by omega)]
        omega
      · rw [if_neg c1]
        by_cases c2 : (q : Int) = e.2
        · have : g e.2.toNat = 0 := by rw [← c2, Int.toNat_natCast]; exact hz
          rw [if_pos c2]
          omega
        · rw [if_neg c2]
          omega
    rw [termsF]
    omega
/-- .. so the vertex has no less -/
theorem red_won {M : Nat} {es : List (Int × Int)} {d : List Int} {q : Nat} {g : Nat → Int} (hp : ∀ u, u < M → 0 ≤ d.getD u 0) (hg : IsRed M es d q g) (hq : q < M) (hn : es.length ≤ 12) (hd : ∀ u, -1000000 ≤ d.getD u 0 ∧ d.getD u 0 ≤ 1000000) (hes : ∀ e ∈ es, 0 ≤ e.1 ∧ e.1 < e.2 ∧ e.2 < (M : Int)) : ∀ u, u < M → 0 ≤ Dv d es g u := fun u hu => by
  by_cases e : u = q
  · subst e
    have h1 := red_lo (fun v hv _ => hp v hv) hg hq hn hd hes
    have h2 := termsF_low hg.zero h1 es hes
    have h3 := hp u hu
    unfold Dv
    omega
  · exact hg.pos u hu e
end Go.Proofs.Ytcfhkaefjhcglaa
