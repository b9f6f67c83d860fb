/- Recurrent configurations: one in each class. -/
import Derived.Test.YtndncmjhpbjcoaaRRecM
import Derived.Test.YtndncmjhpbjcoaaRBG
import Derived.Test.YtndncmjhpbjcoaaRPilA
set_option linter.all false
namespace Go.Proofs.Ytndncmjhpbjcoaa
open Go.RowKit

theorem heat_val {B : Int → Bool} {u : Nat} : ∀ es : List (Int × Int), (∀ e ∈ es, e.1 < e.2) → heat B u es ≤ valP es u
  | [], _ => by simp [heat, valP, nets]
  | e :: l, h => by
    have ih := heat_val (B := B) (u := u) l fun x hx => h x (by simp [hx])
    have h1 := touch_net (v := u) (h e (by simp))
    have h0 := h e (by simp)
    have h2 : heatE B u e ≤ -net (u : Int) u e := by
      rw [h1]
      unfold heatE ind touch
      by_cases a : (u : Int) = e.1
      · have b : ¬ (u : Int) = e.2 := by omega
        rw [if_pos a, if_neg b]
        have t : ((e.1 == (u : Int)) || (e.2 == (u : Int))) = true := by simp [← a]
        rw [if_pos t]
        split <;> split <;> omega
      · rw [if_neg a]
        by_cases b : (u : Int) = e.2
        · rw [if_pos b]
          have t : ((e.1 == (u : Int)) || (e.2 == (u : Int))) = true := by simp [← b]
          rw [if_pos t]
          split <;> split <;> omega
        · rw [if_neg b]
          split <;> split <;> split <;> omega
    unfold valP at ih ⊢
    rw [heat, nets]
    omega
section
variable {M q : Nat} {es : List (Int × Int)} {d x c p : List Int} {f : Nat → Int}
theorem burn_lim (hes : ∀ e ∈ es, 0 ≤ e.1 ∧ e.1 < e.2 ∧ e.2 < (M : Int)) (hq : q < M) (hall : (burntL M es x (q : Int)).length = M) : ∀ u, u < M → u ≠ q → x.getD u 0 < valP es u := fun u hu hne => by
  have h := (burnL_ind (M := M) (es := es) (d := x) (q := (q : Int)) (P := fun ord => ∀ v : Nat, (v : Int) ∈ ord → v ≠ q → x.getD v 0 < valP es v) (fun ord v hb hP hn w hw hwq => by
    obtain ⟨h1, h2⟩ := nextV_get hn
    obtain ⟨h3, h4⟩ := catchV_iff.1 h2
    rw [List.mem_append, List.mem_singleton] at hw
    rcases hw with hw | hw
    · exact hP w hw hwq
    · obtain rfl : w = v := by omega
      have := heat_val (B := inL ord) (u := w) es fun e he => (hes e he).2.1
      omega) M [(q : Int)] (Burns.start ⟨by omega, by omega⟩) fun v hv hvq => absurd (List.mem_singleton.1 hv) (by omega)).2.1
  have hb := (burntL_all (M := M) (es := es) (d := x) (q := (q : Int)) ⟨by omega, by omega⟩).1
  exact h u (hb.full hall u hu) hne
def dualL (M q : Nat) (es : List (Int × Int)) (c : List Int) : List Int := (List.range M).map fun u => if u = q then 0 else valP es u - 1 - c.getD u 0
theorem dual_len (M q : Nat) (es : List (Int × Int)) (c : List Int) : (dualL M q es c).length = M := by simp [dualL]
theorem dual_get {u : Nat} (hu : u < M) : (dualL M q es c).getD u 0 = if u = q then 0 else valP es u - 1 - c.getD u 0 := by simp [dualL, List.getD, hu]
structure RecP (M q : Nat) (es : List (Int × Int)) (c : List Int) : Prop where
  len : c.length = M
  zero : c.getD q 0 = 0
  lim : ∀ u, u < M → u ≠ q → 0 ≤ c.getD u 0 ∧ c.getD u 0 < valP es u
  all : (burntL M es (dualL M q es c) (q : Int)).length = M
theorem dual_hx : ∀ u, u < M → u ≠ q → (dualL M q es c).getD u 0 = valP es u - 1 - c.getD u 0 := fun u hu hne => by rw [dual_get hu, if_neg hne]
theorem RecP.set (h : RecP M q es c) (hes : ∀ e ∈ es, 0 ≤ e.1 ∧ e.1 < e.2 ∧ e.2 < (M : Int)) (hq : q < M) : IsSet M es (litL M es c q) q (onesQ M q) := rec_set hes hq dual_hx h.all fun u hu hne => (h.lim u hu hne).2
theorem RecP.of_set (hes : ∀ e ∈ es, 0 ≤ e.1 ∧ e.1 < e.2 ∧ e.2 < (M : Int)) (hq : q < M) (hl : c.length = M) (hz : c.getD q 0 = 0) (hc : ∀ u, u < M → u ≠ q → 0 ≤ c.getD u 0 ∧ c.getD u 0 < valP es u)
    {n : Nat → Int} (h : Tops M es (litL M es c q) q n) (h1 : ∀ u, u < M → u ≠ q → n u = 1) : RecP M q es c := by
  refine ⟨hl, hz, hc, ?_⟩
  have hb := (burntL_all (M := M) (es := es) (d := dualL M q es c) (q := (q : Int)) ⟨by omega, by omega⟩).1
  refine hb.full_iff.2 fun v hv => ?_
  by_cases e : v = q
  · rw [e]
    exact hb.first
  · exact set_rec hes hq dual_hx (fun u hu hne => (hc u hu hne).1) h (fun u hu hne => by rw [h1 u hu hne]; omega) v hv (by rw [h1 v hv e]; omega)
def EqQ (M q : Nat) (es : List (Int × Int)) (f g : Nat → Int) : Prop := ∃ t : Nat → Int, t q = 0 ∧ ∀ u, u < M → u ≠ q → f u = g u + termsF t u es
theorem EqQ.refl (f : Nat → Int) : EqQ M q es f f := ⟨fun _ => 0, rfl, fun u _ _ => by rw [termsF_zero fun _ => rfl]; omega⟩
theorem EqQ.symm {f g : Nat → Int} (h : EqQ M q es f g) : EqQ M q es g f := by
  obtain ⟨t, h0, h1⟩ := h
  exact ⟨fun i => -t i, show -t q = 0 by omega, fun u hu hne => by rw [termsF_neg, h1 u hu hne]; omega⟩
theorem EqQ.trans {f g k : Nat → Int} (h : EqQ M q es f g) (h' : EqQ M q es g k) : EqQ M q es f k := by
  obtain ⟨t, h0, h1⟩ := h
  obtain ⟨s, g0, g1⟩ := h'
  exact ⟨fun i => t i + s i, show t q + s q = 0 by omega, fun u hu hne => by rw [termsF_add t s, h1 u hu hne, g1 u hu hne]; omega⟩
theorem EqQ.add {f g f' g' : Nat → Int} (h : EqQ M q es f g) (h' : EqQ M q es f' g') : EqQ M q es (fun u => f u + f' u) fun u => g u + g' u := by
  obtain ⟨t, h0, h1⟩ := h
  obtain ⟨s, g0, g1⟩ := h'
  exact ⟨fun i => t i + s i, show t q + s q = 0 by omega, fun u hu hne => by
    show f u + f' u = g u + g' u + _
    rw [termsF_add t s, h1 u hu hne, g1 u hu hne]
    omega⟩
theorem EqQ.neg {f g : Nat → Int} (h : EqQ M q es f g) : EqQ M q es (fun u => -f u) fun u => -g u := by
  obtain ⟨t, h0, h1⟩ := h
  exact ⟨fun i => -t i, show -t q = 0 by omega, fun u hu hne => by
    show -f u = -g u + _
    rw [termsF_neg, h1 u hu hne]
    omega⟩
theorem EqQ.off {f g f' g' : Nat → Int} (h : EqQ M q es f g) (h1 : ∀ u, u < M → u ≠ q → f' u = f u) (h2 : ∀ u, u < M → u ≠ q → g' u = g u) : EqQ M q es f' g' := by
  obtain ⟨t, h0, k⟩ := h
  exact ⟨t, h0, fun u hu hne => by rw [h1 u hu hne, h2 u hu hne, k u hu hne]⟩
end
end Go.Proofs.Ytndncmjhpbjcoaa
