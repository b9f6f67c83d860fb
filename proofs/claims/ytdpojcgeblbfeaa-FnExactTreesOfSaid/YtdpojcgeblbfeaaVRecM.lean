/- Recurrent configurations, the plain math: the sink is lit and every vertex topples once; the same as the fire in the full configuration minus this one; sums. -/
import Derived.Test.YtdpojcgeblbfeaaVPilM
set_option linter.all false
namespace Go.Proofs.Ytdpojcgeblbfeaa
open Go.RowKit

theorem setF_out {B : Int → Bool} {v : Nat} (hv : B (v : Int) = false) {es : List (Int × Int)} (hes : ∀ e ∈ es, 0 ≤ e.1 ∧ e.1 < e.2) : termsF (fun u => if B (u : Int) = true then 1 else 0) v es = heat B v es := by
  have h := addSet_in (fun _ => 0) (fun x => !B x) 1 (v := v) (by simp [hv]) es hes
  have e : (fun u : Nat => if B (u : Int) = true then (1 : Int) else 0) = fun u => 1 + -(addSet (fun _ => 0) (fun x => !B x) 1 u) := by
    funext u
    unfold addSet
    cases hB : B (u : Int) <;> simp [hB]
  have e2 : (fun x => !(fun x => !B x) x) = B := by
    funext x
    simp
  rw [e, termsF_add (fun _ => 1) (fun u => -(addSet (fun _ => 0) (fun x => !B x) 1 u)), termsF_const, termsF_neg, h, termsF_zero fun _ => rfl, e2]
  omega
section
variable {M q : Nat} {es : List (Int × Int)} {p p' c x : List Int} {n n' : Nat → Int}
def litL (M : Nat) (es : List (Int × Int)) (c : List Int) (q : Nat) : List Int := (List.range M).map fun u => c.getD u 0 + if u = q then 0 else nets (q : Int) u es
theorem lit_get {u : Nat} (hu : u < M) : (litL M es c q).getD u 0 = c.getD u 0 + if u = q then 0 else nets (q : Int) u es := by simp [litL, List.getD, hu]
theorem lit_dv (hes : ∀ e ∈ es, 0 ≤ e.1 ∧ e.1 < e.2 ∧ e.2 < (M : Int)) {u : Nat} (hu : u < M) (hne : u ≠ q) : Dv (litL M es c q) es n u = Dv c es (addAt n q 1) u := by
  rw [Dv_addAt c n q 1 u fun e he => ⟨(hes e he).1, (hes e he).2.1⟩, Dv, Dv, lit_get hu, if_neg hne]
  omega
theorem Tops.mono (hp : ∀ u, u < M → u ≠ q → p.getD u 0 ≤ p'.getD u 0) (h : Tops M es p q n) : Tops M es p' q n := by
  induction h with
  | zero => exact Tops.zero
  | @step n v _ hv hvq hl ih =>
    refine ih.step hv hvq ?_
    have := hp v hv hvq
    unfold Dv at hl ⊢
    omega
theorem Tops.append (h : Tops M es p q n) (he : ∀ u, u < M → u ≠ q → p'.getD u 0 ≤ Dv p es n u) (h2 : Tops M es p' q n') : Tops M es p q fun u => n u + n' u := by
  induction h2 with
  | zero =>
    have e : (fun u => n u + (fun _ : Nat => (0 : Int)) u) = n := by
      funext u
      simp
    rw [e]
    exact h
  | @step n' v _ hv hvq hl ih =>
    have e : (fun u => n u + addAt n' v 1 u) = addAt (fun u => n u + n' u) v 1 := by
      funext u
      unfold addAt
      by_cases e : u = v
      · rw [if_pos e, if_pos e]
        show n u + (n' u + 1) = n u + n' u + 1
        omega
      · rw [if_neg e, if_neg e]
    rw [e]
    refine ih.step hv hvq ?_
    have := he v hv hvq
    unfold Dv at hl this ⊢
    rw [termsF_add n n']
    omega
def onesQ (M q : Nat) (u : Nat) : Int := if u < M ∧ u ≠ q then 1 else 0
theorem ones_lit (hes : ∀ e ∈ es, 0 ≤ e.1 ∧ e.1 < e.2 ∧ e.2 < (M : Int)) (hq : q < M) {u : Nat} : termsF (addAt (onesQ M q) q 1) u es = 0 := by
  rw [termsF_congr (g := fun _ => 1) u es fun e he => ?_, termsF_const]
  have := hes e he
  have key : ∀ k : Nat, k < M → addAt (onesQ M q) q 1 k = 1 := fun k hk => by
    unfold addAt onesQ
    by_cases e : k = q
    · rw [if_pos e, if_neg (fun h => h.2 e)]
      rfl
    · rw [if_neg e, if_pos ⟨hk, e⟩]
  exact ⟨key _ (by omega), key _ (by omega)⟩
theorem fire_tops (hes : ∀ e ∈ es, 0 ≤ e.1 ∧ e.1 < e.2 ∧ e.2 < (M : Int)) (hq : q < M) (hx : ∀ u, u < M → u ≠ q → x.getD u 0 = valP es u - 1 - c.getD u 0) :
    Tops M es (litL M es c q) q fun u => if (u : Int) ∈ burntL M es x (q : Int) ∧ u ≠ q then 1 else 0 := by
  refine (burnL_ind (M := M) (es := es) (d := x) (q := (q : Int)) (P := fun ord => Tops M es (litL M es c q) q fun u => if (u : Int) ∈ ord ∧ u ≠ q then 1 else 0) (fun ord v hb hP hn => ?_) M [(q : Int)] (Burns.start ⟨by omega, by omega⟩) ?_).2.1
  · obtain ⟨h1, h2⟩ := nextV_get hn
    obtain ⟨h3, h4⟩ := catchV_iff.1 h2
    have hvq : v ≠ q := fun e => h4 (by rw [e]; exact hb.first)
    have e1 : addAt (fun u => if (u : Int) ∈ ord ∧ u ≠ q then 1 else 0) q 1 = fun u : Nat => if inL ord (u : Int) = true then (1 : Int) else 0 := by
      funext u
      unfold addAt inL
      by_cases e : u = q
      · subst e
        simp [hb.first]
      · simp [e]
    have e2 : (fun u : Nat => if (u : Int) ∈ ord ++ [(v : Int)] ∧ u ≠ q then (1 : Int) else 0) = addAt (fun u => if (u : Int) ∈ ord ∧ u ≠ q then 1 else 0) v 1 := by
      funext u
      unfold addAt
      by_cases e : u = v
      · subst e
        simp [h4, hvq]
      · have e3 : ¬ (u : Int) = (v : Int) := by omega
        simp [e, e3]
    show Tops M es (litL M es c q) q fun u : Nat => if (u : Int) ∈ ord ++ [(v : Int)] ∧ u ≠ q then (1 : Int) else 0
    rw [e2]
    refine hP.step h1 hvq ?_
    rw [lit_dv hes h1 hvq, e1, Dv, setF_out (by simp [inL, h4]) fun e he => ⟨(hes e he).1, (hes e he).2.1⟩]
    have := hx v h1 hvq
    omega
  · have e : (fun u : Nat => if (u : Int) ∈ [(q : Int)] ∧ u ≠ q then (1 : Int) else 0) = fun _ => 0 := by
      funext u
      by_cases e : u = q
      · simp [e]
      · have : ¬ (u : Int) = (q : Int) := by omega
        simp [this]
    show Tops M es (litL M es c q) q fun u : Nat => if (u : Int) ∈ [(q : Int)] ∧ u ≠ q then (1 : Int) else 0
    rw [e]
    exact Tops.zero
theorem rec_set (hes : ∀ e ∈ es, 0 ≤ e.1 ∧ e.1 < e.2 ∧ e.2 < (M : Int)) (hq : q < M) (hx : ∀ u, u < M → u ≠ q → x.getD u 0 = valP es u - 1 - c.getD u 0) (hall : (burntL M es x (q : Int)).length = M) (hst : ∀ u, u < M → u ≠ q → c.getD u 0 < valP es u) : IsSet M es (litL M es c q) q (onesQ M q) := by
  have hb := (burntL_all (M := M) (es := es) (d := x) (q := (q : Int)) ⟨by omega, by omega⟩).1
  have e : (fun u : Nat => if (u : Int) ∈ burntL M es x (q : Int) ∧ u ≠ q then (1 : Int) else 0) = onesQ M q := by
    funext u
    unfold onesQ
    by_cases hu : u < M
    · simp [hu, hb.full hall u hu]
    · have : ¬ (u : Int) ∈ burntL M es x (q : Int) := fun h => by have := hb.bound _ h; omega
      simp [hu, this]
  refine ⟨by rw [← e]; exact fire_tops hes hq hx, fun v hv hvq => ?_⟩
  rw [lit_dv hes hv hvq, Dv, ones_lit hes hq]
  have := hst v hv hvq
  omega
end
end Go.Proofs.Ytdpojcgeblbfeaa
