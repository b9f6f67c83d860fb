/- Sandpiles: topplings as scripts; whatever the order, the same topplings. -/
import Derived.Test.YtdpojcgeblbfeaaVBG
set_option linter.all false
namespace Go.Proofs.Ytdpojcgeblbfeaa
open Go.RowKit

section
variable {M q : Nat} {es : List (Int × Int)} {p : List Int} {n n' : Nat → Int}
def valP (es : List (Int × Int)) (v : Nat) : Int := -nets (v : Int) v es
inductive Tops (M : Nat) (es : List (Int × Int)) (p : List Int) (q : Nat) : (Nat → Int) → Prop
  | zero : Tops M es p q fun _ => 0
  | step {n : Nat → Int} {v : Nat} : Tops M es p q n → v < M → v ≠ q → valP es v ≤ Dv p es n v → Tops M es p q (addAt n v 1)
def Stab (M : Nat) (es : List (Int × Int)) (p : List Int) (q : Nat) (n : Nat → Int) : Prop := ∀ v, v < M → v ≠ q → Dv p es n v < valP es v
theorem Tops.facts (hes : ∀ e ∈ es, 0 ≤ e.1 ∧ e.1 < e.2 ∧ e.2 < (M : Int)) (hp : ∀ u, u < M → u ≠ q → 0 ≤ p.getD u 0) (h : Tops M es p q n) : n q = 0 ∧ (∀ u, 0 ≤ n u) ∧ (∀ u, M ≤ u → n u = 0) ∧ ∀ u, u < M → u ≠ q → 0 ≤ Dv p es n u := by
  induction h with
  | zero => exact ⟨rfl, fun _ => Int.le_refl _, fun _ _ => rfl, fun u hu hne => by rw [Dv, termsF_zero fun _ => rfl]; have := hp u hu hne; omega⟩
  | @step n v _ hv hvq hl ih =>
    obtain ⟨h1, h2, h3, h4⟩ := ih
    refine ⟨by unfold addAt; rw [if_neg (fun e => hvq e.symm)]; exact h1, fun u => ?_, fun u hu => ?_, fun u hu hne => ?_⟩
    · have := h2 u
      unfold addAt
      split <;> omega
    · unfold addAt
      rw [if_neg (by omega)]
      exact h3 u hu
    · rw [Dv_addAt p n v 1 u fun e he => ⟨(hes e he).1, (hes e he).2.1⟩]
      by_cases e : u = v
      · subst e
        unfold valP at hl
        omega
      · have := nets_other v u e es
        have := h4 u hu hne
        omega
theorem termF_up {f g : Nat → Int} (u : Nat) (e : Int × Int) (ha : 0 ≤ e.1) (hb : 0 ≤ e.2) (h1 : f e.1.toNat ≤ g e.1.toNat) (h2 : f e.2.toNat ≤ g e.2.toNat) (he : f u = g u) : termF f u e ≤ termF g u e := by
  unfold termF ind
  by_cases k1 : (u : Int) = e.1
  · have e1 : e.1.toNat = u := by omega
    rw [if_pos k1, e1]
    by_cases k2 : (u : Int) = e.2
    · have e2 : e.2.toNat = u := by omega
      rw [if_pos k2, e2]
      omega
    · rw [if_neg k2]
      omega
  · rw [if_neg k1]
    by_cases k2 : (u : Int) = e.2
    · have e2 : e.2.toNat = u := by omega
      rw [if_pos k2, e2]
      omega
    · rw [if_neg k2]
      omega
theorem terms_up {f g : Nat → Int} (u : Nat) (hu : u < M) (he : f u = g u) (h : ∀ v, v < M → f v ≤ g v) : ∀ es : List (Int × Int), (∀ e ∈ es, 0 ≤ e.1 ∧ e.1 < e.2 ∧ e.2 < (M : Int)) → termsF f u es ≤ termsF g u es
  | [], _ => Int.le_refl _
  | e :: l, hes => by
    have h1 := hes e (by simp)
    have ih := terms_up u hu he h l fun x hx => hes x (by simp [hx])
    have h2 := termF_up (f := f) (g := g) u e h1.1 (by omega) (h _ (by omega)) (h _ (by omega)) he
    rw [termsF, termsF]
    omega
theorem Tops.least (hes : ∀ e ∈ es, 0 ≤ e.1 ∧ e.1 < e.2 ∧ e.2 < (M : Int)) (h : Tops M es p q n) (h0 : ∀ u, u < M → 0 ≤ n' u) (hs : Stab M es p q n') : ∀ u, u < M → n u ≤ n' u := by
  induction h with
  | zero => exact h0
  | @step n v ht hv hvq hl ih =>
    intro u hu
    unfold addAt
    by_cases e : u = v
    · subst e
      rw [if_pos rfl]
      have h1 := ih u hu
      apply Classical.byContradiction
      intro hc
      have he : n u = n' u := by omega
      have h2 := hs u hu hvq
      have h3 := terms_up (f := n) (g := n') u hu he ih es hes
      unfold Dv at h2 hl
      omega
    · rw [if_neg e]
      exact ih u hu
theorem Tops.same (hes : ∀ e ∈ es, 0 ≤ e.1 ∧ e.1 < e.2 ∧ e.2 < (M : Int)) (hp : ∀ u, u < M → u ≠ q → 0 ≤ p.getD u 0) (h : Tops M es p q n) (hs : Stab M es p q n) (h' : Tops M es p q n') (hs' : Stab M es p q n') (u : Nat) : n u = n' u := by
  have f1 := h.facts hes hp
  have f2 := h'.facts hes hp
  by_cases hu : u < M
  · have a := h.least hes (fun u _ => f2.2.1 u) hs' u hu
    have b := h'.least hes (fun u _ => f1.2.1 u) hs u hu
    omega
  · rw [f1.2.2.1 u (by omega), f2.2.2.1 u (by omega)]
theorem Tops.cap (hc : Cut M es) (hes : ∀ e ∈ es, 0 ≤ e.1 ∧ e.1 < e.2 ∧ e.2 < (M : Int)) {B : Int} (hB : 0 ≤ B) (hp : ∀ u, u < M → u ≠ q → 0 ≤ p.getD u 0 ∧ p.getD u 0 ≤ B) (hq : q < M) (h : Tops M es p q n) (u : Nat) (hu : u < M) : n u ≤ B * (M : Int) * (M : Int) := by
  have f := h.facts hes fun u hu hne => (hp u hu hne).1
  have := lev_top (f := n) hc hes hB hq (fun u hu hne => by
    have h1 := f.2.2.2 u hu hne
    have h2 := (hp u hu hne).2
    unfold Dv at h1
    omega) u hu
  rw [f.1] at this
  omega
structure IsSet (M : Nat) (es : List (Int × Int)) (p : List Int) (q : Nat) (n : Nat → Int) : Prop where
  tops : Tops M es p q n
  stab : Stab M es p q n
theorem set_ex (hc : Cut M es) (hes : ∀ e ∈ es, 0 ≤ e.1 ∧ e.1 < e.2 ∧ e.2 < (M : Int)) {B : Int} (hB : 0 ≤ B) (hp : ∀ u, u < M → u ≠ q → 0 ≤ p.getD u 0 ∧ p.getD u 0 ≤ B) (hq : q < M) : ∃ n, IsSet M es p q n := by
  have key : ∀ (k : Nat) (n : Nat → Int), Tops M es p q n → (B * (M : Int) * (M : Int)) * (M : Int) - sumV n M < (k : Int) → ∃ n, IsSet M es p q n := fun k => by
    induction k with
    | zero =>
      intro n h hk
      have h1 := sumV_le (f := n) (g := fun _ => B * (M : Int) * (M : Int)) M fun u hu => h.cap hc hes hB hp hq u hu
      rw [sumV_const] at h1
      omega
    | succ k ih =>
      intro n h hk
      by_cases hs : Stab M es p q n
      · exact ⟨n, h, hs⟩
      · obtain ⟨v, hv⟩ := Classical.not_forall.1 hs
        obtain ⟨h1, h2⟩ := Classical.not_imp.1 hv
        obtain ⟨h3, h4⟩ := Classical.not_imp.1 h2
        refine ih (addAt n v 1) (h.step h1 h3 (by omega)) ?_
        rw [sumV_addAt, if_pos h1]
        omega
  exact key (((B * (M : Int) * (M : Int)) * (M : Int)).toNat + 1) (fun _ => 0) Tops.zero (by
    have : sumV (fun _ : Nat => (0 : Int)) M = 0 * (M : Int) := sumV_const 0 M
    omega)
open Classical in
noncomputable def settN (M : Nat) (es : List (Int × Int)) (p : List Int) (q : Nat) : Nat → Int := if h : ∃ n, IsSet M es p q n then Classical.choose h else fun _ => 0
theorem settN_is (h : ∃ n, IsSet M es p q n) : IsSet M es p q (settN M es p q) := by
  rw [settN, dif_pos h]
  exact Classical.choose_spec h
theorem Tops.more (hes : ∀ e ∈ es, 0 ≤ e.1 ∧ e.1 < e.2 ∧ e.2 < (M : Int)) (hp : ∀ u, u < M → u ≠ q → 0 ≤ p.getD u 0) (h : Tops M es p q n) (hs : IsSet M es p q n') : sumV n M ≤ sumV n' M := by
  have f := hs.tops.facts hes hp
  exact sumV_le M fun u hu => h.least hes (fun u _ => f.2.1 u) hs.stab u hu
end
end Go.Proofs.Ytdpojcgeblbfeaa
