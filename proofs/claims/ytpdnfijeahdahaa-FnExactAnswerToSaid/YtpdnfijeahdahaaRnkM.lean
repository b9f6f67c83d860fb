/- Rank, the plain math: the first degree at which not every effective divisor can be taken away. -/
import Derived.Test.YtpdnfijeahdahaaBL
namespace Go.Proofs.Ytpdnfijeahdahaa
open Go.RowKit

/-- whether a divisor, maybe a little beyond the limits, is winnable -/
noncomputable def winX (M : Nat) (es : List (Int × Int)) (d : List Int) : Bool := decide (0 ≤ Dv d es (redF M es d 0) 0)
/-- the first effective divisor of a degree that cannot be taken away -/
noncomputable def lostB (M : Nat) (es : List (Int × Int)) (d : List Int) (r : Nat) : Option (List Int) := (effB M (r : Int)).find? fun e => !winX M es (subB d e)
noncomputable def rnkG (M : Nat) (es : List (Int × Int)) (d : List Int) : Nat → Nat → Nat × List Int
  | 0, r => (r, [])
  | f + 1, r => match lostB M es d r with
    | some e => (r, e)
    | none => rnkG M es d f (r + 1)
/-- the degree of the first one that cannot be taken away, and that one -/
noncomputable def rnkP (M : Nat) (es : List (Int × Int)) (d : List Int) : Nat × List Int := rnkG M es d 9 0
noncomputable def rnkR (N : Int) (es : List (Int × Int)) (d : List Int) : Int := if einOk N es d = true then ((rnkP N.toNat es d).1 : Int) - 1 else 0
noncomputable def wtnB (N : Int) (es : List (Int × Int)) (d : List Int) : List Int := if einOk N es d = true then (rnkP N.toNat es d).2 else []
noncomputable def hasB (N : Int) (es : List (Int × Int)) (d : List Int) (r : Int) : Bool := einOk N es d && decide (r ≤ rnkR N es d)
/-- the vertices whose removal leaves the rank -/
noncomputable def baseL (M : Nat) (es : List (Int × Int)) (d : List Int) : List Int := ((List.range M).filter fun v => decide ((rnkP M es (d.set v (wrap64 (d.getD v 0 - 1)))).1 = (rnkP M es d).1)).map fun (v : Nat) => (v : Int)
noncomputable def baseB (N : Int) (es : List (Int × Int)) (d : List Int) : List Int := if einOk N es d = true ∧ 0 < (rnkP N.toNat es d).1 then baseL N.toNat es d else []
section
variable {M : Nat} {es : List (Int × Int)} {d e : List Int}
theorem rnkG_eq {s : Nat} (hs : lostB M es d s = some e) : ∀ (f r : Nat), r ≤ s → s < r + f → (∀ t, r ≤ t → t < s → lostB M es d t = none) → rnkG M es d f r = (s, e)
  | 0, r, h1, h2, _ => by omega
  | f + 1, r, h1, h2, h3 => by
    rw [rnkG]
    by_cases hrs : r = s
    · subst hrs
      rw [hs]
    · rw [h3 r (Nat.le_refl _) (by omega)]
      exact rnkG_eq hs f (r + 1) (by omega) (by omega) fun t ht1 ht2 => h3 t (by omega) ht2
theorem rnkP_eq {s : Nat} (h8 : s ≤ 8) (hs : lostB M es d s = some e) (h : ∀ t, t < s → lostB M es d t = none) : rnkP M es d = (s, e) := rnkG_eq hs 9 0 (Nat.zero_le _) (by omega) fun t _ ht => h t ht
theorem rnkG_len : ∀ (f r : Nat), (rnkG M es d f r).2.length ≤ M
  | 0, r => by simp [rnkG]
  | f + 1, r => by
    rw [rnkG]
    cases hl : lostB M es d r with
    | none => exact rnkG_len f (r + 1)
    | some e =>
      have h := List.mem_of_find?_eq_some hl
      have := (effB_mem _ _ e h).1
      simp only
      omega
theorem getD_lim {l : List Int} {lo hi : Int} (h : ∀ x ∈ l, lo ≤ x ∧ x ≤ hi) (h0 : lo ≤ 0) (h1 : 0 ≤ hi) (u : Nat) : lo ≤ l.getD u 0 ∧ l.getD u 0 ≤ hi := by
  cases hu : l[u]? with
  | none => simp only [List.getD, hu, Option.getD_none]; omega
  | some x =>
    simp only [List.getD, hu, Option.getD_some]
    exact h x (List.mem_of_getElem? hu)
/-- what is left of a divisor when an effective one is taken away -/
theorem sub_get {k : Int} (hd : ∀ u, -61 ≤ d.getD u 0 ∧ d.getD u 0 ≤ 60) (hk : k ≤ 8) (he : e ∈ effB M k) (u : Nat) (hu : u < d.length) : (subB d e).getD u 0 = d.getD u 0 - e.getD u 0 ∧ 0 ≤ e.getD u 0 ∧ e.getD u 0 ≤ 8 := by
  obtain ⟨h1, h2⟩ := effB_mem _ _ e he
  have h3 := getD_lim (l := e) (lo := 0) (hi := 8) (fun x hx => by have := h2 x hx; omega) (by omega) (by omega) u
  have h4 := hd u
  refine ⟨?_, h3⟩
  simp only [subB, List.getD, List.getElem?_map, List.getElem?_range hu, Option.map_some, Option.getD_some]
  simp only [List.getD] at h3 h4
  exact wrap64_of (by omega) (by omega)
theorem sub_lim {k : Int} (hd : ∀ u, -61 ≤ d.getD u 0 ∧ d.getD u 0 ≤ 60) (hk : k ≤ 8) (he : e ∈ effB M k) (u : Nat) : -100 ≤ (subB d e).getD u 0 ∧ (subB d e).getD u 0 ≤ 100 := by
  by_cases hu : u < d.length
  · have h1 := sub_get hd hk he u hu
    have h2 := hd u
    omega
  · have : (subB d e)[u]? = none := List.getElem?_eq_none (by rw [subB_len]; omega)
    simp only [List.getD, this, Option.getD_none]
    omega
/-- every divisor in reach has a reduced one -/
def RedAll (M : Nat) (es : List (Int × Int)) : Prop := ∀ x : List Int, x.length = M → (∀ u, -100 ≤ x.getD u 0 ∧ x.getD u 0 ≤ 100) → ∃ f, IsRed M es x 0 f
/-- what is won has no negative degree -/
theorem winX_deg (hes : ∀ e ∈ es, 0 ≤ e.1 ∧ e.1 < e.2 ∧ e.2 < (M : Int)) (hex : ∃ f, IsRed M es d 0 f) (h : winX M es d = true) : 0 ≤ sumV (fun u => d.getD u 0) M := by
  obtain ⟨f0, hf0⟩ := hex
  have hf := redF_is hf0
  unfold winX at h
  rw [decide_eq_true_eq] at h
  have h1 := sumV_le (f := fun _ => 0) (g := Dv d es (redF M es d 0)) M (fun u hu => by
    by_cases e : u = 0
    · rw [e]; exact h
    · exact hf.pos u hu e)
  rw [sumV_const, Dv_sum hes] at h1
  omega
theorem sub_sum {k : Int} (hdl : d.length = M) (hd : ∀ u, -61 ≤ d.getD u 0 ∧ d.getD u 0 ≤ 60) (hk : k ≤ 8) (he : e ∈ effB M k) : sumV (fun u => (subB d e).getD u 0) M = sumV (fun u => d.getD u 0) M - k := by
  obtain ⟨h1, h2⟩ := effB_mem _ _ e he
  have h3 := sumV_list e
  rw [h1, effB_sum _ _ _ he] at h3
  have h4 := sumV_add (fun u => (subB d e).getD u 0) (fun u => e.getD u 0) M
  rw [sumV_eqC (f := fun u => (subB d e).getD u 0 + e.getD u 0) (g := fun u => d.getD u 0) (fun u hu => by have := (sub_get hd hk he u (by omega)).1; omega)] at h4
  omega
/-- where every effective divisor of a degree can be taken away, the degree is not above d's -/
theorem lost_top (hM0 : 0 < M) (hes : ∀ e ∈ es, 0 ≤ e.1 ∧ e.1 < e.2 ∧ e.2 < (M : Int)) (hdl : d.length = M) (hd : ∀ u, -61 ≤ d.getD u 0 ∧ d.getD u 0 ≤ 60) (hex : RedAll M es) {r : Nat} (hr : r ≤ 8) (h : lostB M es d r = none) : (r : Int) ≤ sumV (fun u => d.getD u 0) M := by
  obtain ⟨n, rfl⟩ : ∃ n, M = n + 1 := ⟨M - 1, by omega⟩
  obtain ⟨e, he⟩ := List.exists_mem_of_length_pos (effB_pos n (r : Int) (by omega))
  have hw : winX (n + 1) es (subB d e) = true := by
    unfold lostB at h
    rw [List.find?_eq_none] at h
    simpa using h e he
  have h1 := winX_deg hes (hex _ (by rw [subB_len, hdl]) (sub_lim hd (by omega) he)) hw
  rw [sub_sum hdl hd (by omega) he] at h1
  omega
theorem rnk_part (M : Nat) (es : List (Int × Int)) (d : List Int) : ∀ n : Nat, (∀ t, t < n → lostB M es d t = none) ∨ ∃ s e, s < n ∧ lostB M es d s = some e ∧ ∀ t, t < s → lostB M es d t = none
  | 0 => .inl fun t ht => by omega
  | n + 1 => by
    rcases rnk_part M es d n with h | ⟨s, e, h1, h2, h3⟩
    · cases hl : lostB M es d n with
      | none =>
        refine .inl fun t ht => ?_
        by_cases e : t = n
        · rw [e]; exact hl
        · exact h t (by omega)
      | some e => exact .inr ⟨n, e, by omega, hl, h⟩
    · exact .inr ⟨s, e, by omega, h2, h3⟩
/-- the search ends: its degree is at most one above d's -/
theorem rnk_ex (hM0 : 0 < M) (hes : ∀ e ∈ es, 0 ≤ e.1 ∧ e.1 < e.2 ∧ e.2 < (M : Int)) (hdl : d.length = M) (hd : ∀ u, -61 ≤ d.getD u 0 ∧ d.getD u 0 ≤ 60) (hk : sumV (fun u => d.getD u 0) M ≤ 7) (hex : RedAll M es) :
    ∃ (s : Nat) (e : List Int), s ≤ 8 ∧ ((s : Int) = 0 ∨ (s : Int) ≤ sumV (fun u => d.getD u 0) M + 1) ∧ lostB M es d s = some e ∧ (∀ t, t < s → lostB M es d t = none) ∧ rnkP M es d = (s, e) := by
  rcases rnk_part M es d 9 with h | ⟨s, e, h1, h2, h3⟩
  · have := lost_top hM0 hes hdl hd hex (r := 8) (by omega) (h 8 (by omega))
    omega
  · refine ⟨s, e, by omega, ?_, h2, h3, rnkP_eq (by omega) h2 h3⟩
    by_cases h0 : s = 0
    · exact .inl (by omega)
    · have := lost_top hM0 hes hdl hd hex (r := s - 1) (by omega) (h3 (s - 1) (by omega))
      exact .inr (by omega)
end
end Go.Proofs.Ytpdnfijeahdahaa
