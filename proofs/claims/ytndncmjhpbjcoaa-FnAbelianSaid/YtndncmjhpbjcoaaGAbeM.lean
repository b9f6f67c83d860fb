/- laws.FnAbelian, the plain facts: any order of topplings, by the program's own test. -/
import Derived.Test.YtndncmjhpbjcoaaGPilF
import Derived.Test.YtndncmjhpbjcoaaGPilG
set_option linter.all false
namespace Go.Proofs.Ytndncmjhpbjcoaa
open Go.RowKit

structure AbeL (M q : Nat) (es : List (Int × Int)) (p : List Int) : Prop where
  pl : PileL M q es p
  m5 : M ≤ 5
  gb : graphB (M : Int) es = true
  six : ∀ u, 0 ≤ p.getD u 0 ∧ p.getD u 0 ≤ 6
theorem AbeL.of {M q : Nat} {es : List (Int × Int)} {p : List Int} (hg : graphB (M : Int) es = true) (hm : M ≤ 5) (hl : p.length = M) (hq : q < M) (hb : ∀ x ∈ p, 0 ≤ x ∧ x ≤ 6) (hz : p.getD q 0 = 0) : AbeL M q es p ∧ pileB (M : Int) es p (q : Int) = true := by
  have hb6 : ∀ u, 0 ≤ p.getD u 0 ∧ p.getD u 0 ≤ 6 := fun u => by
    by_cases hu : u < p.length
    · have := hb p[u] (List.getElem_mem hu)
      simpa [List.getD, hu] using this
    · simp [List.getD, List.getElem?_eq_none (Nat.le_of_not_lt hu)]
  have hp : pileB (M : Int) es p (q : Int) = true := by
    unfold pileB
    simp only [Bool.and_eq_true, decide_eq_true_eq, Int.toNat_natCast]
    refine ⟨?_, vB_t (by omega), ?_, hz⟩
    · rw [divB_a hg (by omega), List.all_eq_true]
      intro x hx
      have := hb x hx
      exact within_t (by omega)
    · unfold posAll
      rw [List.all_eq_true]
      intro x hx
      have := hb x hx
      unfold posB
      rw [decide_eq_true_eq]
      omega
  obtain ⟨M', k, h1, h2, hP, -⟩ := pile_parts hp
  obtain rfl : M = M' := by omega
  obtain rfl : q = k := by omega
  exact ⟨⟨hP, hm, hg, hb6⟩, hp⟩
section
variable {M q v : Nat} {es : List (Int × Int)} {p : List Int} {n : Nat → Int}
theorem Tops.dv (h : AbeL M q es p) (ht : Tops M es p q n) : ∀ u, u < M → 0 ≤ Dv p es n u ∧ Dv p es n u ≤ 30 := by
  have f := ht.facts h.pl.ed h.pl.hp
  have h0 : ∀ u, u < M → 0 ≤ Dv p es n u := fun u hu => by
    by_cases e : u = q
    · subst e
      have h1 := terms_up (f := fun _ => (0 : Int)) (g := n) u hu f.1.symm (fun v _ => f.2.1 v) es h.pl.ed
      rw [termsF_zero fun _ => rfl] at h1
      have h2 := h.six u
      unfold Dv
      omega
    · exact f.2.2.2 u hu e
  intro u hu
  refine ⟨h0 u hu, ?_⟩
  have h1 := Dv_sum h.pl.ed p n
  have h2 := sumV_le (f := fun u => p.getD u 0) (g := fun _ => 6) M fun u _ => (h.six u).2
  rw [sumV_const] at h2
  have h3 := sumV_le (f := fun w => if w = u then Dv p es n u else 0) (g := Dv p es n) M fun w hw => by
    show (if w = u then Dv p es n u else 0) ≤ Dv p es n w
    split
    · rename_i e
      rw [e]
      exact Int.le_refl _
    · exact h0 w hw
  have h4 : sumV (fun w => if w = u then Dv p es n u else 0) M = Dv p es n u := by
    have h5 := sumV_addAt (fun _ => 0) u (Dv p es n u) M
    rw [if_pos hu, sumV_const] at h5
    rw [← sumV_congr (f := addAt (fun _ => 0) u (Dv p es n u)) M fun w _ => by unfold addAt; split <;> simp, h5]
    omega
  have := h.m5
  omega
theorem Tops.pile (h : AbeL M q es p) (ht : Tops M es p q n) : pileB (M : Int) es (pileL M es p q n) (q : Int) = true := by
  have hd := ht.dv h
  have hq := h.pl.qm
  have hall : ∀ x ∈ pileL M es p q n, 0 ≤ x ∧ x ≤ 30 := fun x hx => by
    simp only [pileL, List.mem_map, List.mem_range] at hx
    obtain ⟨u, hu, rfl⟩ := hx
    have := hd u hu
    split <;> omega
  unfold pileB
  simp only [Bool.and_eq_true, decide_eq_true_eq, Int.toNat_natCast]
  refine ⟨?_, vB_t (by omega), ?_, ?_⟩
  · rw [divB_a h.gb (by rw [pileL_len]), List.all_eq_true]
    intro x hx
    have := hall x hx
    exact within_t (by omega)
  · unfold posAll
    rw [List.all_eq_true]
    intro x hx
    have := hall x hx
    unfold posB
    rw [decide_eq_true_eq]
    omega
  · rw [pileL_get hq, if_pos rfl]
def canT (M q : Nat) (es : List (Int × Int)) (p : List Int) (n : Nat → Int) (v : Nat) : Bool := decide (v ≠ q ∧ valP es v ≤ Dv p es n v)
theorem Tops.can (h : AbeL M q es p) (ht : Tops M es p q n) (hv : v < M) : topOk (M : Int) es (pileL M es p q n) (q : Int) (v : Int) = canT M q es p n v := by
  unfold topOk canT
  rw [ht.pile h, vB_t (by omega), Int.toNat_natCast, pileL_get hv, Bool.true_and, Bool.true_and]
  by_cases e : v = q
  · subst e
    simp
  · rw [if_neg e]
    have e2 : (v : Int) ≠ (q : Int) := by omega
    simp [e, e2]
theorem pileL_more (h : AbeL M q es p) (hv : v < M) : pileL M es (pileL M es p q n) q (addAt (fun _ => 0) v 1) = pileL M es p q (addAt n v 1) := by
  refine List.ext_getElem (by rw [pileL_len, pileL_len]) fun u h1 h2 => ?_
  rw [pileL_len] at h1
  simp only [pileL, List.getElem_map, List.getElem_range]
  by_cases e : u = q
  · rw [if_pos e, if_pos e]
  · rw [if_neg e, if_neg e, Dv_addAt p n v 1 u fun e he => ⟨(h.pl.ed e he).1, (h.pl.ed e he).2.1⟩, Dv_addAt _ _ v 1 u fun e he => ⟨(h.pl.ed e he).1, (h.pl.ed e he).2.1⟩, Dv, termsF_zero fun _ => rfl]
    have := pileL_get (M := M) (es := es) (p := p) (q := q) (n := n) h1
    unfold pileL at this
    rw [this, if_neg e]
    omega
theorem Tops.topped (h : AbeL M q es p) (ht : Tops M es p q n) (hv : v < M) (hc : canT M q es p n v = true) : topC (M : Int) es (pileL M es p q n) (q : Int) (v : Int) = pileL M es p q (addAt n v 1) ∧ Tops M es p q (addAt n v 1) := by
  have h1 := ht.can h hv
  rw [hc] at h1
  rw [topC_t h1]
  unfold canT at hc
  rw [decide_eq_true_eq] at hc
  exact ⟨pileL_more h hv, ht.step hv hc.1 hc.2⟩
theorem Tops.ended (h : AbeL M q es p) (ht : Tops M es p q n) (hc : ∀ v, v < M → canT M q es p n v = false) : n = settN M es p q := by
  refine (IsSet.eq h.pl.ed h.pl.hp ⟨ht, fun v hv hvq => ?_⟩).symm
  have := hc v hv
  unfold canT at this
  rw [decide_eq_false_iff_not] at this
  have h2 : ¬ valP es v ≤ Dv p es n v := fun e => this ⟨hvq, e⟩
  omega
theorem Tops.rounds (h : AbeL M q es p) (ht : Tops M es p q n) : 0 ≤ sumV n M ∧ sumV n M ≤ 750 := by
  have f := ht.facts h.pl.ed h.pl.hp
  refine ⟨sumV_nn f.2.1 M, ?_⟩
  have hm := h.m5
  have h2 : (6 : Int) * (M : Int) * (M : Int) ≤ 150 := by
    have : (M : Int) * (M : Int) ≤ 5 * 5 := Int.mul_le_mul (by omega) (by omega) (by omega) (by omega)
    rw [Int.mul_assoc]
    omega
  have h1 := sumV_le (f := n) (g := fun _ => 150) M fun u hu => by
    have := ht.cap h.pl.cut h.pl.ed (B := 6) (by omega) (fun u _ _ => h.six u) h.pl.qm u hu
    show n u ≤ 150
    omega
  rw [sumV_const] at h1
  omega
theorem AbeL.stable (h : AbeL M q es p) : stableB (M : Int) es (pileL M es p q (settN M es p q)) (q : Int) = true := by
  have hs := h.pl.ex
  have hn : unsF M q es (pileL M es p q (settN M es p q)) = none := by
    cases hu : unsF M q es (pileL M es p q (settN M es p q)) with
    | none => rfl
    | some v =>
      obtain ⟨h1, h2, h3⟩ := unsF_some hu
      rw [pileL_get h1, if_neg h2] at h3
      have := hs.stab v h1 h2
      omega
  unfold stableB
  rw [hs.tops.pile h, Int.toNat_natCast, Int.toNat_natCast, hn]
  rfl
end
end Go.Proofs.Ytndncmjhpbjcoaa
