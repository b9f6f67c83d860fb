/- laws.FnLegal, the plain facts: the vertices that do not burn are the greatest set that can be fired without debts. -/
import Derived.Test.YtbojbifpaecbcaaRedF
import Derived.Test.YtbojbifpaecbcaaBurnF
namespace Go.Proofs.Ytbojbifpaecbcaa
open Go.RowKit

section
variable {M : Nat} {es : List (Int × Int)} {d l : List Int} {q : Nat}
theorem setL_get {u : Nat} (l : List Int) (hu : u < M) : (setL M l).getD u 0 = addSet (fun _ => 0) (inL l) 1 u := by
  simp only [List.getD, setL_at l hu, Option.getD_some, addSet, inL, decide_eq_true_eq]
  split <;> omega
/-- the chips of a member of a set that fires -/
theorem fset_get (hes : ∀ e ∈ es, 0 ≤ e.1 ∧ e.1 < e.2 ∧ e.2 < (M : Int)) (hel : es.length ≤ 8) (hd : ∀ u, 0 ≤ d.getD u 0 ∧ d.getD u 0 ≤ 6) {v : Nat} (hv : v < M) (hm : (v : Int) ∈ l) : (firedB M es d (setL M l)).getD v 0 = d.getD v 0 - heat (fun x => !inL l x) v es := by
  have h1 : terms (setL M l) v es = -heat (fun x => !inL l x) v es := by
    rw [terms_F, termsF_congr (g := addSet (fun _ => 0) (inL l) 1) v es (fun e he => by
      obtain ⟨a1, a2, a3⟩ := hes e he
      exact ⟨setL_get l (by omega), setL_get l (by omega)⟩), addSet_in (fun _ => 0) (inL l) 1 (v := v) (by simp [inL, hm]) es (fun e he => ⟨(hes e he).1, (hes e he).2.1⟩), termsF_zero (fun _ => rfl)]
    omega
  have h2 := heat_cap (fun x => !inL l x) v es (fun e he => (hes e he).2.1)
  have h3 := (heat_lo (fun x => !inL l x) v es).1
  have h4 := hd v
  unfold firedB
  have h5 := chipsOf_get (M := M) (f := fun u => d.getD u 0 + terms (setL M l) u es) hv (by rw [h1]; omega)
  rw [h5.2, h1]
  omega
theorem legal_iff (hg : graphB (M : Int) es = true) (hel : es.length ≤ 8) (hdl : d.length = M) (hbd : ∀ x ∈ d, 0 ≤ x ∧ x ≤ 6) (hs : setOk (M : Int) l = true) : legalB (M : Int) es d l = true ↔ ∀ v : Nat, v < M → (v : Int) ∈ l → heat (fun x => !inL l x) v es ≤ d.getD v 0 := by
  have hes : ∀ e ∈ es, 0 ≤ e.1 ∧ e.1 < e.2 ∧ e.2 < (M : Int) := fun e he => all_edge (graphB_all hg).1 he
  have hd := getD_bound hbd (by omega) (by omega)
  have hok : fsetOk (M : Int) es d l = true := by
    unfold fsetOk
    rw [divB_of hg hdl (fun x hx => by have := hbd x hx; omega), hs]
    rfl
  rw [legalB_t hok, List.all_eq_true, fsetB_t hok, Int.toNat_natCast]
  constructor
  · intro h v hv hm
    have h1 := h (v : Int) hm
    rw [Int.toNat_natCast, fset_get hes hel hd hv hm] at h1
    simp only [posB, decide_eq_true_eq] at h1
    omega
  · intro h x hx
    obtain ⟨h1, h2⟩ := (setOk_all hs).1 x hx
    have hv : x.toNat < M := by omega
    have hm : ((x.toNat : Nat) : Int) ∈ l := by rw [show ((x.toNat : Nat) : Int) = x by omega]; exact hx
    rw [fset_get hes hel hd hv hm]
    have := h x.toNat hv hm
    simp only [posB, decide_eq_true_eq]
    omega
theorem filter_both (p : Nat → Bool) : ∀ n, ((List.range n).filter p).length + ((List.range n).filter fun v => !p v).length = n
  | 0 => rfl
  | n + 1 => by
    have ih := filter_both p n
    rw [List.range_succ, List.filter_append, List.filter_append, List.length_append, List.length_append]
    cases h : p n <;> simp [h] <;> omega
theorem burns_filter {bs : List Int} (hb : Burns M (q : Int) bs) : ((List.range M).filter fun (v : Nat) => inL bs (v : Int)).length = bs.length := by
  have h1 : (((List.range M).filter fun (v : Nat) => inL bs (v : Int)).map fun (v : Nat) => (v : Int)).length ≤ bs.length := by
    refine nodup_lenB _ bs ?_ fun x hx => ?_
    · have hnd : ((List.range M).filter fun (v : Nat) => inL bs (v : Int)).Nodup := List.nodup_range.sublist List.filter_sublist
      rw [List.nodup_iff_pairwise_ne] at hnd ⊢
      rw [List.pairwise_map]
      exact hnd.imp fun {a b} h e => h (Int.ofNat.inj e)
    · obtain ⟨v, hv, rfl⟩ := List.mem_map.1 hx
      have := (List.mem_filter.1 hv).2
      simpa [inL] using this
  have h2 : bs.length ≤ (((List.range M).filter fun (v : Nat) => inL bs (v : Int)).map fun (v : Nat) => (v : Int)).length := by
    refine nodup_lenB bs _ hb.nodup fun x hx => ?_
    have hx2 := hb.bound x hx
    exact List.mem_map.2 ⟨x.toNat, List.mem_filter.2 ⟨List.mem_range.2 (by omega), by simp [inL, show ((x.toNat : Nat) : Int) = x by omega, hx]⟩, by omega⟩
  rw [List.length_map] at h1 h2
  omega
theorem spared_count {bs : List Int} (hb : Burns M (q : Int) bs) : bs.length + (sparedL M bs).length = M := by
  have h1 := filter_both (fun (v : Nat) => inL bs (v : Int)) M
  rw [burns_filter hb] at h1
  unfold sparedL
  rw [List.length_map]
  exact h1
theorem spared_set (bs : List Int) : setOk (M : Int) (sparedL M bs) = true := by
  unfold setOk
  rw [decide_eq_true_eq]
  exact ⟨fun v hv => by have := sparedL_mem.1 hv; omega, sparedL_nodup M bs⟩
/-- what the law asks -/
structure LegLaw (M : Nat) (es : List (Int × Int)) (d : List Int) (q : Nat) : Prop where
  ok : burnOk (M : Int) es d (q : Int) = true
  len : (burnR (M : Int) es d (q : Int)).length + (mostB (M : Int) es d (q : Int)).length = M
  leg : legalB (M : Int) es d (mostB (M : Int) es d (q : Int)) = true
  noq : decide ((q : Int) ∈ mostB (M : Int) es d (q : Int)) = false
  most : ∀ l : List Int, setOk (M : Int) l = true → decide ((q : Int) ∈ l) = false → legalB (M : Int) es d l = true → ∀ x ∈ l, decide (x ∈ mostB (M : Int) es d (q : Int)) = true
theorem legLaw (hg : graphB (M : Int) es = true) (hel : es.length ≤ 8) (hdl : d.length = M) (hbd : ∀ x ∈ d, 0 ≤ x ∧ x ≤ 6) (hq : q < M) : LegLaw M es d q := by
  have hes : ∀ e ∈ es, 0 ≤ e.1 ∧ e.1 < e.2 ∧ e.2 < (M : Int) := fun e he => all_edge (graphB_all hg).1 he
  have hgd := getD_bound hbd (by omega) (by omega)
  have ok : burnOk (M : Int) es d (q : Int) = true := by
    unfold burnOk
    rw [divB_of hg hdl (fun x hx => by have := hbd x hx; omega), vB_t (by omega)]
    rfl
  have hnd : hasDebt d (q : Int) = false := (debtor_none fun v _ => by
    unfold debtAt
    have := hgd v
    simp only [Bool.and_eq_false_iff, decide_eq_false_iff_not]
    exact .inr (by omega)).2
  have hmo : mostB (M : Int) es d (q : Int) = sparedL M (burntL M es d (q : Int)) := by rw [mostB_t (by unfold mostOk; rw [ok, hnd]; rfl), Int.toNat_natCast]
  have hbr : burnR (M : Int) es d (q : Int) = burntL M es d (q : Int) := by rw [burnR_t ok, Int.toNat_natCast]
  have hq2 : 0 ≤ (q : Int) ∧ (q : Int) < (M : Int) := by omega
  obtain ⟨hb, hno⟩ := burntL_all (M := M) (es := es) (d := d) hq2
  refine ⟨ok, ?_, ?_, ?_, ?_⟩
  · rw [hmo, hbr]
    exact spared_count hb
  · rw [hmo, legal_iff hg hel hdl hbd (spared_set _)]
    intro v hv hm
    have h1 := nextV_no hno v hv
    have h2 : heat (fun x => !inL (sparedL M (burntL M es d (q : Int))) x) v es = heat (inL (burntL M es d (q : Int))) v es := heat_congr v es fun e he => by
      obtain ⟨a1, a2, a3⟩ := hes e he
      have key : ∀ x : Int, 0 ≤ x → x < (M : Int) → (!inL (sparedL M (burntL M es d (q : Int))) x) = inL (burntL M es d (q : Int)) x := fun x h0 h1 => by
        simp only [inL, sparedL_mem]
        by_cases hx : x ∈ burntL M es d (q : Int) <;> simp [hx, h0, h1]
      exact ⟨key e.1 (by omega) (by omega), key e.2 (by omega) (by omega)⟩
    rw [h2]
    have h3 : ¬ catchV es d (burntL M es d (q : Int)) v = true := by rw [h1]; decide
    rw [catchV_iff] at h3
    have h4 := (sparedL_mem.1 hm).2.2
    exact Int.not_lt.1 fun h => h3 ⟨h, h4⟩
  · rw [hmo, decide_eq_false_iff_not]
    intro h
    exact (sparedL_mem.1 h).2.2 hb.first
  · intro l hs hql hleg x hx
    rw [decide_eq_false_iff_not] at hql
    rw [legal_iff hg hel hdl hbd hs] at hleg
    obtain ⟨h1, h2⟩ := (setOk_all hs).1 x hx
    rw [hmo, decide_eq_true_eq]
    refine sparedL_mem.2 ⟨h1, h2, fun hbx => ?_⟩
    obtain ⟨v, hv, hA, hlt⟩ := burn_meets (M := M) (es := es) (d := d) hq2 (inL l) (by simpa [inL] using hql) ⟨x, hbx, by simpa [inL] using hx⟩
    have hA2 : (v : Int) ∈ l := by simpa [inL] using hA
    have := hleg v hv hA2
    omega
end
end Go.Proofs.Ytbojbifpaecbcaa
