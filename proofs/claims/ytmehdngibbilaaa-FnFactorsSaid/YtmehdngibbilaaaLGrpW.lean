/- The classes of degree 0 out of the effective divisors of the degree of the genus. -/
import Derived.Test.YtmehdngibbilaaaLEffP
import Derived.Test.YtmehdngibbilaaaLBR
import Derived.Test.YtmehdngibbilaaaLBP
namespace Go.Proofs.Ytmehdngibbilaaa
open Go.RowKit

theorem sum_sumN : ∀ l : List Int, l.sum = sumN l.length (gt l)
  | [] => rfl
  | x :: l => by
    rw [List.sum_cons, List.length_cons, sumN_first, sum_sumN l]
    rfl
theorem lex_less : ∀ {a b : List Int}, lexLt a b → lessL a b = true
  | x :: a, y :: b, h => by
    rw [lessL]
    rcases h with h | ⟨rfl, h⟩
    · rw [if_neg (by omega), decide_eq_true_eq]
      exact h
    · rw [if_pos rfl]
      exact lex_less h
  | [], _, h => by simp [lexLt] at h
  | _ :: _, [], h => by simp [lexLt] at h
def lowC (k : Int) (r : List Int) : List Int := r.set 0 (gt r 0 - k)
theorem lowC_gt {k : Int} {r : List Int} (hl : 0 < r.length) (u : Nat) : gt (lowC k r) u = if u = 0 then gt r 0 - k else gt r u := by
  unfold gt lowC
  rw [List.getD, List.getElem?_set]
  by_cases h0 : u = 0
  · subst h0
    rw [if_pos rfl, if_pos hl, if_pos rfl]
    rfl
  · rw [if_neg (fun h => h0 h.symm), if_neg h0]
    rfl
theorem lowC_len (k : Int) (r : List Int) : (lowC k r).length = r.length := by simp [lowC]
theorem lowC_less {k : Int} : ∀ {a b : List Int}, lessL a b = true → lessL (lowC k a) (lowC k b) = true
  | x :: a, y :: b, h => by
    have e1 : lowC k (x :: a) = (x - k) :: a := rfl
    have e2 : lowC k (y :: b) = (y - k) :: b := rfl
    rw [e1, e2, lessL]
    rw [lessL] at h
    by_cases e : x = y
    · subst e
      rw [if_pos rfl] at h ⊢
      exact h
    · rw [if_neg e, decide_eq_true_eq] at h
      rw [if_neg (by omega), decide_eq_true_eq]
      omega
  | [], _, h => by simp [lessL] at h
  | _ :: _, [], h => by simp [lessL] at h
def burnsB (M : Nat) (es : List (Int × Int)) (d : List Int) : Bool := decide ((burntL M es d 0).length = M)
def effC (m : Nat) (es : List (Int × Int)) (k : Int) (t : Nat) : List (List Int) := (((effB (m + 1) k).take t).map (lowC k)).filter (burnsB (m + 1) es)
section
variable {m : Nat} {es : List (Int × Int)}
theorem effC_step {k : Int} {t : Nat} {r : List Int} (h : (effB (m + 1) k)[t]? = some r) : effC m es k (t + 1) = effC m es k t ++ if burnsB (m + 1) es (lowC k r) = true then [lowC k r] else [] := by
  rw [effC, effC, List.take_add_one, h, List.map_append, List.filter_append]
  cases hb : burnsB (m + 1) es (lowC k r) <;> simp [hb]
theorem effC_len (k : Int) (t : Nat) : (effC m es k t).length ≤ t := by
  unfold effC
  refine Nat.le_trans (List.length_filter_le _ _) ?_
  rw [List.length_map, List.length_take]
  omega
theorem few_edges (hG : GrL m es) (w : World) : m ≤ es.length := by
  have h := rie_all (q := 0) (by omega) (fun e he => (hG.ed e he).2.1) ((hG.gxw w).none).all
  have h1 : sumN (m + 1) (fun u => (List.replicate (m + 1) (0 : Int)).getD u 0) = 0 := ZerL.none.sum
  have h2 : (List.replicate (m + 1) (0 : Int)).getD 0 0 = 0 := gt_rep (m + 1) 0
  omega
theorem eff_cls (hG : GrL m es) (w : World) : IsCls m es (effC m es ((es.length - m : Nat) : Int) (effB (m + 1) ((es.length - m : Nat) : Int)).length) := by
  have hm := few_edges hG w
  obtain ⟨k, hk⟩ : ∃ k, k = es.length - m := ⟨_, rfl⟩
  rw [← hk]
  unfold effC
  rw [List.take_length]
  constructor
  · refine List.Pairwise.filter _ (List.pairwise_map.2 ?_)
    exact (effB_sorted (m + 1) (k : Int)).imp fun h => lowC_less (lex_less h)
  · intro x
    rw [List.mem_filter, List.mem_map]
    constructor
    · rintro ⟨⟨r, hr, rfl⟩, hb⟩
      obtain ⟨hl, hp⟩ := effB_mem _ _ r hr
      have hs := effB_sum _ _ r hr
      rw [sum_sumN, hl] at hs
      obtain ⟨h1, h2, h3⟩ := sink_set hl
      rw [hs] at h1 h2 h3
      refine ⟨⟨h1, fun u hu hne => ?_, ?_⟩, h3⟩
      · have h4 := h2 u hne
        have h5 := hp r[u] (List.getElem_mem (by omega))
        show 0 ≤ gt (lowC (k : Int) r) u
        rw [show gt (lowC (k : Int) r) u = gt r u from h4]
        have h6 : gt r u = r[u] := by simp [gt, List.getD, show u < r.length by omega]
        omega
      · unfold burnsB at hb
        rw [decide_eq_true_eq] at hb
        exact hb
    · intro hx
      have hl := hx.1.len
      have hlow := rie_all (q := 0) (by omega) (fun e he => (hG.ed e he).2.1) hx.1.all
      have hs := hx.2
      have hs2 : sumN (m + 1) (fun u => x.getD u 0) = 0 := hs
      obtain ⟨r, hr⟩ : ∃ r, r = lowC (-(k : Int)) x := ⟨_, rfl⟩
      have hrl : r.length = m + 1 := by rw [hr, lowC_len, hl]
      have hg : ∀ u, gt r u = if u = 0 then gt x 0 + k else gt x u := fun u => by
        rw [hr, lowC_gt (by omega)]
        split <;> omega
      have hpos : ∀ y ∈ r, 0 ≤ y := fun y hy => by
        obtain ⟨u, hu, rfl⟩ := List.mem_iff_getElem.1 hy
        have h6 : gt r u = r[u] := by simp [gt, List.getD, hu]
        rw [← h6, hg]
        by_cases h0 : u = 0
        · rw [if_pos h0]
          unfold gt
          omega
        · rw [if_neg h0]
          exact hx.1.pos u (by omega) h0
      have hsum : r.sum = (k : Int) := by
        rw [sum_sumN, hrl]
        have e : sumN (m + 1) (gt r) = sumN (m + 1) fun u => gt x u + (if u = 0 then (k : Int) else 0) := sumN_congr _ fun u _ => by
          rw [hg]
          by_cases h0 : u = 0
          · subst h0; simp
          · simp [h0]
        rw [e, sumN_add, hs, sumN_one (f := fun u => if u = 0 then (k : Int) else 0) (a := 0) (m + 1) (by omega) (fun i _ hi => by simp [hi])]
        simp
      have hxr : lowC (k : Int) r = x := ext_gt (m := m) (by rw [lowC_len, hrl]) hl fun u hu => by
        rw [lowC_gt (by omega), hg, hg]
        by_cases h0 : u = 0
        · subst h0; simp
        · simp [h0]
      exact ⟨⟨r, effB_in m _ r hrl hpos hsum, hxr⟩, by unfold burnsB; rw [decide_eq_true_eq]; exact hx.1.all⟩
theorem effB_lenX : ∀ (n : Nat) (k K : Nat), k ≤ K → (effB (n + 1) (k : Int)).length ≤ (K + 1) ^ n
  | 0, k, K, _ => by rw [effB_one (by omega)]; simp
  | n + 1, k, K, hk => by
    rw [effB_two]
    have h := effTo_len (n := n) (k := (k : Int)) (B := (K + 1) ^ n) (fun x => by
      by_cases hx : x ≤ k
      · have e : (k : Int) - (x : Int) = ((k - x : Nat) : Int) := by omega
        rw [e]
        exact effB_lenX n (k - x) K (by omega)
      · rw [effB_neg (by omega)]
        simp) (k + 1)
    have h2 : (k + 1) * (K + 1) ^ n ≤ (K + 1) * (K + 1) ^ n := Nat.mul_le_mul_right _ (by omega)
    rw [Nat.pow_succ, Nat.mul_comm ((K + 1) ^ n)]
    omega
theorem effG_few (hG : GrL m es) : (effB (m + 1) ((es.length - m : Nat) : Int)).length ≤ 371293 := by
  have h1 := hG.m5
  have h2 := hG.n12
  have h := effB_lenX m (es.length - m) 12 (by omega)
  have h3 : (12 + 1) ^ m ≤ (12 + 1) ^ 5 := Nat.pow_le_pow_right (by omega) h1
  have h4 : (12 + 1) ^ 5 = 371293 := by decide
  omega
end
end Go.Proofs.Ytmehdngibbilaaa
