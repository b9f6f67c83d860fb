/- laws.FnFires, the plain facts: the Laplacian times a script takes back what firing it gives. -/
import Derived.Test.YtcfhkaefjhcglaaLapT
import Derived.Test.YtcfhkaefjhcglaaBL
import Derived.Test.YtcfhkaefjhcglaaBN
namespace Go.Proofs.Ytcfhkaefjhcglaa
open Go.RowKit

section
variable {M : Nat}
def oneI (u a : Nat) : Int := if u = a then 1 else 0
/-- does the edge join v and w -/
def joinI (v w : Nat) (e : Int × Int) : Int := if v ≠ w ∧ e = (min (v : Int) (w : Int), max (v : Int) (w : Int)) then 1 else 0
def joinL (v w : Nat) : List (Int × Int) → Int
  | [] => 0
  | e :: l => joinI v w e + joinL v w l
theorem mult_join {v w : Nat} (hv : v < M) (hw : w < M) : ∀ es : List (Int × Int), multB (M : Int) es (v : Int) (w : Int) = joinL v w es
  | [] => by
    unfold multB joinL
    split <;> simp
  | e :: l => by
    have ih := mult_join hv hw l
    unfold multB at ih ⊢
    rw [joinL, ← ih]
    unfold joinI
    by_cases h : v = w
    · subst h
      simp
    · have hc : 0 ≤ (v : Int) ∧ (v : Int) < (M : Int) ∧ 0 ≤ (w : Int) ∧ (w : Int) < (M : Int) ∧ (v : Int) ≠ (w : Int) := by omega
      rw [if_pos hc, if_pos hc, List.count_cons]
      by_cases g : e = (min (v : Int) (w : Int), max (v : Int) (w : Int))
      · have hb : (e == (min (v : Int) (w : Int), max (v : Int) (w : Int))) = true := by rw [g]; exact beq_self_eq_true _
        rw [hb, if_pos rfl, if_pos ⟨h, g⟩]
        omega
      · have hb : (e == (min (v : Int) (w : Int), max (v : Int) (w : Int))) = false := by simpa using g
        rw [hb, if_neg (by decide), if_neg (fun x => g x.2)]
        omega
def endI (v : Nat) (e : Int × Int) : Int := if touch (v : Int) e = true then 1 else 0
def endIL (v : Nat) : List (Int × Int) → Int
  | [] => 0
  | e :: l => endI v e + endIL v l
theorem val_ends (v : Nat) : ∀ es : List (Int × Int), ((es.filter (touch (v : Int))).length : Int) = endIL v es
  | [] => rfl
  | e :: l => by
    have ih := val_ends v l
    rw [endIL, ← ih, List.filter_cons]
    unfold endI
    split
    · simp; omega
    · simp
/-- what an edge gives to an entry -/
def lapP (u v : Nat) (e : Int × Int) : Int := if u = v then endI u e else -joinI u v e
def lapL (u v : Nat) : List (Int × Int) → Int
  | [] => 0
  | e :: l => lapP u v e + lapL u v l
theorem lapL_same (u : Nat) : ∀ es, lapL u u es = endIL u es
  | [] => rfl
  | e :: l => by rw [lapL, lapL_same u l, endIL, lapP, if_pos rfl]
theorem lapL_other {u v : Nat} (h : u ≠ v) : ∀ es, lapL u v es = -joinL u v es
  | [] => rfl
  | e :: l => by rw [lapL, lapL_other h l, joinL, lapP, if_neg h]; omega
theorem lapE_L {u v : Nat} (hu : u < M) (hv : v < M) (es : List (Int × Int)) : lapE M es u v = lapL u v es := by
  unfold lapE
  by_cases h : u = v
  · subst h
    rw [if_pos rfl, valB_yes (vB_t (by omega)), val_ends, lapL_same]
  · rw [if_neg h, mult_join hu hv, lapL_other h]
theorem lapP_ind {u v a b : Nat} (hab : a < b) : lapP u v ((a : Int), (b : Int)) = (oneI u a - oneI u b) * ind v (a : Int) + (oneI u b - oneI u a) * ind v (b : Int) := by
  have hj : (u ≠ v ∧ ((a : Int), (b : Int)) = (min (u : Int) (v : Int), max (u : Int) (v : Int))) ↔ (u = a ∧ v = b) ∨ (u = b ∧ v = a) := by
    constructor
    · rintro ⟨g1, g2⟩
      injection g2 with g2 g3
      omega
    · rintro (⟨rfl, rfl⟩ | ⟨rfl, rfl⟩)
      · exact ⟨by omega, Prod.ext (by simp only; omega) (by simp only; omega)⟩
      · exact ⟨by omega, Prod.ext (by simp only; omega) (by simp only; omega)⟩
  have hi : ∀ x : Nat, ind v (x : Int) = oneI v x := fun x => by
    unfold ind oneI
    by_cases h : v = x
    · rw [if_pos h, if_pos (by omega)]
    · rw [if_neg h, if_neg (by omega)]
  rw [hi, hi]
  by_cases h : u = v
  · subst h
    unfold lapP endI touch oneI
    rw [if_pos rfl]
    by_cases h1 : u = a
    · subst h1
      rw [if_pos (by simp), if_pos rfl, if_neg (by omega)]
      rfl
    · by_cases h2 : u = b
      · subst h2
        rw [if_pos (by simp), if_neg h1, if_pos rfl]
        rfl
      · rw [if_neg, if_neg h1, if_neg h2]
        · rfl
        · simp only [Bool.or_eq_true, beq_iff_eq]
          omega
  · unfold lapP joinI
    rw [if_neg h]
    by_cases g : (u = a ∧ v = b) ∨ (u = b ∧ v = a)
    · rw [if_pos (hj.2 g)]
      rcases g with ⟨rfl, rfl⟩ | ⟨rfl, rfl⟩
      · simp [oneI, h, Ne.symm h]
      · simp [oneI, h, Ne.symm h]
    · rw [if_neg (fun x => g (hj.1 x))]
      unfold oneI
      by_cases h1 : u = a
      · subst h1
        have h2 : ¬ v = b := fun e => g (.inl ⟨rfl, e⟩)
        have h3 : ¬ v = u := fun e => h e.symm
        rw [if_neg h3, if_neg h2]
        simp
      · by_cases h4 : u = b
        · subst h4
          have h2 : ¬ v = a := fun e => g (.inr ⟨rfl, e⟩)
          have h3 : ¬ v = u := fun e => h e.symm
          rw [if_neg h3, if_neg h2]
          simp
        · rw [if_neg h1, if_neg h4]
          simp
theorem lap_sum {u : Nat} (t : Nat → Int) : ∀ es : List (Int × Int), (∀ e ∈ es, 0 ≤ e.1 ∧ e.1 < e.2 ∧ e.2 < (M : Int)) → sumV (fun v => lapL u v es * t v) M = -termsF t u es
  | [], _ => by
    simp only [lapL, termsF, Int.zero_mul, sumV_const]
    rfl
  | e :: l, h => by
    obtain ⟨h1, h2, h3⟩ := h e (by simp)
    have ih := lap_sum (u := u) t l (fun x hx => h x (by simp [hx]))
    obtain ⟨x, y⟩ := e
    simp only at h1 h2 h3
    obtain ⟨a, rfl⟩ : ∃ a : Nat, x = (a : Int) := ⟨x.toNat, by omega⟩
    obtain ⟨b, rfl⟩ : ∃ b : Nat, y = (b : Int) := ⟨y.toNat, by omega⟩
    have hp : ∀ v, v < M → lapL u v (((a : Int), (b : Int)) :: l) * t v = ((oneI u a - oneI u b) * t v) * ind v (a : Int) + ((oneI u b - oneI u a) * t v) * ind v (b : Int) + lapL u v l * t v := fun v _ => by
      rw [lapL, lapP_ind (by omega), Int.add_mul, Int.add_mul, Int.mul_assoc (oneI u a - oneI u b), Int.mul_comm (ind v (a : Int)), ← Int.mul_assoc (oneI u a - oneI u b), Int.mul_assoc (oneI u b - oneI u a), Int.mul_comm (ind v (b : Int)), ← Int.mul_assoc (oneI u b - oneI u a)]
    rw [sumV_congr M hp, sumV_add (fun v => ((oneI u a - oneI u b) * t v) * ind v (a : Int) + ((oneI u b - oneI u a) * t v) * ind v (b : Int)), sumV_add, sumV_ind (fun v => (oneI u a - oneI u b) * t v), sumV_ind (fun v => (oneI u b - oneI u a) * t v), ih, if_pos (by omega), if_pos (by omega), termsF, termF]
    simp only [Int.toNat_natCast]
    have hi : ∀ x : Nat, ind u (x : Int) = oneI u x := fun x => by
      unfold ind oneI
      by_cases h : u = x
      · rw [if_pos h, if_pos (by omega)]
      · rw [if_neg h, if_neg (by omega)]
    rw [hi, hi]
    simp only [Int.sub_mul, Int.mul_sub]
    omega
theorem lapL_bound (u v : Nat) : ∀ es : List (Int × Int), -(es.length : Int) ≤ lapL u v es ∧ lapL u v es ≤ es.length
  | [] => ⟨by simp [lapL], by simp [lapL]⟩
  | e :: l => by
    have ih := lapL_bound u v l
    have h : -1 ≤ lapP u v e ∧ lapP u v e ≤ 1 := by
      unfold lapP endI joinI
      split
      · split <;> omega
      · split <;> omega
    rw [lapL, List.length_cons]
    omega
theorem mul_small {a b : Int} (h1 : -8 ≤ a ∧ a ≤ 8) (h2 : -3 ≤ b ∧ b ≤ 3) : -24 ≤ a * b ∧ a * b ≤ 24 := by
  have h : b = -3 ∨ b = -2 ∨ b = -1 ∨ b = 0 ∨ b = 1 ∨ b = 2 ∨ b = 3 := by omega
  rcases h with rfl | rfl | rfl | rfl | rfl | rfl | rfl <;> omega
theorem dot_sum {r x : List Int} (h1 : ∀ v, -8 ≤ r.getD v 0 ∧ r.getD v 0 ≤ 8) (h2 : ∀ v, -3 ≤ x.getD v 0 ∧ x.getD v 0 ≤ 3) : ∀ j : Nat, j ≤ 1000 → dot r x j = sumV (fun v => r.getD v 0 * x.getD v 0) j ∧ -(24 * (j : Int)) ≤ dot r x j ∧ dot r x j ≤ 24 * (j : Int)
  | 0, _ => by simp [dot, sumV]
  | j + 1, hj => by
    obtain ⟨q1, q2, q3⟩ := dot_sum h1 h2 j (by omega)
    have q4 := mul_small (h1 j) (h2 j)
    rw [dot, wrap64_of (n := r.getD j 0 * x.getD j 0) (by omega) (by omega), wrap64_of (by omega) (by omega), sumV, ← q1]
    refine ⟨rfl, ?_, ?_⟩ <;> omega
theorem lap_times {es : List (Int × Int)} {t : List Int} (hg : graphB (M : Int) es = true) (hM5 : M ≤ 5) (hel : es.length ≤ 8) (htl : t.length = M) (hbt : ∀ x ∈ t, -3 ≤ x ∧ x ≤ 3) :
    (timesB (lapB (M : Int) es) t).length = M ∧ ∀ u, u < M → (timesB (lapB (M : Int) es) t)[u]? = some (-termsF (fun i => t.getD i 0) u es) := by
  have hes : ∀ e ∈ es, 0 ≤ e.1 ∧ e.1 < e.2 ∧ e.2 < (M : Int) := fun e he => all_edge (graphB_all hg).1 he
  have hL : lapB (M : Int) es = lapM M es := by rw [lapB_t hg, Int.toNat_natCast]
  have hent : ∀ u v, u < M → v < M → -8 ≤ lapE M es u v ∧ lapE M es u v ≤ 8 := fun u v hu hv => by
    have := lapL_bound u v es
    rw [lapE_L hu hv]
    omega
  have hrow : ∀ u, u < M → ∀ v, -8 ≤ (lapR M es u).getD v 0 ∧ (lapR M es u).getD v 0 ≤ 8 := fun u hu v => by
    by_cases hv : v < M
    · have := hent u v hu hv
      simp only [List.getD, lapR_at es u hv, Option.getD_some]
      exact this
    · rw [List.getD, List.getElem?_eq_none (by rw [lapR_len]; omega)]
      simp
  have hm : matB (lapM M es) = true := by
    unfold matB
    rw [Bool.and_eq_true, decide_eq_true_eq, List.all_eq_true, lapM_len]
    refine ⟨by omega, fun r hr => ?_⟩
    obtain ⟨u, hu⟩ := List.getElem?_of_mem hr
    have hul : u < M := by have := (List.getElem?_eq_some_iff.1 hu).1; rwa [lapM_len] at this
    rw [lapM_at es hul] at hu
    injection hu with hu
    subst hu
    unfold rowOk
    rw [Bool.and_eq_true, decide_eq_true_eq, List.all_eq_true]
    refine ⟨lapR_len _ _ _, fun x hx => ?_⟩
    obtain ⟨v, hv⟩ := List.getElem?_of_mem hx
    have h9 := hrow u hul v
    simp only [List.getD, hv, Option.getD_some] at h9
    unfold entryOk
    rw [Bool.and_eq_true, decide_eq_true_eq, decide_eq_true_eq]
    omega
  have hT : timesB (lapB (M : Int) es) t = (lapM M es).map fun r => dot r t M := by
    rw [hL, timesB_yes hm (by rw [lapM_len, htl]), lapM_len]
  refine ⟨by rw [hT, List.length_map, lapM_len], fun u hu => ?_⟩
  rw [hT, List.getElem?_map, lapM_at es hu, Option.map_some]
  have h2 := getD_boundC hbt (by omega) (by omega)
  rw [(dot_sum (hrow u hu) h2 M (by omega)).1, sumV_congr M (g := fun v => lapL u v es * t.getD v 0) (fun v hv => by
    rw [show (lapR M es u).getD v 0 = lapE M es u v by simp only [List.getD, lapR_at es u hv, Option.getD_some], lapE_L hu hv]), lap_sum (fun i => t.getD i 0) es hes]
end
def allV (M : Nat) : List Int := (List.range M).map fun (n : Nat) => (n : Int)
theorem allV_at {M k : Nat} (h : k < M) : (allV M)[k]? = some (k : Int) := by simp [allV, h]
theorem allV_len (M : Nat) : (allV M).length = M := by simp [allV]
structure FirF (M : Nat) (es : List (Int × Int)) (d t e p : List Int) : Prop where
  tok : fireOk (M : Int) es d t = true
  tb : fireB (M : Int) es d t = e
  el : e.length = M
  sok : divB 100000 (M : Int) es t = true
  nl : (negB t).length = M
  bok : fireOk (M : Int) es e (negB t) = true
  bb : fireB (M : Int) es e (negB t) = d
  aok : fsetOk (M : Int) es d (allV M) = true
  ab : fsetB (M : Int) es d (allV M) = d
  pl : p.length = M
  sl : sameLen e p = true
  sum : addB e p = d
  deg : degB e e.length = degB d d.length
  eqv : eqvB (M : Int) es d e = true
theorem firF {M : Nat} {es : List (Int × Int)} {d t : List Int} (hg : graphB (M : Int) es = true) (hM0 : 0 < M) (hM5 : M ≤ 5) (hel : es.length ≤ 8) (hdl : d.length = M) (hbd : ∀ x ∈ d, -2 ≤ x ∧ x ≤ 6) (htl : t.length = M) (hbt : ∀ x ∈ t, -3 ≤ x ∧ x ≤ 3) (hex : ∃ f, IsRed M es d 0 f) :
    FirF M es d t (firedB M es d t) (timesB (lapB (M : Int) es) t) := by
  have F := fireCls hg hM0 hM5 hel hdl hbd htl hbt hex
  obtain ⟨e, he⟩ : ∃ e, e = firedB M es d t := ⟨_, rfl⟩
  rw [← he] at F ⊢
  have hes : ∀ e ∈ es, 0 ≤ e.1 ∧ e.1 < e.2 ∧ e.2 < (M : Int) := fun e he => all_edge (graphB_all hg).1 he
  have hneg : negB t = t.map (- ·) := by
    unfold negB
    refine List.map_congr_left fun x hx => ?_
    have := hbt x hx
    exact wrap64_of (by omega) (by omega)
  have hbn : ∀ x ∈ t.map (- ·), -100000 ≤ x ∧ x ≤ 100000 := fun x hx => by
    obtain ⟨y, hy, rfl⟩ := List.mem_map.1 hx
    have := hbt y hy
    omega
  have tok : fireOk (M : Int) es d t = true := by unfold fireOk; rw [F.ddiv, F.tdiv]; rfl
  have bok : fireOk (M : Int) es e (negB t) = true := by
    unfold fireOk
    rw [F.div, hneg, divB_ofC hg (by rw [List.length_map, htl]) hbn]
    rfl
  have aok : fsetOk (M : Int) es d (allV M) = true := by
    unfold fsetOk setOk
    rw [F.ddiv, Bool.true_and, decide_eq_true_eq]
    refine ⟨fun v hv => ?_, ?_⟩
    · unfold allV at hv
      obtain ⟨n, hn, rfl⟩ := List.mem_map.1 hv
      rw [List.mem_range] at hn
      omega
    · unfold allV
      exact List.Pairwise.map _ (fun a b h => by simp only [ne_eq]; omega) List.nodup_range
  obtain ⟨pl, pa⟩ := lap_times hg hM5 hel htl hbt
  have hsl : e.length = (timesB (lapB (M : Int) es) t).length := by rw [F.len, pl]
  refine ⟨tok, ?_, F.len, F.tdiv, by rw [negB_length, htl], bok, ?_, aok, ?_, pl, by unfold sameLen; rw [decide_eq_true_eq]; exact hsl, ?_, F.deg, F.eqv⟩
  · rw [fireB_t tok, Int.toNat_natCast, he]
  · rw [fireB_t bok, Int.toNat_natCast, hneg]
    exact fire_back F hdl hbd htl
  · rw [fsetB_t aok, Int.toNat_natCast]
    exact fire_every hes hdl hbd (fun u hu => List.mem_of_getElem? (allV_at hu))
  · unfold addB
    rw [if_pos hsl]
    apply List.ext_getElem?
    intro u
    by_cases hu : u < M
    · have h1 : e[u]? = some (e.getD u 0) := by simp [List.getD, F.len, hu]
      have h2 : d[u]? = some (d.getD u 0) := by simp [List.getD, hdl, hu]
      have h3 := getD_boundC hbd (by omega) (by omega) u
      rw [sumsB_at h1 (pa u hu), h2, F.get u hu]
      unfold Dv
      rw [show d.getD u 0 + termsF (fun i => t.getD i 0) u es + -termsF (fun i => t.getD i 0) u es = d.getD u 0 by omega, wrap64_of (by omega) (by omega)]
    · rw [List.getElem?_eq_none (by rw [sumsB_length, F.len]; omega), List.getElem?_eq_none (by omega)]
end Go.Proofs.Ytcfhkaefjhcglaa
