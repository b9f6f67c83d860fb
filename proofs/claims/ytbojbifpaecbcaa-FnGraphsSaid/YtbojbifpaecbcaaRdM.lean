/- Reducing, the plain math: weights, the two phases, and that there is one reduced divisor only. -/
import Derived.Test.YtbojbifpaecbcaaBurnM
namespace Go.Proofs.Ytbojbifpaecbcaa
open Go.RowKit

def sumV (f : Nat → Int) : Nat → Int
  | 0 => 0
  | k + 1 => sumV f k + f k
theorem sumV_congr {f g : Nat → Int} : ∀ k, (∀ u, u < k → f u = g u) → sumV f k = sumV g k
  | 0, _ => rfl
  | k + 1, h => by rw [sumV, sumV, sumV_congr k (fun u hu => h u (by omega)), h k (by omega)]
theorem sumV_add (f g : Nat → Int) : ∀ k, sumV (fun u => f u + g u) k = sumV f k + sumV g k
  | 0 => rfl
  | k + 1 => by simp only [sumV, sumV_add f g k]; omega
theorem sumV_mul (c : Int) (f : Nat → Int) : ∀ k, sumV (fun u => c * f u) k = c * sumV f k
  | 0 => by simp [sumV]
  | k + 1 => by simp only [sumV, sumV_mul c f k, Int.mul_add]
theorem sumV_le {f g : Nat → Int} : ∀ k, (∀ u, u < k → f u ≤ g u) → sumV f k ≤ sumV g k
  | 0, _ => Int.le_refl _
  | k + 1, h => by
    have h1 := sumV_le k (fun u hu => h u (by omega))
    have h2 := h k (by omega)
    simp only [sumV]
    omega
theorem sumV_const (c : Int) : ∀ k : Nat, sumV (fun _ => c) k = c * (k : Int)
  | 0 => by simp [sumV]
  | k + 1 => by simp only [sumV, sumV_const c k, Int.natCast_add, Int.mul_add]; simp
theorem sumV_ind (c : Nat → Int) (a : Nat) : ∀ k, sumV (fun u => c u * ind u (a : Int)) k = if a < k then c a else 0
  | 0 => by simp [sumV]
  | k + 1 => by
    rw [sumV, sumV_ind c a k]
    by_cases e : k = a
    · subst e
      have : ind k (k : Int) = 1 := by simp [ind]
      rw [if_neg (by omega), if_pos (by omega), this]
      simp
    · have : ind k (a : Int) = 0 := by unfold ind; rw [if_neg (by omega)]
      have e2 : (a < k + 1) = (a < k) := by apply propext; omega
      rw [this]
      simp only [e2, Int.mul_zero, Int.add_zero]
theorem sumV_addAt (f : Nat → Int) (v : Nat) (t : Int) : ∀ k, sumV (addAt f v t) k = sumV f k + if v < k then t else 0
  | 0 => by simp [sumV]
  | k + 1 => by
    rw [sumV, sumV, sumV_addAt f v t k]
    by_cases e : k = v
    · subst e
      rw [if_neg (by omega), if_pos (by omega), addAt, if_pos rfl]
      omega
    · have e2 : (v < k + 1) = (v < k) := by apply propext; omega
      rw [addAt, if_neg e]
      simp only [e2]
      omega

def termF (f : Nat → Int) (u : Nat) (e : Int × Int) : Int := ind u e.1 * (f e.2.toNat - f e.1.toNat) + ind u e.2 * (f e.1.toNat - f e.2.toNat)
def termsF (f : Nat → Int) (u : Nat) : List (Int × Int) → Int
  | [] => 0
  | e :: l => termF f u e + termsF f u l
theorem terms_F (s : List Int) (u : Nat) : ∀ es, terms s u es = termsF (fun i => s.getD i 0) u es
  | [] => rfl
  | e :: l => by rw [terms, termsF, terms_F s u l]; rfl
theorem termsF_congr {f g : Nat → Int} (u : Nat) : ∀ es : List (Int × Int), (∀ e ∈ es, f e.1.toNat = g e.1.toNat ∧ f e.2.toNat = g e.2.toNat) → termsF f u es = termsF g u es
  | [], _ => rfl
  | e :: l, h => by
    have h1 := h e (by simp)
    rw [termsF, termsF, termsF_congr u l (fun x hx => h x (by simp [hx])), termF, termF, h1.1, h1.2]
theorem termsF_zero {f : Nat → Int} (h : ∀ u, f u = 0) (u : Nat) : ∀ es : List (Int × Int), termsF f u es = 0
  | [] => rfl
  | e :: l => by rw [termsF, termsF_zero h u l, termF, h, h]; simp
theorem termsF_add (f g : Nat → Int) (u : Nat) : ∀ es : List (Int × Int), termsF (fun i => f i + g i) u es = termsF f u es + termsF g u es
  | [] => rfl
  | e :: l => by
    simp only [termsF, termF, termsF_add f g u l, Int.mul_sub, Int.mul_add]
    omega
theorem termsF_addAt (f : Nat → Int) (v : Nat) (t : Int) (u : Nat) : ∀ es : List (Int × Int), (∀ e ∈ es, 0 ≤ e.1 ∧ e.1 < e.2) → termsF (addAt f v t) u es = termsF f u es + t * nets (v : Int) u es
  | [], _ => by simp [termsF, nets]
  | e :: l, h => by
    obtain ⟨h1, h2⟩ := h e (by simp)
    have ih := termsF_addAt f v t u l (fun x hx => h x (by simp [hx]))
    obtain ⟨x, y⟩ := e
    simp only at h1 h2
    obtain ⟨a, rfl⟩ : ∃ a : Nat, x = (a : Int) := ⟨x.toNat, by omega⟩
    obtain ⟨b, rfl⟩ : ∃ b : Nat, y = (b : Int) := ⟨y.toNat, by omega⟩
    have hab : a ≠ b := by omega
    have key : termF (addAt f v t) u ((a : Int), (b : Int)) = termF f u ((a : Int), (b : Int)) + t * net (v : Int) u ((a : Int), (b : Int)) := by
      simp only [termF, net, addAt, Int.toNat_natCast]
      by_cases e1 : v = a
      · subst e1
        rw [if_neg (Ne.symm hab), if_pos rfl, if_pos rfl]
        have q1 := Int.mul_comm t (ind u (v : Int))
        have q2 := Int.mul_comm t (ind u (b : Int))
        simp only [Int.mul_sub, Int.mul_add]
        omega
      · by_cases e2 : v = b
        · subst e2
          rw [if_pos rfl, if_neg (Ne.symm e1), if_neg (by omega), if_pos rfl]
          have q1 := Int.mul_comm t (ind u (v : Int))
          have q2 := Int.mul_comm t (ind u (a : Int))
          simp only [Int.mul_sub, Int.mul_add]
          omega
        · rw [if_neg (Ne.symm e1), if_neg (Ne.symm e2), if_neg (by omega), if_neg (by omega)]
          simp
    rw [termsF, termsF, nets, key, ih, Int.mul_add]
    omega
theorem dual_e (σ f : Nat → Int) {M a b : Nat} (ha : a < M) (hb : b < M) : sumV (fun u => σ u * termF f u ((a : Int), (b : Int))) M = σ a * (f b - f a) + σ b * (f a - f b) := by
  have h1 : ∀ u, σ u * termF f u ((a : Int), (b : Int)) = (σ u * (f b - f a)) * ind u (a : Int) + (σ u * (f a - f b)) * ind u (b : Int) := fun u => by
    simp only [termF, Int.toNat_natCast, Int.mul_add]
    rw [← Int.mul_assoc, Int.mul_assoc (σ u), Int.mul_comm (ind u (a : Int)), ← Int.mul_assoc, Int.mul_comm (ind u (b : Int)), ← Int.mul_assoc]
  rw [sumV_congr M (fun u _ => h1 u), sumV_add, sumV_ind, sumV_ind, if_pos ha, if_pos hb]
theorem dual_p (σ f : Nat → Int) (M : Nat) : ∀ es : List (Int × Int), (∀ e ∈ es, 0 ≤ e.1 ∧ e.1 < e.2 ∧ e.2 < (M : Int)) → sumV (fun u => σ u * termsF f u es) M = sumV (fun u => f u * termsF σ u es) M
  | [], _ => by simp [termsF, sumV_const]
  | e :: l, h => by
    obtain ⟨h1, h2, h3⟩ := h e (by simp)
    have ih := dual_p σ f M l (fun x hx => h x (by simp [hx]))
    obtain ⟨x, y⟩ := e
    simp only at h1 h2 h3
    obtain ⟨a, rfl⟩ : ∃ a : Nat, x = (a : Int) := ⟨x.toNat, by omega⟩
    obtain ⟨b, rfl⟩ : ∃ b : Nat, y = (b : Int) := ⟨y.toNat, by omega⟩
    simp only [termsF, Int.mul_add]
    rw [sumV_add, sumV_add, ih, dual_e σ f (by omega) (by omega), dual_e f σ (by omega) (by omega)]
    have q1 := Int.mul_comm (f a) (σ a)
    have q2 := Int.mul_comm (f a) (σ b)
    have q3 := Int.mul_comm (f b) (σ a)
    have q4 := Int.mul_comm (f b) (σ b)
    simp only [Int.mul_sub]
    omega
theorem nets_self (v : Nat) : ∀ es : List (Int × Int), (∀ e ∈ es, e.1 < e.2) → -(es.length : Int) ≤ nets (v : Int) v es ∧ nets (v : Int) v es ≤ 0
  | [], _ => by simp [nets]
  | e :: l, h => by
    have h1 := h e (by simp)
    have ih := nets_self v l (fun x hx => h x (by simp [hx]))
    have key : -1 ≤ net (v : Int) v e ∧ net (v : Int) v e ≤ 0 := by
      unfold net ind
      repeat' split
      all_goals omega
    simp only [nets, List.length_cons]
    omega
theorem nets_other (v u : Nat) (hu : u ≠ v) : ∀ es : List (Int × Int), 0 ≤ nets (v : Int) u es
  | [] => by simp [nets]
  | e :: l => by
    have ih := nets_other v u hu l
    have key : 0 ≤ net (v : Int) u e := by
      have h1 := ind_01 u e.1
      have h2 := ind_01 u e.2
      unfold net
      split
      · rename_i h
        have : ind u e.1 = 0 := by unfold ind; rw [if_neg (by omega)]
        omega
      · split
        · rename_i h
          have : ind u e.2 = 0 := by unfold ind; rw [if_neg (by omega)]
          omega
        · omega
    simp only [nets]
    omega
theorem heat_pos {p : Int → Bool} {u : Nat} : ∀ {es : List (Int × Int)}, 0 < heat p u es → ∃ e ∈ es, ((u : Int) = e.1 ∧ p e.2 = true) ∨ ((u : Int) = e.2 ∧ p e.1 = true)
  | [], h => by simp [heat] at h
  | e :: l, h => by
    by_cases h1 : 0 < heat p u l
    · obtain ⟨x, hx, h2⟩ := heat_pos h1
      exact ⟨x, by simp [hx], h2⟩
    · refine ⟨e, by simp, ?_⟩
      have h2 := (heat_lo p u l).1
      have h3 : 0 < heatE p u e := by simp only [heat] at h; omega
      unfold heatE ind at h3
      by_cases a1 : (u : Int) = e.1 ∧ p e.2 = true
      · exact .inl a1
      · by_cases a2 : (u : Int) = e.2 ∧ p e.1 = true
        · exact .inr a2
        · exfalso
          revert h3
          by_cases b1 : (u : Int) = e.1 <;> by_cases b2 : (u : Int) = e.2 <;> simp_all
theorem heat_no {p : Int → Bool} {u : Nat} : ∀ {es : List (Int × Int)}, heat p u es ≤ 0 → ∀ e ∈ es, ¬ ((u : Int) = e.1 ∧ p e.2 = true) ∧ ¬ ((u : Int) = e.2 ∧ p e.1 = true)
  | [], _, e, he => by simp at he
  | e :: l, h, x, hx => by
    have h1 := (heat_lo p u l).1
    have h2 := (heatE_01 p u e).1
    simp only [heat] at h
    rw [List.mem_cons] at hx
    rcases hx with rfl | hx
    · have h3 : heatE p u x ≤ 0 := by omega
      unfold heatE ind at h3
      refine ⟨fun ⟨g1, g2⟩ => ?_, fun ⟨g1, g2⟩ => ?_⟩
      · rw [if_pos g2, if_pos g1] at h3
        revert h3
        split <;> (try split) <;> omega
      · rw [if_pos g2, if_pos g1] at h3
        revert h3
        split <;> (try split) <;> omega
    · exact heat_no (by omega) x hx

/-- every cut has an edge -/
def Cut (M : Nat) (es : List (Int × Int)) : Prop := ∀ p : Int → Bool, (∃ x, 0 ≤ x ∧ x < (M : Int) ∧ p x = true) → (∃ x, 0 ≤ x ∧ x < (M : Int) ∧ p x = false) → ∃ e ∈ es, p e.1 ≠ p e.2
/-- a fire with no heat beyond it burns all -/
theorem Cut.all {M : Nat} {es : List (Int × Int)} (hc : Cut M es) (hes : ∀ e ∈ es, 0 ≤ e.1 ∧ e.1 < e.2 ∧ e.2 < (M : Int)) {q : Int} {ord : List Int} (hb : Burns M q ord) (h : ∀ v : Nat, v < M → ¬ (v : Int) ∈ ord → heat (inL ord) v es ≤ 0) (v : Nat) (hv : v < M) : (v : Int) ∈ ord := by
  apply Classical.byContradiction
  intro hn
  have hq := hb.bound q hb.first
  obtain ⟨e, he, hne⟩ := hc (inL ord) ⟨q, hq.1, hq.2, by simp [inL, hb.first]⟩ ⟨(v : Int), by omega, by omega, by simp [inL, hn]⟩
  obtain ⟨h1, h2, h3⟩ := hes e he
  cases p1 : inL ord e.1 with
  | true =>
    have p2 : inL ord e.2 = false := by rw [p1] at hne; cases h : inL ord e.2 <;> simp_all
    have := (heat_no (h e.2.toNat (by omega) (by rw [show ((e.2.toNat : Nat) : Int) = e.2 by omega]; simpa [inL] using p2)) e he).2
    exact this ⟨by omega, p1⟩
  | false =>
    have p2 : inL ord e.2 = true := by rw [p1] at hne; cases h : inL ord e.2 <;> simp_all
    have := (heat_no (h e.1.toNat (by omega) (by rw [show ((e.1.toNat : Nat) : Int) = e.1 by omega]; simpa [inL] using p1)) e he).1
    exact this ⟨by omega, p2⟩

def idx (x : Int) : List Int → Nat
  | [] => 0
  | y :: l => if y = x then 0 else idx x l + 1
theorem idx_at {x : Int} : ∀ {l : List Int}, x ∈ l → l[idx x l]? = some x
  | [], h => by simp at h
  | y :: l, h => by
    rw [idx]
    by_cases e : y = x
    · rw [if_pos e, e]; rfl
    · rw [if_neg e, List.getElem?_cons_succ]
      rw [List.mem_cons] at h
      exact idx_at (h.resolve_left fun g => e g.symm)
theorem idx_le {x : Int} : ∀ {l : List Int} {j : Nat}, l[j]? = some x → idx x l ≤ j
  | [], j, h => by simp at h
  | y :: l, 0, h => by simp at h; rw [idx, if_pos h]; exact Nat.le_refl _
  | y :: l, j + 1, h => by
    rw [List.getElem?_cons_succ] at h
    have := idx_le h
    rw [idx]
    split <;> omega
def wW : Nat → Int
  | 0 => 0 | 1 => 1244160 | 2 => 1347840 | 3 => 1356480 | 4 => 1357200 | _ => 1357260
theorem wW_succ : ∀ i : Nat, wW i ≤ wW (i + 1)
  | 0 => by decide
  | 1 => by decide
  | 2 => by decide
  | 3 => by decide
  | 4 => by decide
  | _ + 5 => Int.le_refl _
theorem wW_mono (i j : Nat) (h : i ≤ j) : wW i ≤ wW j := by
  induction j with
  | zero => rw [show i = 0 by omega]; exact Int.le_refl _
  | succ j ih =>
    rcases Nat.lt_or_ge j i with g | g
    · rw [show i = j + 1 by omega]; exact Int.le_refl _
    · exact Int.le_trans (ih g) (wW_succ j)
theorem wW_lo (i : Nat) : 0 ≤ wW i ∧ wW i ≤ 1357260 := by unfold wW; split <;> omega
theorem wW_step (i : Nat) (h0 : 0 < i) (h5 : i ≤ 5) : 11 * (1357260 - wW i) + (wW (i - 1) - wW i) ≤ -60 := by
  have : i = 1 ∨ i = 2 ∨ i = 3 ∨ i = 4 ∨ i = 5 := by omega
  rcases this with rfl | rfl | rfl | rfl | rfl <;> simp [wW]
/-- weights: q has none, and every other vertex that fires loses 60 at least -/
structure Wt (M : Nat) (es : List (Int × Int)) (q : Nat) (σ : Nat → Int) : Prop where
  zero : σ q = 0
  lo : ∀ u, 0 ≤ σ u ∧ σ u ≤ 1357260
  drop : ∀ u, u < M → u ≠ q → termsF σ u es ≤ -60
theorem termsF_cap {σ : Nat → Int} {u : Nat} {c : Int} : ∀ es : List (Int × Int), (∀ e ∈ es, termF σ u e ≤ c) → termsF σ u es ≤ c * (es.length : Int)
  | [], _ => by simp [termsF]
  | e :: l, h => by
    have h1 := h e (by simp)
    have ih := termsF_cap l (fun x hx => h x (by simp [hx]))
    simp only [termsF, List.length_cons, Int.natCast_add, Int.mul_add]
    simp only [Int.natCast_one, Int.mul_one]
    omega
theorem termsF_cap2 {σ : Nat → Int} {u : Nat} {c b : Int} (hc : 0 ≤ c) : ∀ es : List (Int × Int), (∀ e ∈ es, termF σ u e ≤ c) → (∃ e ∈ es, termF σ u e ≤ b) → termsF σ u es ≤ c * ((es.length : Int) - 1) + b
  | [], _, ⟨e, he, _⟩ => by simp at he
  | e :: l, h, ⟨x, hx, hb⟩ => by
    have h1 := h e (by simp)
    have hl := termsF_cap l (fun x hx => h x (by simp [hx]))
    rw [List.mem_cons] at hx
    simp only [termsF, List.length_cons, Int.natCast_add, Int.mul_sub, Int.mul_add, Int.natCast_one, Int.mul_one]
    rcases hx with rfl | hx
    · omega
    · have ih := termsF_cap2 hc l (fun x hx => h x (by simp [hx])) ⟨x, hx, hb⟩
      rw [Int.mul_sub, Int.mul_one] at ih
      omega
theorem wt_exists {M : Nat} {es : List (Int × Int)} {q : Nat} (hM : M ≤ 6) (hn : es.length ≤ 12) (hq : q < M) (hes : ∀ e ∈ es, 0 ≤ e.1 ∧ e.1 < e.2 ∧ e.2 < (M : Int)) (hc : Cut M es) : ∃ σ, Wt M es q σ := by
  have hq2 : 0 ≤ (q : Int) ∧ (q : Int) < (M : Int) := by omega
  obtain ⟨hB, hO, hN⟩ := burnL_ind (M := M) (es := es) (d := []) (q := (q : Int)) (P := fun ord => ord[0]? = some (q : Int) ∧ ∀ (i : Nat) (x : Int), ord[i]? = some x → 0 < i → ∃ (j : Nat) (y : Int), j < i ∧ ord[j]? = some y ∧ ∃ e ∈ es, (x = e.1 ∧ y = e.2) ∨ (x = e.2 ∧ y = e.1)) (by
    rintro ord v hb ⟨h0, hp⟩ hn
    have hlen : 0 < ord.length := (List.getElem?_eq_some_iff.1 h0).1
    refine ⟨by rw [List.getElem?_append_left hlen]; exact h0, fun i x hx hi => ?_⟩
    rcases Nat.lt_or_ge i ord.length with g | g
    · rw [List.getElem?_append_left g] at hx
      obtain ⟨j, y, hj, hy, he⟩ := hp i x hx hi
      exact ⟨j, y, hj, by rw [List.getElem?_append_left (by omega)]; exact hy, he⟩
    · rw [List.getElem?_append_right g] at hx
      have hi2 : i - ord.length = 0 := by
        have := (List.getElem?_eq_some_iff.1 hx).1
        simp at this
        omega
      rw [hi2] at hx
      simp at hx
      subst hx
      obtain ⟨h1, h2⟩ := nextV_get hn
      obtain ⟨h4, h3⟩ := catchV_iff.1 h2
      obtain ⟨e, he, h5⟩ := heat_pos (p := inL ord) (u := v) (es := es) (by simpa using h4)
      rcases h5 with ⟨g1, g2⟩ | ⟨g1, g2⟩
      · obtain ⟨j, hj⟩ := List.getElem?_of_mem (show e.2 ∈ ord by simpa [inL] using g2)
        have hjl := (List.getElem?_eq_some_iff.1 hj).1
        exact ⟨j, e.2, by omega, by rw [List.getElem?_append_left hjl]; exact hj, e, he, .inl ⟨g1, rfl⟩⟩
      · obtain ⟨j, hj⟩ := List.getElem?_of_mem (show e.1 ∈ ord by simpa [inL] using g2)
        have hjl := (List.getElem?_eq_some_iff.1 hj).1
        exact ⟨j, e.1, by omega, by rw [List.getElem?_append_left hjl]; exact hj, e, he, .inr ⟨g1, rfl⟩⟩) M [(q : Int)] (Burns.start hq2) ⟨rfl, fun i x hx hi => by
      have := (List.getElem?_eq_some_iff.1 hx).1
      simp at this
      omega⟩
  obtain ⟨ord, hord⟩ : ∃ o, o = burnL M es [] M [(q : Int)] := ⟨_, rfl⟩
  rw [← hord] at hB hO hN
  have hend := hN (by simp)
  have hall := hc.all hes hB fun v hv hnv => by
    have := nextV_no hend v hv
    simp only [catchV, Bool.and_eq_false_iff, decide_eq_false_iff_not, Bool.not_eq_false'] at this
    rcases this with g | g
    · simp at g
      exact g
    · exact absurd (by simpa [inL] using g) hnv
  have hlen := hB.len
  refine ⟨fun u => wW (idx (u : Int) ord), ?_, fun u => wW_lo _, fun u hu huq => ?_⟩
  · have := idx_le hO.1
    show wW (idx (q : Int) ord) = 0
    rw [show idx (q : Int) ord = 0 by omega]
    rfl
  · have hiu := idx_at (hall u hu)
    obtain ⟨i, hi⟩ : ∃ i, i = idx (u : Int) ord := ⟨_, rfl⟩
    rw [← hi] at hiu
    have hi5 := (List.getElem?_eq_some_iff.1 hiu).1
    have hi0 : 0 < i := by
      rcases Nat.eq_zero_or_pos i with g | g
      · rw [g, hO.1] at hiu
        injection hiu with h
        omega
      · exact g
    obtain ⟨j, y, hj, hy, e, he, hey⟩ := hO.2 i _ hiu hi0
    have hiy := idx_le hy
    have hcap : ∀ e ∈ es, termF (fun u => wW (idx (u : Int) ord)) u e ≤ 1357260 - wW i := by
      intro e he
      obtain ⟨h1, h2, h3⟩ := hes e he
      have w1 := wW_lo (idx e.1 ord)
      have w2 := wW_lo (idx e.2 ord)
      have w3 := wW_lo i
      simp only [termF, show ((e.1.toNat : Nat) : Int) = e.1 by omega, show ((e.2.toNat : Nat) : Int) = e.2 by omega]
      unfold ind
      by_cases g1 : (u : Int) = e.1
      · rw [if_pos g1, if_neg (by omega), ← g1, ← hi]
        omega
      · rw [if_neg g1]
        by_cases g2 : (u : Int) = e.2
        · rw [if_pos g2, ← g2, ← hi]
          omega
        · rw [if_neg g2]
          omega
    have hone : termF (fun u => wW (idx (u : Int) ord)) u e ≤ wW (i - 1) - wW i := by
      obtain ⟨h1, h2, h3⟩ := hes e he
      simp only [termF, show ((e.1.toNat : Nat) : Int) = e.1 by omega, show ((e.2.toNat : Nat) : Int) = e.2 by omega]
      unfold ind
      have hmy := wW_mono (idx y ord) (i - 1) (by omega)
      rcases hey with ⟨g1, g2⟩ | ⟨g1, g2⟩
      · rw [if_pos g1, if_neg (by omega), ← g1, ← hi, ← g2]
        omega
      · rw [if_neg (by omega), if_pos g1, ← g1, ← hi, ← g2]
        omega
    have h1 := termsF_cap2 (by have := wW_lo i; omega) es hcap ⟨e, he, hone⟩
    have h2 := wW_step i hi0 (by omega)
    have h3 : (1357260 - wW i) * ((es.length : Int) - 1) ≤ (1357260 - wW i) * 11 := Int.mul_le_mul_of_nonneg_left (by omega) (by have := wW_lo i; omega)
    omega
end Go.Proofs.Ytbojbifpaecbcaa
