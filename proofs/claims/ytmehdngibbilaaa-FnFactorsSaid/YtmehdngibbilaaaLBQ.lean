/- One text out of several: GrpC GrpE GrpF GrpG GrpH GrpI GrpM GrpL MakeZ. -/
import Derived.Test.YtmehdngibbilaaaLBP
import Derived.Test.YtmehdngibbilaaaLBO
import Derived.Test.YtmehdngibbilaaaLBJ
import Derived.Test.YtmehdngibbilaaaLBM
/- The matrices that the program makes of a graph are the plain ones: trees, invariant factors. -/
namespace Go.Proofs.Ytmehdngibbilaaa
open Go.RowKit

section
variable {M : Nat}
theorem mult_join {v w : Nat} (hv : v < M) (hw : w < M) : ∀ es : List (Int × Int), multB (M : Int) es (v : Int) (w : Int) = joinL v w es
  | [] => by
    unfold multB joinL
    split <;> simp
  | e :: l => by
    have ih := mult_join hv hw l
    unfold multB at ih ⊢
    rw [joinL, ← ih]
    unfold joinI
    by_cases h : v = w
    · subst h
      simp
    · have hc : 0 ≤ (v : Int) ∧ (v : Int) < (M : Int) ∧ 0 ≤ (w : Int) ∧ (w : Int) < (M : Int) ∧ (v : Int) ≠ (w : Int) := by omega
      rw [if_pos hc, if_pos hc, List.count_cons]
      by_cases g : e = (min (v : Int) (w : Int), max (v : Int) (w : Int))
      · have hb : (e == (min (v : Int) (w : Int), max (v : Int) (w : Int))) = true := by rw [g]; exact beq_self_eq_true _
        rw [hb, if_pos rfl, if_pos ⟨h, g⟩]
        omega
      · have hb : (e == (min (v : Int) (w : Int), max (v : Int) (w : Int))) = false := by simpa using g
        rw [hb, if_neg (by decide), if_neg (fun x => g x.2)]
        omega
theorem val_ends (v : Nat) : ∀ es : List (Int × Int), ((es.filter (touch (v : Int))).length : Int) = endIL v es
  | [] => rfl
  | e :: l => by
    have ih := val_ends v l
    rw [endIL, ← ih, List.filter_cons]
    unfold endI touch
    split
    · simp; omega
    · simp
theorem lapE_L {u v : Nat} (hu : u < M) (hv : v < M) (es : List (Int × Int)) : lapE M es u v = lapL u v es := by
  unfold lapE
  by_cases h : u = v
  · subst h
    rw [if_pos rfl, valB_yes (vB_t (by omega)), val_ends, lapL_same]
  · rw [if_neg h, mult_join hu hv, lapL_other h]
end
theorem lapP_abs (u v : Nat) (e : Int × Int) : -1 ≤ lapP u v e ∧ lapP u v e ≤ 1 := by
  unfold lapP endI joinI
  split <;> split <;> omega
theorem lapL_abs (u v : Nat) : ∀ es : List (Int × Int), -(es.length : Int) ≤ lapL u v es ∧ lapL u v es ≤ es.length
  | [] => by simp [lapL]
  | e :: l => by
    have h1 := lapL_abs u v l
    have h2 := lapP_abs u v e
    rw [lapL, List.length_cons]
    omega
section
variable {m q : Nat} {es : List (Int × Int)}
def rowsF (n : Nat) (f : Nat → Nat → Int) : List (List Int) := (List.range n).map fun i => (List.range n).map (f i)
theorem rowsF_len (n : Nat) (f : Nat → Nat → Int) : (rowsF n f).length = n := by simp [rowsF]
theorem erase_map {α β : Type} (f : α → β) : ∀ (l : List α) (k : Nat), (l.map f).eraseIdx k = (l.eraseIdx k).map f
  | [], _ => rfl
  | _ :: _, 0 => rfl
  | x :: l, k + 1 => by simp [erase_map f l k]
theorem redB_rows (hB : graphB ((m + 1 : Nat) : Int) es = true) (hq : q ≤ m) : redB ((m + 1 : Nat) : Int) es (q : Int) = rowsF m (redA q es) := by
  rw [redB_t hB (vB_t (by omega)), Int.toNat_natCast, Int.toNat_natCast]
  unfold redM lapM rowsF
  rw [erase_map, range_skip, if_pos hq, List.map_map, List.map_map]
  refine List.map_congr_left fun i hi => ?_
  have hi := List.mem_range.1 hi
  show (lapR (m + 1) es (skip q i)).eraseIdx q = _
  unfold lapR
  rw [erase_map, range_skip, if_pos hq, List.map_map]
  refine List.map_congr_left fun j hj => ?_
  have hj := List.mem_range.1 hj
  exact lapE_L (skip_lt hi) (skip_lt hj) es
theorem lapB_rows (hB : graphB ((m + 1 : Nat) : Int) es = true) : lapB ((m + 1 : Nat) : Int) es = rowsF (m + 1) fun u v => lapL u v es := by
  rw [lapB, if_pos hB, Int.toNat_natCast]
  unfold lapM lapR rowsF
  refine List.map_congr_left fun i hi => List.map_congr_left fun j hj => ?_
  exact lapE_L (List.mem_range.1 hi) (List.mem_range.1 hj) es
theorem rows_mat {n : Nat} (hn : n ≤ 6) {f : Nat → Nat → Int} (hf : ∀ i j, i < n → j < n → -500 ≤ f i j ∧ f i j ≤ 500) : matB (rowsF n f) = true := by
  unfold matB
  rw [rowsF_len, Bool.and_eq_true, decide_eq_true_eq, List.all_eq_true]
  refine ⟨hn, fun r hr => ?_⟩
  obtain ⟨i, hi, rfl⟩ := List.mem_map.1 hr
  unfold rowOk
  rw [Bool.and_eq_true, decide_eq_true_eq, List.all_eq_true]
  refine ⟨by simp, fun x hx => ?_⟩
  obtain ⟨j, hj, rfl⟩ := List.mem_map.1 hx
  have := hf i j (List.mem_range.1 hi) (List.mem_range.1 hj)
  simp [entryOk]
  omega
theorem rowsF_at {n : Nat} {f : Nat → Nat → Int} {i j : Nat} (hi : i < n) (hj : j < n) : rowF ((rowsF n f).getD i []) j = f i j := by
  simp [rowsF, rowF, List.getD, hi, hj]
theorem det_rows {n : Nat} (hn : n ≤ 6) {f : Nat → Nat → Int} (hf : ∀ i j, i < n → j < n → -500 ≤ f i j ∧ f i j ≤ 500) : detB (rowsF n f) = dt n f := by
  have e : detF ((rowsF n f).map rowF) (List.range n) = dt n f := by
    unfold dt mnr
    refine det_congr (by simp [rowsF]) (fun i r r' hr hr' j hj => ?_) (by simp [rowsF])
    have hj := List.mem_range.1 hj
    rw [List.getElem?_map, Option.map_eq_some_iff] at hr hr'
    obtain ⟨a, ha, rfl⟩ := hr
    obtain ⟨b, hb, rfl⟩ := hr'
    have hi : i < n := by have := (List.getElem?_eq_some_iff.1 ha).1; rwa [rowsF_len] at this
    have hb2 : b = i := by simp [hi] at hb; omega
    subst hb2
    have := rowsF_at (f := f) hi hj
    rwa [List.getD, ha, Option.getD_some] at this
  have hm := rows_mat hn hf
  have hb := det_bound ((rowsF n f).map rowF) (List.range n) (by simp [rowsF]; exact hn) (by simp [rowsF]) (fun r hr c => by
    obtain ⟨a, ha, rfl⟩ := List.mem_map.1 hr
    exact rowF_in ((matB_entries hm).2 a ha).2 c)
  rw [detB_t hm, rowsF_len, e]
  rw [e] at hb
  exact wrap64_of (by have := hb.1; omega) (by have := hb.2; omega)
theorem gSets_congr {n : Nat} (hn : n ≤ 6) {f g : Nat → Nat → Int} (h : ∀ i j, i < n → j < n → f i j = g i j) {k : Nat} (hk : k ≤ 6) : gSets n f k = gSets n g k := by
  unfold gSets
  congr 1
  rw [List.flatMap_def, List.flatMap_def]
  congr 1
  refine List.map_congr_left fun R hR => List.map_congr_left fun C hC => ?_
  obtain ⟨-, hs⟩ := sets_size n hn k hk
  obtain ⟨r1, r2, -⟩ := hs R hR
  obtain ⟨c1, c2, -⟩ := hs C hC
  refine det_congr (by simp) (fun i r r' hr hr' j hj => ?_) (by simp; omega)
  rw [List.getElem?_map, Option.map_eq_some_iff] at hr hr'
  obtain ⟨a, ha, rfl⟩ := hr
  obtain ⟨b, hb, rfl⟩ := hr'
  rw [ha] at hb
  injection hb with hb
  subst hb
  exact h a j (r2 a (List.mem_of_getElem? ha)) (c2 j hj)
theorem inv_rows {n : Nat} (hn : n ≤ 6) {f : Nat → Nat → Int} (hf : ∀ i j, i < n → j < n → -500 ≤ f i j ∧ f i j ≤ 500) : invB (rowsF n f) = natI (facB 1 ((List.range n).map fun k => gSets n f (k + 1))) := by
  rw [invB_t (rows_mat hn hf)]
  congr 2
  unfold divsB
  rw [rowsF_len]
  refine List.map_congr_left fun k hk => ?_
  have hk := List.mem_range.1 hk
  exact gSets_congr hn (fun i j hi hj => rowsF_at hi hj) (by omega)
theorem red_lim (hn : es.length ≤ 12) (i j : Nat) : -500 ≤ redA q es i j ∧ redA q es i j ≤ 500 := by
  have := lapL_abs (skip q i) (skip q j) es
  show -500 ≤ lapL (skip q i) (skip q j) es ∧ lapL (skip q i) (skip q j) es ≤ 500
  omega
theorem trees_det (hB : graphB ((m + 1 : Nat) : Int) es = true) (hm : m ≤ 5) (hn : es.length ≤ 12) : treesB ((m + 1 : Nat) : Int) es = dt m (redA 0 es) := by
  have e := redB_rows (q := 0) hB (Nat.zero_le m)
  rw [treesB_t hB, show (0 : Int) = ((0 : Nat) : Int) from rfl, e]
  exact det_rows (by omega) fun i j _ _ => red_lim hn i j
theorem facs_red (hB : graphB ((m + 1 : Nat) : Int) es = true) (hm : m ≤ 5) (hn : es.length ≤ 12) : invB (redB ((m + 1 : Nat) : Int) es 0) = natI (facB 1 ((List.range m).map fun k => gSets m (redA 0 es) (k + 1))) := by
  have e := redB_rows (q := 0) hB (Nat.zero_le m)
  rw [show (0 : Int) = ((0 : Nat) : Int) from rfl, e]
  exact inv_rows (by omega) fun i j _ _ => red_lim hn i j
end
end Go.Proofs.Ytmehdngibbilaaa

/- The critical group: what the program's lists mean, and the reducing as one list. -/
namespace Go.Proofs.Ytmehdngibbilaaa
open Go.RowKit

structure GrL (m : Nat) (es : List (Int × Int)) : Prop where
  m5 : m ≤ 5
  n12 : es.length ≤ 12
  ed : ∀ e ∈ es, 0 ≤ e.1 ∧ e.1 < e.2 ∧ e.2 < ((m + 1 : Nat) : Int)
  cut : Cut (m + 1) es
theorem grl_of {N : Int} {es : List (Int × Int)} (h : graphB N es = true) : ∃ m : Nat, N = ((m + 1 : Nat) : Int) ∧ GrL m es := by
  obtain ⟨h4, h5⟩ := graphB_all h
  obtain ⟨h6, h7, h8⟩ := edgesB_lims h4
  obtain ⟨m, rfl⟩ : ∃ m : Nat, N = ((m + 1 : Nat) : Int) := ⟨(N - 1).toNat, by omega⟩
  exact ⟨m, rfl, by omega, h8, fun e he => all_edge h4 he, h5.cut⟩
theorem GrL.gx {m : Nat} {es : List (Int × Int)} (h : GrL m es) (A : Option Addr) (w : World) (hE : EdgeS w w.heap.size A es) : Gx m es := by
  refine ⟨h.m5, h.n12, h.ed, h.cut, fun x hl hx => ?_⟩
  have hb : Below w.heap.size w (w.alloc (.cells (intCells x).toArray 3)) := (Below.refl _ _).alloc (Nat.le_refl _) _
  have hI : IntS (w.alloc (.cells (intCells x).toArray 3)) (w.alloc (.cells (intCells x).toArray 3)).heap.size (some ⟨w.heap.size, 0, none⟩) x := fun _ => ⟨w.heap.size, 0, rfl, by simp, fun i z hz => by rw [Nat.zero_add, (Blk.new w 3 (intCells x).toArray).cell]; simp [intCells, hz]⟩
  obtain ⟨e, w', fr, ⟨A1, A2, c1, c2, f, -, hf, -⟩, -⟩ := l05ReduceW_any A (some ⟨w.heap.size, 0, none⟩) 0 0 (m + 1) 0 es x _ (by omega) (by have := h.m5; omega) (by omega) hl h.n12 h.ed hx h.cut (hE.up_ hb) hI []
  exact ⟨f, hf⟩
noncomputable def zeroB (N : Int) (es : List (Int × Int)) (a : List Int) : Bool := divB 60 N es a && decide (degB a a.length = 0)
structure ZerL (m : Nat) (a : List Int) : Prop where
  len : a.length = m + 1
  lim : ∀ u, -60 ≤ gt a u ∧ gt a u ≤ 60
  sum : sumN (m + 1) (gt a) = 0
theorem deg_sumN {a : List Int} {K : Int} (h0 : 0 ≤ K) (hK : K ≤ 1000000) (h : ∀ u, -K ≤ gt a u ∧ gt a u ≤ K) : ∀ k : Nat, k ≤ 1000 → degB a k = sumN k (gt a)
  | 0, _ => rfl
  | k + 1, hk => by
    have h1 := sum_lim (f := gt a) (a := -K) (b := K) k fun u _ => h u
    have hm : (k : Int) * K ≤ 1000 * 1000000 := Int.mul_le_mul (by omega) hK h0 (by omega)
    have h2 := h k
    rw [Int.mul_neg] at h1
    rw [degB, deg_sumN h0 hK h k (by omega), sumN]
    show wrap64 (sumN k (gt a) + gt a k) = _
    exact wrap64_of (by omega) (by omega)
theorem zero_parts {N : Int} {es : List (Int × Int)} {a : List Int} (h : zeroB N es a = true) : ∃ m : Nat, N = ((m + 1 : Nat) : Int) ∧ graphB N es = true ∧ GrL m es ∧ ZerL m a := by
  unfold zeroB at h
  rw [Bool.and_eq_true, decide_eq_true_eq] at h
  obtain ⟨h1, h2⟩ := h
  obtain ⟨m, rfl, hG⟩ := grl_of (divB_all h1).1
  obtain ⟨M, hM, -, -, -, hl, -, hd, -⟩ := div_limsB h1
  have hl : a.length = m + 1 := by omega
  refine ⟨m, rfl, (divB_all h1).1, hG, hl, hd, ?_⟩
  rw [hl] at h2
  rw [← h2]
  exact (deg_sumN (K := 60) (by omega) (by omega) hd (m + 1) (by have := hG.m5; omega)).symm
theorem sums_plus {M : Nat} {a b : List Int} (hl : a.length = M) (ha : ∀ u, -1000000 ≤ gt a u ∧ gt a u ≤ 1000000) (hb : ∀ u, -1000000 ≤ gt b u ∧ gt b u ≤ 1000000) : sumsB a b = plusL M a b := by
  unfold sumsB plusL
  rw [hl]
  refine List.map_congr_left fun u _ => ?_
  have := ha u
  have := hb u
  exact wrap64_of (by unfold gt at *; omega) (by unfold gt at *; omega)
theorem add_plus {M : Nat} {a b : List Int} (hl : a.length = M) (hl2 : b.length = M) (ha : ∀ u, -1000000 ≤ gt a u ∧ gt a u ≤ 1000000) (hb : ∀ u, -1000000 ≤ gt b u ∧ gt b u ≤ 1000000) : addB a b = plusL M a b := by
  rw [addB, if_pos (by omega), sums_plus hl ha hb]
theorem neg_gt {a : List Int} (ha : ∀ u, -1000000 ≤ gt a u ∧ gt a u ≤ 1000000) (u : Nat) : gt (negB a) u = - gt a u := by
  by_cases hu : u < a.length
  · have h := negB_at (xs := a) (List.getElem?_eq_getElem hu)
    have hg : gt a u = a[u] := by simp [gt, List.getD, hu]
    have := ha u
    rw [gt, List.getD, h, Option.getD_some, ← hg]
    exact wrap64_of (by omega) (by omega)
  · rw [gt_out (by rw [negB_length]; omega), gt_out (by omega)]
    rfl
theorem sum_neg {f : Nat → Int} (n : Nat) : sumN n (fun u => - f u) = - sumN n f := by
  have := sumN_mul (-1) f n
  rw [sumN_congr (f := fun u => - f u) (g := fun u => -1 * f u) n fun u _ => by omega, this]
  omega
theorem ZerL.neg {m : Nat} {a : List Int} (h : ZerL m a) : ZerL m (negB a) := by
  have hg := neg_gt (a := a) fun u => by have := h.lim u; omega
  refine ⟨by rw [negB_length]; exact h.len, fun u => by rw [hg]; have := h.lim u; omega, ?_⟩
  rw [sumN_congr (g := fun u => - gt a u) _ fun u _ => hg u, sum_neg, h.sum]
  rfl
theorem ZerL.redZ {m : Nat} {es : List (Int × Int)} {a : List Int} (h : Gx m es) (ha : ZerL m a) : ZerL m (rdc (m + 1) es a) := by
  have hr := h.rdc ha.len fun u => by have := ha.lim u; omega
  exact ⟨rdc_len _ _ _, fun u => by have := hr.zero h.m5 ha.sum u; omega, hr.sum.trans ha.sum⟩
noncomputable def sumC (N : Int) (es : List (Int × Int)) (a b : List Int) : List Int := if (zeroB N es a && zeroB N es b) = true then rdc N.toNat es (plusL N.toNat a b) else []
noncomputable def invC (N : Int) (es : List (Int × Int)) (a : List Int) : List Int := if zeroB N es a = true then rdc N.toNat es (negB a) else []
def signL (a : List Int) (n : Int) : List Int := if n < 0 then negB a else a
noncomputable def timesOk (N : Int) (es : List (Int × Int)) (a : List Int) (n : Int) : Bool := zeroB N es a && inB n (-1000) 1000
noncomputable def timesC (N : Int) (es : List (Int × Int)) (a : List Int) (n : Int) : List Int := if timesOk N es a n = true then itR N.toNat es (rdc N.toNat es (signL a n)) n.natAbs else []
noncomputable def ordC (N : Int) (es : List (Int × Int)) (a : List Int) : Int := if zeroB N es a = true then (ordN (N.toNat - 1) es (gt a) : Int) else 0
noncomputable def diffOk (N : Int) (es : List (Int × Int)) (v w : Int) : Bool := graphB N es && (vB v N && vB w N)
def diffL (M v w : Nat) : List Int := (List.range M).map fun u => (if u = v then 1 else 0) - (if u = w then 1 else 0)
noncomputable def diffC (N : Int) (es : List (Int × Int)) (v w : Int) : List Int := if diffOk N es v w = true then rdc N.toNat es (diffL N.toNat v.toNat w.toNat) else []
noncomputable def facC (N : Int) (es : List (Int × Int)) : List Int := if graphB N es = true then (invB (redB N es 0)).filter fun x => decide (1 < x) else []
noncomputable def cycC (N : Int) (es : List (Int × Int)) : Bool := graphB N es && decide ((facC N es).length ≤ 1)
end Go.Proofs.Ytmehdngibbilaaa

/- The critical group: the specification's side of SumOfClasses, InverseClass, DifferenceClass, TimesClass, OrderOf, GroupOrder, GroupFactors, IsCyclic. -/
namespace Go.Proofs.Ytmehdngibbilaaa
open Go.RowKit

theorem sumC_f {N : Int} {es : List (Int × Int)} {a b : List Int} (h : (zeroB N es a && zeroB N es b) = false) : sumC N es a b = [] := by rw [sumC, if_neg (by rw [h]; decide)]
theorem invC_f {N : Int} {es : List (Int × Int)} {a : List Int} (h : zeroB N es a = false) : invC N es a = [] := by rw [invC, if_neg (by rw [h]; decide)]
theorem timesC_f {N : Int} {es : List (Int × Int)} {a : List Int} {n : Int} (h : timesOk N es a n = false) : timesC N es a n = [] := by rw [timesC, if_neg (by rw [h]; decide)]
theorem ordC_f {N : Int} {es : List (Int × Int)} {a : List Int} (h : zeroB N es a = false) : ordC N es a = 0 := by rw [ordC, if_neg (by rw [h]; decide)]
theorem diffC_f {N : Int} {es : List (Int × Int)} {v w : Int} (h : diffOk N es v w = false) : diffC N es v w = [] := by rw [diffC, if_neg (by rw [h]; decide)]
theorem sumC_t {m : Nat} {es : List (Int × Int)} {a b : List Int} (h : zeroB ((m + 1 : Nat) : Int) es a = true) (h2 : zeroB ((m + 1 : Nat) : Int) es b = true) : sumC ((m + 1 : Nat) : Int) es a b = rdc (m + 1) es (plusL (m + 1) a b) := by rw [sumC, h, h2, if_pos (show (true && true) = true from rfl), Int.toNat_natCast]
theorem invC_t {m : Nat} {es : List (Int × Int)} {a : List Int} (h : zeroB ((m + 1 : Nat) : Int) es a = true) : invC ((m + 1 : Nat) : Int) es a = rdc (m + 1) es (negB a) := by rw [invC, if_pos h, Int.toNat_natCast]
theorem timesC_t {m : Nat} {es : List (Int × Int)} {a : List Int} {n : Int} (h : timesOk ((m + 1 : Nat) : Int) es a n = true) : timesC ((m + 1 : Nat) : Int) es a n = itR (m + 1) es (rdc (m + 1) es (signL a n)) n.natAbs := by rw [timesC, if_pos h, Int.toNat_natCast]
theorem ordC_t {m : Nat} {es : List (Int × Int)} {a : List Int} (h : zeroB ((m + 1 : Nat) : Int) es a = true) : ordC ((m + 1 : Nat) : Int) es a = (ordN m es (gt a) : Int) := by rw [ordC, if_pos h, Int.toNat_natCast]; rfl
theorem diffC_t {m : Nat} {es : List (Int × Int)} {v w : Int} (h : diffOk ((m + 1 : Nat) : Int) es v w = true) : diffC ((m + 1 : Nat) : Int) es v w = rdc (m + 1) es (diffL (m + 1) v.toNat w.toNat) := by rw [diffC, if_pos h, Int.toNat_natCast]
theorem keepG {w0 W W' : World} {X : Nat} {a b : Value} (h : W.cell? ⟨X, 0, none⟩ = some a ∧ W.cell? ⟨X, 1, none⟩ = some b ∧ Below w0.heap.size w0 W) (hb : Below W.heap.size W W') :
    W'.cell? ⟨X, 0, none⟩ = some a ∧ W'.cell? ⟨X, 1, none⟩ = some b ∧ Below w0.heap.size w0 W' :=
  ⟨(hb.cell (World.block_lt_of_cell? W _ h.1)).trans h.1, (hb.cell (World.block_lt_of_cell? W _ h.2.1)).trans h.2.1, h.2.2.trans (hb.mono h.2.2.size)⟩
theorem diffL_len (M v w : Nat) : (diffL M v w).length = M := by simp [diffL]
theorem diffL_gt {M v w u : Nat} (hu : u < M) : gt (diffL M v w) u = (if u = v then 1 else 0) - (if u = w then 1 else 0) := by simp [gt, diffL, List.getD, hu]
theorem diffL_lim (M v w u : Nat) : -1 ≤ gt (diffL M v w) u ∧ gt (diffL M v w) u ≤ 1 := by
  by_cases hu : u < M
  · rw [diffL_gt hu]
    split <;> split <;> omega
  · rw [gt_out (by rw [diffL_len]; omega)]
    omega
theorem diffL_made {M v w : Nat} (_ : v < M) (hw : w < M) : ((List.replicate M (0 : Int)).set v 1).set w (((List.replicate M (0 : Int)).set v 1).getD w 0 - 1) = diffL M v w := by
  refine List.ext_getElem (by simp [diffL]) fun i h1 h2 => ?_
  have hi : i < M := by simpa using h1
  have e : (diffL M v w)[i] = (if i = v then 1 else 0) - (if i = w then 1 else 0) := by simp [diffL]
  rw [e, List.getElem_set]
  by_cases h : w = i
  · subst h
    rw [if_pos rfl, List.getD, List.getElem?_eq_getElem (by simpa using hw), Option.getD_some, List.getElem_set]
    by_cases g : v = w
    · subst g; simp
    · have g' : ¬ w = v := fun x => g x.symm
      rw [if_neg g, if_neg g', List.getElem_replicate, if_pos rfl]
  · have h' : ¬ i = w := fun x => h x.symm
    rw [if_neg h, List.getElem_set, if_neg h']
    by_cases g : v = i
    · rw [if_pos g, if_pos g.symm]; rfl
    · have g' : ¬ i = v := fun x => g x.symm
      rw [if_neg g, if_neg g', List.getElem_replicate]; rfl
theorem diff_getD {M v w : Nat} (hv : v < M) (hw : w < M) : ((List.replicate M (0 : Int)).set v 1)[w]? = some (if v = w then 1 else 0) := by
  rw [List.getElem?_set]
  by_cases g : v = w
  · subst g; simp [hv]
  · simp [g, hw]
end Go.Proofs.Ytmehdngibbilaaa

/- The critical group: the specification's side of TimesClass and OrderOf. -/
namespace Go.Proofs.Ytmehdngibbilaaa
open Go.RowKit

theorem sign_neg {a : List Int} {n : Int} (h : n < 0) : signL a n = negB a := by rw [signL, if_pos h]
theorem sign_pos {a : List Int} {n : Int} (h : ¬ n < 0) : signL a n = a := by rw [signL, if_neg h]
end Go.Proofs.Ytmehdngibbilaaa

/- The critical group: the specification's side of OrderOf. -/
namespace Go.Proofs.Ytmehdngibbilaaa
open Go.RowKit

theorem det_small {m : Nat} {es : List (Int × Int)} (h : GrL m es) : gSets m (redA 0 es) m ≤ 7500000000000000000 := by
  have hb := det_bound ((List.range m).map (redA 0 es)) (List.range m) (by simp; have := h.m5; omega) (by simp) (fun r hr c => by
    obtain ⟨i, hi, rfl⟩ := List.mem_map.1 hr
    exact red_lim h.n12 i c)
  have h2 := dt_abs (n := m) (by have := h.m5; omega) (redA 0 es)
  unfold dt mnr at h2
  have h3 := hb.1
  have h4 := hb.2
  omega
theorem ord_is {m : Nat} {es : List (Int × Int)} {a : List Int} (h : GrL m es) (ha : ZerL m a) : IsOrd m es (gt a) (ordN m es (gt a)) ∧ ordN m es (gt a) ≤ gSets m (redA 0 es) m ∧ ordN m es (gt a) ∣ gSets m (redA 0 es) m := by
  obtain ⟨n, hn⟩ := ord_ex h.m5 h.cut h.ed ha.sum
  rw [hn.eq]
  have hd := hn.dvd (det_mul h.m5 h.ed ha.sum)
  exact ⟨hn, Nat.le_of_dvd (red_det h.m5 (Nat.zero_le m) h.cut h.ed).2 hd, hd⟩
theorem ord_at {m : Nat} {es : List (Int × Int)} {a : List Int} (hG : GrL m es) (h : Gx m es) (ha : ZerL m a) : itR (m + 1) es (rdc (m + 1) es a) 1 = rdc (m + 1) es a ∧ ∀ j, 1 ≤ j → j ≤ ordN m es (gt a) → (itR (m + 1) es (rdc (m + 1) es a) j = List.replicate (m + 1) 0 ↔ j = ordN m es (gt a)) := by
  have hr := h.rdc ha.len fun u => by have := ha.lim u; omega
  have hz := ha.redZ h
  obtain ⟨ho, -⟩ := ord_is hG ha
  have hall := ItR.all h hz.lim hz.sum
  refine ⟨(hall 1).uniq h ⟨hr.red, Eqv.of_eq fun u _ => by simp, hr.zero h.m5 ha.sum, hz.sum⟩, fun j h1 hj => ?_⟩
  have e : ∀ k : Nat, Eqv (m + 1) es (fun u => (k : Int) * gt (rdc (m + 1) es a) u) (fun _ => 0) ↔ Eqv (m + 1) es (fun u => (k : Int) * gt a u) (fun _ => 0) := fun k => ⟨fun g => (hr.eqv.mul k).trans g, fun g => (hr.eqv.symm.mul k).trans g⟩
  rw [(hall j).zero_iff h, e]
  constructor
  · intro g
    apply Classical.byContradiction
    intro hne
    exact ho.2.2 j (by omega) (by omega) g
  · rintro rfl
    exact ho.2.1
end Go.Proofs.Ytmehdngibbilaaa

/- The critical group: the specification's side of GroupOrder, GroupFactors and IsCyclic. -/
namespace Go.Proofs.Ytmehdngibbilaaa
open Go.RowKit

theorem facC_f {N : Int} {es : List (Int × Int)} (h : graphB N es = false) : facC N es = [] := by rw [facC, if_neg (by rw [h]; decide)]
theorem facC_t {N : Int} {es : List (Int × Int)} (h : graphB N es = true) : facC N es = (invB (redB N es 0)).filter fun x => decide (1 < x) := by rw [facC, if_pos h]
def Seg (w : World) (lo hi : Nat) (A : Option Addr) (xs : List Int) : Prop := 0 < xs.length → ∃ b o : Nat, A = some ⟨b, o, none⟩ ∧ lo ≤ b ∧ b < hi ∧ ∀ (i : Nat) (z : Int), xs[i]? = some z → w.cell? ⟨b, o + i, none⟩ = some (.int .i64 z)
theorem Seg.of_own {w : World} {base : Nat} {A : Option Addr} {xs : List Int} (h : OwnI w base A xs) : Seg w base w.heap.size A xs := fun hn => by
  obtain ⟨b, o, e, h1, h2, h3⟩ := h hn
  exact ⟨b, o, e, h1, h2, fun i z hz => (h3 i z hz).1⟩
theorem Seg.ints {w : World} {lo hi : Nat} {A : Option Addr} {xs : List Int} (h : Seg w lo hi A xs) (hs : hi ≤ w.heap.size) : IntS w w.heap.size A xs := fun hn => by
  obtain ⟨b, o, e, h1, h2, h3⟩ := h hn
  exact ⟨b, o, e, by omega, h3⟩
theorem Seg.grown {w w1 : World} {lo hi : Nat} {A : Option Addr} {xs : List Int} {row : Option Nat} (h : Seg w lo hi A xs) (hs : hi ≤ w.heap.size) (hg : w.grownBy w1 row) (hr : ∀ k, row = some k → k < lo ∨ hi ≤ k) : Seg w1 lo hi A xs := fun hn => by
  obtain ⟨b, o, e, h1, h2, h3⟩ := h hn
  refine ⟨b, o, e, h1, h2, fun i z hz => (World.cell?_of_block (a := ⟨b, o + i, none⟩) (hg.block b (by omega) (fun hq => ?_))).trans (h3 i z hz)⟩
  have := hr b hq.symm
  omega
theorem Seg.below {w w1 : World} {lo hi : Nat} {A : Option Addr} {xs : List Int} (h : Seg w lo hi A xs) (hs : hi ≤ w.heap.size) (hb : Below w.heap.size w w1) : Seg w1 lo hi A xs := fun hn => by
  obtain ⟨b, o, e, h1, h2, h3⟩ := h hn
  exact ⟨b, o, e, h1, h2, fun i z hz => (hb.cell (p := ⟨b, o + i, none⟩) (by simp only; omega)).trans (h3 i z hz)⟩
end Go.Proofs.Ytmehdngibbilaaa

/- laws.FnGroups, FnOrders, FnFactors: the plain facts. -/
namespace Go.Proofs.Ytmehdngibbilaaa
open Go.RowKit

section
variable {m : Nat} {es : List (Int × Int)} {a b : List Int}
theorem zeroB_t (hB : graphB ((m + 1 : Nat) : Int) es = true) (hG : GrL m es) (ha : ZerL m a) : zeroB ((m + 1 : Nat) : Int) es a = true := by
  have h1 : divB 60 ((m + 1 : Nat) : Int) es a = true := by
    rw [divB_a hB (by rw [ha.len]), List.all_eq_true]
    intro x hx
    obtain ⟨i, hi, rfl⟩ := List.getElem_of_mem hx
    have := ha.lim i
    have e : gt a i = a[i] := by simp [gt, List.getD, hi]
    exact within_t (by omega)
  have h2 : degB a a.length = 0 := by
    rw [ha.len, deg_sumN (K := 60) (by omega) (by omega) ha.lim (m + 1) (by have := hG.m5; omega), ha.sum]
  rw [zeroB, h1, h2]
  rfl
theorem ZerL.deg (hG : GrL m es) (ha : ZerL m a) : degB a (m + 1) = 0 := by
  rw [deg_sumN (K := 60) (by omega) (by omega) ha.lim (m + 1) (by have := hG.m5; omega), ha.sum]
theorem plus_comm (x y : List Int) : plusL (m + 1) x y = plusL (m + 1) y x := by
  unfold plusL
  exact List.map_congr_left fun u _ => Int.add_comm _ _
theorem ZerL.plus (ha : ZerL m a) (hb : ZerL m b) : sumN (m + 1) (gt (plusL (m + 1) a b)) = 0 ∧ ∀ u, -120 ≤ gt (plusL (m + 1) a b) u ∧ gt (plusL (m + 1) a b) u ≤ 120 := by
  refine ⟨?_, fun u => by have := plusL_lim (M := m + 1) ha.lim hb.lim (by omega) (by omega) u; omega⟩
  rw [sumN_congr (g := fun u => gt a u + gt b u) _ fun u hu => plusL_gt hu, sumN_add, ha.sum, hb.sum]
  rfl
theorem ZerL.sumR (h : Gx m es) (ha : ZerL m a) (hb : ZerL m b) : ZerL m (rdc (m + 1) es (plusL (m + 1) a b)) ∧ Eqv (m + 1) es (gt (rdc (m + 1) es (plusL (m + 1) a b))) (fun u => gt a u + gt b u) ∧ RedN (m + 1) es 0 (rdc (m + 1) es (plusL (m + 1) a b)) := by
  obtain ⟨h1, h2⟩ := ha.plus hb
  have hr := h.rdc (plusL_len (m + 1) a b) (fun u => by have := h2 u; omega)
  exact ⟨⟨rdc_len _ _ _, fun u => by have := hr.zero h.m5 h1 u; omega, hr.sum.trans h1⟩, hr.eqv.symm.trans (Eqv.of_eq fun u hu => plusL_gt hu), hr.red⟩
theorem ZerL.redR (h : Gx m es) (ha : ZerL m a) : ZerL m (rdc (m + 1) es a) ∧ Eqv (m + 1) es (gt (rdc (m + 1) es a)) (gt a) ∧ RedN (m + 1) es 0 (rdc (m + 1) es a) := by
  have hr := h.rdc ha.len fun u => by have := ha.lim u; omega
  exact ⟨ha.redZ h, hr.eqv.symm, hr.red⟩
theorem ZerL.same (h : Gx m es) (ha : ZerL m a) (hb : ZerL m b) (ra : RedN (m + 1) es 0 a) (rb : RedN (m + 1) es 0 b) (e : Eqv (m + 1) es (gt a) (gt b)) : a = b :=
  h.uniq ra rb (fun u => by have := ha.lim u; omega) (fun u => by have := hb.lim u; omega) e
theorem ZerL.negE (ha : ZerL m a) : Eqv (m + 1) es (gt (negB a)) (fun u => - gt a u) := Eqv.of_eq fun u _ => neg_gt (fun u => by have := ha.lim u; omega) u
theorem ZerL.none : ZerL m (List.replicate (m + 1) 0) := ⟨by simp, fun u => by rw [gt_rep]; omega, by rw [sumN_congr (f := gt (List.replicate (m + 1) 0)) (g := fun _ => 0) _ fun u _ => gt_rep _ u, sumN_zero]⟩
structure GrpLaw (m : Nat) (es : List (Int × Int)) (a b S I : List Int) : Prop where
  zs : ZerL m S
  zi : ZerL m I
  st : rdc (m + 1) es (plusL (m + 1) b a) = S
  back : rdc (m + 1) es (plusL (m + 1) S I) = rdc (m + 1) es b
  zero : rdc (m + 1) es (plusL (m + 1) a I) = List.replicate (m + 1) 0
theorem grp_law (h : Gx m es) (ha : ZerL m a) (hb : ZerL m b) : GrpLaw m es a b (rdc (m + 1) es (plusL (m + 1) a b)) (rdc (m + 1) es (negB a)) := by
  obtain ⟨s1, s2, s3⟩ := ha.sumR h hb
  obtain ⟨i1, i2, i3⟩ := ha.neg.redR h
  obtain ⟨b1, b2, b3⟩ := hb.redR h
  obtain ⟨t1, t2, t3⟩ := s1.sumR h i1
  obtain ⟨z1, z2, z3⟩ := ha.sumR h i1
  have i2 := i2.trans ha.negE
  refine ⟨s1, i1, by rw [plus_comm], t1.same h b1 t3 b3 (t2.trans (Eqv.trans ((s2.add i2).congr (fun _ _ => rfl) fun u _ => ?_) b2.symm)), z1.same h ZerL.none z3 h.none (z2.trans (((Eqv.refl (gt a)).add i2).congr (fun _ _ => rfl) fun u _ => ?_))⟩
  · show gt b u = gt a u + gt b u + - gt a u
    omega
  · rw [gt_rep]
    show (0 : Int) = gt a u + - gt a u
    omega
/-! ### multiples -/
theorem itR_zer (h : Gx m es) (ha : ZerL m a) (k : Nat) : ZerL m (itR (m + 1) es (rdc (m + 1) es a) k) ∧ Eqv (m + 1) es (gt (itR (m + 1) es (rdc (m + 1) es a) k)) (fun u => (k : Int) * gt a u) ∧ RedN (m + 1) es 0 (itR (m + 1) es (rdc (m + 1) es a) k) := by
  obtain ⟨r1, r2, -⟩ := ha.redR h
  have hi := ItR.all h r1.lim r1.sum k
  exact ⟨⟨hi.red.len, fun u => by have := hi.lim u; omega, hi.sum⟩, hi.eqv.trans (r2.mul k), hi.red⟩
structure OrdLaw (m : Nat) (es : List (Int × Int)) (a : List Int) (n k : Nat) (X Y Z I : List Int) : Prop where
  n0 : 0 < n
  nle : n ≤ gSets m (redA 0 es) m
  dvd : n ∣ gSets m (redA 0 es) m
  zx : ZerL m X
  zy : ZerL m Y
  zz : ZerL m Z
  zi : ZerL m I
  xy : X = Y
  zin : Z = I
theorem ord_law (hG : GrL m es) (h : Gx m es) (ha : ZerL m a) (k : Nat) : OrdLaw m es a (ordN m es (gt a)) k (itR (m + 1) es (rdc (m + 1) es a) k) (itR (m + 1) es (rdc (m + 1) es a) (k % ordN m es (gt a)))
    (itR (m + 1) es (rdc (m + 1) es (signL a (-(k : Int)))) k) (rdc (m + 1) es (negB (itR (m + 1) es (rdc (m + 1) es a) k))) := by
  obtain ⟨o1, o2, o3⟩ := ord_is hG ha
  obtain ⟨x1, x2, x3⟩ := itR_zer h ha k
  obtain ⟨y1, y2, y3⟩ := itR_zer h ha (k % ordN m es (gt a))
  have hs : ZerL m (signL a (-(k : Int))) := by
    unfold signL
    split
    · exact ha.neg
    · exact ha
  have hse : Eqv (m + 1) es (fun u => (k : Int) * gt (signL a (-(k : Int))) u) (fun u => -((k : Int) * gt a u)) := by
    by_cases h0 : k = 0
    · subst h0
      exact Eqv.of_eq fun u _ => by simp
    · refine Eqv.of_eq fun u _ => ?_
      rw [sign_neg (by omega), neg_gt (fun u => by have := ha.lim u; omega), Int.mul_neg]
  obtain ⟨z1, z2, z3⟩ := itR_zer h hs k
  obtain ⟨i1, i2, i3⟩ := x1.neg.redR h
  exact ⟨o1.1, o2, o3, x1, y1, z1, i1, x1.same h y1 x3 y3 (x2.trans ((o1.mod k).trans y2.symm)), z1.same h i1 z3 i3 (z2.trans (hse.trans (((i2.trans x1.negE).trans x2.neg).symm)))⟩
/-! ### factors -/
theorem facC_nat (hB : graphB ((m + 1 : Nat) : Int) es = true) (hG : GrL m es) : facC ((m + 1 : Nat) : Int) es = natI ((facB 1 ((List.range m).map fun k => gSets m (redA 0 es) (k + 1))).filter fun x => decide (1 < x)) := by
  rw [facC_t hB, facs_red hB hG.m5 hG.n12]
  unfold natI
  rw [List.filter_map]
  congr 1
  refine List.filter_congr fun x _ => ?_
  simp only [Function.comp]
  rw [Bool.eq_iff_iff, decide_eq_true_eq, decide_eq_true_eq]
  omega
structure FacLaw (m : Nat) (es : List (Int × Int)) (F : List Nat) : Prop where
  two : ∀ x ∈ F, 2 ≤ x
  chain : F.Pairwise (· ∣ ·)
  prod : prodL F = gSets m (redA 0 es) m
theorem fac_law (hG : GrL m es) : FacLaw m es ((facB 1 ((List.range m).map fun k => gSets m (redA 0 es) (k + 1))).filter fun x => decide (1 < x)) := by
  have hd := (red_det hG.m5 (Nat.zero_le m) hG.cut hG.ed).2
  have h := inv_facts (n := m) (by have := hG.m5; omega) (f := redA 0 es) (by omega)
  refine ⟨fun x hx => ?_, h.chain.filter _, ?_⟩
  · have := (List.mem_filter.1 hx).2
    simp at this
    omega
  · rw [prodL_filter _ h.pos]
    exact h.prod
theorem last_law (hG : GrL m es) (hm : 0 < m) (ha : ZerL m a) (F : List Nat) (hF : F = (facB 1 ((List.range m).map fun k => gSets m (redA 0 es) (k + 1))).filter fun x => decide (1 < x)) : (F = [] → ordN m es (gt a) = 1) ∧ ∀ x, F.getLast? = some x → ordN m es (gt a) ∣ x := by
  obtain ⟨k, rfl⟩ : ∃ k, m = k + 1 := ⟨m - 1, by omega⟩
  have hd := (red_det hG.m5 (Nat.zero_le (k + 1)) hG.cut hG.ed).2
  have h := inv_facts (n := k + 1) (by have := hG.m5; omega) (f := redA 0 es) (by omega)
  have hl := h.last k rfl
  obtain ⟨o1, -, -⟩ := ord_is hG ha
  have hdv := o1.dvd (last_mul hG.m5 hG.ed ha.sum)
  obtain ⟨L, hL⟩ : ∃ L, L = gSets (k + 1) (redA 0 es) (k + 1) / gSets (k + 1) (redA 0 es) k := ⟨_, rfl⟩
  obtain ⟨G, hGG⟩ : ∃ G, G = facB 1 ((List.range (k + 1)).map fun j => gSets (k + 1) (redA 0 es) (j + 1)) := ⟨_, rfl⟩
  rw [← hL] at hl hdv
  rw [← hGG] at h hl hF
  obtain ⟨P, rfl⟩ := List.getLast?_eq_some_iff.1 hl
  have hLp := h.pos L (by simp)
  have hch := h.chain
  rw [List.pairwise_append] at hch
  rw [List.filter_append] at hF
  by_cases h1 : 1 < L
  · have e : F = (P.filter fun x => decide (1 < x)) ++ [L] := by rw [hF]; simp [h1]
    refine ⟨fun h0 => by rw [e] at h0; simp at h0, fun x hx => ?_⟩
    rw [e] at hx
    simp at hx
    rw [← hx]
    exact hdv
  · have hL1 : L = 1 := by omega
    have hP : ∀ x ∈ P, x = 1 := fun x hx => by
      have := hch.2.2 x hx L (by simp)
      rw [hL1] at this
      exact Nat.dvd_one.1 this
    have e : F = [] := by
      rw [hF]
      have h2 : P.filter (fun x => decide (1 < x)) = [] := List.filter_eq_nil_iff.2 fun x hx => by rw [hP x hx]; simp
      rw [h2, hL1]
      simp
    refine ⟨fun _ => ?_, fun x hx => by rw [e] at hx; cases hx⟩
    rw [hL1] at hdv
    exact Nat.dvd_one.1 hdv
theorem facB_last : ∀ (l : List Nat) (b : Nat), l.getLast? = some 0 → (facB b l).getLast? = some 0
  | [], _, h => by cases h
  | [g], b, h => by
    have hg : g = 0 := by simpa using h
    rw [facB, if_pos (.inr hg)]
    rfl
  | g :: g2 :: l, b, h => by
    rw [List.getLast?_cons_cons] at h
    have h1 := facB_last (g2 :: l) g h
    have h0 := facB_last (g2 :: l) 0 h
    rw [facB]
    have e : ∀ (x : Nat) (c : Nat), (facB c (g2 :: l)).getLast? = some 0 → (x :: facB c (g2 :: l)).getLast? = some 0 := fun x c hc => by
      cases hq : facB c (g2 :: l) with
      | nil => rw [hq] at hc; cases hc
      | cons y t => rw [List.getLast?_cons_cons, ← hq]; exact hc
    split
    · exact e 0 0 h0
    · exact e _ g h1
theorem lap_law (hB : graphB ((m + 1 : Nat) : Int) es = true) (hG : GrL m es) : (invB (lapB ((m + 1 : Nat) : Int) es)).length = m + 1 ∧ (invB (lapB ((m + 1 : Nat) : Int) es))[m]? = some 0 := by
  have hm := hG.m5
  have hlim : ∀ i j, i < m + 1 → j < m + 1 → -500 ≤ lapL i j es ∧ lapL i j es ≤ 500 := fun i j _ _ => by
    have := lapL_abs i j es
    have := hG.n12
    omega
  rw [lapB_rows hB, inv_rows (by omega) hlim]
  have h0 : gSets (m + 1) (fun u v => lapL u v es) (m + 1) = 0 := ker_det (by omega) (s := fun _ => 1) (j0 := 0) (by omega) (by omega) fun i hi => by
    have := lap_sum (M := m + 1) (u := i) (fun _ => 1) es hG.ed
    rw [sumVN] at this
    rw [this, termsF_const]
    rfl
  have hlen : (facB 1 ((List.range (m + 1)).map fun k => gSets (m + 1) (fun u v => lapL u v es) (k + 1))).length = m + 1 := by rw [facB_len]; simp
  have hlast := facB_last ((List.range (m + 1)).map fun k => gSets (m + 1) (fun u v => lapL u v es) (k + 1)) 1 (by
    rw [List.range_succ, List.map_append, List.map_cons, List.map_nil, List.getLast?_append, h0]
    rfl)
  refine ⟨by rw [natI_len, hlen], natI_at ?_⟩
  rw [List.getLast?_eq_getElem?, hlen] at hlast
  exact hlast
end
end Go.Proofs.Ytmehdngibbilaaa

/- The critical group: no answer is long. -/
namespace Go.Proofs.Ytmehdngibbilaaa
open Go.RowKit

end Go.Proofs.Ytmehdngibbilaaa

/- MakeZero: a drawn divisor, made of degree 0 at the first vertex. -/
namespace Go.Proofs.Ytmehdngibbilaaa
open Go.RowKit

set_option maxHeartbeats 1000000 in
theorem specDegW (A : Option Addr) (c : Nat) (xs : List Int) (w : World) (hn : xs.length ≤ 1048576) (hS : IntS w w.heap.size A xs) :
    Calls Try.prog 67 #[.slice A xs.length c] w fun e w' => e = .returned (.int .i64 (degB xs xs.length)) ∧ w' = w := by
  have HS := Lib.hid hS
  clear hS
  go_enter Try.func67, Try.ntmps67
  go_wp2
  go_loop [3, 8] (fun s i => ∃ j : Nat, j ≤ xs.length ∧ i = .int .i64 j ∧ s = .int .i64 (degB xs j)) (fun _ i => xs.length - (intOf i).toNat)
  case atStart => exact ⟨0, Nat.zero_le _, rfl, rfl⟩
  case round =>
    obtain ⟨j, hj, rfl, rfl⟩ := hrel
    by_cases hlt : j < xs.length
    · obtain ⟨b1, o1, x, rfl, hb1, he, hc0⟩ := HS.out.at_ hlt
      have hj0 : (0 : Int) ≤ (j : Int) := Int.natCast_nonneg _
      have hj1 : (j : Int) < (xs.length : Int) := by omega
      have HD := Lib.hid (degB_step he)
      clear he
      go_wp2
      exact ⟨⟨j + 1, by omega, by go_num, by rw [HD.out]⟩, by simp [intOf]; omega⟩
    · have HJ := Lib.hid (show j = xs.length by omega)
      go_wp2
      go_ret
      exact ⟨ret_intE (by rw [HJ.out]), rfl⟩
def ZeroL (w : World) (m : Nat) (e : Ending) (w' : World) : Prop :=
  ∃ (A1 : Option Addr) (c1 : Nat) (d : List Int), e = .returned (.slice A1 (m + 1) c1) ∧ ZerL m d ∧ OwnI w' w.heap.size A1 d ∧ Below w.heap.size w w'
theorem zero_made {m : Nat} {d : List Int} (hm : m ≤ 5) (hl : d.length = m + 1) (hd : ∀ x ∈ d, -2 ≤ x ∧ x ≤ 6) : -12 ≤ degB d (m + 1) ∧ degB d (m + 1) ≤ 36 ∧ ZerL m (d.set 0 (gt d 0 - degB d (m + 1))) := by
  have hg : ∀ u, -6 ≤ gt d u ∧ gt d u ≤ 6 := fun u => by
    by_cases hu : u < d.length
    · have := hd d[u] (List.getElem_mem hu)
      have e : gt d u = d[u] := by simp [gt, List.getD, hu]
      omega
    · rw [gt_out (by omega)]; omega
  have hg2 : ∀ u, u < m + 1 → -2 ≤ gt d u ∧ gt d u ≤ 6 := fun u hu => by
    have := hd d[u] (List.getElem_mem (by omega))
    have e : gt d u = d[u]'(by omega) := by simp [gt, List.getD, hl, hu]
    omega
  have hs := deg_sumN (K := 6) (by omega) (by omega) hg (m + 1) (by omega)
  have hl2 := sum_lim (f := gt d) (a := -2) (b := 6) (m + 1) fun u hu => hg2 u hu
  rw [hs]
  have hb : -12 ≤ sumN (m + 1) (gt d) ∧ sumN (m + 1) (gt d) ≤ 36 := by omega
  have hset : ∀ u, gt (d.set 0 (gt d 0 - sumN (m + 1) (gt d))) u = if u = 0 then gt d 0 - sumN (m + 1) (gt d) else gt d u := fun u => by
    unfold gt
    rw [List.getD, List.getD, List.getElem?_set]
    by_cases h0 : u = 0
    · subst h0
      rw [if_pos rfl, if_pos (by omega), if_pos rfl]
      rfl
    · rw [if_neg (fun h => h0 h.symm), if_neg h0]
      rfl
  refine ⟨hb.1, hb.2, by rw [List.length_set]; exact hl, fun u => ?_, ?_⟩
  · rw [hset]
    have := hg u
    have := hg 0
    split <;> omega
  · rw [sumN_congr (g := fun u => gt d u + (if u = 0 then - sumN (m + 1) (gt d) else 0)) _ fun u _ => by rw [hset]; split <;> simp_all <;> omega]
    rw [sumN_add, sumN_one (f := fun u => if u = 0 then - sumN (m + 1) (gt d) else 0) (a := 0) (m + 1) (by omega) (fun i _ hi => by simp [hi])]
    simp
    omega
set_option maxRecDepth 100000 in
set_option maxHeartbeats 2000000 in
theorem makeZero_any (w : World) (k m : Nat) (hk : k ≤ 1000) (va : Option Addr) (vb vc : Nat) (A0 : Option Addr) (c0 : Nat) (xs : List Int) (hm : m ≤ 5) (hx : xs.length ≤ 1048576) (hS : CodeS w w.heap.size A0 xs) :
    Calls Try.prog 23 #[.slice A0 xs.length c0, .int .i64 k, .agg #[.int .i64 ((m + 1 : Nat) : Int), .slice va vb vc]] w (ZeroL w m) := by
  have hb0 : Below w.heap.size w (w.alloc (Obj.cells #[.int .i64 ((m + 1 : Nat) : Int), .slice va vb vc] 25)) := (Below.refl _ _).alloc (Nat.le_refl _) _
  have HB0 := Lib.hid hb0
  have MK := Lib.hid (fun W h => makeDivisor_any W k (m + 1) hk va vb vc A0 c0 xs (by omega) hx h)
  have HS := Lib.hid ((hS.keep hb0).up hb0.size)
  have HZ := Lib.hid (fun d => zero_made (d := d) hm)
  clear hS hb0
  generalize hM : m + 1 = M at *
  have hM0 : (0 : Int) < (M : Int) := by omega
  have hM1 : 0 < M := by omega
  have hM7 : M ≤ 6 := by omega
  go_enter Try.func23, Try.ntmps23
  go_wp2_with fail
  refine (MK.out _ HS.out).mono ?_
  rintro e w1 ⟨A1, c1, d, rfl, hdl, hbd, ho, hb1⟩
  have hB1 := HB0.out.trans (hb1.mono HB0.out.size)
  obtain ⟨g, o, rfl, hg, hgl, hc⟩ := ho (by rw [hdl.out]; exact hM1)
  obtain ⟨z1, z2, z3⟩ := HZ.out d hdl.out hbd
  obtain ⟨x, hx0⟩ : ∃ x, d[0]? = some x := ⟨_, List.getElem?_eq_getElem (by rw [hdl.out]; exact hM1)⟩
  have hgx : gt d 0 = x := by simp [gt, List.getD, hx0]
  rw [hgx] at z3
  obtain ⟨hcl, hfr⟩ := hc 0 x hx0
  have hxb := hbd x (List.mem_of_getElem? hx0)
  have HDW := fun W h => Lib.hid (specDegW (some ⟨g, o, none⟩) c1 d W (by rw [hdl.out]; omega) h)
  have HO := Lib.hid ho
  have HOS := Lib.hid (ho.below (Below.refl w1.heap.size w1).drew).ints
  rw [hdl.out] at HDW
  rw [Nat.add_zero] at hcl hfr
  obtain ⟨y, hy⟩ : ∃ y, y = degB d M := ⟨_, rfl⟩
  rw [← hy] at HDW z1 z2 z3
  have hyw : IntKind.i64.wrap (x - y) = x - y := by rw [IntKind.wrap_i64]; omega
  have HF := Lib.hid (show OwnI (w1.drew.setCell ⟨g, o, none⟩ (.int .i64 (x - y))) w.heap.size (some ⟨g, o, none⟩) (d.set 0 (x - y)) from by
    have h1 := (ho.below (Below.refl w1.heap.size w1).drew).store (q := 0) (x := x - y) (by rw [hdl.out]; exact hM1)
    rw [Nat.add_zero] at h1
    exact h1.mono HB0.out.size)
  have HBF := Lib.hid (show Below w.heap.size w (w1.drew.setCell ⟨g, o, none⟩ (.int .i64 (x - y))) from (hB1.trans ((Below.refl w1.heap.size w1).drew.mono hB1.size)).setCell (p := ⟨g, o, none⟩) (by simp only; exact Nat.le_trans HB0.out.size hg) _)
  have HZ3 := Lib.hid z3
  have hM2 : m + 1 = M := hM
  rw [hdl.out]
  clear HZ MK HS hc ho hB1 hb1 z1 z2 z3 hy hx0 hgx hxb hg HB0
  go_wp2_with fail
  go_region_with (first | (go_at_call 67; refine (HDW _ HOS.out).out.mono ?_; rintro e w2 ⟨rfl, rfl⟩))
  all_goals
    go_wp2
    go_ret
    exact ⟨some ⟨g, o, none⟩, c1, d.set 0 (x - y), by rw [hM2]; rfl, HZ3.out, HF.out, HBF.out⟩
end Go.Proofs.Ytmehdngibbilaaa
