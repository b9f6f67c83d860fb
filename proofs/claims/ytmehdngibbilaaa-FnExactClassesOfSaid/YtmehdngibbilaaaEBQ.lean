/- One text out of several: GrpC GrpE GrpF GrpG GrpH GrpI GrpM GrpL MakeZ. -/
import Derived.Test.YtmehdngibbilaaaEBP
import Derived.Test.YtmehdngibbilaaaEBO
import Derived.Test.YtmehdngibbilaaaEBJ
import Derived.Test.YtmehdngibbilaaaEBM
/- The matrices that the program makes of a graph are the plain ones: trees, invariant factors. -/
namespace Go.Proofs.Ytmehdngibbilaaa
open Go.RowKit

section
variable {M : Nat}
theorem mult_join {v w : Nat} (hv : v < M) (hw : w < M) : ∀ es : List (Int × Int), multB (M : Int) es (v : Int) (w : Int) = joinL v w es
  | [] => by
    unfold multB joinL
    split <;> simp
  | e :: l => by
    have ih := mult_join hv hw l
    unfold multB at ih ⊢
    rw [joinL, ← ih]
    unfold joinI
    by_cases h : v = w
    · subst h
      simp
    · have hc : 0 ≤ (v : Int) ∧ (v : Int) < (M : Int) ∧ 0 ≤ (w : Int) ∧ (w : Int) < (M : Int) ∧ (v : Int) ≠ (w : Int) := by omega
      rw [if_pos hc, if_pos hc, List.count_cons]
      by_cases g : e = (min (v : Int) (w : Int), max (v : Int) (w : Int))
      · have hb : (e == (min (v : Int) (w : Int), max (v : Int) (w : Int))) = true := by rw [g]; exact beq_self_eq_true _
        rw [hb, if_pos rfl, if_pos ⟨h, g⟩]
        omega
      · have hb : (e == (min (v : Int) (w : Int), max (v : Int) (w : Int))) = false := by simpa using g
        rw [hb, if_neg (by decide), if_neg (fun x => g x.2)]
        omega
theorem val_ends (v : Nat) : ∀ es : List (Int × Int), ((es.filter (touch (v : Int))).length : Int) = endIL v es
  | [] => rfl
  | e :: l => by
    have ih := val_ends v l
    rw [endIL, ← ih, List.filter_cons]
    unfold endI touch
    split
    · simp; omega
    · simp
theorem lapE_L {u v : Nat} (hu : u < M) (hv : v < M) (es : List (Int × Int)) : lapE M es u v = lapL u v es := by
  unfold lapE
  by_cases h : u = v
  · subst h
    rw [if_pos rfl, valB_yes (vB_t (by omega)), val_ends, lapL_same]
  · rw [if_neg h, mult_join hu hv, lapL_other h]
end
theorem lapP_abs (u v : Nat) (e : Int × Int) : -1 ≤ lapP u v e ∧ lapP u v e ≤ 1 := by
  unfold lapP endI joinI
  split <;> split <;> omega
theorem lapL_abs (u v : Nat) : ∀ es : List (Int × Int), -(es.length : Int) ≤ lapL u v es ∧ lapL u v es ≤ es.length
  | [] => by simp [lapL]
  | e :: l => by
    have h1 := lapL_abs u v l
    have h2 := lapP_abs u v e
    rw [lapL, List.length_cons]
    omega
section
variable {m q : Nat} {es : List (Int × Int)}
def rowsF (n : Nat) (f : Nat → Nat → Int) : List (List Int) := (List.range n).map fun i => (List.range n).map (f i)
theorem rowsF_len (n : Nat) (f : Nat → Nat → Int) : (rowsF n f).length = n := by simp [rowsF]
theorem erase_map {α β : Type} (f : α → β) : ∀ (l : List α) (k : Nat), (l.map f).eraseIdx k = (l.eraseIdx k).map f
  | [], _ => rfl
  | _ :: _, 0 => rfl
  | x :: l, k + 1 => by simp [erase_map f l k]
theorem redB_rows (hB : graphB ((m + 1 : Nat) : Int) es = true) (hq : q ≤ m) : redB ((m + 1 : Nat) : Int) es (q : Int) = rowsF m (redA q es) := by
  rw [redB_t hB (vB_t (by omega)), Int.toNat_natCast, Int.toNat_natCast]
  unfold redM lapM rowsF
  rw [erase_map, range_skip, if_pos hq, List.map_map, List.map_map]
  refine List.map_congr_left fun i hi => ?_
  have hi := List.mem_range.1 hi
  show (lapR (m + 1) es (skip q i)).eraseIdx q = _
  unfold lapR
  rw [erase_map, range_skip, if_pos hq, List.map_map]
  refine List.map_congr_left fun j hj => ?_
  have hj := List.mem_range.1 hj
  exact lapE_L (skip_lt hi) (skip_lt hj) es
theorem rows_mat {n : Nat} (hn : n ≤ 6) {f : Nat → Nat → Int} (hf : ∀ i j, i < n → j < n → -500 ≤ f i j ∧ f i j ≤ 500) : matB (rowsF n f) = true := by
  unfold matB
  rw [rowsF_len, Bool.and_eq_true, decide_eq_true_eq, List.all_eq_true]
  refine ⟨hn, fun r hr => ?_⟩
  obtain ⟨i, hi, rfl⟩ := List.mem_map.1 hr
  unfold rowOk
  rw [Bool.and_eq_true, decide_eq_true_eq, List.all_eq_true]
  refine ⟨by simp, fun x hx => ?_⟩
  obtain ⟨j, hj, rfl⟩ := List.mem_map.1 hx
  have := hf i j (List.mem_range.1 hi) (List.mem_range.1 hj)
  simp [entryOk]
  omega
theorem rowsF_at {n : Nat} {f : Nat → Nat → Int} {i j : Nat} (hi : i < n) (hj : j < n) : rowF ((rowsF n f).getD i []) j = f i j := by
  simp [rowsF, rowF, List.getD, hi, hj]
theorem det_rows {n : Nat} (hn : n ≤ 6) {f : Nat → Nat → Int} (hf : ∀ i j, i < n → j < n → -500 ≤ f i j ∧ f i j ≤ 500) : detB (rowsF n f) = dt n f := by
  have e : detF ((rowsF n f).map rowF) (List.range n) = dt n f := by
    unfold dt mnr
    refine det_congr (by simp [rowsF]) (fun i r r' hr hr' j hj => ?_) (by simp [rowsF])
    have hj := List.mem_range.1 hj
    rw [List.getElem?_map, Option.map_eq_some_iff] at hr hr'
    obtain ⟨a, ha, rfl⟩ := hr
    obtain ⟨b, hb, rfl⟩ := hr'
    have hi : i < n := by have := (List.getElem?_eq_some_iff.1 ha).1; rwa [rowsF_len] at this
    have hb2 : b = i := by simp [hi] at hb; omega
    subst hb2
    have := rowsF_at (f := f) hi hj
    rwa [List.getD, ha, Option.getD_some] at this
  have hm := rows_mat hn hf
  have hb := det_bound ((rowsF n f).map rowF) (List.range n) (by simp [rowsF]; exact hn) (by simp [rowsF]) (fun r hr c => by
    obtain ⟨a, ha, rfl⟩ := List.mem_map.1 hr
    exact rowF_in ((matB_entries hm).2 a ha).2 c)
  rw [detB_t hm, rowsF_len, e]
  rw [e] at hb
  exact wrap64_of (by have := hb.1; omega) (by have := hb.2; omega)
theorem red_lim (hn : es.length ≤ 12) (i j : Nat) : -500 ≤ redA q es i j ∧ redA q es i j ≤ 500 := by
  have := lapL_abs (skip q i) (skip q j) es
  show -500 ≤ lapL (skip q i) (skip q j) es ∧ lapL (skip q i) (skip q j) es ≤ 500
  omega
theorem trees_det (hB : graphB ((m + 1 : Nat) : Int) es = true) (hm : m ≤ 5) (hn : es.length ≤ 12) : treesB ((m + 1 : Nat) : Int) es = dt m (redA 0 es) := by
  have e := redB_rows (q := 0) hB (Nat.zero_le m)
  rw [treesB_t hB, show (0 : Int) = ((0 : Nat) : Int) from rfl, e]
  exact det_rows (by omega) fun i j _ _ => red_lim hn i j
end
end Go.Proofs.Ytmehdngibbilaaa

/- The critical group: what the program's lists mean, and the reducing as one list. -/
namespace Go.Proofs.Ytmehdngibbilaaa
open Go.RowKit

structure GrL (m : Nat) (es : List (Int × Int)) : Prop where
  m5 : m ≤ 5
  n12 : es.length ≤ 12
  ed : ∀ e ∈ es, 0 ≤ e.1 ∧ e.1 < e.2 ∧ e.2 < ((m + 1 : Nat) : Int)
  cut : Cut (m + 1) es
theorem grl_of {N : Int} {es : List (Int × Int)} (h : graphB N es = true) : ∃ m : Nat, N = ((m + 1 : Nat) : Int) ∧ GrL m es := by
  obtain ⟨h4, h5⟩ := graphB_all h
  obtain ⟨h6, h7, h8⟩ := edgesB_lims h4
  obtain ⟨m, rfl⟩ : ∃ m : Nat, N = ((m + 1 : Nat) : Int) := ⟨(N - 1).toNat, by omega⟩
  exact ⟨m, rfl, by omega, h8, fun e he => all_edge h4 he, h5.cut⟩
theorem GrL.gx {m : Nat} {es : List (Int × Int)} (h : GrL m es) (A : Option Addr) (w : World) (hE : EdgeS w w.heap.size A es) : Gx m es := by
  refine ⟨h.m5, h.n12, h.ed, h.cut, fun x hl hx => ?_⟩
  have hb : Below w.heap.size w (w.alloc (.cells (intCells x).toArray 3)) := (Below.refl _ _).alloc (Nat.le_refl _) _
  have hI : IntS (w.alloc (.cells (intCells x).toArray 3)) (w.alloc (.cells (intCells x).toArray 3)).heap.size (some ⟨w.heap.size, 0, none⟩) x := fun _ => ⟨w.heap.size, 0, rfl, by simp, fun i z hz => by rw [Nat.zero_add, (Blk.new w 3 (intCells x).toArray).cell]; simp [intCells, hz]⟩
  obtain ⟨e, w', fr, ⟨A1, A2, c1, c2, f, -, hf, -⟩, -⟩ := l05ReduceW_any A (some ⟨w.heap.size, 0, none⟩) 0 0 (m + 1) 0 es x _ (by omega) (by have := h.m5; omega) (by omega) hl h.n12 h.ed hx h.cut (hE.up_ hb) hI []
  exact ⟨f, hf⟩
noncomputable def zeroB (N : Int) (es : List (Int × Int)) (a : List Int) : Bool := divB 60 N es a && decide (degB a a.length = 0)
structure ZerL (m : Nat) (a : List Int) : Prop where
  len : a.length = m + 1
  lim : ∀ u, -60 ≤ gt a u ∧ gt a u ≤ 60
  sum : sumN (m + 1) (gt a) = 0
theorem deg_sumN {a : List Int} {K : Int} (h0 : 0 ≤ K) (hK : K ≤ 1000000) (h : ∀ u, -K ≤ gt a u ∧ gt a u ≤ K) : ∀ k : Nat, k ≤ 1000 → degB a k = sumN k (gt a)
  | 0, _ => rfl
  | k + 1, hk => by
    have h1 := sum_lim (f := gt a) (a := -K) (b := K) k fun u _ => h u
    have hm : (k : Int) * K ≤ 1000 * 1000000 := Int.mul_le_mul (by omega) hK h0 (by omega)
    have h2 := h k
    rw [Int.mul_neg] at h1
    rw [degB, deg_sumN h0 hK h k (by omega), sumN]
    show wrap64 (sumN k (gt a) + gt a k) = _
    exact wrap64_of (by omega) (by omega)
theorem zero_parts {N : Int} {es : List (Int × Int)} {a : List Int} (h : zeroB N es a = true) : ∃ m : Nat, N = ((m + 1 : Nat) : Int) ∧ graphB N es = true ∧ GrL m es ∧ ZerL m a := by
  unfold zeroB at h
  rw [Bool.and_eq_true, decide_eq_true_eq] at h
  obtain ⟨h1, h2⟩ := h
  obtain ⟨m, rfl, hG⟩ := grl_of (divB_all h1).1
  obtain ⟨M, hM, -, -, -, hl, -, hd, -⟩ := div_limsB h1
  have hl : a.length = m + 1 := by omega
  refine ⟨m, rfl, (divB_all h1).1, hG, hl, hd, ?_⟩
  rw [hl] at h2
  rw [← h2]
  exact (deg_sumN (K := 60) (by omega) (by omega) hd (m + 1) (by have := hG.m5; omega)).symm
theorem sums_plus {M : Nat} {a b : List Int} (hl : a.length = M) (ha : ∀ u, -1000000 ≤ gt a u ∧ gt a u ≤ 1000000) (hb : ∀ u, -1000000 ≤ gt b u ∧ gt b u ≤ 1000000) : sumsB a b = plusL M a b := by
  unfold sumsB plusL
  rw [hl]
  refine List.map_congr_left fun u _ => ?_
  have := ha u
  have := hb u
  exact wrap64_of (by unfold gt at *; omega) (by unfold gt at *; omega)
theorem add_plus {M : Nat} {a b : List Int} (hl : a.length = M) (hl2 : b.length = M) (ha : ∀ u, -1000000 ≤ gt a u ∧ gt a u ≤ 1000000) (hb : ∀ u, -1000000 ≤ gt b u ∧ gt b u ≤ 1000000) : addB a b = plusL M a b := by
  rw [addB, if_pos (by omega), sums_plus hl ha hb]
theorem neg_gt {a : List Int} (ha : ∀ u, -1000000 ≤ gt a u ∧ gt a u ≤ 1000000) (u : Nat) : gt (negB a) u = - gt a u := by
  by_cases hu : u < a.length
  · have h := negB_at (xs := a) (List.getElem?_eq_getElem hu)
    have hg : gt a u = a[u] := by simp [gt, List.getD, hu]
    have := ha u
    rw [gt, List.getD, h, Option.getD_some, ← hg]
    exact wrap64_of (by omega) (by omega)
  · rw [gt_out (by rw [negB_length]; omega), gt_out (by omega)]
    rfl
theorem sum_neg {f : Nat → Int} (n : Nat) : sumN n (fun u => - f u) = - sumN n f := by
  have := sumN_mul (-1) f n
  rw [sumN_congr (f := fun u => - f u) (g := fun u => -1 * f u) n fun u _ => by omega, this]
  omega
theorem ZerL.neg {m : Nat} {a : List Int} (h : ZerL m a) : ZerL m (negB a) := by
  have hg := neg_gt (a := a) fun u => by have := h.lim u; omega
  refine ⟨by rw [negB_length]; exact h.len, fun u => by rw [hg]; have := h.lim u; omega, ?_⟩
  rw [sumN_congr (g := fun u => - gt a u) _ fun u _ => hg u, sum_neg, h.sum]
  rfl
theorem ZerL.redZ {m : Nat} {es : List (Int × Int)} {a : List Int} (h : Gx m es) (ha : ZerL m a) : ZerL m (rdc (m + 1) es a) := by
  have hr := h.rdc ha.len fun u => by have := ha.lim u; omega
  exact ⟨rdc_len _ _ _, fun u => by have := hr.zero h.m5 ha.sum u; omega, hr.sum.trans ha.sum⟩
noncomputable def sumC (N : Int) (es : List (Int × Int)) (a b : List Int) : List Int := if (zeroB N es a && zeroB N es b) = true then rdc N.toNat es (plusL N.toNat a b) else []
noncomputable def invC (N : Int) (es : List (Int × Int)) (a : List Int) : List Int := if zeroB N es a = true then rdc N.toNat es (negB a) else []
def signL (a : List Int) (n : Int) : List Int := if n < 0 then negB a else a
noncomputable def timesOk (N : Int) (es : List (Int × Int)) (a : List Int) (n : Int) : Bool := zeroB N es a && inB n (-1000) 1000
noncomputable def timesC (N : Int) (es : List (Int × Int)) (a : List Int) (n : Int) : List Int := if timesOk N es a n = true then itR N.toNat es (rdc N.toNat es (signL a n)) n.natAbs else []
noncomputable def ordC (N : Int) (es : List (Int × Int)) (a : List Int) : Int := if zeroB N es a = true then (ordN (N.toNat - 1) es (gt a) : Int) else 0
noncomputable def diffOk (N : Int) (es : List (Int × Int)) (v w : Int) : Bool := graphB N es && (vB v N && vB w N)
def diffL (M v w : Nat) : List Int := (List.range M).map fun u => (if u = v then 1 else 0) - (if u = w then 1 else 0)
noncomputable def diffC (N : Int) (es : List (Int × Int)) (v w : Int) : List Int := if diffOk N es v w = true then rdc N.toNat es (diffL N.toNat v.toNat w.toNat) else []
noncomputable def facC (N : Int) (es : List (Int × Int)) : List Int := if graphB N es = true then (invB (redB N es 0)).filter fun x => decide (1 < x) else []
noncomputable def cycC (N : Int) (es : List (Int × Int)) : Bool := graphB N es && decide ((facC N es).length ≤ 1)
def GivesRdc (w : World) (M : Nat) (r : List Int) (e : Ending) (w' : World) : Prop :=
  ∃ (A1 A2 : Option Addr) (c1 c2 : Nat), e = .returned (.tuple #[.slice A1 M c1, .slice A2 M c2]) ∧ OwnI w' w.heap.size A1 r ∧ Below w.heap.size w w'
theorem specRdc {m : Nat} {es : List (Int × Int)} {d : List Int} (hG : GrL m es) (A D : Option Addr) (c cd : Nat) (w : World) (hl : d.length = m + 1) (hd : ∀ u, -300 ≤ gt d u ∧ gt d u ≤ 300) (hE : EdgeS w w.heap.size A es) (hS : IntS w w.heap.size D d) :
    Calls Try.prog 97 #[.agg #[.int .i64 ((m + 1 : Nat) : Int), .slice A es.length c], .slice D d.length cd, .int .i64 0] w (GivesRdc w (m + 1) (rdc (m + 1) es d)) := by
  refine (l05ReduceW_any A D c cd (m + 1) 0 es d w (by omega) (by have := hG.m5; omega) (by omega) hl hG.n12 hG.ed hd hG.cut hE hS).mono ?_
  rintro e w1 ⟨A1, A2, c1, c2, f, rfl, hf, ho, -, hb⟩
  refine ⟨A1, A2, c1, c2, rfl, ?_, hb⟩
  rw [rdc, ← (redF_eq hf (by omega) hG.n12 (fun u => by have := hd u; unfold gt at this; omega) hG.ed).2]
  exact ho
set_option maxRecDepth 100000 in
set_option maxHeartbeats 1000000 in
theorem l09Zero_any (N : Int) (A D : Option Addr) (c cd : Nat) (es : List (Int × Int)) (a : List Int) (w : World) (hn : es.length ≤ 1048576) (hd : a.length ≤ 1048576) (hE : EdgeS w w.heap.size A es) (hS : IntS w w.heap.size D a) :
    Calls Try.prog 95 #[.agg #[.int .i64 N, .slice A es.length c], .slice D a.length cd] w fun e w' => e = .returned (.bool (zeroB N es a)) ∧ Below w.heap.size w w' := by
  have HE := Lib.hid hE
  have HS := Lib.hid hS
  have G0 := GB.start w N A c es
  have HD := fun w h1 h2 => Lib.hid (specDiv N A D c cd es a w hn hd h1 h2)
  have HX := fun w h1 => Lib.hid (specDeg D cd a w hd h1)
  unfold zeroB
  clear hE hS
  cases h1 : divB 60 N es a with
  | false =>
    rw [h1] at HD
    clear h1
    go_enter Try.func95, Try.ntmps95
    go_wp2_with fail
    refine (HD _ (HE.out.up_ G0.old) (HS.out.up_ G0.old)).out.mono ?_
    rintro e w1 ⟨rfl, hb1⟩
    have G1 := Lib.hid (G0.next hb1)
    clear G0 hb1
    go_wp2
    go_ret
    exact ⟨ret_boolE rfl, G1.out.old⟩
  | true =>
    rw [h1] at HD
    obtain ⟨p, hp⟩ : ∃ x, x = degB a a.length := ⟨_, rfl⟩
    rw [← hp] at HX ⊢
    clear h1 hp
    go_enter Try.func95, Try.ntmps95
    go_wp2_with fail
    refine (HD _ (HE.out.up_ G0.old) (HS.out.up_ G0.old)).out.mono ?_
    rintro e w1 ⟨rfl, hb1⟩
    have G1 := Lib.hid (G0.next hb1)
    clear G0 hb1
    go_wp2_with fail
    refine (HX _ (HS.out.up_ G1.out.old)).out.mono ?_
    rintro e w2 ⟨rfl, hb2⟩
    have G2 := Lib.hid (G1.out.next hb2)
    clear hb2
    go_wp2
    go_ret
    exact ⟨ret_boolE (by rw [Bool.eq_iff_iff]; simp), G2.out.old⟩
end Go.Proofs.Ytmehdngibbilaaa

/- The critical group: the specification's side of SumOfClasses, InverseClass, DifferenceClass, TimesClass, OrderOf, GroupOrder, GroupFactors, IsCyclic. -/
namespace Go.Proofs.Ytmehdngibbilaaa
open Go.RowKit

theorem sumC_f {N : Int} {es : List (Int × Int)} {a b : List Int} (h : (zeroB N es a && zeroB N es b) = false) : sumC N es a b = [] := by rw [sumC, if_neg (by rw [h]; decide)]
theorem invC_f {N : Int} {es : List (Int × Int)} {a : List Int} (h : zeroB N es a = false) : invC N es a = [] := by rw [invC, if_neg (by rw [h]; decide)]
theorem timesC_f {N : Int} {es : List (Int × Int)} {a : List Int} {n : Int} (h : timesOk N es a n = false) : timesC N es a n = [] := by rw [timesC, if_neg (by rw [h]; decide)]
theorem ordC_f {N : Int} {es : List (Int × Int)} {a : List Int} (h : zeroB N es a = false) : ordC N es a = 0 := by rw [ordC, if_neg (by rw [h]; decide)]
theorem diffC_f {N : Int} {es : List (Int × Int)} {v w : Int} (h : diffOk N es v w = false) : diffC N es v w = [] := by rw [diffC, if_neg (by rw [h]; decide)]
theorem sumC_t {m : Nat} {es : List (Int × Int)} {a b : List Int} (h : zeroB ((m + 1 : Nat) : Int) es a = true) (h2 : zeroB ((m + 1 : Nat) : Int) es b = true) : sumC ((m + 1 : Nat) : Int) es a b = rdc (m + 1) es (plusL (m + 1) a b) := by rw [sumC, h, h2, if_pos (show (true && true) = true from rfl), Int.toNat_natCast]
theorem invC_t {m : Nat} {es : List (Int × Int)} {a : List Int} (h : zeroB ((m + 1 : Nat) : Int) es a = true) : invC ((m + 1 : Nat) : Int) es a = rdc (m + 1) es (negB a) := by rw [invC, if_pos h, Int.toNat_natCast]
theorem timesC_t {m : Nat} {es : List (Int × Int)} {a : List Int} {n : Int} (h : timesOk ((m + 1 : Nat) : Int) es a n = true) : timesC ((m + 1 : Nat) : Int) es a n = itR (m + 1) es (rdc (m + 1) es (signL a n)) n.natAbs := by rw [timesC, if_pos h, Int.toNat_natCast]
theorem ordC_t {m : Nat} {es : List (Int × Int)} {a : List Int} (h : zeroB ((m + 1 : Nat) : Int) es a = true) : ordC ((m + 1 : Nat) : Int) es a = (ordN m es (gt a) : Int) := by rw [ordC, if_pos h, Int.toNat_natCast]; rfl
theorem diffC_t {m : Nat} {es : List (Int × Int)} {v w : Int} (h : diffOk ((m + 1 : Nat) : Int) es v w = true) : diffC ((m + 1 : Nat) : Int) es v w = rdc (m + 1) es (diffL (m + 1) v.toNat w.toNat) := by rw [diffC, if_pos h, Int.toNat_natCast]
set_option maxRecDepth 100000 in
set_option maxHeartbeats 2000000 in
theorem specSumC (N : Int) (A D F : Option Addr) (c cd cf : Nat) (es : List (Int × Int)) (a b : List Int) (w : World) (hn : es.length ≤ 1048576) (ha : a.length ≤ 1048576) (hb : b.length ≤ 1048576) (hE : EdgeS w w.heap.size A es) (hS : IntS w w.heap.size D a) (hT : IntS w w.heap.size F b) :
    Calls Try.prog 47 #[.agg #[.int .i64 N, .slice A es.length c], .slice D a.length cd, .slice F b.length cf] w (GivesIntsOk w (sumC N es a b) (zeroB N es a && zeroB N es b)) := by
  have HE := Lib.hid hE
  have HS := Lib.hid hS
  have HT := Lib.hid hT
  have G0 := GB.start w N A c es
  have HD := fun w h1 h2 => Lib.hid (l09Zero_any N A D c cd es a w hn ha h1 h2)
  have HF := fun w h1 h2 => Lib.hid (l09Zero_any N A F c cf es b w hn hb h1 h2)
  cases h1 : zeroB N es a with
  | false =>
    rw [h1] at HD
    rw [sumC_f (by rw [h1]; rfl), Bool.false_and]
    clear h1 HF hE hS hT
    go_enter Try.func47, Try.ntmps47
    go_wp2_with fail
    refine (HD _ (HE.out.up_ G0.old) (HS.out.up_ G0.old)).out.mono ?_
    rintro e w1 ⟨rfl, hb1⟩
    have G1 := Lib.hid (G0.next hb1)
    clear G0 hb1
    go_wp2
    go_ret2
    exact ⟨none, 0, rfl, OwnI.nil _ _ _, G1.out.old⟩
  | true =>
    rw [h1] at HD
    cases h2 : zeroB N es b with
    | false =>
      rw [h2] at HF
      rw [sumC_f (by rw [h1, h2]; rfl), Bool.and_false]
      clear h1 h2 hE hS hT
      go_enter Try.func47, Try.ntmps47
      go_wp2_with fail
      refine (HD _ (HE.out.up_ G0.old) (HS.out.up_ G0.old)).out.mono ?_
      rintro e w1 ⟨rfl, hb1⟩
      have G1 := Lib.hid (G0.next hb1)
      have c0 := G1.out.c0
      have c1 := G1.out.c1
      clear G0 hb1
      go_wp2_with fail
      refine (HF _ (HE.out.up_ G1.out.old) (HT.out.up_ G1.out.old)).out.mono ?_
      rintro e w2 ⟨rfl, hb2⟩
      have G2 := Lib.hid (G1.out.next hb2)
      clear hb2 c0 c1
      go_wp2
      go_ret2
      exact ⟨none, 0, rfl, OwnI.nil _ _ _, G2.out.old⟩
    | true =>
      rw [h2] at HF
      obtain ⟨m, rfl, -, hG, hz⟩ := zero_parts h1
      obtain ⟨m', hm', -, -, hz2⟩ := zero_parts h2
      obtain rfl : m' = m := by omega
      rw [sumC_t h1 h2, Bool.true_and]
      have HP := Lib.hid (fun (W : World) (h1 : IntS W W.heap.size D a) (h2 : IntS W W.heap.size F b) => specAddD D F cd cf a b W ha hb h1 h2)
      have hadd : addB a b = plusL (m' + 1) a b := add_plus hz.len hz2.len (fun u => by have := hz.lim u; omega) (fun u => by have := hz2.lim u; omega)
      have hpl := plusL_len (m' + 1) a b
      have HR := Lib.hid (fun (X : Option Addr) (cx : Nat) (W : World) (h1 : EdgeS W W.heap.size A es) (h2 : IntS W W.heap.size X (plusL (m' + 1) a b)) => specRdc hG A X c cx W hpl (fun u => by have := plusL_lim (M := m' + 1) hz.lim hz2.lim (by omega) (by omega) u; omega) h1 h2)
      have hrl := rdc_len (m' + 1) es (plusL (m' + 1) a b)
      obtain ⟨S, hSS⟩ : ∃ x, x = plusL (m' + 1) a b := ⟨_, rfl⟩
      rw [hadd] at HP
      rw [← hSS] at HP HR hrl ⊢
      obtain ⟨R, hRR⟩ : ∃ x, x = rdc (m' + 1) es S := ⟨_, rfl⟩
      rw [← hRR] at HR hrl ⊢
      have HRL := Lib.hid hrl
      clear h1 h2 hE hS hT hm' hz hz2 hG hadd hSS hRR hpl hrl hn ha hb
      go_enter Try.func47, Try.ntmps47
      go_wp2_with fail
      refine (HD _ (HE.out.up_ G0.old) (HS.out.up_ G0.old)).out.mono ?_
      rintro e w1 ⟨rfl, hb1⟩
      have G1 := Lib.hid (G0.next hb1)
      have c0 := G1.out.c0
      have c1 := G1.out.c1
      clear G0 hb1
      go_wp2_with fail
      refine (HF _ (HE.out.up_ G1.out.old) (HT.out.up_ G1.out.old)).out.mono ?_
      rintro e w2 ⟨rfl, hb2⟩
      have G2 := Lib.hid (G1.out.next hb2)
      clear hb2 c0 c1
      have c0 := G2.out.c0
      have c1 := G2.out.c1
      go_wp2_with fail
      refine (HP.out _ (HS.out.up_ G2.out.old) (HT.out.up_ G2.out.old)).mono ?_
      rintro e w3 ⟨A3, c3, rfl, ho, hb3⟩
      have G3 := Lib.hid (G2.out.next hb3)
      have HO := Lib.hid ho.ints
      clear hb3 c0 c1 ho
      have c0 := G3.out.c0
      have c1 := G3.out.c1
      go_wp2_with fail
      refine (HR.out A3 c3 _ (HE.out.up_ G3.out.old) HO.out).mono ?_
      rintro e w4 ⟨A4, A5, c4, c5, rfl, ho, hb4⟩
      have G4 := Lib.hid (G3.out.next hb4)
      have HO4 := Lib.hid (ho.mono G3.out.old.size)
      clear hb4 c0 c1 ho
      go_wp2
      go_ret2
      exact ⟨A4, c4, by rw [HRL.out]; rfl, HO4.out, G4.out.old⟩
theorem keepG {w0 W W' : World} {X : Nat} {a b : Value} (h : W.cell? ⟨X, 0, none⟩ = some a ∧ W.cell? ⟨X, 1, none⟩ = some b ∧ Below w0.heap.size w0 W) (hb : Below W.heap.size W W') :
    W'.cell? ⟨X, 0, none⟩ = some a ∧ W'.cell? ⟨X, 1, none⟩ = some b ∧ Below w0.heap.size w0 W' :=
  ⟨(hb.cell (World.block_lt_of_cell? W _ h.1)).trans h.1, (hb.cell (World.block_lt_of_cell? W _ h.2.1)).trans h.2.1, h.2.2.trans (hb.mono h.2.2.size)⟩
set_option maxRecDepth 100000 in
set_option maxHeartbeats 2000000 in
theorem specInvC (N : Int) (A D : Option Addr) (c cd : Nat) (es : List (Int × Int)) (a : List Int) (w : World) (hn : es.length ≤ 1048576) (ha : a.length ≤ 1048576) (hE : EdgeS w w.heap.size A es) (hS : IntS w w.heap.size D a) :
    Calls Try.prog 49 #[.agg #[.int .i64 N, .slice A es.length c], .slice D a.length cd] w (GivesIntsOk w (invC N es a) (zeroB N es a)) := by
  have HE := Lib.hid hE
  have HS := Lib.hid hS
  have G0 := GB.start w N A c es
  have HD := fun w h1 h2 => Lib.hid (l09Zero_any N A D c cd es a w hn ha h1 h2)
  cases h1 : zeroB N es a with
  | false =>
    rw [h1] at HD
    rw [invC_f h1]
    clear h1 hE hS
    go_enter Try.func49, Try.ntmps49
    go_wp2_with fail
    refine (HD _ (HE.out.up_ G0.old) (HS.out.up_ G0.old)).out.mono ?_
    rintro e w1 ⟨rfl, hb1⟩
    have G1 := Lib.hid (G0.next hb1)
    clear G0 hb1
    go_wp2
    go_ret2
    exact ⟨none, 0, rfl, OwnI.nil _ _ _, G1.out.old⟩
  | true =>
    rw [h1] at HD
    obtain ⟨m, rfl, -, hG, hz⟩ := zero_parts h1
    rw [invC_t h1]
    have HN := Lib.hid (fun (W : World) (h1 : IntS W W.heap.size D a) => specNeg D cd a W ha h1)
    have HR := Lib.hid (fun (X : Option Addr) (cx : Nat) (W : World) (h1 : EdgeS W W.heap.size A es) (h2 : IntS W W.heap.size X (negB a)) => specRdc hG A X c cx W hz.neg.len (fun u => by have := hz.neg.lim u; omega) h1 h2)
    have HRL := Lib.hid (rdc_len (m + 1) es (negB a))
    obtain ⟨R, hRR⟩ : ∃ x, x = rdc (m + 1) es (negB a) := ⟨_, rfl⟩
    rw [← hRR] at HR HRL ⊢
    clear h1 hE hS hz hG hRR hn ha
    go_enter Try.func49, Try.ntmps49
    go_wp2_with fail
    refine (HD _ (HE.out.up_ G0.old) (HS.out.up_ G0.old)).out.mono ?_
    rintro e w1 ⟨rfl, hb1⟩
    have G1 := Lib.hid (G0.next hb1)
    have c0 := G1.out.c0
    have c1 := G1.out.c1
    clear G0 hb1
    have HP0 := Lib.hid (show w1.drew.cell? ⟨w.heap.size, 0, none⟩ = some (.int .i64 ((m + 1 : Nat) : Int)) ∧ w1.drew.cell? ⟨w.heap.size, 1, none⟩ = some (.slice A es.length c) ∧ Below w1.heap.size w1 w1.drew from ⟨c0, c1, (Below.refl _ _).drew⟩)
    have PN := fun (W : World) (h : Below w1.heap.size w1 W) => HN.out W (HS.out.up_ (G1.out.next h).old)
    have PR := fun (W : World) (X : Option Addr) (cx : Nat) (h : Below w1.heap.size w1 W) (h2 : IntS W W.heap.size X (negB a)) => HR.out X cx W (HE.out.up_ (G1.out.next h).old) h2
    go_wp2_with fail
    go_region_held3 (fun w' => w'.cell? ⟨w.heap.size, 0, none⟩ = some (.int .i64 ((m + 1 : Nat) : Int)) ∧ w'.cell? ⟨w.heap.size, 1, none⟩ = some (.slice A es.length c) ∧ Below w1.heap.size w1 w')
      (first
        | with_reducible exact HP0.out
        | with_reducible exact keepG (by assumption) hbn
        | with_reducible exact keepG (by assumption) hbr)
      (first
        | (go_at_call 98; refine (PN _ (And.right (And.right (by assumption)))).mono ?_; rintro e wn ⟨An, cn, rfl, hon, hbn⟩; have hin := Lib.hid hon.ints; clear hon)
        | (go_at_call 97; refine (PR _ An cn (And.right (And.right (by assumption))) hin.out).mono ?_; rintro e wr ⟨Ar, Ar2, cr, cr2, rfl, hor, hbr⟩))
    all_goals
      have hb13 : Below w1.heap.size w1 wr := And.right (And.right (by assumption))
      have G3 := Lib.hid (G1.out.next hb13)
      have HO3 := Lib.hid (hor.mono (Nat.le_trans G1.out.old.size hbn.size))
      clear hbn hbr hor hb13 c0 c1
      go_wp2
      go_ret2
      exact ⟨Ar, cr, by rw [HRL.out]; rfl, HO3.out, G3.out.old⟩
theorem diffL_len (M v w : Nat) : (diffL M v w).length = M := by simp [diffL]
theorem diffL_gt {M v w u : Nat} (hu : u < M) : gt (diffL M v w) u = (if u = v then 1 else 0) - (if u = w then 1 else 0) := by simp [gt, diffL, List.getD, hu]
theorem diffL_lim (M v w u : Nat) : -1 ≤ gt (diffL M v w) u ∧ gt (diffL M v w) u ≤ 1 := by
  by_cases hu : u < M
  · rw [diffL_gt hu]
    split <;> split <;> omega
  · rw [gt_out (by rw [diffL_len]; omega)]
    omega
theorem diffL_made {M v w : Nat} (_ : v < M) (hw : w < M) : ((List.replicate M (0 : Int)).set v 1).set w (((List.replicate M (0 : Int)).set v 1).getD w 0 - 1) = diffL M v w := by
  refine List.ext_getElem (by simp [diffL]) fun i h1 h2 => ?_
  have hi : i < M := by simpa using h1
  have e : (diffL M v w)[i] = (if i = v then 1 else 0) - (if i = w then 1 else 0) := by simp [diffL]
  rw [e, List.getElem_set]
  by_cases h : w = i
  · subst h
    rw [if_pos rfl, List.getD, List.getElem?_eq_getElem (by simpa using hw), Option.getD_some, List.getElem_set]
    by_cases g : v = w
    · subst g; simp
    · have g' : ¬ w = v := fun x => g x.symm
      rw [if_neg g, if_neg g', List.getElem_replicate, if_pos rfl]
  · have h' : ¬ i = w := fun x => h x.symm
    rw [if_neg h, List.getElem_set, if_neg h']
    by_cases g : v = i
    · rw [if_pos g, if_pos g.symm]; rfl
    · have g' : ¬ i = v := fun x => g x.symm
      rw [if_neg g, if_neg g', List.getElem_replicate]; rfl
theorem diff_getD {M v w : Nat} (hv : v < M) (hw : w < M) : ((List.replicate M (0 : Int)).set v 1)[w]? = some (if v = w then 1 else 0) := by
  rw [List.getElem?_set]
  by_cases g : v = w
  · subst g; simp [hv]
  · simp [g, hw]
set_option maxRecDepth 100000 in
set_option maxHeartbeats 2000000 in
theorem specDiffC (N : Int) (A : Option Addr) (c : Nat) (es : List (Int × Int)) (x y : Int) (w : World) (hn : es.length ≤ 1048576) (hE : EdgeS w w.heap.size A es) :
    Calls Try.prog 52 #[.agg #[.int .i64 N, .slice A es.length c], .int .i64 x, .int .i64 y] w (GivesIntsOk w (diffC N es x y) (diffOk N es x y)) := by
  have HE := Lib.hid hE
  have G0 := GB.start w N A c es
  have HG := fun w h => Lib.hid (specGraphOk N A c es w (by omega) h)
  cases h1 : graphB N es with
  | false =>
    rw [h1] at HG
    rw [diffC_f (by rw [diffOk, h1]; rfl), diffOk, h1, Bool.false_and]
    clear h1 hE
    go_enter Try.func52, Try.ntmps52
    go_wp2_with fail
    refine (HG _ (HE.out.up_ G0.old)).out.mono ?_
    rintro e w1 ⟨rfl, hb1⟩
    have G1 := Lib.hid (G0.next hb1)
    have c0 := G1.out.c0
    have c1 := G1.out.c1
    clear G0 hb1
    go_wp2
    go_ret2
    exact ⟨none, 0, rfl, OwnI.nil _ _ _, G1.out.old⟩
  | true =>
    rw [h1] at HG
    obtain ⟨hN1, hN6, hn12⟩ := edgesB_lims (graphB_all h1).1
    have HV := fun w => Lib.hid (l01In_any x 0 (N - 1) w)
    have HW := fun w => Lib.hid (l01In_any y 0 (N - 1) w)
    rw [inB_vB] at HV HW
    cases h2 : vB x N with
    | false =>
      rw [h2] at HV
      have h0 : diffOk N es x y = false := by rw [diffOk, h1, h2]; rfl
      rw [diffC_f h0, h0]
      clear h1 h2 h0 hE
      go_enter Try.func52, Try.ntmps52
      go_wp2_with fail
      refine (HG _ (HE.out.up_ G0.old)).out.mono ?_
      rintro e w1 ⟨rfl, hb1⟩
      have G1 := Lib.hid (G0.next hb1)
      have c0 := G1.out.c0
      have c1 := G1.out.c1
      clear G0 hb1
      go_wp2_with fail
      refine (HV _).out.mono ?_
      rintro e w' ⟨rfl, rfl⟩
      go_wp2
      go_ret2
      exact ⟨none, 0, rfl, OwnI.nil _ _ _, G1.out.old⟩
    | true =>
      rw [h2] at HV
      cases h3 : vB y N with
      | false =>
        rw [h3] at HW
        have h0 : diffOk N es x y = false := by rw [diffOk, h1, h2, h3]; rfl
        rw [diffC_f h0, h0]
        clear h1 h2 h3 h0 hE
        go_enter Try.func52, Try.ntmps52
        go_wp2_with fail
        refine (HG _ (HE.out.up_ G0.old)).out.mono ?_
        rintro e w1 ⟨rfl, hb1⟩
        have G1 := Lib.hid (G0.next hb1)
        have c0 := G1.out.c0
        have c1 := G1.out.c1
        clear G0 hb1
        go_wp2_with fail
        refine (HV _).out.mono ?_
        rintro e w' ⟨rfl, rfl⟩
        go_wp2_with fail
        refine (HW _).out.mono ?_
        rintro e w' ⟨rfl, rfl⟩
        go_wp2
        go_ret2
        exact ⟨none, 0, rfl, OwnI.nil _ _ _, G1.out.old⟩
      | true =>
        rw [h3] at HW
        have h0 : diffOk N es x y = true := by rw [diffOk, h1, h2, h3]; rfl
        obtain ⟨m, rfl, hG⟩ := grl_of h1
        obtain ⟨hx0, hx1⟩ := vB_iff h2
        obtain ⟨hy0, hy1⟩ := vB_iff h3
        obtain ⟨v, rfl⟩ : ∃ u : Nat, x = (u : Int) := ⟨x.toNat, by omega⟩
        obtain ⟨z, rfl⟩ : ∃ u : Nat, y = (u : Int) := ⟨y.toNat, by omega⟩
        rw [diffC_t h0, h0, Int.toNat_natCast, Int.toNat_natCast]
        have hmk := make_ints (m + 1) (by have := hG.m5; omega)
        have hvM : v < m + 1 := by omega
        have hzM : z < m + 1 := by omega
        have HR := Lib.hid (fun (X : Option Addr) (cx : Nat) (W : World) (h1 : EdgeS W W.heap.size A es) (h2 : IntS W W.heap.size X (diffL (m + 1) v z)) => specRdc hG A X c cx W (diffL_len _ _ _) (fun u => by have := diffL_lim (m + 1) v z u; omega) h1 h2)
        rw [diffL_len] at HR
        have HRL := Lib.hid (rdc_len (m + 1) es (diffL (m + 1) v z))
        have HMD := Lib.hid (diffL_made hvM hzM)
        have HGD := Lib.hid (diff_getD hvM hzM)
        have HLD := Lib.hid (show ((List.replicate (m + 1) (0 : Int)).set v 1).length = m + 1 by simp)
        obtain ⟨y1, hy1⟩ : ∃ q : Int, q = (if v = z then 1 else 0) := ⟨_, rfl⟩
        rw [← hy1] at HGD
        have hyw : IntKind.i64.wrap (y1 - 1) = y1 - 1 := by rw [IntKind.wrap_i64]; split at hy1 <;> omega
        obtain ⟨L, hL⟩ : ∃ q, q = diffL (m + 1) v z := ⟨_, rfl⟩
        rw [← hL] at HR HRL HMD ⊢
        obtain ⟨R, hRR⟩ : ∃ q, q = rdc (m + 1) es L := ⟨_, rfl⟩
        rw [← hRR] at HR HRL ⊢
        have h01 : IntKind.i64.wrap ((0 : Int) + 1) = 1 := by decide
        have hw62 : m + 1 ≤ 6 := by have := hG.m5; omega
        clear h1 h2 h3 h0 hE hG hL hRR hy1 hn hN1 hN6 hn12 hx0 hx1 hy0
        generalize m + 1 = K at *
        go_enter Try.func52, Try.ntmps52
        go_wp2_with fail
        refine (HG _ (HE.out.up_ G0.old)).out.mono ?_
        rintro e w1 ⟨rfl, hb1⟩
        have G1 := Lib.hid (G0.next hb1)
        have c0 := G1.out.c0
        have c1 := G1.out.c1
        clear G0 hb1
        go_wp2_with fail
        refine (HV _).out.mono ?_
        rintro e w' ⟨rfl, rfl⟩
        go_wp2_with fail
        refine (HW _).out.mono ?_
        rintro e w' ⟨rfl, rfl⟩
        have hw1 := G1.out.lt
        have HB0 := Lib.hid (Blk.new w1 3 (intCells (List.replicate K 0)).toArray)
        have e1 : (intCells (List.replicate K 0)).set v (.int .i64 1) = intCells ((List.replicate K 0).set v 1) := by simp [intCells, List.map_set]
        have e2 : ((intCells (List.replicate K 0)).set v (.int .i64 1)).set z (.int .i64 (y1 - 1)) = intCells L := by
          have hgd : ((List.replicate K (0 : Int)).set v 1).getD z 0 = y1 := by rw [List.getD, HGD.out]; rfl
          have hmd := HMD.out
          rw [hgd] at hmd
          rw [e1, ← hmd]
          simp [intCells, List.map_set]
        have HB1 := Lib.hid (Blk.new w1 3 ((intCells (List.replicate K 0)).set v (.int .i64 1)).toArray)
        have HB2 := Lib.hid (Blk.new w1 3 (((intCells (List.replicate K 0)).set v (.int .i64 1)).set z (.int .i64 (y1 - 1))).toArray)
        have hcv1 : (w1.alloc (Obj.cells (intCells (List.replicate K 0)).toArray 3)).cell? ⟨w1.heap.size, v, none⟩ = some (.int .i64 0) := by rw [HB0.out.cell]; simp [intCells, hvM]
        have hcv2 := HB0.out.frozen v
        have hcz1 : (w1.alloc (Obj.cells ((intCells (List.replicate K 0)).set v (.int .i64 1)).toArray 3)).cell? ⟨w1.heap.size, z, none⟩ = some (.int .i64 y1) := by
          rw [HB1.out.cell, e1]
          simp only [intCells, List.getElem?_toArray, List.getElem?_map, HGD.out, Option.map_some]
        have hcz2 := HB1.out.frozen z
        have HC2 := Lib.hid (show Chips (w1.alloc (Obj.cells (((intCells (List.replicate K 0)).set v (.int .i64 1)).set z (.int .i64 (y1 - 1))).toArray 3)) w1.heap.size L from by rw [e2]; exact Chips.of_blk (Blk.new w1 3 _))
        have G3 := Lib.hid (G1.out.next (show Below w1.heap.size w1 (w1.alloc (Obj.cells (((intCells (List.replicate K 0)).set v (.int .i64 1)).set z (.int .i64 (y1 - 1))).toArray 3)) from (Below.refl _ _).alloc (Nat.le_refl _) _))
        have c0' := G3.out.c0
        have c1' := G3.out.c1
        clear HMD HGD HLD HB0 HB1 HB2 e1 e2
        go_wp2_with fail
        refine (HR.out _ _ _ (HE.out.up_ G3.out.old) HC2.out.ints).mono ?_
        rintro e w4 ⟨A4, A5, c4, c5, rfl, ho, hb4⟩
        have G4 := Lib.hid (G3.out.next hb4)
        have HO4 := Lib.hid (ho.mono G3.out.old.size)
        clear hb4 c0 c1 c0' c1' ho
        go_wp2
        go_ret2
        exact ⟨A4, c4, by rw [HRL.out]; rfl, HO4.out, G4.out.old⟩
end Go.Proofs.Ytmehdngibbilaaa

/- The critical group: the specification's side of TimesClass and OrderOf. -/
namespace Go.Proofs.Ytmehdngibbilaaa
open Go.RowKit

theorem itR_next {m : Nat} {es : List (Int × Int)} {s : List Int} (h : Gx m es) (hs : ZerL m s) (k : Nat) : addB (itR (m + 1) es s k) s = plusL (m + 1) (itR (m + 1) es s k) s ∧ sameLen (itR (m + 1) es s k) s = true ∧ (itR (m + 1) es s k).length = m + 1 ∧ (∀ u, -300 ≤ gt (plusL (m + 1) (itR (m + 1) es s k) s) u ∧ gt (plusL (m + 1) (itR (m + 1) es s k) s) u ≤ 300) := by
  have hi := ItR.all h hs.lim hs.sum k
  have hl := hi.red.len
  refine ⟨add_plus hl hs.len (fun u => by have := hi.lim u; omega) (fun u => by have := hs.lim u; omega), by rw [sameLen, hl, hs.len]; simp, hl, fun u => ?_⟩
  have := plusL_lim (M := m + 1) hi.lim hs.lim (by omega) (by omega) u
  omega
theorem sign_neg {a : List Int} {n : Int} (h : n < 0) : signL a n = negB a := by rw [signL, if_pos h]
theorem sign_pos {a : List Int} {n : Int} (h : ¬ n < 0) : signL a n = a := by rw [signL, if_neg h]
set_option maxRecDepth 100000 in
set_option maxHeartbeats 4000000 in
theorem specTimesC (N : Int) (A D : Option Addr) (c cd : Nat) (es : List (Int × Int)) (a : List Int) (x : Int) (w : World) (hn : es.length ≤ 1048576) (ha : a.length ≤ 1048576) (hE : EdgeS w w.heap.size A es) (hS : IntS w w.heap.size D a) :
    Calls Try.prog 50 #[.agg #[.int .i64 N, .slice A es.length c], .slice D a.length cd, .int .i64 x] w (GivesIntsOk w (timesC N es a x) (timesOk N es a x)) := by
  have HE := Lib.hid hE
  have HS := Lib.hid hS
  have G0 := GB.start w N A c es
  have HD := fun w h1 h2 => Lib.hid (l09Zero_any N A D c cd es a w hn ha h1 h2)
  cases h1 : zeroB N es a with
  | false =>
    rw [h1] at HD
    have h0 : timesOk N es a x = false := by rw [timesOk, h1]; rfl
    rw [timesC_f h0, h0]
    clear h1 hE hS h0
    go_enter Try.func50, Try.ntmps50
    go_wp2_with fail
    refine (HD _ (HE.out.up_ G0.old) (HS.out.up_ G0.old)).out.mono ?_
    rintro e w1 ⟨rfl, hb1⟩
    have G1 := Lib.hid (G0.next hb1)
    have c0 := G1.out.c0
    have c1 := G1.out.c1
    clear G0 hb1
    go_wp2
    go_ret2
    exact ⟨none, 0, rfl, OwnI.nil _ _ _, G1.out.old⟩
  | true =>
    rw [h1] at HD
    have HV := fun w => Lib.hid (l01In_any x (-1000) 1000 w)
    cases h2 : inB x (-1000) 1000 with
    | false =>
      rw [h2] at HV
      have h0 : timesOk N es a x = false := by rw [timesOk, h1, h2]; rfl
      rw [timesC_f h0, h0]
      clear h1 h2 hE hS h0
      go_enter Try.func50, Try.ntmps50
      go_wp2_with fail
      refine (HD _ (HE.out.up_ G0.old) (HS.out.up_ G0.old)).out.mono ?_
      rintro e w1 ⟨rfl, hb1⟩
      have G1 := Lib.hid (G0.next hb1)
      have c0 := G1.out.c0
      have c1 := G1.out.c1
      clear G0 hb1
      go_wp2_with fail
      refine (HV _).out.mono ?_
      rintro e w' ⟨rfl, rfl⟩
      go_wp2
      go_ret2
      exact ⟨none, 0, rfl, OwnI.nil _ _ _, G1.out.old⟩
    | true =>
      rw [h2] at HV
      have h0 : timesOk N es a x = true := by rw [timesOk, h1, h2]; rfl
      have hx : -1000 ≤ x ∧ x ≤ 1000 := by simpa [inB] using h2
      by_cases hneg : x < 0
      · obtain ⟨m, rfl, -, hG, hz⟩ := zero_parts h1
        rw [timesC_t h0]
        have hgx := hG.gx A w hE
        rw [sign_neg hneg]
        have hzs : ZerL m (negB a) := hz.neg
        have hzr := hzs.redZ hgx
        have hnx := itR_next hgx hzr
        have HRA := Lib.hid (fun (X : Option Addr) (cx : Nat) (W : World) (h1 : EdgeS W W.heap.size A es) (h2 : IntS W W.heap.size X a) => specRdc hG A X c cx W hz.len (fun u => by have := hz.lim u; omega) h1 h2)
        have HN := Lib.hid (fun (W : World) (h1 : IntS W W.heap.size D a) => specNeg D cd a W ha h1)
        have HR := Lib.hid (fun (X : Option Addr) (cx : Nat) (W : World) (h1 : EdgeS W W.heap.size A es) (h2 : IntS W W.heap.size X (negB a)) => specRdc hG A X c cx W hz.neg.len (fun u => by have := hz.neg.lim u; omega) h1 h2)
        obtain ⟨SS, hSS⟩ : ∃ x, x = rdc (m + 1) es (negB a) := ⟨_, rfl⟩
        rw [← hSS] at hzr hnx HR ⊢
        obtain ⟨T, hT⟩ : ∃ x, x = itR (m + 1) es SS := ⟨_, rfl⟩
        obtain ⟨P, hP⟩ : ∃ x : Nat → List Int, x = fun k => plusL (m + 1) (itR (m + 1) es SS k) SS := ⟨_, rfl⟩
        have HT0 := Lib.hid (show T 0 = List.replicate (m + 1) 0 from by rw [hT]; rfl)
        have HTL := Lib.hid (show ∀ k, (T k).length = m + 1 from fun k => by rw [hT]; exact (hnx k).2.2.1)
        have HAD := Lib.hid (show ∀ (k : Nat) (X : Option Addr) (cx : Nat) (Y : Option Addr) (cy : Nat) (W : World), IntS W W.heap.size X (T k) → IntS W W.heap.size Y SS → Calls Try.prog 96 #[.slice X (m + 1) cx, .slice Y (m + 1) cy] W (fun e w' => ∃ (A2 : Option Addr) (c2 : Nat), e = .returned (.tuple #[.slice A2 (m + 1) c2, .bool true]) ∧ OwnI w' W.heap.size A2 (P k) ∧ Below W.heap.size W w') from fun k X cx Y cy W h1 h2 => by
          have h := specAddD X Y cx cy (itR (m + 1) es SS k) SS W (by rw [(hnx k).2.2.1]; have := hG.m5; omega) (by rw [hzr.len]; have := hG.m5; omega) (by rw [← hT]; exact h1) h2
          rw [(hnx k).2.2.1, hzr.len, (hnx k).1, (hnx k).2.1] at h
          refine h.mono ?_
          rintro e w' ⟨A2, c2, rfl, ho, hb⟩
          refine ⟨A2, c2, by rw [plusL_len], ?_, hb⟩
          rw [hP]
          exact ho)
        have HRD := Lib.hid (show ∀ (k : Nat) (X : Option Addr) (cx : Nat) (W : World), EdgeS W W.heap.size A es → IntS W W.heap.size X (P k) → Calls Try.prog 97 #[.agg #[.int .i64 ((m + 1 : Nat) : Int), .slice A es.length c], .slice X (m + 1) cx, .int .i64 0] W (GivesRdc W (m + 1) (T (k + 1))) from fun k X cx W h1 h2 => by
          have h := specRdc hG A X c cx W (plusL_len (m + 1) (itR (m + 1) es SS k) SS) (hnx k).2.2.2 h1 (by rw [hP] at h2; exact h2)
          rw [plusL_len] at h
          rw [hT]
          exact h)
        have HRA := Lib.hid (fun (X : Option Addr) (cx : Nat) (W : World) (h1 : EdgeS W W.heap.size A es) (h2 : IntS W W.heap.size X a) => (HRA.out X cx W h1 h2).mono (fun e w' h => (show ∃ (A1 A2 : Option Addr) (c1 c2 : Nat), e = .returned (.tuple #[.slice A1 (m + 1) c1, .slice A2 (m + 1) c2]) ∧ Below W.heap.size W w' from by obtain ⟨A1, A2, c1, c2, h1, -, h2⟩ := h; exact ⟨A1, A2, c1, c2, h1, h2⟩)))
        rw [show itR (m + 1) es SS = T from hT.symm]
        have hmk := make_ints (m + 1) (by have := hG.m5; omega)
        have HZL := Lib.hid hz.len
        obtain ⟨n, hnn⟩ : ∃ k : Nat, k = x.natAbs := ⟨_, rfl⟩
        rw [← hnn]
        obtain rfl : x = -(n : Int) := by omega
        rw [h0]
        have hn1 : (0 : Int) ≤ (n : Int) := Int.natCast_nonneg _
        have hn2 : (n : Int) ≤ 1000 := by omega
        clear h0 h1 h2 hE hS hz hzs hzr hnx hG hgx hSS hT hP hnn hn ha
        generalize hK : m + 1 = K at *
        go_enter Try.func50, Try.ntmps50
        go_wp2_with fail
        refine (HD _ (HE.out.up_ G0.old) (HS.out.up_ G0.old)).out.mono ?_
        rintro e w1 ⟨rfl, hb1⟩
        have G1 := Lib.hid (G0.next hb1)
        have c0 := G1.out.c0
        have c1 := G1.out.c1
        clear G0 hb1
        go_wp2_with fail
        refine (HV _).out.mono ?_
        rintro e w' ⟨rfl, rfl⟩
        go_wp2_with fail
        refine (HRA.out D cd _ (HE.out.up_ G1.out.old) (HS.out.up_ G1.out.old)).mono ?_
        rintro e w2 ⟨A2, A3, c2, c3, rfl, hb2⟩
        have G2 := Lib.hid (G1.out.next hb2)
        clear hb2 c0 c1
        have c0 := G2.out.c0
        have c1 := G2.out.c1
        have HP0 := Lib.hid (show w2.drew.cell? ⟨w.heap.size, 0, none⟩ = some (.int .i64 (K : Int)) ∧ w2.drew.cell? ⟨w.heap.size, 1, none⟩ = some (.slice A es.length c) ∧ Below w2.heap.size w2 w2.drew from ⟨c0, c1, (Below.refl _ _).drew⟩)
        have PN := fun (W : World) (h : Below w2.heap.size w2 W) => HN.out W (HS.out.up_ (G2.out.next h).old)
        have PR := fun (W : World) (X : Option Addr) (cx : Nat) (h : Below w2.heap.size w2 W) (h2 : IntS W W.heap.size X (negB a)) => HR.out X cx W (HE.out.up_ (G2.out.next h).old) h2
        go_wp2_with fail
        go_region_held3 (fun w' => w'.cell? ⟨w.heap.size, 0, none⟩ = some (.int .i64 (K : Int)) ∧ w'.cell? ⟨w.heap.size, 1, none⟩ = some (.slice A es.length c) ∧ Below w2.heap.size w2 w')
          (first
            | with_reducible exact HP0.out
            | with_reducible exact keepG (by assumption) hbn
            | with_reducible exact keepG (by assumption) hbr)
          (first
            | (go_at_call 98; refine (PN _ (And.right (And.right (by assumption)))).mono ?_; rintro e wn ⟨An, cn, rfl, hon, hbn⟩; have hin := Lib.hid hon.ints; clear hon)
            | (go_at_call 97; refine (PR _ An cn (And.right (And.right (by assumption))) hin.out).mono ?_; rintro e wr ⟨Ar, Ar2, cr, cr2, rfl, hor, hbr⟩))
        all_goals
          have hb24 : Below w2.heap.size w2 wr := And.right (And.right (by assumption))
          have G4 := Lib.hid (G2.out.next hb24)
          have hst := hor.mono (Nat.le_trans G2.out.old.size hbn.size)
          clear hbn hbr hor hb24 c0 c1
          have hnn1 : IntKind.i64.wrap (-(-(n : Int))) = (n : Int) := by rw [IntKind.wrap_i64]; omega
          have hw4 := G4.out.lt
          have HST := Lib.hid (hst)
          clear hst
          go_wp2
          go_loopw [10, 11, 12, 13] (fun v i _ _ wr => ∃ (k c9 : Nat) (A9 : Option Addr), k ≤ n ∧ i = .int .i64 k ∧ v = .slice A9 K c9 ∧ GB w wr (K : Int) A c es ∧ OwnI wr w.heap.size A9 (T k) ∧ OwnI wr w.heap.size Ar SS) (fun _ i _ _ _ => n - (intOf i).toNat)
          case atStart =>
            have hbz : Below wr.heap.size wr (wr.alloc (.cells (intCells (List.replicate K 0)).toArray 3)) := (Below.refl _ _).alloc (Nat.le_refl _) _
            refine ⟨0, K, some ⟨wr.heap.size, 0, none⟩, Nat.zero_le _, rfl, rfl, G4.out.next hbz, ?_, HST.out.below hbz⟩
            rw [HT0.out]
            exact (Chips.of_blk (Blk.new wr 3 _)).own (by omega)
          case round =>
            clear HST hw4
            obtain ⟨k, c9, A9, hk, rfl, rfl, hg, ho, hs⟩ := hrel
            have G5 := Lib.hid hg
            have HO := Lib.hid ho
            have HSS := Lib.hid hs
            have c0 := G5.out.c0
            have c1 := G5.out.c1
            clear hg ho hs
            have hki : (0 : Int) ≤ (k : Int) := Int.natCast_nonneg _
            by_cases hlt : k < n
            · have hlt1 : (k : Int) < (n : Int) := by omega
              have HAD2 := HAD.out k A9 c9 Ar cr wr HO.out.ints HSS.out.ints
              go_wp2_with fail
              refine HAD2.mono ?_
              rintro e w6 ⟨A6, c6, rfl, ho6, hb6⟩
              have G6 := Lib.hid (G5.out.next hb6)
              have HO6 := Lib.hid ho6.ints
              have HSS6 := Lib.hid (HSS.out.below hb6)
              have c0 := G6.out.c0
              have c1 := G6.out.c1
              clear hb6 ho6 HAD2 HO HSS
              have HRD2 := HRD.out k A6 c6 w6 (HE.out.up_ G6.out.old) HO6.out
              go_wp2_with fail
              refine HRD2.mono ?_
              rintro e w7 ⟨A7, A8, c7, c8, rfl, ho7, hb7⟩
              have G7 := Lib.hid (G6.out.next hb7)
              have HO7 := Lib.hid (ho7.mono G6.out.old.size)
              have HSS7 := Lib.hid (HSS6.out.below hb7)
              clear hb7 ho7 HRD2 HO6 HSS6
              go_wp2
              exact ⟨⟨k + 1, c7, A7, by omega, by go_num, rfl, G7.out, HO7.out, HSS7.out⟩, by simp [intOf]; omega⟩
            · have hlt1 : ¬ (k : Int) < (n : Int) := by omega
              obtain rfl : k = n := by omega
              go_wp2
              go_ret2
              exact ⟨A9, c9, by rw [HTL.out]; rfl, HO.out, G5.out.old⟩
      · obtain ⟨m, rfl, -, hG, hz⟩ := zero_parts h1
        rw [timesC_t h0]
        have hgx := hG.gx A w hE
        rw [sign_pos hneg]
        have hzs : ZerL m a := hz
        have hzr := hzs.redZ hgx
        have hnx := itR_next hgx hzr
        have HRA := Lib.hid (fun (X : Option Addr) (cx : Nat) (W : World) (h1 : EdgeS W W.heap.size A es) (h2 : IntS W W.heap.size X a) => specRdc hG A X c cx W hz.len (fun u => by have := hz.lim u; omega) h1 h2)
        obtain ⟨SS, hSS⟩ : ∃ x, x = rdc (m + 1) es a := ⟨_, rfl⟩
        rw [← hSS] at hzr hnx HRA ⊢
        obtain ⟨T, hT⟩ : ∃ x, x = itR (m + 1) es SS := ⟨_, rfl⟩
        obtain ⟨P, hP⟩ : ∃ x : Nat → List Int, x = fun k => plusL (m + 1) (itR (m + 1) es SS k) SS := ⟨_, rfl⟩
        have HT0 := Lib.hid (show T 0 = List.replicate (m + 1) 0 from by rw [hT]; rfl)
        have HTL := Lib.hid (show ∀ k, (T k).length = m + 1 from fun k => by rw [hT]; exact (hnx k).2.2.1)
        have HAD := Lib.hid (show ∀ (k : Nat) (X : Option Addr) (cx : Nat) (Y : Option Addr) (cy : Nat) (W : World), IntS W W.heap.size X (T k) → IntS W W.heap.size Y SS → Calls Try.prog 96 #[.slice X (m + 1) cx, .slice Y (m + 1) cy] W (fun e w' => ∃ (A2 : Option Addr) (c2 : Nat), e = .returned (.tuple #[.slice A2 (m + 1) c2, .bool true]) ∧ OwnI w' W.heap.size A2 (P k) ∧ Below W.heap.size W w') from fun k X cx Y cy W h1 h2 => by
          have h := specAddD X Y cx cy (itR (m + 1) es SS k) SS W (by rw [(hnx k).2.2.1]; have := hG.m5; omega) (by rw [hzr.len]; have := hG.m5; omega) (by rw [← hT]; exact h1) h2
          rw [(hnx k).2.2.1, hzr.len, (hnx k).1, (hnx k).2.1] at h
          refine h.mono ?_
          rintro e w' ⟨A2, c2, rfl, ho, hb⟩
          refine ⟨A2, c2, by rw [plusL_len], ?_, hb⟩
          rw [hP]
          exact ho)
        have HRD := Lib.hid (show ∀ (k : Nat) (X : Option Addr) (cx : Nat) (W : World), EdgeS W W.heap.size A es → IntS W W.heap.size X (P k) → Calls Try.prog 97 #[.agg #[.int .i64 ((m + 1 : Nat) : Int), .slice A es.length c], .slice X (m + 1) cx, .int .i64 0] W (GivesRdc W (m + 1) (T (k + 1))) from fun k X cx W h1 h2 => by
          have h := specRdc hG A X c cx W (plusL_len (m + 1) (itR (m + 1) es SS k) SS) (hnx k).2.2.2 h1 (by rw [hP] at h2; exact h2)
          rw [plusL_len] at h
          rw [hT]
          exact h)
        rw [show itR (m + 1) es SS = T from hT.symm]
        have hmk := make_ints (m + 1) (by have := hG.m5; omega)
        have HZL := Lib.hid hz.len
        obtain ⟨n, hnn⟩ : ∃ k : Nat, k = x.natAbs := ⟨_, rfl⟩
        rw [← hnn]
        obtain rfl : x = (n : Int) := by omega
        rw [h0]
        have hn1 : (0 : Int) ≤ (n : Int) := Int.natCast_nonneg _
        have hn2 : (n : Int) ≤ 1000 := by omega
        clear h0 h1 h2 hE hS hz hzs hzr hnx hG hgx hSS hT hP hnn hn ha
        generalize hK : m + 1 = K at *
        go_enter Try.func50, Try.ntmps50
        go_wp2_with fail
        refine (HD _ (HE.out.up_ G0.old) (HS.out.up_ G0.old)).out.mono ?_
        rintro e w1 ⟨rfl, hb1⟩
        have G1 := Lib.hid (G0.next hb1)
        have c0 := G1.out.c0
        have c1 := G1.out.c1
        clear G0 hb1
        go_wp2_with fail
        refine (HV _).out.mono ?_
        rintro e w' ⟨rfl, rfl⟩
        go_wp2_with fail
        refine (HRA.out D cd _ (HE.out.up_ G1.out.old) (HS.out.up_ G1.out.old)).mono ?_
        rintro e w2 ⟨A2, A3, c2, c3, rfl, ho2, hb2⟩
        have G2 := Lib.hid (G1.out.next hb2)
        have hst := ho2.mono G1.out.old.size
        clear hb2 c0 c1 ho2
        have c0 := G2.out.c0
        have c1 := G2.out.c1
        have hw4 := G2.out.lt
        have HST := Lib.hid (hst)
        clear hst
        go_wp2
        go_loopw [10, 11, 12, 13] (fun v i _ _ wr => ∃ (k c9 : Nat) (A9 : Option Addr), k ≤ n ∧ i = .int .i64 k ∧ v = .slice A9 K c9 ∧ GB w wr (K : Int) A c es ∧ OwnI wr w.heap.size A9 (T k) ∧ OwnI wr w.heap.size A2 SS) (fun _ i _ _ _ => n - (intOf i).toNat)
        case atStart =>
          have hbz : Below w2.heap.size w2 (w2.alloc (.cells (intCells (List.replicate K 0)).toArray 3)) := (Below.refl _ _).alloc (Nat.le_refl _) _
          refine ⟨0, K, some ⟨w2.heap.size, 0, none⟩, Nat.zero_le _, rfl, rfl, G2.out.next hbz, ?_, HST.out.below hbz⟩
          rw [HT0.out]
          exact (Chips.of_blk (Blk.new w2 3 _)).own (by omega)
        case round =>
          clear HST hw4
          obtain ⟨k, c9, A9, hk, rfl, rfl, hg, ho, hs⟩ := hrel
          have G5 := Lib.hid hg
          have HO := Lib.hid ho
          have HSS := Lib.hid hs
          have c0 := G5.out.c0
          have c1 := G5.out.c1
          clear hg ho hs
          have hki : (0 : Int) ≤ (k : Int) := Int.natCast_nonneg _
          by_cases hlt : k < n
          · have hlt1 : (k : Int) < (n : Int) := by omega
            have HAD2 := HAD.out k A9 c9 A2 c2 wr HO.out.ints HSS.out.ints
            go_wp2_with fail
            refine HAD2.mono ?_
            rintro e w6 ⟨A6, c6, rfl, ho6, hb6⟩
            have G6 := Lib.hid (G5.out.next hb6)
            have HO6 := Lib.hid ho6.ints
            have HSS6 := Lib.hid (HSS.out.below hb6)
            have c0 := G6.out.c0
            have c1 := G6.out.c1
            clear hb6 ho6 HAD2 HO HSS
            have HRD2 := HRD.out k A6 c6 w6 (HE.out.up_ G6.out.old) HO6.out
            go_wp2_with fail
            refine HRD2.mono ?_
            rintro e w7 ⟨A7, A8, c7, c8, rfl, ho7, hb7⟩
            have G7 := Lib.hid (G6.out.next hb7)
            have HO7 := Lib.hid (ho7.mono G6.out.old.size)
            have HSS7 := Lib.hid (HSS6.out.below hb7)
            clear hb7 ho7 HRD2 HO6 HSS6
            go_wp2
            exact ⟨⟨k + 1, c7, A7, by omega, by go_num, rfl, G7.out, HO7.out, HSS7.out⟩, by simp [intOf]; omega⟩
          · have hlt1 : ¬ (k : Int) < (n : Int) := by omega
            obtain rfl : k = n := by omega
            go_wp2
            go_ret2
            exact ⟨A9, c9, by rw [HTL.out]; rfl, HO.out, G5.out.old⟩
end Go.Proofs.Ytmehdngibbilaaa

/- The critical group: the specification's side of OrderOf. -/
namespace Go.Proofs.Ytmehdngibbilaaa
open Go.RowKit

theorem det_small {m : Nat} {es : List (Int × Int)} (h : GrL m es) : gSets m (redA 0 es) m ≤ 7500000000000000000 := by
  have hb := det_bound ((List.range m).map (redA 0 es)) (List.range m) (by simp; have := h.m5; omega) (by simp) (fun r hr c => by
    obtain ⟨i, hi, rfl⟩ := List.mem_map.1 hr
    exact red_lim h.n12 i c)
  have h2 := dt_abs (n := m) (by have := h.m5; omega) (redA 0 es)
  unfold dt mnr at h2
  have h3 := hb.1
  have h4 := hb.2
  omega
theorem ord_is {m : Nat} {es : List (Int × Int)} {a : List Int} (h : GrL m es) (ha : ZerL m a) : IsOrd m es (gt a) (ordN m es (gt a)) ∧ ordN m es (gt a) ≤ gSets m (redA 0 es) m ∧ ordN m es (gt a) ∣ gSets m (redA 0 es) m := by
  obtain ⟨n, hn⟩ := ord_ex h.m5 h.cut h.ed ha.sum
  rw [hn.eq]
  have hd := hn.dvd (det_mul h.m5 h.ed ha.sum)
  exact ⟨hn, Nat.le_of_dvd (red_det h.m5 (Nat.zero_le m) h.cut h.ed).2 hd, hd⟩
theorem ord_at {m : Nat} {es : List (Int × Int)} {a : List Int} (hG : GrL m es) (h : Gx m es) (ha : ZerL m a) : itR (m + 1) es (rdc (m + 1) es a) 1 = rdc (m + 1) es a ∧ ∀ j, 1 ≤ j → j ≤ ordN m es (gt a) → (itR (m + 1) es (rdc (m + 1) es a) j = List.replicate (m + 1) 0 ↔ j = ordN m es (gt a)) := by
  have hr := h.rdc ha.len fun u => by have := ha.lim u; omega
  have hz := ha.redZ h
  obtain ⟨ho, -⟩ := ord_is hG ha
  have hall := ItR.all h hz.lim hz.sum
  refine ⟨(hall 1).uniq h ⟨hr.red, Eqv.of_eq fun u _ => by simp, hr.zero h.m5 ha.sum, hz.sum⟩, fun j h1 hj => ?_⟩
  have e : ∀ k : Nat, Eqv (m + 1) es (fun u => (k : Int) * gt (rdc (m + 1) es a) u) (fun _ => 0) ↔ Eqv (m + 1) es (fun u => (k : Int) * gt a u) (fun _ => 0) := fun k => ⟨fun g => (hr.eqv.mul k).trans g, fun g => (hr.eqv.symm.mul k).trans g⟩
  rw [(hall j).zero_iff h, e]
  constructor
  · intro g
    apply Classical.byContradiction
    intro hne
    exact ho.2.2 j (by omega) (by omega) g
  · rintro rfl
    exact ho.2.1
set_option maxRecDepth 100000 in
set_option maxHeartbeats 4000000 in
theorem specOrdC (N : Int) (A D : Option Addr) (c cd : Nat) (es : List (Int × Int)) (a : List Int) (w : World) (hn : es.length ≤ 1048576) (ha : a.length ≤ 1048576) (hE : EdgeS w w.heap.size A es) (hS : IntS w w.heap.size D a) :
    Calls Try.prog 51 #[.agg #[.int .i64 N, .slice A es.length c], .slice D a.length cd] w fun e w' => e = .returned (.int .i64 (ordC N es a)) ∧ Below w.heap.size w w' := by
  obtain ⟨i0, hi, hz0, hz1, hz2⟩ := info_parts intInfo
  have HE := Lib.hid hE
  have HS := Lib.hid hS
  have G0 := GB.start w N A c es
  have HD := fun w h1 h2 => Lib.hid (l09Zero_any N A D c cd es a w hn ha h1 h2)
  cases h1 : zeroB N es a with
  | false =>
    rw [h1] at HD
    rw [ordC_f h1]
    clear h1 hE hS
    go_enter Try.func51, Try.ntmps51
    go_wp2_with fail
    refine (HD _ (HE.out.up_ G0.old) (HS.out.up_ G0.old)).out.mono ?_
    rintro e w1 ⟨rfl, hb1⟩
    have G1 := Lib.hid (G0.next hb1)
    have c0 := G1.out.c0
    have c1 := G1.out.c1
    clear G0 hb1
    go_wp2
    go_ret
    exact ⟨rfl, G1.out.old⟩
  | true =>
    rw [h1] at HD
    obtain ⟨m, rfl, -, hG, hz⟩ := zero_parts h1
    rw [ordC_t h1]
    have hgx := hG.gx A w hE
    have hzr := hz.redZ hgx
    have hnx := itR_next hgx hzr
    obtain ⟨ht1, htz⟩ := ord_at hG hgx hz
    obtain ⟨hio, hle, -⟩ := ord_is hG hz
    have hn0 := hio.1
    have hds := det_small hG
    have HRA := Lib.hid (fun (X : Option Addr) (cx : Nat) (W : World) (h1 : EdgeS W W.heap.size A es) (h2 : IntS W W.heap.size X a) => specRdc hG A X c cx W hz.len (fun u => by have := hz.lim u; omega) h1 h2)
    obtain ⟨n, hnn⟩ : ∃ k : Nat, k = ordN m es (gt a) := ⟨_, rfl⟩
    rw [← hnn] at htz hn0 hle ⊢
    obtain ⟨SS, hSS⟩ : ∃ x, x = rdc (m + 1) es a := ⟨_, rfl⟩
    rw [← hSS] at hzr hnx ht1 htz HRA
    obtain ⟨T, hT⟩ : ∃ x, x = itR (m + 1) es SS := ⟨_, rfl⟩
    obtain ⟨P, hP⟩ : ∃ x : Nat → List Int, x = fun k => plusL (m + 1) (itR (m + 1) es SS k) SS := ⟨_, rfl⟩
    rw [← hT] at ht1 htz
    have HTL := Lib.hid (show ∀ k, (T k).length = m + 1 from fun k => by rw [hT]; exact (hnx k).2.2.1)
    have HAD := Lib.hid (show ∀ (k : Nat) (X : Option Addr) (cx : Nat) (Y : Option Addr) (cy : Nat) (W : World), IntS W W.heap.size X (T k) → IntS W W.heap.size Y SS → Calls Try.prog 96 #[.slice X (m + 1) cx, .slice Y (m + 1) cy] W (fun e w' => ∃ (A2 : Option Addr) (c2 : Nat), e = .returned (.tuple #[.slice A2 (m + 1) c2, .bool true]) ∧ OwnI w' W.heap.size A2 (P k) ∧ Below W.heap.size W w') from fun k X cx Y cy W h1 h2 => by
      have h := specAddD X Y cx cy (itR (m + 1) es SS k) SS W (by rw [(hnx k).2.2.1]; have := hG.m5; omega) (by rw [hzr.len]; have := hG.m5; omega) (by rw [← hT]; exact h1) h2
      rw [(hnx k).2.2.1, hzr.len, (hnx k).1, (hnx k).2.1] at h
      refine h.mono ?_
      rintro e w' ⟨A2, c2, rfl, ho, hb⟩
      refine ⟨A2, c2, by rw [plusL_len], ?_, hb⟩
      rw [hP]
      exact ho)
    have HRD := Lib.hid (show ∀ (k : Nat) (X : Option Addr) (cx : Nat) (W : World), EdgeS W W.heap.size A es → IntS W W.heap.size X (P k) → Calls Try.prog 97 #[.agg #[.int .i64 ((m + 1 : Nat) : Int), .slice A es.length c], .slice X (m + 1) cx, .int .i64 0] W (GivesRdc W (m + 1) (T (k + 1))) from fun k X cx W h1 h2 => by
      have h := specRdc hG A X c cx W (plusL_len (m + 1) (itR (m + 1) es SS k) SS) (hnx k).2.2.2 h1 (by rw [hP] at h2; exact h2)
      rw [plusL_len] at h
      rw [hT]
      exact h)
    have HSD := Lib.hid (show ∀ (k : Nat) (X : Option Addr) (cx : Nat) (Y : Option Addr) (cy : Nat) (W : World), 1 ≤ k → k ≤ n → IntS W W.heap.size X (T k) → IntS W W.heap.size Y (List.replicate (m + 1) 0) → Calls Try.prog 100 #[.slice X (m + 1) cx, .slice Y (m + 1) cy] W (fun e w' => e = .returned (.bool (decide (k = n))) ∧ Below W.heap.size W w') from fun k X cx Y cy W h1 h2 h3 h4 => by
      have h := specSameD X Y cx cy (T k) (List.replicate (m + 1) 0) W (by rw [HTL.out]; have := hG.m5; omega) (by simp; have := hG.m5; omega) h3 h4
      rw [HTL.out, List.length_replicate, decide_eq_decide.2 (htz k h1 h2)] at h
      exact h)
    have hmk := make_ints (m + 1) (by have := hG.m5; omega)
    have HT1 := Lib.hid ht1
    have HSL := Lib.hid hzr.len
    have hn9 : n ≤ 7500000000000000000 := by omega
    have hk1 : 1 ≤ m + 1 := by omega
    have hk7 : m + 1 ≤ 7 := by have := hG.m5; omega
    clear h1 hE hS hz hzr hnx hG hgx hSS hT hP hnn hn ha ht1 htz hio hle hds
    generalize hK : m + 1 = K at *
    go_enter Try.func51, Try.ntmps51
    go_wp2_with fail
    refine (HD _ (HE.out.up_ G0.old) (HS.out.up_ G0.old)).out.mono ?_
    rintro e w1 ⟨rfl, hb1⟩
    have G1 := Lib.hid (G0.next hb1)
    have c0 := G1.out.c0
    have c1 := G1.out.c1
    clear G0 hb1
    go_wp2_with fail
    refine (HRA.out D cd _ (HE.out.up_ G1.out.old) (HS.out.up_ G1.out.old)).mono ?_
    rintro e w2 ⟨A2, A3, c2, c3, rfl, ho2, hb2⟩
    have G2 := Lib.hid (G1.out.next hb2)
    have hst := ho2.mono G1.out.old.size
    clear hb2 c0 c1 ho2
    have c0 := G2.out.c0
    have c1 := G2.out.c1
    obtain ⟨g2, o2, rfl, hg2, hlt2, hc2⟩ := hst (by rw [HSL.out]; omega)
    have HST := Lib.hid hst
    have HC2 := Lib.hid hc2
    obtain ⟨wz, hwz⟩ : ∃ q, q = w2.alloc (.cells (intCells (List.replicate K 0)).toArray 3) := ⟨_, rfl⟩
    have hbz : Below w2.heap.size w2 wz := by rw [hwz]; exact (Below.refl _ _).alloc (Nat.le_refl _) _
    have HZZ := Lib.hid (show Chips wz w2.heap.size (List.replicate K 0) from by rw [hwz]; exact Chips.of_blk (Blk.new w2 3 _))
    have G3 := Lib.hid (G2.out.next hbz)
    have HST3 := Lib.hid (HST.out.below hbz)
    have HB3 := Lib.hid hbz
    have hs3 : w.heap.size < wz.heap.size := G3.out.lt
    have hO := own_emptyF wz wz.heap.size (Nat.le_refl _) 3
    have HWZ := Lib.hid hwz
    have HWS := Lib.hid (show wz.heap.size = w2.heap.size + 1 by rw [hwz]; simp)
    have HO0 := Lib.hid (show ((w2.alloc (.cells (intCells (List.replicate K 0)).toArray 3)).alloc (.cells #[] 3)).ownsRow wz.heap.size 3 1 (.slice (some ⟨(w2.alloc (.cells (intCells (List.replicate K 0)).toArray 3)).heap.size, 0, none⟩) 0 0) 0 [] from by rw [← hwz]; exact hO)
    simp only [World.size_alloc] at HO0
    clear hst hc2 hwz hbz hO
    go_wp2_with (at_builtin; refine wpList_append_own _ rfl _ _ 27 rfl wz.heap.size 3 i0 (.int .i64 0) 1 8 Try.underlying27 hi hz0 hz1 hz2 rfl (by decide) _ _ _ rfl HO0.out ⟨g2, o2, none⟩ K c2 (intCells SS) rfl ?k0 ?k1 ?k2 ?k3 ?k4 ?k5 ?_)
    case k0 => simp [intCells, HSL.out]
    case k1 =>
      intro j u hj
      simp only [intCells, List.getElem?_map, Option.map_eq_some_iff] at hj
      obtain ⟨z, hz, rfl⟩ := hj
      rw [Addr.add_lit]
      have h5 := (HC2.out j z hz).1
      have hlt3 : g2 < w2.heap.size := hlt2
      exact (((((Below.refl w2.heap.size w2).alloc (Nat.le_refl _) _).alloc (by simp) _)).cell (p := ⟨g2, o2 + j, none⟩) hlt3).trans h5
    case k2 =>
      intro u hu
      simp only [intCells, List.mem_map] at hu
      obtain ⟨z, _, rfl⟩ := hu
      rfl
    case k3 => unfold maxLen; omega
    case k4 => omega
    case k5 =>
      have := HWS.out
      simp
      omega
    intro v' w5 hown hgrow _
    obtain ⟨g5, cg5, rfl, hg5, hch⟩ := Chips.of_own (l := SS) hown (by omega)
    have hb35 : Below wz.heap.size wz w5 := by
      rw [← HWZ.out] at hgrow
      exact ((Below.refl wz.heap.size wz).alloc (Nat.le_refl _) _).trans (grown_below hgrow (by simp) (fun k hk => by have := (HO0.out.lt k hk).1; omega))
    have G5 := Lib.hid (G3.out.next hb35)
    have HST5 := Lib.hid (HST3.out.below hb35)
    have HZ5 := Lib.hid (HZZ.out.below hb35)
    have HO5 := Lib.hid (hch.own (base := w.heap.size) (by omega))
    clear hown hgrow hch hb35 HO0 HST HST3 HZZ G3 HB3 HWZ HC2 hi hz0 hz1 hz2 hmk
    go_wp2
    go_loopw [8, 9, 10, 11] (fun v i _ _ wr => ∃ (j c9 : Nat) (A9 : Option Addr), 1 ≤ j ∧ j ≤ n ∧ i = .int .i64 j ∧ v = .slice A9 K c9 ∧ GB w wr (K : Int) A c es ∧ OwnI wr w.heap.size A9 (T j) ∧ OwnI wr w.heap.size (some ⟨g2, o2, none⟩) SS ∧ Chips wr w2.heap.size (List.replicate K 0)) (fun _ i _ _ _ => n - (intOf i).toNat)
    case atStart =>
      refine ⟨1, cg5, some ⟨g5, 0, none⟩, by omega, by omega, rfl, rfl, G5.out, ?_, HST5.out, HZ5.out⟩
      rw [HT1.out]
      exact HO5.out
    case round =>
      clear G5 HST5 HZ5 HO5 HT1
      obtain ⟨j, c9, A9, hj1, hjn, rfl, rfl, hg, ho, hs, hzz⟩ := hrel
      have G6 := Lib.hid hg
      have HO := Lib.hid ho
      have HSS := Lib.hid hs
      have HZ := Lib.hid hzz
      have c0 := G6.out.c0
      have c1 := G6.out.c1
      clear hg ho hs hzz
      have hji : (0 : Int) ≤ (j : Int) := Int.natCast_nonneg _
      have HSD2 := HSD.out j A9 c9 (some ⟨w2.heap.size, 0, none⟩) K wr hj1 hjn HO.out.ints HZ.out.ints
      by_cases hlt : j = n
      · rw [decide_eq_true hlt] at HSD2
        go_wp2_with fail
        refine HSD2.mono ?_
        rintro e w7 ⟨rfl, hb7⟩
        have G7 := Lib.hid (G6.out.next hb7)
        clear hb7 HSD2 c0 c1
        subst hlt
        go_wp2
        go_ret
        exact ⟨rfl, G7.out.old⟩
      · rw [decide_eq_false hlt] at HSD2
        go_wp2_with fail
        refine HSD2.mono ?_
        rintro e w7 ⟨rfl, hb7⟩
        have G7 := Lib.hid (G6.out.next hb7)
        have HO7 := Lib.hid (HO.out.below hb7)
        have HSS7 := Lib.hid (HSS.out.below hb7)
        have HZ7 := Lib.hid (HZ.out.below hb7)
        clear hb7 HSD2 c0 c1 HO HSS HZ
        have HAD2 := HAD.out j A9 c9 (some ⟨g2, o2, none⟩) c2 w7 HO7.out.ints HSS7.out.ints
        go_wp2_with fail
        refine HAD2.mono ?_
        rintro e w8 ⟨A8, c8, rfl, ho8, hb8⟩
        have G8 := Lib.hid (G7.out.next hb8)
        have HO8 := Lib.hid ho8.ints
        have HSS8 := Lib.hid (HSS7.out.below hb8)
        have HZ8 := Lib.hid (HZ7.out.below hb8)
        have c0 := G8.out.c0
        have c1 := G8.out.c1
        clear hb8 ho8 HAD2 HSS7 HZ7 HO7
        have HRD2 := HRD.out j A8 c8 w8 (HE.out.up_ G8.out.old) HO8.out
        go_wp2_with fail
        refine HRD2.mono ?_
        rintro e w9 ⟨A7, A6, c7, c6, rfl, ho9, hb9⟩
        have G9 := Lib.hid (G8.out.next hb9)
        have HO9 := Lib.hid (ho9.mono G8.out.old.size)
        have HSS9 := Lib.hid (HSS8.out.below hb9)
        have HZ9 := Lib.hid (HZ8.out.below hb9)
        clear hb9 ho9 HRD2 HSS8 HZ8 HO8
        go_wp2
        exact ⟨⟨j + 1, c7, A7, by omega, by omega, by go_num, rfl, G9.out, HO9.out, HSS9.out, HZ9.out⟩, by simp [intOf]; omega⟩
end Go.Proofs.Ytmehdngibbilaaa

/- The critical group: the specification's side of GroupOrder, GroupFactors and IsCyclic. -/
namespace Go.Proofs.Ytmehdngibbilaaa
open Go.RowKit

theorem facC_f {N : Int} {es : List (Int × Int)} (h : graphB N es = false) : facC N es = [] := by rw [facC, if_neg (by rw [h]; decide)]
theorem facC_t {N : Int} {es : List (Int × Int)} (h : graphB N es = true) : facC N es = (invB (redB N es 0)).filter fun x => decide (1 < x) := by rw [facC, if_pos h]
def Seg (w : World) (lo hi : Nat) (A : Option Addr) (xs : List Int) : Prop := 0 < xs.length → ∃ b o : Nat, A = some ⟨b, o, none⟩ ∧ lo ≤ b ∧ b < hi ∧ ∀ (i : Nat) (z : Int), xs[i]? = some z → w.cell? ⟨b, o + i, none⟩ = some (.int .i64 z)
theorem Seg.of_own {w : World} {base : Nat} {A : Option Addr} {xs : List Int} (h : OwnI w base A xs) : Seg w base w.heap.size A xs := fun hn => by
  obtain ⟨b, o, e, h1, h2, h3⟩ := h hn
  exact ⟨b, o, e, h1, h2, fun i z hz => (h3 i z hz).1⟩
theorem Seg.ints {w : World} {lo hi : Nat} {A : Option Addr} {xs : List Int} (h : Seg w lo hi A xs) (hs : hi ≤ w.heap.size) : IntS w w.heap.size A xs := fun hn => by
  obtain ⟨b, o, e, h1, h2, h3⟩ := h hn
  exact ⟨b, o, e, by omega, h3⟩
theorem Seg.grown {w w1 : World} {lo hi : Nat} {A : Option Addr} {xs : List Int} {row : Option Nat} (h : Seg w lo hi A xs) (hs : hi ≤ w.heap.size) (hg : w.grownBy w1 row) (hr : ∀ k, row = some k → k < lo ∨ hi ≤ k) : Seg w1 lo hi A xs := fun hn => by
  obtain ⟨b, o, e, h1, h2, h3⟩ := h hn
  refine ⟨b, o, e, h1, h2, fun i z hz => (World.cell?_of_block (a := ⟨b, o + i, none⟩) (hg.block b (by omega) (fun hq => ?_))).trans (h3 i z hz)⟩
  have := hr b hq.symm
  omega
theorem Seg.below {w w1 : World} {lo hi : Nat} {A : Option Addr} {xs : List Int} (h : Seg w lo hi A xs) (hs : hi ≤ w.heap.size) (hb : Below w.heap.size w w1) : Seg w1 lo hi A xs := fun hn => by
  obtain ⟨b, o, e, h1, h2, h3⟩ := h hn
  exact ⟨b, o, e, h1, h2, fun i z hz => (hb.cell (p := ⟨b, o + i, none⟩) (by simp only; omega)).trans (h3 i z hz)⟩
theorem filterI_snoc {p : Int → Bool} {l : List Int} {k : Nat} {x : Int} (h : l[k]? = some x) : (l.take (k + 1)).filter p = (l.take k).filter p ++ if p x = true then [x] else [] := by
  rw [List.take_add_one, h, List.filter_append]
  cases hp : p x <;> simp [hp]
set_option maxRecDepth 100000 in
set_option maxHeartbeats 2000000 in
theorem specOrdG (N : Int) (A : Option Addr) (c : Nat) (es : List (Int × Int)) (w : World) (hn : es.length ≤ 1048576) (hE : EdgeS w w.heap.size A es) :
    Calls Try.prog 35 #[.agg #[.int .i64 N, .slice A es.length c]] w fun e w' => e = .returned (.int .i64 (treesB N es)) ∧ Below w.heap.size w w' := by
  have HE := Lib.hid hE
  have G0 := GB.start w N A c es
  have HD := fun w h1 => Lib.hid (specTrees N A c es w hn h1)
  clear hE
  go_enter Try.func35, Try.ntmps35
  go_wp2_with fail
  refine (HD _ (HE.out.up_ G0.old)).out.mono ?_
  rintro e w1 ⟨rfl, hb1⟩
  have G1 := Lib.hid (G0.next hb1)
  clear G0 hb1
  go_wp2
  go_ret
  exact ⟨rfl, G1.out.old⟩
set_option maxRecDepth 100000 in
set_option maxHeartbeats 4000000 in
theorem specFac (N : Int) (A : Option Addr) (c : Nat) (es : List (Int × Int)) (w : World) (hn : es.length ≤ 1048576) (hE : EdgeS w w.heap.size A es) :
    Calls Try.prog 38 #[.agg #[.int .i64 N, .slice A es.length c]] w (GivesInts w (facC N es)) := by
  obtain ⟨i0, hi, hz0, hz1, hz2⟩ := info_parts intInfo
  have HE := Lib.hid hE
  have G0 := GB.start w N A c es
  have HD := fun w h1 => Lib.hid (specGraphOk N A c es w (by omega) h1)
  cases h1 : graphB N es with
  | false =>
    rw [h1] at HD
    rw [facC_f h1]
    clear h1 hE
    go_enter Try.func38, Try.ntmps38
    go_wp2_with fail
    refine (HD _ (HE.out.up_ G0.old)).out.mono ?_
    rintro e w1 ⟨rfl, hb1⟩
    have G1 := Lib.hid (G0.next hb1)
    clear G0 hb1
    go_wp2
    go_ret
    exact ⟨none, 0, rfl, OwnI.nil _ _ _, G1.out.old⟩
  | true =>
    rw [h1] at HD
    rw [facC_t h1]
    have HR := fun w h1 => Lib.hid (specRlp N A c es 0 w hn h1)
    obtain ⟨hr6, hrl⟩ := redB_len (N := N) (es := es) (q := 0)
    obtain ⟨rs, hrs⟩ : ∃ rs, rs = redB N es 0 := ⟨_, rfl⟩
    rw [← hrs] at HR hr6 hrl ⊢
    have HI := fun (A : Option Addr) (c : Nat) (w : World) h => Lib.hid (specInv A c rs w (by omega) (fun r hr => by have := hrl r hr; omega) h)
    have hzl := invB_len (rs := rs) (by omega)
    obtain ⟨zs, hzs⟩ : ∃ zs, zs = invB rs := ⟨_, rfl⟩
    rw [← hzs] at HI hzl ⊢
    obtain ⟨F, hF⟩ : ∃ F : Nat → List Int, F = fun k => (zs.take k).filter fun x => decide (1 < x) := ⟨_, rfl⟩
    have HF0 := Lib.hid (show F 0 = [] by rw [hF]; rfl)
    have HFS := Lib.hid (show ∀ (k : Nat) (x : Int), zs[k]? = some x → F (k + 1) = F k ++ if decide (1 < x) = true then [x] else [] from fun k x hx => by rw [hF]; exact filterI_snoc hx)
    have HFL := Lib.hid (show F zs.length = zs.filter fun x => decide (1 < x) by rw [hF]; simp)
    have HFK := Lib.hid (show ∀ k, k ≤ zs.length → (F k).length ≤ k from fun k hk => by rw [hF]; exact Nat.le_trans (List.length_filter_le _ _) (by simp; omega))
    rw [← HFL.out]
    have HZL := Lib.hid hzl
    clear h1 hE hrs hzs hF hr6 hrl hzl HFL hn
    go_enter Try.func38, Try.ntmps38
    go_wp2_with fail
    refine (HD _ (HE.out.up_ G0.old)).out.mono ?_
    rintro e w1 ⟨rfl, hb1⟩
    have G1 := Lib.hid (G0.next hb1)
    have c0 := G1.out.c0
    have c1 := G1.out.c1
    have hw1 := G1.out.lt
    clear G0 hb1
    have hba : Below w1.heap.size w1 (w1.alloc (.cells #[] 3)) := (Below.refl _ _).alloc (Nat.le_refl _) _
    have HOA := Lib.hid (own_emptyF w1 w1.heap.size (Nat.le_refl _) 3)
    have GA := Lib.hid (G1.out.next hba)
    clear hba
    go_wp2_with fail
    refine (HR _ (HE.out.up_ GA.out.old)).out.mono ?_
    rintro e w2 ⟨A2, c2, rfl, hr2, hb2⟩
    have G2 := Lib.hid (GA.out.next hb2)
    have HR2 := Lib.hid hr2
    have HO2 := Lib.hid (World.ownsRow.kept (row := none) HOA.out ⟨hb2.os, hb2.tape, hb2.output, hb2.size, fun i hi _ => hb2.block i hi⟩ (Classical.em _))
    have hs2 : w1.heap.size + 1 ≤ w2.heap.size := by have := hb2.size; simpa using this
    clear hr2 hb2 c0 c1 HOA GA
    go_wp2_with fail
    refine (HI _ _ _ HR2.out).out.mono ?_
    rintro e w3 ⟨A3, c3, rfl, ho3, hb3⟩
    have G3 := Lib.hid (G2.out.next hb3)
    have HO3 := Lib.hid (World.ownsRow.kept (row := none) HO2.out ⟨hb3.os, hb3.tape, hb3.output, hb3.size, fun i hi _ => hb3.block i hi⟩ (Classical.em _))
    have HSG := Lib.hid (Seg.of_own ho3)
    have hs3 := hb3.size
    obtain ⟨hh, hhh⟩ : ∃ q, q = w3.heap.size := ⟨_, rfl⟩
    obtain ⟨lo, hlo⟩ : ∃ q, q = w2.heap.size := ⟨_, rfl⟩
    rw [← hhh, ← hlo] at HSG
    have hhs : w1.heap.size + 1 ≤ lo := by omega
    have hls : lo ≤ hh := by omega
    have hh3 : hh ≤ w3.heap.size := by omega
    clear hb3 ho3 HO2 HR2 G2 hs2 hs3 hlo hhh HR HI HD
    go_wp2
    go_loopw [3, 5, 14] (fun v _ i wr => ∃ k : Nat, k ≤ zs.length ∧ i = .int .i64 k ∧ GB w wr N A c es ∧ wr.ownsRow w1.heap.size 3 1 v (F k).length (intCells (F k)) ∧ Seg wr lo hh A3 zs ∧ hh ≤ wr.heap.size ∧ ∀ g, v.ownBlock = some g → g < lo ∨ hh ≤ g) (fun _ _ i _ => zs.length - (intOf i).toNat)
    case atStart =>
      refine ⟨0, Nat.zero_le _, rfl, G3.out, ?_, HSG.out, hh3, fun g hg => .inl ?_⟩
      · rw [HF0.out]
        exact HO3.out
      · have := Option.some.inj (show some w1.heap.size = some g from hg)
        omega
    case round =>
      clear G3 HO3 HSG HF0 hh3 G1
      obtain ⟨k, hk, rfl, hg, ho, hseg, hhw, hblk⟩ := hrel
      have G4 := Lib.hid hg
      have HO := Lib.hid ho
      have HSG := Lib.hid hseg
      have HBK := Lib.hid hblk
      have hlw := (HFK.out k hk)
      have hzl := HZL.out
      clear hg ho hseg hblk
      have hki : (0 : Int) ≤ (k : Int) := Int.natCast_nonneg _
      by_cases hlt : k < zs.length
      · have hlt1 : (k : Int) < (zs.length : Int) := by omega
        obtain ⟨b1, o1, x, rfl, hb1, he, hc0⟩ := (HSG.out.ints hhw).at_ hlt
        have HFS2 := Lib.hid (HFS.out k x he)
        clear he
        by_cases hx : 1 < x
        · rw [if_pos (by simpa using hx)] at HFS2
          go_wp2_with (at_builtin; refine wpList_append_own_at _ rfl _ _ 27 rfl w1.heap.size 3 i0 (.int .i64 0) 1 8 Try.underlying27 hi hz0 hz1 hz2 rfl (by decide) _ _ _ rfl (HO.out.alloc _) ⟨wr.heap.size, 0, none⟩ 1 1 [.int .i64 x] rfl rfl ?c1 ?c2 ?c3 ?c4 ?c5 ?_)
          case c1 => exact one_cellI _ _ (by simp) _ _
          case c2 => simp [Value.oneCell']
          case c3 => unfold maxLen; omega
          case c4 => omega
          case c5 => simp; omega
          intro v' w5 hown' hgrow _ hat
          have HO2 := Lib.hid hown'
          have hba : Below wr.heap.size wr (wr.alloc (.cells #[.int .i64 x] 3)) := (Below.refl _ _).alloc (Nat.le_refl _) _
          have G5 := Lib.hid (G4.out.next hba)
          have hlow : ∀ q, u3.ownBlock = some q → w1.heap.size ≤ q := fun q hq => (HO.out.lt q hq).1
          have G6 := Lib.hid (show GB w w5 N A c es from ⟨G5.out.box.grown hgrow (fun h => by have := hlow _ h; omega), G5.out.old.grown hgrow G5.out.old.size (fun q hq => by have := hlow q hq; omega)⟩)
          have HS6 := Lib.hid ((HSG.out.below hhw hba).grown (by simp; omega) hgrow HBK.out)
          have hs6 := hgrow.size
          have hw6 : hh ≤ w5.heap.size := by simp at hs6; omega
          have HB6 := Lib.hid (show ∀ g, v'.ownBlock = some g → g < lo ∨ hh ≤ g from fun g hg => by
            rcases hat with e | e
            · exact HBK.out g (by rw [← e]; exact hg)
            · rw [e] at hg
              have := Option.some.inj hg
              have e2 : (wr.alloc (.cells #[.int .i64 x] 3)).heap.size = wr.heap.size + 1 := by simp
              omega)
          clear hown' hgrow hba hat hlow hs6 hc0
          go_wp2
          refine ⟨⟨k + 1, by omega, by go_num, G6.out, ?_, HS6.out, hw6, HB6.out⟩, by simp [intOf]; omega⟩
          have h3 := HO2.out
          rw [HFS2.out]
          simpa [intCells] using h3
        · rw [if_neg (by simpa using hx)] at HFS2
          go_wp2
          refine ⟨⟨k + 1, by omega, by go_num, G4.out, ?_, HSG.out, hhw, HBK.out⟩, by simp [intOf]; omega⟩
          rw [HFS2.out, List.append_nil]
          exact HO.out
      · have HO3 := HO.out
        obtain rfl : k = zs.length := by omega
        obtain ⟨Ar, cr, rfl⟩ : ∃ Ar cr, u3 = .slice Ar (F zs.length).length cr := by
          rcases HO3.2 with ⟨h1, h2⟩ | ⟨g, cap, cur, h1, _⟩
          · exact ⟨none, 0, by rw [h1, h2]⟩
          · exact ⟨_, _, h1⟩
        have HFF := Lib.hid (OwnI.of_own HO3)
        clear HO3
        go_wp2
        go_ret
        exact ⟨Ar, cr, rfl, HFF.out.mono (by omega), G4.out.old⟩
set_option maxRecDepth 100000 in
set_option maxHeartbeats 2000000 in
theorem specCyc (N : Int) (A : Option Addr) (c : Nat) (es : List (Int × Int)) (w : World) (hn : es.length ≤ 1048576) (hE : EdgeS w w.heap.size A es) :
    Calls Try.prog 53 #[.agg #[.int .i64 N, .slice A es.length c]] w fun e w' => e = .returned (.bool (cycC N es)) ∧ Below w.heap.size w w' := by
  have HE := Lib.hid hE
  have G0 := GB.start w N A c es
  have HD := fun w h1 => Lib.hid (specGraphOk N A c es w (by omega) h1)
  have HFC := fun w h1 => Lib.hid (specFac N A c es w hn h1)
  unfold cycC
  clear hE
  cases h1 : graphB N es with
  | false =>
    rw [h1] at HD
    clear h1
    go_enter Try.func53, Try.ntmps53
    go_wp2_with fail
    refine (HD _ (HE.out.up_ G0.old)).out.mono ?_
    rintro e w1 ⟨rfl, hb1⟩
    have G1 := Lib.hid (G0.next hb1)
    clear G0 hb1
    go_wp2
    go_ret
    exact ⟨ret_boolE rfl, G1.out.old⟩
  | true =>
    rw [h1] at HD
    obtain ⟨L, hL⟩ : ∃ q, q = facC N es := ⟨_, rfl⟩
    rw [← hL] at HFC ⊢
    clear h1 hL
    go_enter Try.func53, Try.ntmps53
    go_wp2_with fail
    refine (HD _ (HE.out.up_ G0.old)).out.mono ?_
    rintro e w1 ⟨rfl, hb1⟩
    have G1 := Lib.hid (G0.next hb1)
    have c0 := G1.out.c0
    have c1 := G1.out.c1
    clear G0 hb1
    go_wp2_with fail
    refine (HFC _ (HE.out.up_ G1.out.old)).out.mono ?_
    rintro e w2 ⟨A2, c2, rfl, -, hb2⟩
    have G2 := Lib.hid (G1.out.next hb2)
    clear hb2 c0 c1
    go_wp2
    go_ret
    exact ⟨ret_boolE (by rw [Bool.true_and, Bool.eq_iff_iff, decide_eq_true_eq, decide_eq_true_eq]; omega), G2.out.old⟩
end Go.Proofs.Ytmehdngibbilaaa

/- laws.FnGroups, FnOrders, FnFactors: the plain facts. -/
namespace Go.Proofs.Ytmehdngibbilaaa
open Go.RowKit

section
variable {m : Nat} {es : List (Int × Int)} {a b : List Int}
theorem ZerL.redR (h : Gx m es) (ha : ZerL m a) : ZerL m (rdc (m + 1) es a) ∧ Eqv (m + 1) es (gt (rdc (m + 1) es a)) (gt a) ∧ RedN (m + 1) es 0 (rdc (m + 1) es a) := by
  have hr := h.rdc ha.len fun u => by have := ha.lim u; omega
  exact ⟨ha.redZ h, hr.eqv.symm, hr.red⟩
theorem ZerL.same (h : Gx m es) (ha : ZerL m a) (hb : ZerL m b) (ra : RedN (m + 1) es 0 a) (rb : RedN (m + 1) es 0 b) (e : Eqv (m + 1) es (gt a) (gt b)) : a = b :=
  h.uniq ra rb (fun u => by have := ha.lim u; omega) (fun u => by have := hb.lim u; omega) e
theorem ZerL.none : ZerL m (List.replicate (m + 1) 0) := ⟨by simp, fun u => by rw [gt_rep]; omega, by rw [sumN_congr (f := gt (List.replicate (m + 1) 0)) (g := fun _ => 0) _ fun u _ => gt_rep _ u, sumN_zero]⟩
/-! ### multiples -/
/-! ### factors -/
end
end Go.Proofs.Ytmehdngibbilaaa

/- The critical group: no answer is long. -/
namespace Go.Proofs.Ytmehdngibbilaaa
open Go.RowKit

theorem facC_len (N : Int) (es : List (Int × Int)) : (facC N es).length ≤ 6 := by
  cases h : graphB N es with
  | false => rw [facC_f h]; simp
  | true =>
    rw [facC_t h]
    refine Nat.le_trans (List.length_filter_le _ _) ?_
    have h2 := (redB_len (N := N) (es := es) (q := 0)).1
    unfold invB
    split
    · rw [natI_len, facB_len, divsB_len]
      exact h2
    · simp
theorem zer_six {N : Int} {es : List (Int × Int)} {a : List Int} (h : zeroB N es a = true) : N.toNat ≤ 6 := by
  obtain ⟨m, rfl, -, hG, -⟩ := zero_parts h
  have := hG.m5
  omega
theorem sumC_len (N : Int) (es : List (Int × Int)) (a b : List Int) : (sumC N es a b).length ≤ 6 := by
  unfold sumC
  split
  · next h => rw [rdc_len]; rw [Bool.and_eq_true] at h; exact zer_six h.1
  · simp
theorem invC_len (N : Int) (es : List (Int × Int)) (a : List Int) : (invC N es a).length ≤ 6 := by
  unfold invC
  split
  · next h => rw [rdc_len]; exact zer_six h
  · simp
theorem itR_len (M : Nat) (es : List (Int × Int)) (s : List Int) (k : Nat) : (itR M es s k).length = M := by
  cases k with
  | zero => simp [itR]
  | succ k => rw [itR, rdc_len]
theorem timesC_len (N : Int) (es : List (Int × Int)) (a : List Int) (n : Int) : (timesC N es a n).length ≤ 6 := by
  unfold timesC
  split
  · next h => rw [itR_len]; rw [timesOk, Bool.and_eq_true] at h; exact zer_six h.1
  · simp
theorem diffC_len (N : Int) (es : List (Int × Int)) (v w : Int) : (diffC N es v w).length ≤ 6 := by
  unfold diffC
  split
  · next h =>
    rw [diffOk, Bool.and_eq_true] at h
    obtain ⟨m, rfl, hG⟩ := grl_of h.1
    rw [rdc_len]
    have := hG.m5
    omega
  · simp
end Go.Proofs.Ytmehdngibbilaaa

/- MakeZero: a drawn divisor, made of degree 0 at the first vertex. -/
namespace Go.Proofs.Ytmehdngibbilaaa
open Go.RowKit

set_option maxHeartbeats 1000000 in
theorem specDegW (A : Option Addr) (c : Nat) (xs : List Int) (w : World) (hn : xs.length ≤ 1048576) (hS : IntS w w.heap.size A xs) :
    Calls Try.prog 67 #[.slice A xs.length c] w fun e w' => e = .returned (.int .i64 (degB xs xs.length)) ∧ w' = w := by
  have HS := Lib.hid hS
  clear hS
  go_enter Try.func67, Try.ntmps67
  go_wp2
  go_loop [3, 8] (fun s i => ∃ j : Nat, j ≤ xs.length ∧ i = .int .i64 j ∧ s = .int .i64 (degB xs j)) (fun _ i => xs.length - (intOf i).toNat)
  case atStart => exact ⟨0, Nat.zero_le _, rfl, rfl⟩
  case round =>
    obtain ⟨j, hj, rfl, rfl⟩ := hrel
    by_cases hlt : j < xs.length
    · obtain ⟨b1, o1, x, rfl, hb1, he, hc0⟩ := HS.out.at_ hlt
      have hj0 : (0 : Int) ≤ (j : Int) := Int.natCast_nonneg _
      have hj1 : (j : Int) < (xs.length : Int) := by omega
      have HD := Lib.hid (degB_step he)
      clear he
      go_wp2
      exact ⟨⟨j + 1, by omega, by go_num, by rw [HD.out]⟩, by simp [intOf]; omega⟩
    · have HJ := Lib.hid (show j = xs.length by omega)
      go_wp2
      go_ret
      exact ⟨ret_intE (by rw [HJ.out]), rfl⟩
end Go.Proofs.Ytmehdngibbilaaa
