/- The number of spanning trees that the program computes is the plain determinant; GroupOrder: both sides. -/
import Derived.Test.YtdpojcgeblbfeaaVBP
import Derived.Test.YtdpojcgeblbfeaaVBT
import Derived.Test.YtdpojcgeblbfeaaVBI
import Derived.Test.YtdpojcgeblbfeaaVBD
set_option linter.all false
namespace Go.Proofs.Ytdpojcgeblbfeaa
open Go.RowKit

section
variable {M : Nat}
theorem mult_join {v w : Nat} (hv : v < M) (hw : w < M) : ∀ es : List (Int × Int), multB (M : Int) es (v : Int) (w : Int) = joinL v w es
  | [] => by
    unfold multB joinL
    split <;> simp
  | e :: l => by
    have ih := mult_join hv hw l
    unfold multB at ih ⊢
    rw [joinL, ← ih]
    unfold joinI
    by_cases h : v = w
    · subst h
      simp
    · have hc : 0 ≤ (v : Int) ∧ (v : Int) < (M : Int) ∧ 0 ≤ (w : Int) ∧ (w : Int) < (M : Int) ∧ (v : Int) ≠ (w : Int) := by omega
      rw [if_pos hc, if_pos hc, List.count_cons]
      by_cases g : e = (min (v : Int) (w : Int), max (v : Int) (w : Int))
      · have hb : (e == (min (v : Int) (w : Int), max (v : Int) (w : Int))) = true := by rw [g]; exact beq_self_eq_true _
        rw [hb, if_pos rfl, if_pos ⟨h, g⟩]
        omega
      · have hb : (e == (min (v : Int) (w : Int), max (v : Int) (w : Int))) = false := by simpa using g
        rw [hb, if_neg (by decide), if_neg (fun x => g x.2)]
        omega
theorem val_ends (v : Nat) : ∀ es : List (Int × Int), ((es.filter (touch (v : Int))).length : Int) = endIL v es
  | [] => rfl
  | e :: l => by
    have ih := val_ends v l
    rw [endIL, ← ih, List.filter_cons]
    unfold endI touch
    split
    · simp; omega
    · simp
theorem lapE_L {u v : Nat} (hu : u < M) (hv : v < M) (es : List (Int × Int)) : lapE M es u v = lapL u v es := by
  unfold lapE
  by_cases h : u = v
  · subst h
    rw [if_pos rfl, valB_yes (vB_t (by omega)), val_ends, lapL_same]
  · rw [if_neg h, mult_join hu hv, lapL_other h]
end
theorem lapP_abs (u v : Nat) (e : Int × Int) : -1 ≤ lapP u v e ∧ lapP u v e ≤ 1 := by
  unfold lapP endI joinI
  split <;> split <;> omega
theorem lapL_abs (u v : Nat) : ∀ es : List (Int × Int), -(es.length : Int) ≤ lapL u v es ∧ lapL u v es ≤ es.length
  | [] => by simp [lapL]
  | e :: l => by
    have h1 := lapL_abs u v l
    have h2 := lapP_abs u v e
    rw [lapL, List.length_cons]
    omega
section
variable {m q : Nat} {es : List (Int × Int)}
def rowsF (n : Nat) (f : Nat → Nat → Int) : List (List Int) := (List.range n).map fun i => (List.range n).map (f i)
theorem rowsF_len (n : Nat) (f : Nat → Nat → Int) : (rowsF n f).length = n := by simp [rowsF]
theorem erase_map {α β : Type} (f : α → β) : ∀ (l : List α) (k : Nat), (l.map f).eraseIdx k = (l.eraseIdx k).map f
  | [], _ => rfl
  | _ :: _, 0 => rfl
  | x :: l, k + 1 => by simp [erase_map f l k]
theorem redB_rows (hB : graphB ((m + 1 : Nat) : Int) es = true) (hq : q ≤ m) : redB ((m + 1 : Nat) : Int) es (q : Int) = rowsF m (redA q es) := by
  rw [redB_t hB (vB_t (by omega)), Int.toNat_natCast, Int.toNat_natCast]
  unfold redM lapM rowsF
  rw [erase_map, range_skip, if_pos hq, List.map_map, List.map_map]
  refine List.map_congr_left fun i hi => ?_
  have hi := List.mem_range.1 hi
  show (lapR (m + 1) es (skip q i)).eraseIdx q = _
  unfold lapR
  rw [erase_map, range_skip, if_pos hq, List.map_map]
  refine List.map_congr_left fun j hj => ?_
  have hj := List.mem_range.1 hj
  exact lapE_L (skip_lt hi) (skip_lt hj) es
theorem rows_mat {n : Nat} (hn : n ≤ 6) {f : Nat → Nat → Int} (hf : ∀ i j, i < n → j < n → -500 ≤ f i j ∧ f i j ≤ 500) : matB (rowsF n f) = true := by
  unfold matB
  rw [rowsF_len, Bool.and_eq_true, decide_eq_true_eq, List.all_eq_true]
  refine ⟨hn, fun r hr => ?_⟩
  obtain ⟨i, hi, rfl⟩ := List.mem_map.1 hr
  unfold rowOk
  rw [Bool.and_eq_true, decide_eq_true_eq, List.all_eq_true]
  refine ⟨by simp, fun x hx => ?_⟩
  obtain ⟨j, hj, rfl⟩ := List.mem_map.1 hx
  have := hf i j (List.mem_range.1 hi) (List.mem_range.1 hj)
  simp [entryOk]
  omega
theorem rowsF_at {n : Nat} {f : Nat → Nat → Int} {i j : Nat} (hi : i < n) (hj : j < n) : rowF ((rowsF n f).getD i []) j = f i j := by
  simp [rowsF, rowF, List.getD, hi, hj]
theorem rowF_inT {r : List Int} (h : ∀ x ∈ r, -500 ≤ x ∧ x ≤ 500) (c : Nat) : in5 (rowF r c) := by
  unfold rowF in5
  simp only [List.getD]
  cases hx : r[c]? with
  | none => simp
  | some x => exact h x (List.mem_of_getElem? hx)
theorem det_rows {n : Nat} (hn : n ≤ 6) {f : Nat → Nat → Int} (hf : ∀ i j, i < n → j < n → -500 ≤ f i j ∧ f i j ≤ 500) : detB (rowsF n f) = dt n f := by
  have e : detF ((rowsF n f).map rowF) (List.range n) = dt n f := by
    unfold dt mnr
    refine det_congr (by simp [rowsF]) (fun i r r' hr hr' j hj => ?_) (by simp [rowsF])
    have hj := List.mem_range.1 hj
    rw [List.getElem?_map, Option.map_eq_some_iff] at hr hr'
    obtain ⟨a, ha, rfl⟩ := hr
    obtain ⟨b, hb, rfl⟩ := hr'
    have hi : i < n := by have := (List.getElem?_eq_some_iff.1 ha).1; rwa [rowsF_len] at this
    have hb2 : b = i := by simp [hi] at hb; omega
    subst hb2
    have := rowsF_at (f := f) hi hj
    rwa [List.getD, ha, Option.getD_some] at this
  have hm := rows_mat hn hf
  have hb := det_bound ((rowsF n f).map rowF) (List.range n) (by simp [rowsF]; exact hn) (by simp [rowsF]) (fun r hr c => by
    obtain ⟨a, ha, rfl⟩ := List.mem_map.1 hr
    exact rowF_inT ((matB_entries hm).2 a ha).2 c)
  rw [detB_t hm, rowsF_len, e]
  rw [e] at hb
  exact wrap64_of (by have := hb.1; omega) (by have := hb.2; omega)
theorem red_lim (hn : es.length ≤ 12) (i j : Nat) : -500 ≤ redA q es i j ∧ redA q es i j ≤ 500 := by
  have := lapL_abs (skip q i) (skip q j) es
  show -500 ≤ lapL (skip q i) (skip q j) es ∧ lapL (skip q i) (skip q j) es ≤ 500
  omega
theorem trees_det (hB : graphB ((m + 1 : Nat) : Int) es = true) (hm : m ≤ 5) (hn : es.length ≤ 12) : treesB ((m + 1 : Nat) : Int) es = dt m (redA 0 es) := by
  have e := redB_rows (q := 0) hB (Nat.zero_le m)
  rw [treesB_t hB, show (0 : Int) = ((0 : Nat) : Int) from rfl, e]
  exact det_rows (by omega) fun i j _ _ => red_lim hn i j
end
end Go.Proofs.Ytdpojcgeblbfeaa
