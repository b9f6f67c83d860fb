/- One text out of several: GrpN GrpO GrpQ GrpR GrpS GrpT GrpU GrpV. -/
import Derived.Test.YtmehdngibbilaaaLBQ
import Derived.Test.YtmehdngibbilaaaLBA
import Derived.Test.YtmehdngibbilaaaLBO
import Derived.Test.YtmehdngibbilaaaLBI
import Derived.Test.YtmehdngibbilaaaLBD
import Derived.Test.YtmehdngibbilaaaLBE
/- Lists in order: the specification's l09Less; sorting by insertion from the right; what is sorted and has given members is one list. -/
namespace Go.Proofs.Ytmehdngibbilaaa
open Go.RowKit

def lessL : List Int → List Int → Bool
  | x :: a, y :: b => if x = y then lessL a b else decide (x < y)
  | _, _ => false
theorem lessL_irrefl : ∀ a, lessL a a = false
  | [] => rfl
  | x :: a => by rw [lessL, if_pos rfl]; exact lessL_irrefl a
theorem lessL_trans : ∀ {a b c : List Int}, lessL a b = true → lessL b c = true → lessL a c = true
  | x :: a, y :: b, z :: c, h1, h2 => by
    rw [lessL] at h1 h2 ⊢
    by_cases e1 : x = y
    · subst e1
      by_cases e2 : x = z
      · subst e2
        rw [if_pos rfl] at h1 h2 ⊢
        exact lessL_trans h1 h2
      · rw [if_neg e2] at h2 ⊢
        exact h2
    · rw [if_neg e1, decide_eq_true_eq] at h1
      by_cases e2 : y = z
      · subst e2
        rw [if_neg e1, decide_eq_true_eq]
        exact h1
      · rw [if_neg e2, decide_eq_true_eq] at h2
        rw [if_neg (by omega), decide_eq_true_eq]
        omega
  | x :: a, y :: b, [], h1, h2 => by simp [lessL] at h2
  | x :: a, [], c, h1, h2 => by simp [lessL] at h1
  | [], b, c, h1, h2 => by simp [lessL] at h1
theorem lessL_total : ∀ {a b : List Int}, a.length = b.length → lessL a b = false → a = b ∨ lessL b a = true
  | [], [], _, _ => .inl rfl
  | x :: a, y :: b, hl, h => by
    rw [lessL] at h ⊢
    by_cases e : x = y
    · subst e
      rw [if_pos rfl] at h ⊢
      rcases lessL_total (by simpa using hl) h with g | g
      · exact .inl (by rw [g])
      · exact .inr g
    · rw [if_neg e, decide_eq_false_iff_not] at h
      rw [if_neg (fun g => e g.symm), decide_eq_true_eq]
      exact .inr (by omega)
  | [], _ :: _, hl, _ => by simp at hl
  | _ :: _, [], hl, _ => by simp at hl
theorem lessL_asymm {a b : List Int} (h : lessL a b = true) : lessL b a = false := by
  cases g : lessL b a with
  | false => rfl
  | true => have := lessL_trans h g; rw [lessL_irrefl] at this; cases this
/-! ### insertion from the right -/
def posL (x : List Int) (L : List (List Int)) : Nat → Nat
  | 0 => 0
  | k + 1 => if lessL x (L.getD k []) = true then posL x L k else k + 1
theorem posL_le (x : List Int) (L : List (List Int)) : ∀ k, posL x L k ≤ k
  | 0 => Nat.le_refl _
  | k + 1 => by
    rw [posL]
    split
    · exact Nat.le_succ_of_le (posL_le x L k)
    · exact Nat.le_refl _
def insL (x : List Int) (L : List (List Int)) : List (List Int) := L.take (posL x L L.length) ++ x :: L.drop (posL x L L.length)
theorem insL_mem {x y : List Int} {L : List (List Int)} : y ∈ insL x L ↔ y = x ∨ y ∈ L := by
  unfold insL
  rw [List.mem_append, List.mem_cons]
  constructor
  · rintro (h | h | h)
    · exact .inr (List.mem_of_mem_take h)
    · exact .inl h
    · exact .inr (List.mem_of_mem_drop h)
  · rintro (h | h)
    · exact .inr (.inl h)
    · rw [← List.take_append_drop (posL x L L.length) L, List.mem_append] at h
      rcases h with h | h
      · exact .inl h
      · exact .inr (.inr h)
theorem posL_behind {x : List Int} {L : List (List Int)} : ∀ {k j : Nat}, posL x L k ≤ j → j < k → lessL x (L.getD j []) = true
  | 0, j, _, h => by omega
  | k + 1, j, h1, h2 => by
    rw [posL] at h1
    split at h1
    · next h =>
      by_cases e : j = k
      · rw [e]; exact h
      · exact posL_behind h1 (by omega)
    · omega
theorem posL_ahead {x : List Int} {L : List (List Int)} : ∀ {k : Nat}, 0 < posL x L k → lessL x (L.getD (posL x L k - 1) []) = false
  | 0, h => by simp [posL] at h
  | k + 1, h => by
    rw [posL] at h ⊢
    split
    · next g => rw [if_pos g] at h; exact posL_ahead h
    · next g => simpa using g
theorem insL_sorted {x : List Int} {L : List (List Int)} (h : L.Pairwise fun a b => lessL a b = true) (hx : ¬ x ∈ L) (hl : ∀ y ∈ L, y.length = x.length) : (insL x L).Pairwise fun a b => lessL a b = true := by
  have hp := posL_le x L L.length
  have hs : (L.take (posL x L L.length) ++ L.drop (posL x L L.length)).Pairwise fun a b => lessL a b = true := by rw [List.take_append_drop]; exact h
  rw [List.pairwise_append] at hs
  obtain ⟨s1, s2, s3⟩ := hs
  unfold insL
  rw [List.pairwise_append, List.pairwise_cons]
  have hb : ∀ b ∈ L.drop (posL x L L.length), lessL x b = true := fun b hb => by
    obtain ⟨i, hi, rfl⟩ := List.getElem_of_mem hb
    rw [List.getElem_drop]
    have hi2 : posL x L L.length + i < L.length := by simp at hi; omega
    have := posL_behind (x := x) (L := L) (k := L.length) (j := posL x L L.length + i) (by omega) hi2
    rwa [List.getD, List.getElem?_eq_getElem hi2, Option.getD_some] at this
  have ha : ∀ a ∈ L.take (posL x L L.length), lessL a x = true := fun a ha => by
    obtain ⟨i, hi, rfl⟩ := List.getElem_of_mem ha
    rw [List.getElem_take]
    have hi2 : i < posL x L L.length := by simp at hi; omega
    have h0 := posL_ahead (x := x) (L := L) (k := L.length) (by omega)
    have hj : posL x L L.length - 1 < L.length := by omega
    rw [List.getD, List.getElem?_eq_getElem hj, Option.getD_some] at h0
    have hlast : lessL (L[posL x L L.length - 1]) x = true := by
      rcases lessL_total (by rw [hl _ (List.getElem_mem hj)]) h0 with e | e
      · exact absurd (e ▸ List.getElem_mem hj) hx
      · exact e
    by_cases e : i = posL x L L.length - 1
    · have : L[i]'(by omega) = L[posL x L L.length - 1] := by congr 1
      rw [this]
      exact hlast
    · exact lessL_trans (List.pairwise_iff_getElem.1 h i _ (by omega) hj (by omega)) hlast
  refine ⟨s1, ⟨hb, s2⟩, fun a h1 b h2 => ?_⟩
  rw [List.mem_cons] at h2
  rcases h2 with rfl | h2
  · exact ha a h1
  · exact s3 a h1 b h2
def sortF (acc : List (List Int)) (L : List (List Int)) : List (List Int) := L.foldl (fun acc x => insL x acc) acc
def sortL (L : List (List Int)) : List (List Int) := sortF [] L
theorem sortF_mem : ∀ {L acc : List (List Int)} {y : List Int}, y ∈ sortF acc L ↔ y ∈ acc ∨ y ∈ L
  | [], acc, y => by simp [sortF]
  | x :: L, acc, y => by
    show y ∈ sortF (insL x acc) L ↔ _
    rw [sortF_mem, insL_mem, List.mem_cons]
    constructor
    · rintro ((h | h) | h)
      · exact .inr (.inl h)
      · exact .inl h
      · exact .inr (.inr h)
    · rintro (h | h | h)
      · exact .inl (.inr h)
      · exact .inl (.inl h)
      · exact .inr h
theorem sortF_sorted {n : Nat} : ∀ {L acc : List (List Int)}, acc.Pairwise (fun a b => lessL a b = true) → (∀ y ∈ acc, y.length = n) → (∀ y ∈ L, y.length = n) → L.Nodup → (∀ y ∈ L, ¬ y ∈ acc) → (sortF acc L).Pairwise fun a b => lessL a b = true
  | [], acc, h, _, _, _, _ => h
  | x :: L, acc, h, ha, hl, hn, hd => by
    rw [List.nodup_cons] at hn
    have hx := hl x (by simp)
    exact sortF_sorted (L := L) (insL_sorted h (hd x (by simp)) fun y hy => by rw [ha y hy, hx]) (fun y hy => by
      rcases insL_mem.1 hy with rfl | hy
      · exact hx
      · exact ha y hy) (fun y hy => hl y (by simp [hy])) hn.2 (fun y hy hc => by
      rcases insL_mem.1 hc with rfl | hc
      · exact hn.1 hy
      · exact hd y (by simp [hy]) hc)
theorem sortL_mem {L : List (List Int)} {y : List Int} : y ∈ sortL L ↔ y ∈ L := by rw [sortL, sortF_mem]; simp
theorem sortL_sorted {n : Nat} {L : List (List Int)} (hl : ∀ y ∈ L, y.length = n) (hn : L.Nodup) : (sortL L).Pairwise fun a b => lessL a b = true := sortF_sorted (n := n) (by simp) (by simp) hl hn (by simp)
theorem sorted_same : ∀ {L K : List (List Int)}, L.Pairwise (fun a b => lessL a b = true) → K.Pairwise (fun a b => lessL a b = true) → (∀ x, x ∈ L ↔ x ∈ K) → L = K
  | [], K, _, _, h => by
    cases K with
    | nil => rfl
    | cons y K => exact absurd ((h y).2 (by simp)) (by simp)
  | x :: L, [], _, _, h => absurd ((h x).1 (by simp)) (by simp)
  | x :: L, y :: K, h1, h2, h => by
    rw [List.pairwise_cons] at h1 h2
    have e : x = y := by
      have hx := (h x).1 (by simp)
      have hy := (h y).2 (by simp)
      rw [List.mem_cons] at hx hy
      rcases hx with hx | hx
      · exact hx
      · rcases hy with hy | hy
        · exact hy.symm
        · have a1 := h2.1 x hx
          have a2 := h1.1 y hy
          rw [lessL_asymm a1] at a2
          cases a2
    subst e
    rw [sorted_same h1.2 h2.2 fun z => ?_]
    have hz := h z
    rw [List.mem_cons, List.mem_cons] at hz
    constructor
    · intro hm
      rcases hz.1 (.inr hm) with g | g
      · subst g
        have := h1.1 z hm
        rw [lessL_irrefl] at this
        cases this
      · exact g
    · intro hm
      rcases hz.2 (.inr hm) with g | g
      · subst g
        have := h2.1 z hm
        rw [lessL_irrefl] at this
        cases this
      · exact g
end Go.Proofs.Ytmehdngibbilaaa

/- The specification's l09Sort: rows are put in order by insertion; the rows' numbers stay where they lie. -/
namespace Go.Proofs.Ytmehdngibbilaaa
open Go.RowKit

def Hole (us : List Value) (n q : Nat) (cs : Array Value) : Prop := (∀ j, j < q → cs[j]? = us[j]?) ∧ ∀ j, q ≤ j → j < n → cs[j + 1]? = us[j]?
section
variable {us : List Value} {n q : Nat} {cs : Array Value} {u : Value}
theorem Hole.start (hl : us.length = n) (h : cs.toList.take (n + 1) = us ++ [u]) : Hole us n n cs := by
  refine ⟨fun j hj => ?_, fun j h1 h2 => by omega⟩
  have e : (cs.toList.take (n + 1))[j]? = (us ++ [u])[j]? := by rw [h]
  rw [List.getElem?_take_of_lt (by omega), List.getElem?_append_left (by omega), Array.getElem?_toList] at e
  exact e
theorem Hole.fill (h : Hole us n q cs) (hl : us.length = n) (hq : q ≤ n) (hs : n < cs.size) (u : Value) : (cs.setIfInBounds q u).toList.take (n + 1) = us.take q ++ u :: us.drop q := by
  apply List.ext_getElem?
  intro i
  by_cases hi : i < n + 1
  · rw [List.getElem?_take_of_lt hi, Array.getElem?_toList, Array.getElem?_setIfInBounds]
    by_cases e : q = i
    · subst e
      rw [if_pos rfl, if_pos (by omega), List.getElem?_append_right (by simp; omega)]
      simp [hl, Nat.min_eq_left hq]
    · rw [if_neg e]
      by_cases c : i < q
      · rw [h.1 i c, List.getElem?_append_left (by simp; omega), List.getElem?_take_of_lt c]
      · obtain ⟨j, rfl⟩ : ∃ j, i = j + 1 := ⟨i - 1, by omega⟩
        rw [h.2 j (by omega) (by omega), List.getElem?_append_right (by simp; omega), List.length_take, Nat.min_eq_left (by omega), show j + 1 - q = (j - q) + 1 by omega, List.getElem?_cons_succ, List.getElem?_drop]
        congr 1
        omega
  · rw [List.getElem?_eq_none (by simp; omega), List.getElem?_eq_none (by simp; omega)]
end
theorem Hole.own {wx : World} {g cap base : Nat} {t : TypeId} {us : List Value} {k q : Nat} {cs : Array Value} (hB : Blk wx g t cs) (hh : Hole us k q cs) (hl : us.length = k) (hq : q ≤ k) (hs : cs.size = cap * 1) (hle : k + 1 ≤ cap) (hmax : cap ≤ maxLen) (hbg : base ≤ g) (u : Value) :
    (wx.setCell ⟨g, q, none⟩ u).ownsRow base t 1 (.slice (some ⟨g, 0, none⟩) (k + 1) cap) (k + 1) (us.take q ++ u :: us.drop q) := by
  refine ⟨by simp; omega, .inr ⟨g, cap, cs.setIfInBounds q u, rfl, hbg, hB.set_ q u, hle, hmax, by simp; omega, ?_⟩⟩
  rw [Nat.mul_one]
  exact hh.fill hl hq (by omega) u
def RowsV (w : World) (us : List Value) (L : List (List Int)) : Prop := us.length = L.length ∧ ∀ (i : Nat) (r : List Int), L[i]? = some r → ∃ (A : Option Addr) (c : Nat), us[i]? = some (.slice A r.length c) ∧ IntS w w.heap.size A r
theorem RowsV.nil (w : World) : RowsV w [] [] := ⟨rfl, fun i r h => by simp at h⟩
end Go.Proofs.Ytmehdngibbilaaa

/- The classes of degree 0, in order: which list it is, and how long. -/
namespace Go.Proofs.Ytmehdngibbilaaa
open Go.RowKit

theorem heat_val (p : Int → Bool) (u : Nat) : ∀ es : List (Int × Int), (∀ e ∈ es, e.1 < e.2) → heat p u es ≤ endIL u es
  | [], _ => by simp [heat, endIL]
  | e :: l, h => by
    have h1 := h e (by simp)
    have ih := heat_val p u l (fun x hx => h x (by simp [hx]))
    have key : heatE p u e ≤ endI u e := by
      unfold heatE endI ind
      by_cases g1 : (u : Int) = e.1
      · rw [if_neg (show ¬ (u : Int) = e.2 by omega), if_pos (show ((e.1 == (u : Int)) || (e.2 == (u : Int))) = true by simp [g1])]
        split <;> split <;> omega
      · rw [if_neg g1]
        by_cases g2 : (u : Int) = e.2
        · rw [if_pos g2, if_pos (show ((e.1 == (u : Int)) || (e.2 == (u : Int))) = true by simp [g2])]
          split <;> split <;> omega
        · rw [if_neg g2]
          split <;> split <;> split <;> omega
    simp only [heat, endIL]
    omega
theorem endIL_le (v : Nat) : ∀ es : List (Int × Int), 0 ≤ endIL v es ∧ endIL v es ≤ es.length
  | [] => by simp [endIL]
  | e :: l => by
    have ih := endIL_le v l
    have : 0 ≤ endI v e ∧ endI v e ≤ 1 := by
      unfold endI
      split <;> omega
    rw [endIL, List.length_cons]
    omega
theorem RedN.below {M q : Nat} {es : List (Int × Int)} {x : List Int} (h : RedN M es q x) (hq : q < M) (hes : ∀ e ∈ es, 0 ≤ e.1 ∧ e.1 < e.2 ∧ e.2 < (M : Int)) (u : Nat) (hu : u < M) (huq : u ≠ q) : x.getD u 0 < endIL u es := by
  have hq2 : 0 ≤ (q : Int) ∧ (q : Int) < (M : Int) := by omega
  have hb := (burntL_all (es := es) (d := x) hq2).1.full h.all
  obtain ⟨v, hv, hA, hlt⟩ := burn_meets (d := x) (es := es) hq2 (fun y => decide (y = (u : Int))) (by
    rw [decide_eq_false_iff_not]
    omega) ⟨(u : Int), hb u hu, by simp⟩
  simp only [decide_eq_true_eq] at hA
  have hvu : v = u := by omega
  subst hvu
  exact Int.lt_of_lt_of_le hlt (heat_val _ v es fun e he => (hes e he).2.1)
def ClsP (m : Nat) (es : List (Int × Int)) (d : List Int) : Prop := RedN (m + 1) es 0 d ∧ sumN (m + 1) (gt d) = 0
section
variable {m : Nat} {es : List (Int × Int)} {L : List (List Int)} {x y : List Int}
theorem RedN.lim (hG : GrL m es) (h : RedN (m + 1) es 0 x) (u : Nat) (hu : u < m + 1) (hne : u ≠ 0) : 0 ≤ gt x u ∧ gt x u ≤ 11 := by
  have h1 := h.pos u hu hne
  have h2 := h.below (by omega) hG.ed u hu hne
  have h3 := (endIL_le u es).2
  have := hG.n12
  exact ⟨h1, by unfold gt; omega⟩
theorem ClsP.zer (hG : GrL m es) (h : ClsP m es x) : ZerL m x := by
  refine ⟨h.1.len, fun u => ?_, h.2⟩
  by_cases hu : u < m + 1
  · by_cases h0 : u = 0
    · subst h0
      have h1 := h.2
      rw [sumN_skip (gt x) (a := 0) m (Nat.zero_le m)] at h1
      have h2 := sum_lim (f := fun j => gt x (skip 0 j)) (a := 0) (b := 11) m fun j hj => h.1.lim hG _ (skip_lt hj) (skip_ne 0 j)
      have := hG.m5
      omega
    · have := h.1.lim hG u hu h0
      omega
  · rw [gt_out (by rw [h.1.len]; omega)]
    omega
def IsCls (m : Nat) (es : List (Int × Int)) (L : List (List Int)) : Prop := (L.Pairwise fun a b => lessL a b = true) ∧ ∀ x, x ∈ L ↔ ClsP m es x
open Classical in
noncomputable def clsL (m : Nat) (es : List (Int × Int)) : List (List Int) := if h : ∃ L, IsCls m es L then Classical.choose h else []
theorem IsCls.eq (h : IsCls m es L) : clsL m es = L := by
  have hx : ∃ L, IsCls m es L := ⟨L, h⟩
  rw [clsL, dif_pos hx]
  have hc := Classical.choose_spec hx
  exact sorted_same hc.1 h.1 fun z => by rw [hc.2, h.2]
theorem sink_set (hl : x.length = m + 1) : (x.set 0 (gt x 0 - sumN (m + 1) (gt x))).length = m + 1 ∧ (∀ u, u ≠ 0 → gt (x.set 0 (gt x 0 - sumN (m + 1) (gt x))) u = gt x u) ∧ sumN (m + 1) (gt (x.set 0 (gt x 0 - sumN (m + 1) (gt x)))) = 0 := by
  have hset : ∀ u, gt (x.set 0 (gt x 0 - sumN (m + 1) (gt x))) u = if u = 0 then gt x 0 - sumN (m + 1) (gt x) else gt x u := fun u => by
    unfold gt
    rw [List.getD, List.getD, List.getElem?_set]
    by_cases h0 : u = 0
    · subst h0
      rw [if_pos rfl, if_pos (by omega), if_pos rfl]
      rfl
    · rw [if_neg (fun h => h0 h.symm), if_neg h0]
      rfl
  refine ⟨by rw [List.length_set]; exact hl, fun u hu => by rw [hset, if_neg hu], ?_⟩
  have e : sumN (m + 1) (gt (x.set 0 (gt x 0 - sumN (m + 1) (gt x)))) = sumN (m + 1) fun u => gt x u + (if u = 0 then - sumN (m + 1) (gt x) else 0) := sumN_congr _ fun u _ => by
    rw [hset]
    by_cases h0 : u = 0
    · subst h0
      simp
      omega
    · simp [h0]
  rw [e, sumN_add, sumN_one (f := fun u => if u = 0 then - sumN (m + 1) (gt x) else 0) (a := 0) (m + 1) (by omega) (fun i _ hi => by simp [hi])]
  simp
  omega
theorem IsCls.len (hG : GrL m es) (hx : Gx m es) (h : IsCls m es L) : L.length = gSets m (redA 0 es) m := by
  cases m with
  | zero =>
    have h2 : IsCls 0 es [List.replicate 1 0] := ⟨by simp, fun z => by
      rw [List.mem_singleton]
      constructor
      · rintro rfl
        exact ⟨hx.none, ZerL.none.sum⟩
      · intro hz
        have h1 := hz.2
        refine ext_gt (m := 0) hz.1.len (by simp) fun u hu => ?_
        obtain rfl : u = 0 := by omega
        rw [gt_rep]
        simpa [sumN] using h1⟩
    rw [← h.eq, h2.eq, gSets_0]
    rfl
  | succ k =>
    refine red_count hG.m5 (by omega) (Nat.zero_le _) hG.n12 hG.cut hG.ed (fun z hl hz => hx.ex z hl fun u => by have := hz u; omega) (fun z hz => ?_) ?_ fun z hz hzb => ?_
    · have hc := (h.2 z).1 hz
      exact ⟨hc.1, fun u => by have := (hc.zer hG).lim u; unfold gt at this; omega⟩
    · refine List.Pairwise.imp_of_mem (fun {a b} ha hb hab => ?_) h.1
      have ca := (h.2 a).1 ha
      have cb := (h.2 b).1 hb
      apply Classical.byContradiction
      intro hne
      have e : a = b := ext_gt ca.1.len cb.1.len (at_sink (q := 0) (Nat.zero_le _) (fun u hu h0 => Classical.byContradiction fun g => hne ⟨u, hu, h0, g⟩) (ca.2.trans cb.2.symm))
      rw [e, lessL_irrefl] at hab
      cases hab
    · obtain ⟨g1, g2, g3⟩ := sink_set hz.len
      exact ⟨_, (h.2 _).2 ⟨hz.off g1 fun u _ hne => g2 u hne, g3⟩, fun u _ hne => g2 u hne⟩
end
end Go.Proofs.Ytmehdngibbilaaa

/- The specification's l09Boxes as a plain list: sorted, it is the list of the classes. -/
namespace Go.Proofs.Ytmehdngibbilaaa
open Go.RowKit

def boxD (part : List Int) : List Int := part.set 0 (-(degB (part.drop 1) (part.length - 1)))
def boxL (M : Nat) (es : List (Int × Int)) : Nat → List Int → List (List Int)
  | 0, part => if (burntL M es (boxD part) 0).length = M then [boxD part] else []
  | k + 1, part => (List.range (max 1 (valB (M : Int) es (part.length : Int)).toNat)).flatMap fun x : Nat => boxL M es k (part ++ [(x : Int)])
section
variable {m : Nat} {es : List (Int × Int)} {d part : List Int}
theorem nodup_flat {f : Nat → List (List Int)} : ∀ l : List Nat, (∀ x ∈ l, (f x).Nodup) → l.Nodup → (∀ x ∈ l, ∀ y ∈ l, x ≠ y → ∀ z, z ∈ f x → ¬ z ∈ f y) → (l.flatMap f).Nodup
  | [], _, _, _ => by simp
  | x :: l, h1, h2, h3 => by
    rw [List.nodup_cons] at h2
    rw [List.flatMap_cons, List.nodup_append]
    refine ⟨h1 x (by simp), nodup_flat l (fun y hy => h1 y (by simp [hy])) h2.2 (fun y hy z hz => h3 y (by simp [hy]) z (by simp [hz])), fun a ha b hb e => ?_⟩
    subst e
    obtain ⟨y, hy, hz⟩ := List.mem_flatMap.1 hb
    exact h3 x (by simp) y (by simp [hy]) (fun e => h2.1 (e ▸ hy)) a ha hz
structure PartL (m : Nat) (part : List Int) : Prop where
  one : 1 ≤ part.length
  len : part.length ≤ m + 1
  lim : ∀ u, 0 ≤ gt part u ∧ gt part u ≤ 12
theorem PartL.push (h : PartL m part) (hl : part.length < m + 1) {x : Nat} (hx : x ≤ 12) : PartL m (part ++ [(x : Int)]) := by
  refine ⟨by simp, by simp; omega, fun u => ?_⟩
  unfold gt
  rw [List.getD, List.getElem?_append]
  split
  · exact h.lim u
  · next hu =>
    by_cases e : u = part.length
    · subst e
      simp
      omega
    · rw [List.getElem?_eq_none (by simp; omega)]
      simp
theorem gt_push (x : Int) (u : Nat) : gt (part ++ [x]) u = if u < part.length then gt part u else if u = part.length then x else 0 := by
  unfold gt
  rw [List.getD, List.getElem?_append]
  split
  · rfl
  · next hu =>
    by_cases e : u = part.length
    · subst e
      simp
    · rw [if_neg e, List.getElem?_eq_none (by simp; omega)]
      rfl
theorem drop_deg (h5 : m ≤ 5) (h : PartL m part) (hl : part.length = m + 1) : degB (part.drop 1) (part.length - 1) = sumN (m + 1) (gt part) - gt part 0 ∧ -100 ≤ sumN (m + 1) (gt part) ∧ sumN (m + 1) (gt part) ≤ 100 := by
  have hg : ∀ u, gt (part.drop 1) u = gt part (u + 1) := fun u => by
    unfold gt
    rw [List.getD, List.getElem?_drop, Nat.add_comm]
    rfl
  have h1 := deg_sumN (a := part.drop 1) (K := 12) (by omega) (by omega) (fun u => by rw [hg]; have := h.lim (u + 1); omega) (part.length - 1) (by omega)
  rw [h1, hl, Nat.add_sub_cancel, sumN_congr (g := fun u => gt part (u + 1)) m fun u _ => hg u]
  have h2 := sumN_first (gt part) m
  have h3 := sum_lim (f := gt part) (a := 0) (b := 12) (m + 1) fun u _ => h.lim u
  omega
theorem boxD_gt (hl : 1 ≤ part.length) (u : Nat) : gt (boxD part) u = if u = 0 then -(degB (part.drop 1) (part.length - 1)) else gt part u := by
  unfold gt boxD
  rw [List.getD, List.getElem?_set]
  by_cases h0 : u = 0
  · subst h0
    rw [if_pos rfl, if_pos (by omega), if_pos rfl]
    rfl
  · rw [if_neg (fun h => h0 h.symm), if_neg h0]
    rfl
theorem boxD_len (part : List Int) : (boxD part).length = part.length := by simp [boxD]
theorem boxD_sum (h5 : m ≤ 5) (h : PartL m part) (hl : part.length = m + 1) : sumN (m + 1) (gt (boxD part)) = 0 := by
  have hd := (drop_deg h5 h hl).1
  have e : sumN (m + 1) (gt (boxD part)) = sumN (m + 1) fun u => gt part u + (if u = 0 then - sumN (m + 1) (gt part) else 0) := sumN_congr _ fun u _ => by
    rw [boxD_gt h.one]
    by_cases h0 : u = 0
    · subst h0
      rw [if_pos rfl, if_pos rfl, hd]
      omega
    · rw [if_neg h0, if_neg h0]
      omega
  rw [e, sumN_add, sumN_one (f := fun u => if u = 0 then - sumN (m + 1) (gt part) else 0) (a := 0) (m + 1) (by omega) (fun i _ hi => by simp [hi])]
  simp
  omega
theorem val_ends2 (hG : GrL m es) (v : Nat) (hv : v < m + 1) : valB ((m + 1 : Nat) : Int) es (v : Int) = endIL v es ∧ valB ((m + 1 : Nat) : Int) es (v : Int) ≤ 12 := by
  have e : valB ((m + 1 : Nat) : Int) es (v : Int) = endIL v es := by rw [valB_yes (vB_t (by omega)), val_ends]
  have := endIL_le v es
  have := hG.n12
  exact ⟨e, by omega⟩
theorem box_mem (hG : GrL m es) : ∀ (k : Nat) (part : List Int), part.length + k = m + 1 → PartL m part → ∀ d, d ∈ boxL (m + 1) es k part ↔ ClsP m es d ∧ ∀ u, 0 < u → u < part.length → gt d u = gt part u
  | 0, part, hl, hp, d => by
    have hl : part.length = m + 1 := hl
    rw [boxL]
    constructor
    · intro h
      split at h
      · next hb =>
        rw [List.mem_singleton] at h
        subst h
        exact ⟨⟨⟨by rw [boxD_len, hl], fun u hu hne => by
          have := boxD_gt hp.one u
          rw [if_neg hne] at this
          unfold gt at this
          rw [this]
          exact (hp.lim u).1, hb⟩, boxD_sum hG.m5 hp hl⟩, fun u h0 _ => by rw [boxD_gt hp.one, if_neg (by omega)]⟩
      · cases h
    · rintro ⟨hc, he⟩
      have e : d = boxD part := ext_gt hc.1.len (by rw [boxD_len, hl]) (at_sink (q := 0) (Nat.zero_le _) (fun u hu hne => by rw [boxD_gt hp.one, if_neg hne]; exact he u (by omega) (by omega)) (hc.2.trans (boxD_sum hG.m5 hp hl).symm))
      have hb : (burntL (m + 1) es (boxD part) 0).length = m + 1 := by rw [← e]; exact hc.1.all
      rw [if_pos hb, e]
      simp
  | k + 1, part, hl, hp, d => by
    have hlt : part.length < m + 1 := by omega
    obtain ⟨hv, hv12⟩ := val_ends2 hG part.length hlt
    rw [boxL, List.mem_flatMap]
    have ih := fun (x : Nat) (hx : x ≤ 12) => box_mem hG k (part ++ [(x : Int)]) (by simp; omega) (hp.push hlt hx) d
    constructor
    · rintro ⟨x, hx, hd⟩
      rw [List.mem_range] at hx
      obtain ⟨h1, h2⟩ := (ih x (by omega)).1 hd
      refine ⟨h1, fun u h0 hu => ?_⟩
      have := h2 u h0 (by simp; omega)
      rwa [gt_push, if_pos hu] at this
    · rintro ⟨h1, h2⟩
      have hb := h1.1.below (by omega) hG.ed part.length hlt (by have := hp.one; omega)
      have hg := h1.1.pos part.length hlt (by have := hp.one; omega)
      obtain ⟨x, hx⟩ : ∃ x : Nat, (x : Int) = gt d part.length := ⟨(gt d part.length).toNat, by unfold gt; omega⟩
      have hx2 : (x : Int) < endIL part.length es := by rw [hx]; exact hb
      refine ⟨x, List.mem_range.2 (by omega), (ih x (by omega)).2 ⟨h1, fun u h0 hu => ?_⟩⟩
      rw [gt_push]
      by_cases c : u < part.length
      · rw [if_pos c]
        exact h2 u h0 c
      · have : u = part.length := by simp at hu; omega
        rw [if_neg c, if_pos this, this, hx]
theorem box_nodup (hG : GrL m es) : ∀ (k : Nat) (part : List Int), part.length + k = m + 1 → PartL m part → (boxL (m + 1) es k part).Nodup
  | 0, part, _, _ => by
    rw [boxL]
    split <;> simp
  | k + 1, part, hl, hp => by
    have hlt : part.length < m + 1 := by omega
    obtain ⟨hv, hv12⟩ := val_ends2 hG part.length hlt
    rw [boxL]
    refine nodup_flat _ (fun x hx => box_nodup hG k _ (by simp; omega) (hp.push hlt (by rw [List.mem_range] at hx; omega))) List.nodup_range fun x hx y hy hne z hz hz2 => ?_
    rw [List.mem_range] at hx hy
    have h1 := ((box_mem hG k _ (by simp; omega) (hp.push hlt (x := x) (by omega)) z).1 hz).2 part.length (by have := hp.one; omega) (by simp)
    have h2 := ((box_mem hG k _ (by simp; omega) (hp.push hlt (x := y) (by omega)) z).1 hz2).2 part.length (by have := hp.one; omega) (by simp)
    rw [gt_push, if_neg (Nat.lt_irrefl _), if_pos rfl] at h1 h2
    omega
theorem PartL.zero (m : Nat) : PartL m [0] := ⟨by simp, by simp, fun u => by cases u <;> simp [gt]⟩
theorem box_cls (hG : GrL m es) : IsCls m es (sortL (boxL (m + 1) es m [0])) := by
  have hm := box_mem hG m [0] (by simp; omega) (PartL.zero m)
  refine ⟨sortL_sorted (n := m + 1) (fun y hy => ((hm y).1 hy).1.1.len) (box_nodup hG m [0] (by simp; omega) (PartL.zero m)), fun x => ?_⟩
  rw [sortL_mem, hm]
  constructor
  · exact fun h => h.1
  · exact fun h => ⟨h, fun u h0 hu => by simp at hu; omega⟩
end
end Go.Proofs.Ytmehdngibbilaaa

/- The specification's l09Boxes: the rows grow in place. -/
namespace Go.Proofs.Ytmehdngibbilaaa
open Go.RowKit

structure Fr (w w' : World) (v v' : Value) : Prop where
  gr : w.grownBy w' v.ownBlock
  at_ : v'.ownBlock = v.ownBlock ∨ ∃ g, v'.ownBlock = some g ∧ w.heap.size ≤ g
theorem Fr.refl (w : World) (v : Value) : Fr w w v v := ⟨World.grownBy.refl _ _, .inl rfl⟩
theorem Fr.trans {w w1 w2 : World} {v v1 v2 : Value} (h : Fr w w1 v v1) (k : Fr w1 w2 v1 v2) : Fr w w2 v v2 := by
  refine ⟨⟨k.gr.os.trans h.gr.os, k.gr.tape.trans h.gr.tape, k.gr.output.trans h.gr.output, Nat.le_trans h.gr.size k.gr.size, fun i hi hne => (k.gr.block i (Nat.lt_of_lt_of_le hi h.gr.size) fun e => ?_).trans (h.gr.block i hi hne)⟩, ?_⟩
  · rcases h.at_ with g | ⟨g, hg, hs⟩
    · exact hne (e.trans g)
    · rw [hg] at e
      injection e with e
      omega
  · rcases k.at_ with g | ⟨g, hg, hs⟩
    · rw [g]
      exact h.at_
    · exact .inr ⟨g, hg, Nat.le_trans h.gr.size hs⟩
theorem Fr.of_below {w w' : World} (v : Value) (h : Below w.heap.size w w') : Fr w w' v v := ⟨⟨h.os, h.tape, h.output, h.size, fun i hi _ => h.block i hi⟩, .inl rfl⟩
structure BoxI (wr : World) (B0 base : Nat) (P : Option Addr) (cp : Nat) (part : List Int) (A : Option Addr) (es : List (Int × Int)) (v : Value) (rs : List (List Int)) : Prop where
  lo : B0 ≤ base
  own : SSOwn wr base v rs
  part : QOwn wr B0 (.slice P part.length cp) part
  ed : EdgeS wr B0 A es
  size : base ≤ wr.heap.size
theorem SSOwn.row {w : World} {base : Nat} {v : Value} {rs : List (List Int)} (h : SSOwn w base v rs) : ∃ vs, w.ownsRow base 27 1 v rs.length vs := by
  obtain ⟨vs, h1, -⟩ := h
  exact ⟨vs, h1⟩
theorem BoxI.next {wr wd : World} {B0 base cp : Nat} {P A : Option Addr} {part : List Int} {es : List (Int × Int)} {v : Value} {rs : List (List Int)} (h : BoxI wr B0 base P cp part A es v rs) (hb : Below wr.heap.size wr wd) : BoxI wd B0 base P cp part A es v rs :=
  ⟨h.lo, h.own.kept hb, QOwn.below h.part hb, h.ed.below (hb.mono (Nat.le_trans h.lo h.size)), Nat.le_trans h.size hb.size⟩
theorem BoxI.fr {wr wd : World} {B0 base cp : Nat} {P A : Option Addr} {part : List Int} {es : List (Int × Int)} {v v' : Value} {rs rs' : List (List Int)} (h : BoxI wr B0 base P cp part A es v rs) (hf : Fr wr wd v v') (ho : SSOwn wd base v' rs') : BoxI wd B0 base P cp part A es v' rs' := by
  obtain ⟨vs, hv⟩ := h.own.row
  exact ⟨h.lo, ho, World.ownsRow.kept h.part hf.gr (own_types2 h.part hv (by decide)), h.ed.below (grown_below hf.gr (Nat.le_trans h.lo h.size) fun k hk => Nat.le_trans h.lo (hv.lt k hk).1), Nat.le_trans h.size hf.gr.size⟩
end Go.Proofs.Ytmehdngibbilaaa

/- The specification's l09Boxes: the parts that grow. -/
namespace Go.Proofs.Ytmehdngibbilaaa
open Go.RowKit

end Go.Proofs.Ytmehdngibbilaaa

/- The specification's ClassesOf. -/
namespace Go.Proofs.Ytmehdngibbilaaa
open Go.RowKit

noncomputable def clsOk (N : Int) (es : List (Int × Int)) : Bool := graphB N es && decide (treesB N es ≤ 400)
noncomputable def clsC (N : Int) (es : List (Int × Int)) : List (List Int) := if clsOk N es = true then clsL (N.toNat - 1) es else []
theorem clsC_f {N : Int} {es : List (Int × Int)} (h : clsOk N es = false) : clsC N es = [] := by rw [clsC, if_neg (by rw [h]; decide)]
theorem clsC_t {m : Nat} {es : List (Int × Int)} (h : clsOk ((m + 1 : Nat) : Int) es = true) : clsC ((m + 1 : Nat) : Int) es = clsL m es := by rw [clsC, if_pos h, Int.toNat_natCast]; rfl
end Go.Proofs.Ytmehdngibbilaaa

/- ClassesOf: the answer is not long. -/
namespace Go.Proofs.Ytmehdngibbilaaa
open Go.RowKit

theorem GrL.gxw {m : Nat} {es : List (Int × Int)} (h : GrL m es) (w : World) : Gx m es :=
  h.gx (some ⟨w.heap.size, 0, none⟩) (w.alloc (.cells (flat es).toArray 71)) (OwnE.of_blk (base := 0) (Blk.new w 71 (flat es).toArray) (Nat.zero_le _)).edges
theorem clsL_len {m : Nat} {es : List (Int × Int)} (hG : GrL m es) (w : World) : (clsL m es).length = gSets m (redA 0 es) m := by
  rw [(box_cls hG).eq]
  exact (box_cls hG).len hG (hG.gxw w)
theorem clsC_len {m : Nat} {es : List (Int × Int)} (hB : graphB ((m + 1 : Nat) : Int) es = true) (hG : GrL m es) (h : treesB ((m + 1 : Nat) : Int) es ≤ 400) (w : World) : ((clsC ((m + 1 : Nat) : Int) es).length : Int) = treesB ((m + 1 : Nat) : Int) es := by
  have h0 : clsOk ((m + 1 : Nat) : Int) es = true := by rw [clsOk, hB, decide_eq_true h]; rfl
  rw [clsC_t h0, clsL_len hG w, trees_det hB hG.m5 hG.n12, (red_det hG.m5 (Nat.zero_le m) hG.cut hG.ed).1]
end Go.Proofs.Ytmehdngibbilaaa
