/- A drawn graph, the plain math: a tree, its edges in order, and edges that are inserted. -/
import Derived.Test.YtbojbifpaecbcaaAddS
import Derived.Test.YtbojbifpaecbcaaBB
namespace Go.Proofs.Ytbojbifpaecbcaa
open Go.RowKit

theorem ltE_irr (x : Int × Int) : ltE x x = false := by simp [ltE]
theorem ltE_asymm {x y : Int × Int} (h : ltE x y = true) : ltE y x = false := by
  simp only [ltE, Bool.or_eq_true, Bool.and_eq_true, decide_eq_true_eq, Bool.or_eq_false_iff, Bool.and_eq_false_iff, decide_eq_false_iff_not] at h ⊢
  omega
theorem leE_trans {x y z : Int × Int} (h1 : ltE y x = false) (h2 : ltE z y = false) : ltE z x = false := by
  simp only [ltE, Bool.or_eq_false_iff, Bool.and_eq_false_iff, decide_eq_false_iff_not] at h1 h2 ⊢
  omega
theorem ltE_le {x y z : Int × Int} (h1 : ltE x y = true) (h2 : ltE z y = false) : ltE z x = false := by
  simp only [ltE, Bool.or_eq_true, Bool.and_eq_true, decide_eq_true_eq] at h1
  simp only [ltE, Bool.or_eq_false_iff, Bool.and_eq_false_iff, decide_eq_false_iff_not] at h2 ⊢
  omega
/-- in order -/
def Srt (es : List (Int × Int)) : Prop := es.Pairwise fun x y => ltE y x = false
theorem ordB_pairs {es : List (Int × Int)} (h : ordB es = true) (i : Nat) (hi : i + 1 < es.length) : ltE es[i + 1] es[i] = false := by
  unfold ordB at h
  rw [List.all_eq_true] at h
  have h1 := h i (List.mem_range.2 (by omega))
  rw [pairBad_eq (List.getElem?_eq_getElem (by omega)) (List.getElem?_eq_getElem hi)] at h1
  simpa using h1
theorem ordB_far {es : List (Int × Int)} (h : ordB es = true) : ∀ (n i : Nat) (hi : i + n < es.length), ltE es[i + n] es[i] = false
  | 0, i, hi => ltE_irr _
  | n + 1, i, hi => leE_trans (ordB_far h n i (by omega)) (ordB_pairs h (i + n) (by omega))
theorem ordB_srt {es : List (Int × Int)} (h : ordB es = true) : Srt es := by
  unfold Srt
  rw [List.pairwise_iff_getElem]
  intro i j hi hj hij
  have := ordB_far h (j - i) i (by omega)
  simpa [show i + (j - i) = j by omega] using this
theorem srt_ordB {es : List (Int × Int)} (h : Srt es) : ordB es = true := ordB_true fun i hi => by
  rw [pairBad_eq (List.getElem?_eq_getElem (by omega)) (List.getElem?_eq_getElem hi)]
  unfold Srt at h
  rw [List.pairwise_iff_getElem] at h
  exact h i (i + 1) (by omega) hi (by omega)
theorem edgesB_of {N : Int} {es : List (Int × Int)} (h1 : 1 ≤ N) (h2 : N ≤ 6) (h3 : es.length ≤ 12) (h4 : ∀ e ∈ es, 0 ≤ e.1 ∧ e.1 < e.2 ∧ e.2 < N) : edgesB N es = true := by
  simp only [edgesB, Bool.and_eq_true, decide_eq_true_eq, List.all_eq_true]
  refine ⟨⟨⟨h1, h2⟩, h3⟩, fun e he => ?_⟩
  have := h4 e he
  simp only [edgeOk, Bool.and_eq_true, decide_eq_true_eq]
  omega
theorem graphB_of {N : Int} {es : List (Int × Int)} (h1 : edgesB N es = true) (h2 : Srt es) (h3 : Conn N es) : graphB N es = true := by
  simp [graphB, h1, srt_ordB h2, connB_t h3]
theorem Near.sub {es fs : List (Int × Int)} (h : ∀ e ∈ es, e ∈ fs) {v u : Int} {k : Nat} (n : Near es v k u) : Near fs v k u := by
  induction n with
  | start => exact .start
  | stay _ ih => exact .stay ih
  | step _ ht ih => exact .step ih (ht.imp (h _) (h _))
theorem insE_mem {es : List (Int × Int)} {e x : Int × Int} : x ∈ insE es e ↔ x = e ∨ x ∈ es := by
  unfold insE
  rw [List.mem_append, List.mem_cons]
  have : x ∈ es ↔ x ∈ es.take (placeE es e) ∨ x ∈ es.drop (placeE es e) := by rw [← List.mem_append, List.take_append_drop]
  rw [this]
  constructor
  · rintro (h | h | h)
    · exact .inr (.inl h)
    · exact .inl h
    · exact .inr (.inr h)
  · rintro (h | h | h)
    · exact .inr (.inl h)
    · exact .inl h
    · exact .inr (.inr h)
theorem insE_srt {es : List (Int × Int)} {e : Int × Int} (h : Srt es) : Srt (insE es e) := by
  have hs : (es.take (placeE es e) ++ es.drop (placeE es e)).Pairwise fun x y => ltE y x = false := by rw [List.take_append_drop]; exact h
  rw [List.pairwise_append] at hs
  obtain ⟨h1, h2, h3⟩ := hs
  have hb : ∀ x ∈ es.take (placeE es e), ltE e x = false := fun x hx => by
    obtain ⟨i, hi⟩ := List.getElem?_of_mem hx
    have hil := (List.getElem?_eq_some_iff.1 hi).1
    rw [List.length_take] at hil
    rw [List.getElem?_take_of_lt (by omega)] at hi
    exact place_before hi (by omega)
  have ha : ∀ y ∈ es.drop (placeE es e), ltE y e = false := fun y hy => by
    cases hd : es.drop (placeE es e) with
    | nil => rw [hd] at hy; cases hy
    | cons z l =>
      have hz : es[placeE es e]? = some z := by
        have : (es.drop (placeE es e))[0]? = some z := by rw [hd]; rfl
        rwa [List.getElem?_drop, Nat.add_zero] at this
      have hez := place_at hz
      rw [hd, List.mem_cons] at hy
      rcases hy with rfl | hy
      · exact ltE_asymm hez
      · rw [hd, List.pairwise_cons] at h2
        exact ltE_le hez (h2.1 y hy)
  unfold Srt insE
  rw [List.pairwise_append, List.pairwise_cons]
  exact ⟨h1, ⟨ha, h2⟩, fun x hx y hy => by
    rw [List.mem_cons] at hy
    rcases hy with rfl | hy
    · exact hb x hx
    · exact h3 x hx y hy⟩
/-- an edge that is added keeps the graph valid -/
theorem add_valid {N : Int} {es : List (Int × Int)} {a b : Int} (h : addK N es a b = true) : graphB N (insE es (edgeOf a b)) = true := by
  simp only [addK, Bool.and_eq_true, Bool.not_eq_true', decide_eq_false_iff_not] at h
  obtain ⟨hg, ha, hb, hab, hl⟩ := h
  obtain ⟨h1, h2⟩ := graphB_all hg
  have ho : ordB es = true := by
    simp only [graphB, Bool.and_eq_true] at hg
    exact hg.1.2
  obtain ⟨l1, l2, l3⟩ := edgesB_lims h1
  have va := vB_iff ha
  have vb := vB_iff hb
  refine graphB_of (edgesB_of l1 l2 (by rw [insE_len]; omega) fun x hx => ?_) (insE_srt (ordB_srt ho)) fun u hu0 hu1 => ?_
  · rcases insE_mem.1 hx with rfl | hx
    · unfold edgeOf
      simp only
      omega
    · exact all_edge h1 hx
  · obtain ⟨k, n⟩ := h2 u hu0 hu1
    exact ⟨k, n.sub fun x hx => insE_mem.2 (.inr hx)⟩
/-- a tree: the edge at i joins i + 1 to a vertex before it -/
def TreeL (l : List (Int × Int)) : Prop := ∀ (i : Nat) (x : Int × Int), l[i]? = some x → x.2 = (i : Int) + 1 ∧ 0 ≤ x.1 ∧ x.1 ≤ (i : Int)
theorem TreeL.nil : TreeL [] := fun i x h => by simp at h
theorem TreeL.push {l : List (Int × Int)} (h : TreeL l) {a : Int} (h0 : 0 ≤ a) (h1 : a ≤ (l.length : Int)) : TreeL (l ++ [(a, (l.length : Int) + 1)]) := fun i x hx => by
  rcases Nat.lt_or_ge i l.length with g | g
  · rw [List.getElem?_append_left g] at hx
    exact h i x hx
  · rw [List.getElem?_append_right g] at hx
    have hi : i - l.length = 0 := by
      have := (List.getElem?_eq_some_iff.1 hx).1
      simp at this
      omega
    rw [hi] at hx
    simp at hx
    subst hx
    simp only
    omega
theorem TreeL.mem {l : List (Int × Int)} (h : TreeL l) {x : Int × Int} (hx : x ∈ l) : 0 ≤ x.1 ∧ x.1 < x.2 ∧ x.2 ≤ (l.length : Int) := by
  obtain ⟨i, hi⟩ := List.getElem?_of_mem hx
  have := h i x hi
  have := (List.getElem?_eq_some_iff.1 hi).1
  omega
theorem nodupP_of {l : List (Int × Int)} (h : ∀ (i j : Nat) (x : Int × Int), l[i]? = some x → l[j]? = some x → i = j) : l.Nodup := by
  rw [List.nodup_iff_pairwise_ne, List.pairwise_iff_getElem]
  intro i j hi hj hij he
  have := h i j l[i] (List.getElem?_eq_getElem hi) (by rw [he]; exact List.getElem?_eq_getElem hj)
  omega
theorem TreeL.nodup {l : List (Int × Int)} (h : TreeL l) : l.Nodup := nodupP_of fun i j x hi hj => by
  have h1 := (h i x hi).1
  have h2 := (h j x hj).1
  omega
theorem nodup_count {x : Int × Int} : ∀ {l : List (Int × Int)}, l.Nodup → l.count x = if x ∈ l then 1 else 0
  | [], _ => rfl
  | y :: l, h => by
    rw [List.nodup_cons] at h
    rw [List.count_cons, nodup_count h.2]
    by_cases e : y = x
    · subst e
      rw [if_neg h.1]
      simp
    · have e2 : ¬ x = y := fun g => e g.symm
      have e3 : (y == x) = false := by simpa using e
      simp [e3, e2]
theorem nodup_lenP : ∀ (l m : List (Int × Int)), l.Nodup → (∀ x ∈ l, x ∈ m) → l.length ≤ m.length
  | [], m, _, _ => Nat.zero_le _
  | a :: l, m, hd, hs => by
    rw [List.nodup_cons] at hd
    have ha : a ∈ m := hs a (by simp)
    have h1 := nodup_lenP l (m.erase a) hd.2 fun x hx => (List.mem_erase_of_ne (by rintro rfl; exact hd.1 hx)).2 (hs x (by simp [hx]))
    have h2 := List.length_erase_of_mem ha
    have h3 := List.length_pos_of_mem ha
    rw [List.length_cons]
    omega
/-- the edges of the tree l that lie before (a, b), in order -/
structure Upto (l hs : List (Int × Int)) (a b : Int) : Prop where
  srt : hs.Pairwise fun x y => ltE x y = true
  mem : ∀ x ∈ hs, x ∈ l ∧ ltE x (a, b) = true
  all : ∀ x ∈ l, ltE x (a, b) = true → x ∈ hs
theorem Upto.start {l : List (Int × Int)} (h : TreeL l) : Upto l [] 0 1 := ⟨List.Pairwise.nil, (fun x hx => by cases hx), fun x hx hlt => by
  have := h.mem hx
  simp only [ltE, Bool.or_eq_true, Bool.and_eq_true, decide_eq_true_eq] at hlt
  omega⟩
theorem Upto.skip {l hs : List (Int × Int)} {a b : Int} (h : Upto l hs a b) (hn : ¬ (a, b) ∈ l) : Upto l hs a (b + 1) := ⟨h.srt, fun x hx => ⟨(h.mem x hx).1, by
  have := (h.mem x hx).2
  simp only [ltE, Bool.or_eq_true, Bool.and_eq_true, decide_eq_true_eq] at this ⊢
  omega⟩, fun x hx hlt => by
  by_cases e : x = (a, b)
  · rw [e] at hx; exact absurd hx hn
  · refine h.all x hx ?_
    have : ¬ (x.1 = a ∧ x.2 = b) := fun g => e (Prod.ext g.1 g.2)
    simp only [ltE, Bool.or_eq_true, Bool.and_eq_true, decide_eq_true_eq] at hlt ⊢
    omega⟩
theorem Upto.take {l hs : List (Int × Int)} {a b : Int} (h : Upto l hs a b) (hm : (a, b) ∈ l) : Upto l (hs ++ [(a, b)]) a (b + 1) := ⟨by
  rw [List.pairwise_append]
  exact ⟨h.srt, List.pairwise_singleton _ _, fun x hx y hy => by
    rw [List.mem_singleton] at hy
    subst hy
    exact (h.mem x hx).2⟩, fun x hx => by
  rw [List.mem_append, List.mem_singleton] at hx
  rcases hx with hx | rfl
  · refine ⟨(h.mem x hx).1, ?_⟩
    have := (h.mem x hx).2
    simp only [ltE, Bool.or_eq_true, Bool.and_eq_true, decide_eq_true_eq] at this ⊢
    omega
  · refine ⟨hm, ?_⟩
    have : b < b + 1 := by omega
    simp [ltE, this], fun x hx hlt => by
  rw [List.mem_append, List.mem_singleton]
  by_cases e : x = (a, b)
  · exact .inr e
  · refine .inl (h.all x hx ?_)
    have : ¬ (x.1 = a ∧ x.2 = b) := fun g => e (Prod.ext g.1 g.2)
    simp only [ltE, Bool.or_eq_true, Bool.and_eq_true, decide_eq_true_eq] at hlt ⊢
    omega⟩
theorem Upto.row {l hs : List (Int × Int)} {a n : Int} (h : Upto l hs a n) (ht : TreeL l) (hn : (l.length : Int) + 1 = n) : Upto l hs (a + 1) (a + 2) := ⟨h.srt, fun x hx => ⟨(h.mem x hx).1, by
  have := (h.mem x hx).2
  simp only [ltE, Bool.or_eq_true, Bool.and_eq_true, decide_eq_true_eq] at this ⊢
  omega⟩, fun x hx hlt => h.all x hx (by
  have := ht.mem hx
  simp only [ltE, Bool.or_eq_true, Bool.and_eq_true, decide_eq_true_eq] at hlt ⊢
  omega)⟩
theorem Upto.len {l hs : List (Int × Int)} {a b : Int} (h : Upto l hs a b) : hs.length ≤ l.length :=
  nodup_lenP hs l (List.nodup_iff_pairwise_ne.2 (h.srt.imp fun {x y} hxy e => by rw [e, ltE_irr] at hxy; cases hxy)) fun x hx => (h.mem x hx).1
theorem Upto.done {l hs : List (Int × Int)} {n b : Int} (h : Upto l hs n b) (ht : TreeL l) (hn : (l.length : Int) + 1 = n) (h1 : 1 ≤ n) (h6 : n ≤ 6) : graphB n hs = true := by
  have hall : ∀ x ∈ l, x ∈ hs := fun x hx => h.all x hx (by
    have := ht.mem hx
    simp only [ltE, Bool.or_eq_true, Bool.and_eq_true, decide_eq_true_eq]
    omega)
  have hlen := h.len
  refine graphB_of (edgesB_of h1 h6 (by omega) fun x hx => ?_) (h.srt.imp fun {x y} hxy => ltE_asymm hxy) fun u hu0 hu1 => ?_
  · have := ht.mem (h.mem x hx).1
    omega
  · obtain ⟨m, rfl⟩ : ∃ m : Nat, u = (m : Int) := ⟨u.toNat, by omega⟩
    clear hu0
    induction m using Nat.strongRecOn with
    | _ m ih =>
      cases m with
      | zero => exact ⟨0, .start⟩
      | succ m =>
        have hml : m < l.length := by omega
        obtain ⟨h2, h3, h4⟩ := ht m l[m] (List.getElem?_eq_getElem hml)
        obtain ⟨k, nk⟩ := ih l[m].1.toNat (by omega) (by omega)
        rw [show ((l[m].1.toNat : Nat) : Int) = l[m].1 by omega] at nk
        refine ⟨k + 1, .step nk (.inl ?_)⟩
        have := hall l[m] (List.getElem_mem hml)
        rwa [show l[m] = (l[m].1, ((m + 1 : Nat) : Int)) from Prod.ext rfl (by rw [h2]; omega)] at this
end Go.Proofs.Ytbojbifpaecbcaa
