/- Spanning trees as ascending lists of indices: what joins and what is cut; what the walk hands back. -/
import Derived.Test.YtdpojcgeblbfeaaVBJ
import Derived.Test.YtdpojcgeblbfeaaVBU
set_option linter.all false
namespace Go.Proofs.Ytdpojcgeblbfeaa
open Go.RowKit

def partL (es : List (Int × Int)) (T : List Int) : List (Int × Int) := T.map fun i => es.getD i.toNat (0, 0)
def natT (T : List Int) : List Nat := T.map Int.toNat
theorem asc_at {n k : Nat} {T : List Int} (hT : AscP n k T) {i : Int} (hi : i ∈ T) : 0 ≤ i ∧ i < (n : Int) := by
  obtain ⟨j, hj⟩ := List.getElem?_of_mem hi
  have hjl := (List.getElem?_eq_some_iff.1 hj).1
  have h := hT.2.1 j (by rw [← hT.1]; exact hjl)
  have e2 : T.getD j 0 = i := by rw [List.getD, hj]; rfl
  rwa [e2] at h
theorem natT_mem {n k : Nat} {T : List Int} (hT : AscP n k T) (i : Nat) : i ∈ natT T ↔ (i : Int) ∈ T := by
  unfold natT
  rw [List.mem_map]
  constructor
  · rintro ⟨a, ha, rfl⟩
    have := asc_at hT ha
    rw [show ((a.toNat : Nat) : Int) = a by omega]
    exact ha
  · intro h
    exact ⟨_, h, by omega⟩
theorem cut_conn {M : Nat} {L : List (Int × Int)} (hM : 0 < M) (h : Cut M L) : Conn (M : Int) L := by
  classical
  intro u hu0 huM
  apply Classical.byContradiction
  intro hn
  obtain ⟨e, he, hne⟩ := h (fun x => decide (∃ k, Near L 0 k x)) ⟨0, Int.le_refl _, by omega, decide_eq_true ⟨0, .start⟩⟩ ⟨u, hu0, huM, decide_eq_false hn⟩
  apply hne
  rw [decide_eq_decide]
  constructor
  · rintro ⟨k, hk⟩
    exact ⟨k + 1, hk.step (.inl he)⟩
  · rintro ⟨k, hk⟩
    exact ⟨k + 1, hk.step (.inr he)⟩
theorem tree_cut {M q k : Nat} {es : List (Int × Int)} {T : List Int} (hq : q < M) (hT : AscP es.length k T) (hc : Conn (M : Int) (partL es T)) : ∀ p : Nat → Bool, p q = true → (∃ v, v < M ∧ p v = false) → ∃ i ∈ natT T, i < es.length ∧ p (eA es i) ≠ p (eB es i) := by
  rintro p hp ⟨v, hv, hpv⟩
  obtain ⟨e, he, hne⟩ := hc.cut (fun x => p x.toNat) ⟨(q : Int), by omega, by omega, by simpa using hp⟩ ⟨(v : Int), by omega, by omega, by simpa using hpv⟩
  obtain ⟨i, hi, rfl⟩ := List.mem_map.1 he
  have hr := asc_at hT hi
  exact ⟨i.toNat, List.mem_map.2 ⟨i, hi, rfl⟩, by omega, hne⟩
theorem tree_conn {M q k : Nat} {es : List (Int × Int)} {T : List Int} (hes : ∀ e ∈ es, 0 ≤ e.1 ∧ e.1 < e.2 ∧ e.2 < (M : Int)) (hq : q < M) (hT : AscP es.length k T) (h : ∀ p : Nat → Bool, p q = true → (∃ v, v < M ∧ p v = false) → ∃ i ∈ natT T, p (eA es i) ≠ p (eB es i)) : Conn (M : Int) (partL es T) := by
  refine cut_conn (by omega) ?_
  have key : ∀ p : Int → Bool, p (q : Int) = true → (∃ x, 0 ≤ x ∧ x < (M : Int) ∧ p x = false) → ∃ e ∈ partL es T, p e.1 ≠ p e.2 := by
    rintro p hp ⟨x, hx0, hx1, hpx⟩
    obtain ⟨i, hi, hne⟩ := h (fun v => p (v : Int) || !(decide (v < M))) (by simp [hp]) ⟨x.toNat, by omega, by
      rw [show ((x.toNat : Nat) : Int) = x by omega, hpx]
      simp
      omega⟩
    rw [natT, List.mem_map] at hi
    obtain ⟨a, ha, rfl⟩ := hi
    refine ⟨_, List.mem_map.2 ⟨a, ha, rfl⟩, ?_⟩
    intro he
    apply hne
    have hr := asc_at hT ha
    obtain ⟨-, k1, k2, k3, k4⟩ := ed_facts hes (i := a.toNat) (by omega)
    have a1 : eA es a.toNat < M := by omega
    simp only [k1, k2, he, a1, k4]
  rintro p ⟨x, hx0, hx1, hpx⟩ ⟨y, hy0, hy1, hpy⟩
  cases hp : p (q : Int) with
  | true => exact key p hp ⟨y, hy0, hy1, hpy⟩
  | false =>
    obtain ⟨e, he, hne⟩ := key (fun x => !p x) (by simp [hp]) ⟨x, hx0, hx1, by simp [hpx]⟩
    exact ⟨e, he, fun h => hne (by rw [h])⟩
theorem ascList_same : ∀ {x y : List Int}, x.Pairwise (· < ·) → y.Pairwise (· < ·) → (∀ z, z ∈ x ↔ z ∈ y) → x = y
  | [], y, _, _, h => by
    cases y with
    | nil => rfl
    | cons b y => exact absurd ((h b).2 (by simp)) (by simp)
  | a :: x, [], _, _, h => absurd ((h a).1 (by simp)) (by simp)
  | a :: x, b :: y, h1, h2, h => by
    rw [List.pairwise_cons] at h1 h2
    have e : a = b := by
      have ha := (h a).1 (by simp)
      have hb := (h b).2 (by simp)
      rw [List.mem_cons] at ha hb
      rcases ha with ha | ha
      · exact ha
      · rcases hb with hb | hb
        · exact hb.symm
        · have a1 := h2.1 a ha
          have a2 := h1.1 b hb
          omega
    subst e
    rw [ascList_same h1.2 h2.2 fun z => ?_]
    have hz := h z
    rw [List.mem_cons, List.mem_cons] at hz
    constructor
    · intro hm
      rcases hz.1 (.inr hm) with g | g
      · subst g; have := h1.1 z hm; omega
      · exact g
    · intro hm
      rcases hz.2 (.inr hm) with g | g
      · subst g; have := h2.1 z hm; omega
      · exact g
theorem AscP.asc {n k : Nat} {x : List Int} (h : AscP n k x) : x.Pairwise (· < ·) := by
  rw [List.pairwise_iff_getElem]
  intro i j hi hj hij
  have h1 := h.gap (j - i) i (by rw [← h.1]; omega)
  rw [show i + (j - i) = j by omega] at h1
  have e1 : x.getD i 0 = x[i] := by simp [List.getD, hi]
  have e2 : x.getD j 0 = x[j] := by simp [List.getD, hj]
  rw [e1, e2] at h1
  omega
theorem AscP.of {n k : Nat} {x : List Int} (hl : x.length = k) (ha : x.Pairwise (· < ·)) (hb : ∀ i ∈ x, 0 ≤ i ∧ i < (n : Int)) : AscP n k x := by
  rw [List.pairwise_iff_getElem] at ha
  refine ⟨hl, fun u hu => ?_, fun u hu => ?_⟩
  · have e1 : x.getD u 0 = x[u]'(by omega) := by simp [List.getD, show u < x.length by omega]
    rw [e1]
    exact hb _ (List.getElem_mem _)
  · have e1 : x.getD u 0 = x[u]'(by omega) := by simp [List.getD, show u < x.length by omega]
    have e2 : x.getD (u + 1) 0 = x[u + 1]'(by omega) := by simp [List.getD, show u + 1 < x.length by omega]
    rw [e1, e2]
    exact ha u (u + 1) (by omega) (by omega) (by omega)
def outL (es : List (Int × Int)) (dec : Nat → Nat → Int → Bool) (q : Nat) : List Int := ((List.range es.length).filter fun i => decide (i ∈ (endW es dec q).o)).map fun (i : Nat) => (i : Int)
theorem outL_mem {es : List (Int × Int)} {dec : Nat → Nat → Int → Bool} {q : Nat} {z : Int} : z ∈ outL es dec q ↔ ∃ i ∈ (endW es dec q).o, z = (i : Int) := by
  unfold outL
  rw [List.mem_map]
  constructor
  · rintro ⟨i, hi, rfl⟩
    rw [List.mem_filter, decide_eq_true_eq] at hi
    exact ⟨i, hi.2, rfl⟩
  · rintro ⟨i, hi, rfl⟩
    refine ⟨i, ?_, rfl⟩
    rw [List.mem_filter, decide_eq_true_eq, List.mem_range]
    exact ⟨((WR.fin (es := es) (dec := dec) (q := q)).wi.ot i hi).2, hi⟩
theorem outL_asc (es : List (Int × Int)) (dec : Nat → Nat → Int → Bool) (q : Nat) : (outL es dec q).Pairwise (· < ·) := by
  unfold outL
  rw [List.pairwise_map]
  refine (List.Pairwise.filter _ (List.pairwise_lt_range)).imp fun {a b} h => ?_
  omega
theorem outL_len (es : List (Int × Int)) (dec : Nat → Nat → Int → Bool) (q : Nat) : (outL es dec q).length = (endW es dec q).o.length := by
  unfold outL
  rw [List.length_map]
  refine List.Perm.length_eq ((List.perm_ext_iff_of_nodup (List.nodup_range.filter _) (WR.fin (es := es) (dec := dec) (q := q)).wi.nd).2 fun i => ?_)
  rw [List.mem_filter, decide_eq_true_eq, List.mem_range]
  exact ⟨fun h => h.2, fun h => ⟨((WR.fin (es := es) (dec := dec) (q := q)).wi.ot i h).2, h⟩⟩
theorem outL_is {es : List (Int × Int)} {dec : Nat → Nat → Int → Bool} {q : Nat} {x : List Int} (ha : x.Pairwise (· < ·)) (hm : ∀ z, z ∈ x ↔ ∃ i ∈ (endW es dec q).o, z = (i : Int)) : x = outL es dec q :=
  ascList_same ha (outL_asc _ _ _) fun z => by rw [hm, outL_mem]
def lostL (M : Nat) (es : List (Int × Int)) (dec : Nat → Nat → Int → Bool) (q : Nat) : List Int := (List.range M).map fun v => if v = q then -1 else (endW es dec q).l v
theorem lostL_len (M : Nat) (es : List (Int × Int)) (dec : Nat → Nat → Int → Bool) (q : Nat) : (lostL M es dec q).length = M := by simp [lostL]
theorem lostL_get {M : Nat} {es : List (Int × Int)} {dec : Nat → Nat → Int → Bool} {q v : Nat} (h : v < M) : (lostL M es dec q).getD v 0 = if v = q then -1 else (endW es dec q).l v := by simp [lostL, List.getD, h]
theorem lost_lim {es : List (Int × Int)} {dec : Nat → Nat → Int → Bool} {q : Nat} {s : WSt} (h : WR es dec q s) : ∀ v, 0 ≤ s.l v ∧ s.l v ≤ (took s es.length : Int) := by
  induction h with
  | start => intro v; exact ⟨Int.le_refl _, by show (0 : Int) ≤ _; omega⟩
  | @step s i hw hn ih =>
    intro v
    obtain ⟨h1, h2, h3⟩ := next_some hn
    rw [took_step h1 h2]
    have := ih v
    unfold stepW
    split
    · show 0 ≤ s.l v ∧ s.l v ≤ _
      omega
    · show 0 ≤ addAt s.l (endV es s.b i) 1 v ∧ addAt s.l (endV es s.b i) 1 v ≤ _
      unfold addAt
      split <;> omega
theorem lost_le {es : List (Int × Int)} {dec : Nat → Nat → Int → Bool} {q : Nat} (v : Nat) : 0 ≤ (endW es dec q).l v ∧ (endW es dec q).l v ≤ (es.length : Int) := by
  have h1 := lost_lim (WR.fin (es := es) (dec := dec) (q := q)) v
  have h2 := took_le (endW es dec q) es.length
  omega
theorem walk_b_lt {M q : Nat} {es : List (Int × Int)} {dec : Nat → Nat → Int → Bool} {s : WSt} (hes : ∀ e ∈ es, 0 ≤ e.1 ∧ e.1 < e.2 ∧ e.2 < (M : Int)) (hq : q < M) (h : WR es dec q s) : ∀ v, s.b v = true → v < M := by
  induction h with
  | start =>
    intro v hv
    have : v = q := by simpa [startW] using hv
    omega
  | @step s i hw hn ih =>
    intro v hv
    have he := endV_lt hes hn
    cases hd : dec i (endV es s.b i) (s.l (endV es s.b i)) with
    | false =>
      rw [step_no hd] at hv
      exact ih v hv
    | true =>
      rw [step_yes hd] at hv
      have hv : setT s.b (endV es s.b i) v = true := hv
      by_cases e : v = endV es s.b i
      · omega
      · rw [setT_ne e] at hv
        exact ih v hv
theorem burns_all {M : Nat} {q : Int} {ord : List Int} (h : Burns M q ord) (ha : ∀ v : Nat, v < M → (v : Int) ∈ ord) : ord.length = M := by
  have hn : ((List.range M).map fun (v : Nat) => (v : Int)).Nodup := by
    rw [List.Nodup, List.pairwise_map]
    exact (List.nodup_range (n := M)).imp fun {a b} hab e => hab (by omega)
  have hp : ord.Perm ((List.range M).map fun (v : Nat) => (v : Int)) := (List.perm_ext_iff_of_nodup h.nodup hn).2 fun x => by
    rw [List.mem_map]
    constructor
    · intro hx
      have := h.bound x hx
      exact ⟨x.toNat, List.mem_range.2 (by omega), by omega⟩
    · rintro ⟨v, hv, rfl⟩
      exact ha v (List.mem_range.1 hv)
  have := hp.length_eq
  simpa using this
theorem tree_park {M q : Nat} {es : List (Int × Int)} {T : List Int} (hes : ∀ e ∈ es, 0 ≤ e.1 ∧ e.1 < e.2 ∧ e.2 < (M : Int)) (hq : q < M) (hT : AscP es.length (M - 1) T) (hc : Conn (M : Int) (partL es T)) :
    (∀ v, v < M → (endW es (decT (natT T)) q).b v = true) ∧ (burntL M es (lostL M es (decT (natT T)) q) (q : Int)).length = M := by
  have hb := tree_burns (M := M) (q := q) (es := es) (dec := decT (natT T)) (natT T) (fun i v x => rfl) (tree_cut hq hT hc)
  refine ⟨hb, ?_⟩
  have hf := walk_fire hes hq (WR.fin (es := es) (dec := decT (natT T)) (q := q)) (lostL M es (decT (natT T)) q) (fun v hv hbv => by
    rw [lostL_get (walk_b_lt hes hq WR.fin v hbv), if_neg hv])
  exact burns_all (burntL_all (M := M) (es := es) (d := lostL M es (decT (natT T)) q) (q := (q : Int)) ⟨by omega, by omega⟩).1 fun v hv => hf v (hb v hv)
theorem park_tree {M q : Nat} {es : List (Int × Int)} {f : List Int} (hes : ∀ e ∈ es, 0 ≤ e.1 ∧ e.1 < e.2 ∧ e.2 < (M : Int)) (hq : q < M) (hf : ∀ v, v < M → v ≠ q → 0 ≤ f.getD v 0) (hall : (burntL M es f (q : Int)).length = M) :
    AscP es.length (M - 1) (outL es (decF f) q) ∧ Conn (M : Int) (partL es (outL es (decF f) q)) := by
  have hb := park_burns hes hq hf hall
  have hw : WR es (decF f) q (endW es (decF f) q) := WR.fin
  have hl := out_all hes hq hw hb
  have hA : AscP es.length (M - 1) (outL es (decF f) q) := AscP.of (by rw [outL_len]; omega) (outL_asc _ _ _) fun i hi => by
    obtain ⟨j, hj, rfl⟩ := outL_mem.1 hi
    have := (hw.wi.ot j hj).2
    omega
  refine ⟨hA, tree_conn hes hq hA fun p hp ⟨v, hv, hpv⟩ => ?_⟩
  obtain ⟨i, hi, hne⟩ := out_cut hw p hp ⟨v, hb v hv, hpv⟩
  exact ⟨i, (natT_mem hA i).2 (outL_mem.2 ⟨i, hi, rfl⟩), hne⟩
theorem outL_nat {es : List (Int × Int)} {dec : Nat → Nat → Int → Bool} {q : Nat} (i : Nat) : i ∈ natT (outL es dec q) ↔ i ∈ (endW es dec q).o := by
  unfold natT
  rw [List.mem_map]
  constructor
  · rintro ⟨a, ha, rfl⟩
    obtain ⟨j, hj, rfl⟩ := outL_mem.1 ha
    simpa using hj
  · intro h
    exact ⟨(i : Int), outL_mem.2 ⟨i, h, rfl⟩, by omega⟩
theorem tree_there {M q : Nat} {es : List (Int × Int)} {T : List Int} (hes : ∀ e ∈ es, 0 ≤ e.1 ∧ e.1 < e.2 ∧ e.2 < (M : Int)) (hq : q < M) (hT : AscP es.length (M - 1) T) (hc : Conn (M : Int) (partL es T)) :
    outL es (decF (lostL M es (decT (natT T)) q)) q = T := by
  have hb := (tree_park hes hq hT hc).1
  have e := tree_back (M := M) (q := q) (T := natT T) (f := lostL M es (decT (natT T)) q) hes fun v hv hvq => by rw [lostL_get hv, if_neg hvq]
  symm
  refine outL_is hT.asc fun z => ?_
  rw [e]
  have ho := tree_out (T := natT T) hes hq (by rw [natT, List.length_map, hT.1]; omega) hb
  constructor
  · intro hz
    have hr := asc_at hT hz
    exact ⟨z.toNat, (ho _).1 ((natT_mem hT _).2 (by rw [show ((z.toNat : Nat) : Int) = z by omega]; exact hz)), by omega⟩
  · rintro ⟨i, hi, rfl⟩
    exact (natT_mem hT i).1 ((ho i).2 hi)
theorem park_there {M q : Nat} {es : List (Int × Int)} {f : List Int} (hes : ∀ e ∈ es, 0 ≤ e.1 ∧ e.1 < e.2 ∧ e.2 < (M : Int)) (hq : q < M) (hl : f.length = M) (hz : f.getD q 0 = -1) (hf : ∀ v, v < M → v ≠ q → 0 ≤ f.getD v 0) (hall : (burntL M es f (q : Int)).length = M) :
    lostL M es (decT (natT (outL es (decF f) q))) q = f := by
  have hb := park_burns hes hq hf hall
  have e := park_back (q := q) (es := es) (f := f) (T := natT (outL es (decF f) q)) outL_nat
  refine list_same (by rw [lostL_len, hl]) fun u hu => ?_
  rw [lostL_len] at hu
  rw [lostL_get hu, e]
  by_cases hq2 : u = q
  · rw [if_pos hq2, hq2, hz]
  · rw [if_neg hq2]
    exact (park_lost hf (WR.fin (es := es) (dec := decF f) (q := q)) u hu hq2).1 (hb u hu)
end Go.Proofs.Ytdpojcgeblbfeaa
