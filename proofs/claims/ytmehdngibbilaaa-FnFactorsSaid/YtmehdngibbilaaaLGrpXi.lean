/- The critical group: the program's ClassesOf: what its loop holds. -/
import Derived.Maps.AppendAt
import Derived.Test.YtmehdngibbilaaaLEfo
import Derived.Test.YtmehdngibbilaaaLBA
import Derived.Deep.RegionHeld3
import Derived.Test.YtmehdngibbilaaaLGrpW
import Derived.Test.YtmehdngibbilaaaLGrpXd
namespace Go.Proofs.Ytmehdngibbilaaa
open Go.RowKit

section
variable {w0 X Y Z : World} {cb n q B : Nat} {L : List (List Int)}
structure CK (X Z : World) : Prop where
  size : X.heap.size ≤ Z.heap.size
  keep : ∀ (k : Nat) (o : Obj), X.heap[k]? = some o → o.isCells = true → Z.heap[k]? = some o
theorem CK.refl (X : World) : CK X X := ⟨Nat.le_refl _, fun _ _ h _ => h⟩
theorem CK.trans (h : CK X Y) (k : CK Y Z) : CK X Z := ⟨Nat.le_trans h.size k.size, fun i o hi ho => k.keep i o (h.keep i o hi ho) ho⟩
theorem CK.of_stp (h : Stp B X Y) : CK X Y := ⟨h.size, fun k o hk ho => h.keep k o hk (.inl ho)⟩
theorem CK.of_below (h : Below X.heap.size X Y) : CK X Y := ⟨h.size, fun k _ hk _ => (h.block k (Array.getElem?_eq_some_iff.1 hk).1).trans hk⟩
theorem CK.store {a : Addr} {u : Value} (h : CK X Y) (ha : X.heap.size ≤ a.block) : CK X (Y.setCell a u) :=
  ⟨by simpa [World.setCell] using h.size, fun k o hk ho => by
    have hl := (Array.getElem?_eq_some_iff.1 hk).1
    exact (Below.heap_setCell Y a u k (by omega)).trans (h.keep k o hk ho)⟩
theorem CK.below (h : CK X Y) (hb : Below Y.heap.size Y Z) : CK X Z := h.trans (CK.of_below hb)
def ClsI (w0 Z : World) (cb : Nat) (L : List (List Int)) : Prop :=
  ∃ (v : Value) (vs : List Value) (G C : Nat → Nat), Boxed Z cb 30 v ∧ Z.ownsRow w0.heap.size 27 1 v L.length vs ∧
    (∀ (i : Nat) (r : List Int), L[i]? = some r → vs[i]? = some (.slice (some ⟨G i, 0, none⟩) r.length (C i)) ∧ w0.heap.size ≤ G i ∧ QOwn Z w0.heap.size (.slice (some ⟨G i, 0, none⟩) r.length (C i)) r) ∧
    (∀ i j, i < j → j < L.length → G i ≠ G j) ∧ (∀ i, i < L.length → G i < Z.heap.size) ∧ (L.length = 0 → v = .slice none 0 0)
theorem ClsI.ck (h : ClsI w0 X cb L) (hs : CK X Y) : ClsI w0 Y cb L := by
  obtain ⟨v, vs, G, C, h1, h2, h3, h4, h5, h7⟩ := h
  have ow : ∀ {base e s k : Nat} {v : Value} {xs : List Value}, X.ownsRow base e s v k xs → Y.ownsRow base e s v k xs := fun h => own_kept h fun j _ hj => hs.keep j _ hj rfl
  refine ⟨v, vs, G, C, hs.keep _ _ h1 rfl, ow h2, fun i r hr => ?_, h4, fun i hi => Nat.lt_of_lt_of_le (h5 i hi) hs.size, h7⟩
  obtain ⟨q1, q2, q3⟩ := h3 i r hr
  exact ⟨q1, q2, ow q3⟩
theorem ClsI.push {Y1 w1 : World} {b c : Nat} {r : List Int} {v v' : Value} {vs : List Value} {G C : Nat → Nat}
    (h1 : Boxed Y cb 30 v) (h2 : Y.ownsRow w0.heap.size 27 1 v L.length vs)
    (h3 : ∀ (i : Nat) (r : List Int), L[i]? = some r → vs[i]? = some (.slice (some ⟨G i, 0, none⟩) r.length (C i)) ∧ w0.heap.size ≤ G i ∧ QOwn Y w0.heap.size (.slice (some ⟨G i, 0, none⟩) r.length (C i)) r)
    (h4 : ∀ i j, i < j → j < L.length → G i ≠ G j) (h5 : ∀ i, i < L.length → G i < Y.heap.size) (h6 : ∀ i, i < L.length → G i ≠ b) (hf : QOwn Y w0.heap.size (.slice (some ⟨b, 0, none⟩) r.length c) r) (hwb : w0.heap.size ≤ b) (hyb : b < Y.heap.size)
    (hY1 : Y1 = Y.alloc (.cells #[.slice (some ⟨b, 0, none⟩) r.length c] 27)) (ho : w1.ownsRow w0.heap.size 27 1 v' (L.length + 1) (vs ++ [.slice (some ⟨b, 0, none⟩) r.length c])) (hg : Y1.grownBy w1 v.ownBlock) :
    ClsI w0 (w1.setCell ⟨cb, 0, none⟩ v') cb (L ++ [r]) := by
  have hvl : vs.length = L.length := by have := h2.1; omega
  have hbY : Below Y.heap.size Y Y1 := by rw [hY1]; exact (Below.refl _ _).alloc (Nat.le_refl _) _
  have kY : ∀ {base e s k : Nat} {v : Value} {xs : List Value}, Y.ownsRow base e s v k xs → Y1.ownsRow base e s v k xs := fun h => by rw [hY1]; exact h.alloc _
  have hby : Boxed Y1 cb 30 v := by rw [hY1]; exact h1.alloc _
  have hbx : Boxed w1 cb 30 v := hby.kept hg (hby.not_row (by decide) (kY h2))
  have hg2 := grownBy_setCell' w1 cb v'
  have keepq : ∀ {base : Nat} {x : Value} {p : List Int}, QOwn Y base x p → QOwn (w1.setCell ⟨cb, 0, none⟩ v') base x p := fun {base x p} hq => by
    have q0 : QOwn Y1 base x p := kY hq
    have q1 : QOwn w1 base x p := World.ownsRow.kept q0 hg (own_types2 q0 (kY h2) (by decide))
    refine World.ownsRow.kept q1 hg2 ?_
    by_cases e : x.ownBlock = none
    · exact .inl e
    · exact .inr fun e' => (hbx.not_row (by decide) q1) e'.symm
  have hrow : (w1.setCell ⟨cb, 0, none⟩ v').ownsRow w0.heap.size 27 1 v' (L.length + 1) (vs ++ [.slice (some ⟨b, 0, none⟩) r.length c]) := ho.kept hg2 (.inr fun e' => (hbx.not_row (by decide) ho) e'.symm)
  have s1 : (w1.setCell ⟨cb, 0, none⟩ v').heap.size = w1.heap.size := by simp [World.setCell]
  refine ⟨v', vs ++ [.slice (some ⟨b, 0, none⟩) r.length c], fun i => if i = L.length then b else G i, fun i => if i = L.length then c else C i, hbx.set v', by simpa using hrow, fun i p hp => ?_, fun i j hij hj => ?_, fun i hi => ?_, fun h => absurd h (by simp)⟩
  · rcases Nat.lt_or_ge i L.length with l | l
    · rw [List.getElem?_append_left l] at hp
      obtain ⟨q1, q2, q3⟩ := h3 i p hp
      simp only [if_neg (show ¬ i = L.length by omega)]
      exact ⟨by rw [List.getElem?_append_left (by omega)]; exact q1, q2, keepq q3⟩
    · have hi := (List.getElem?_eq_some_iff.1 hp).1
      obtain rfl : i = L.length := by simp at hi; omega
      rw [List.getElem?_append_right (Nat.le_refl _), Nat.sub_self] at hp
      simp at hp
      subst hp
      simp only [if_true]
      exact ⟨by rw [List.getElem?_append_right (by omega), hvl, Nat.sub_self]; rfl, hwb, keepq hf⟩
  · simp at hj
    simp only [if_neg (show ¬ i = L.length by omega)]
    rcases Nat.lt_or_ge j L.length with l | l
    · simp only [if_neg (show ¬ j = L.length by omega)]
      exact h4 i j hij l
    · obtain rfl : j = L.length := by omega
      simp only [if_true]
      exact h6 i hij
  · simp at hi
    have s2 := hg.size
    have s3 := hbY.size
    rw [s1]
    rcases Nat.lt_or_ge i L.length with l | l
    · simp only [if_neg (show ¬ i = L.length by omega)]
      have := h5 i l
      omega
    · obtain rfl : i = L.length := by omega
      simp only [if_true]
      omega
theorem cls_rnd {Y1 w1 : World} {b c : Nat} {r : List Int} {v v' : Value} {vs : List Value} {m : Nat} (h0 : m = 0 → v = .slice none 0 0) (hq : q ≤ w0.heap.size) (hqb : q ≤ cb) (h1 : Boxed Y cb 30 v) (h2 : Y.ownsRow w0.heap.size 27 1 v m vs) (hvs : ∀ u ∈ vs, ∃ A k c, u = .slice A k c)
    (hY1 : Y1 = Y.alloc (.cells #[.slice (some ⟨b, 0, none⟩) r.length c] 27)) (hg : Y1.grownBy w1 v.ownBlock) : Rnd q n B Y (w1.setCell ⟨cb, 0, none⟩ v') := by
  have hbY : Below Y.heap.size Y Y1 := by rw [hY1]; exact (Below.refl _ _).alloc (Nat.le_refl _) _
  have hv : ∃ A k c, v = .slice A k c := by
    rcases h2.2 with ⟨e, _⟩ | ⟨g, cap, cur, e, _⟩
    · exact ⟨none, 0, 0, e⟩
    · exact ⟨_, _, _, e⟩
  have s1 : (w1.setCell ⟨cb, 0, none⟩ v').heap.size = w1.heap.size := by simp [World.setCell]
  refine ⟨by rw [s1]; exact Nat.le_trans hbY.size hg.size, fun k o hk ho => ?_⟩
  have hkl := (Array.getElem?_eq_some_iff.1 hk).1
  have kne : k ≠ cb := by
    rintro rfl
    rw [show Y.heap[k]? = _ from h1] at hk
    cases hk
    rcases ho with ho | ho | ho
    · obtain ⟨A, m, c, rfl⟩ := hv
      exact ho.2.1 ⟨_, _, _, rfl, .inl ⟨.inr rfl, A, m, c, rfl⟩⟩
    · cases ho.1
    · omega
  have kno : some k ≠ v.ownBlock := fun e => by
    rcases h2.2 with ⟨e0, _⟩ | ⟨g, cap, cur, e0, hb, hgb, hc1, hc2, hc3, hc4⟩
    · rw [e0] at e; simp [Value.ownBlock] at e
    · rw [e0] at e
      obtain rfl : k = g := by simpa [Value.ownBlock] using e
      rw [hgb] at hk
      cases hk
      rcases ho with ho | ho | ho
      · by_cases ht : 0 < m
        · have hvl : vs.length = m * 1 := h2.1
          obtain ⟨u, hu⟩ : ∃ u, vs[0]? = some u := ⟨_, List.getElem?_eq_getElem (by omega)⟩
          obtain ⟨A, m, c, rfl⟩ := hvs u (List.mem_of_getElem? hu)
          refine ho.2.1 ⟨cur, _, _, rfl, .inl ⟨.inl rfl, A, m, c, ?_⟩⟩
          rw [← hc4, List.getElem?_take_of_lt (by omega)] at hu
          simpa using hu
        · have h9 := h0 (by omega)
          rw [e0] at h9
          cases h9
      · cases ho.1
      · omega
  have e1 : (w1.setCell ⟨cb, 0, none⟩ v').heap[k]? = w1.heap[k]? := Below.heap_setCell _ _ _ _ kne
  rw [e1, hg.block k (by have := hbY.size; omega) kno, hbY.block k hkl]
  exact hk
theorem rnd_store {b : Nat} {u : Value} {r : List Value} {m c : Nat} (h : Y.ownsRow X.heap.size 3 1 (.slice (some ⟨b, 0, none⟩) m c) m r) (hB : B ≤ b) (hq : q ≤ b) : Rnd q n B Y (Y.setCell ⟨b, 0, none⟩ u) := by
  refine ⟨by simp [World.setCell], fun k o hk ho => ?_⟩
  by_cases e : k = b
  · subst e
    rcases h.2 with ⟨e0, _⟩ | ⟨g, cap, cur, e0, hb, hgb, _⟩
    · simp at e0
    · simp only [Value.slice.injEq, Option.some.injEq, Addr.mk.injEq, and_true, true_and] at e0
      rw [e0.1, hgb] at hk
      cases hk
      rcases ho with ho | ho | ho
      · omega
      · cases ho.1
      · omega
  · rw [Below.heap_setCell _ _ _ _ e]
    exact hk
theorem ClsI.out (h : ClsI w0 Z cb L) (hB : B ≤ w0.heap.size) : ∃ (A : Option Addr) (c : Nat), Boxed Z cb 30 (.slice A L.length c) ∧ OwnSS Z B Z.heap.size A L := by
  obtain ⟨v, vs, G, C, h1, h2, h3, h4, h5, h7⟩ := h
  rcases h2.2 with ⟨e, e0⟩ | ⟨g, cap, cur, e, hb, hgb, hc1, hc2, hc3, hc4⟩
  · rw [e] at h1
    exact ⟨none, 0, by rw [e0]; exact h1, fun hn => absurd hn (by omega)⟩
  · rw [e] at h1
    refine ⟨_, _, h1, fun hn => ⟨g, 0, G, rfl, Nat.le_trans hB hb, (h2.lt g (by rw [e]; rfl)).2, Nat.le_refl _, fun i r hr => ?_, fun i j hi hj hne => ?_⟩⟩
    · have hi := (List.getElem?_eq_some_iff.1 hr).1
      obtain ⟨q1, q2, q3⟩ := h3 i r hr
      refine ⟨some ⟨G i, 0, none⟩, C i, ?_, fun hz => ?_, fun e' => ?_⟩
      · have h9 := World.ownsRow.cells h2 (by rw [e]; rfl) i _ q1
        rw [Addr.add_lit] at h9
        exact h9
      · obtain ⟨g', o', hg', k1, k2, k3⟩ := OwnI.of_own q3 hz
        obtain ⟨rfl, rfl⟩ : G i = g' ∧ 0 = o' := by simpa using hg'
        exact ⟨0, rfl, Nat.le_trans hB k1, k2, k3⟩
      · rcases own_types2 q3 h2 (by decide) with k | k
        · cases k
        · exact k (by rw [e, e']; rfl)
    · rcases Nat.lt_or_ge i j with l | l
      · exact h4 i j l hj
      · exact fun e' => h4 j i (by omega) hi e'.symm
end
set_option maxHeartbeats 1000000 in
theorem implGenT (N : Int) (A : Option Addr) (c : Nat) (es : List (Int × Int)) (w : World) (hB : graphB N es = true) (hE : EdgeS w w.heap.size A es) :
    Calls Try.prog 73 #[.agg #[.int .i64 N, .slice A es.length c]] w fun e w' => e = .returned (.int .i64 (es.length - N + 1)) ∧ Below w.heap.size w w' := by
  obtain ⟨hN1, hN6, hn12⟩ := edgesB_lims (graphB_all hB).1
  have HE := Lib.hid hE
  have HG := fun w h => Lib.hid (implGraphOk N A c es w (by omega) h)
  rw [hB] at HG
  have G0 := GB.start w N A c es
  clear hE hB
  go_enter Try.func73, Try.ntmps73
  go_wp2_with fail
  refine (HG _ (HE.out.up_ G0.old)).out.mono ?_
  rintro e w1 ⟨rfl, hb1⟩
  have G1 := Lib.hid (G0.next hb1)
  have c0 := G1.out.c0
  have c1 := G1.out.c1
  clear G0 hb1
  go_wp2
  go_ret
  exact ⟨by go_num, G1.out.old⟩
end Go.Proofs.Ytmehdngibbilaaa
