/- Rows that are appended one by one, each in a block of its own. -/
import Derived.Maps.AppendAt
import Derived.Test.YtdpojcgeblbfeaaVBA
import Derived.Test.YtdpojcgeblbfeaaVBE
set_option linter.all false
namespace Go.Proofs.Ytdpojcgeblbfeaa
open Go.RowKit

structure OutI (B : Nat) (w : World) (v : Value) (L : List (List Int)) (us : List Value) (G : Nat → Nat) : Prop where
  own : w.ownsRow B 28 1 v L.length us
  rows : ∀ (i : Nat) (r : List Int), L[i]? = some r → ∃ (A : Option Addr) (c : Nat), us[i]? = some (.slice A r.length c) ∧ B ≤ G i ∧ G i < w.heap.size ∧ v.ownBlock ≠ some (G i) ∧
    (0 < r.length → ∃ o : Nat, A = some ⟨G i, o, none⟩ ∧ ∀ (j : Nat) (z : Int), r[j]? = some z → w.cell? ⟨G i, o + j, none⟩ = some (.int .i64 z) ∧ w.frozen? ⟨G i, o + j, none⟩ = false)
  apart : ∀ i j, i < L.length → j < L.length → i ≠ j → G i ≠ G j
def Out (B : Nat) (w : World) (v : Value) (L : List (List Int)) : Prop := ∃ us G, OutI B w v L us G
theorem Out.nil (B : Nat) (w : World) : Out B w (.slice none 0 0) [] := ⟨[], fun _ => 0, ⟨rfl, .inl ⟨rfl, rfl⟩⟩, fun i r h => by simp at h, fun i j h => absurd h (by simp)⟩
theorem Out.some_ {B : Nat} {w : World} (hB : B ≤ w.heap.size) : Out B (w.alloc (.cells #[] 28)) (.slice (some ⟨w.heap.size, 0, none⟩) 0 0) [] :=
  ⟨[], fun _ => 0, ⟨rfl, .inr ⟨w.heap.size, 0, #[], rfl, hB, heap_alloc_new w _, Nat.le_refl _, Nat.zero_le _, rfl, rfl⟩⟩, fun i r h => by simp at h, fun i j h => absurd h (by simp)⟩
theorem Out.slice {B : Nat} {w : World} {v : Value} {L : List (List Int)} (h : Out B w v L) : ∃ (A : Option Addr) (c : Nat), v = .slice A L.length c := by
  obtain ⟨us, G, h⟩ := h
  rcases h.own.2 with ⟨e, e0⟩ | ⟨g, cap, cur, e, _⟩
  · exact ⟨none, 0, by rw [e, e0]⟩
  · exact ⟨_, _, e⟩
theorem Out.lt {B : Nat} {w : World} {v : Value} {L : List (List Int)} (h : Out B w v L) : ∀ g, v.ownBlock = some g → B ≤ g ∧ g < w.heap.size := by
  obtain ⟨us, G, h⟩ := h
  exact h.own.lt
theorem Out.next {B : Nat} {w w' : World} {v : Value} {L : List (List Int)} (h : Out B w v L) (hk : ∀ k, B ≤ k → k < w.heap.size → w'.heap[k]? = w.heap[k]?) (hs : w.heap.size ≤ w'.heap.size) : Out B w' v L := by
  obtain ⟨us, G, h⟩ := h
  refine ⟨us, G, ?_, fun i r hr => ?_, h.apart⟩
  · obtain ⟨h1, h2⟩ := h.own
    refine ⟨h1, h2.imp id ?_⟩
    rintro ⟨g, cap, cur, e, k1, k2, k3⟩
    exact ⟨g, cap, cur, e, k1, (hk g k1 (Array.getElem?_eq_some_iff.1 k2).1).trans k2, k3⟩
  · obtain ⟨A, c, q1, q2, q3, q4, q5⟩ := h.rows i r hr
    refine ⟨A, c, q1, q2, Nat.lt_of_lt_of_le q3 hs, q4, fun hn => ?_⟩
    obtain ⟨o, e, hc⟩ := q5 hn
    have hbl := hk (G i) q2 q3
    exact ⟨o, e, fun j z hz => ⟨(World.cell?_of_block (a := ⟨G i, o + j, none⟩) hbl).trans (hc j z hz).1, (World.frozen?_of_block (a := ⟨G i, o + j, none⟩) hbl).trans (hc j z hz).2⟩⟩
theorem Out.below {B : Nat} {w w' : World} {v : Value} {L : List (List Int)} (h : Out B w v L) (hb : Below w.heap.size w w') : Out B w' v L := h.next (fun k _ hk => hb.block k hk) hb.size
theorem Out.outer {B : Nat} {w : World} {v : Value} {L : List (List Int)} (h : Out B w v L) : ∃ us, w.ownsRow B 28 1 v L.length us ∧ ∀ (w1 w3 : World) (v' : Value) (F : Option Addr) (cf : Nat) (r : List Int) (m W0 : Nat), r.length = m → Below w.heap.size w w1 → B ≤ w.heap.size → OwnI w1 w.heap.size F r →
    w3.ownsRow B 28 1 v' (L.length + 1) (us ++ [.slice F m cf]) → W0 = w1.heap.size → (w1.alloc (.cells #[.slice F m cf] 28)).grownBy w3 v.ownBlock → (v'.ownBlock = v.ownBlock ∨ v'.ownBlock = some (W0 + 1)) → Out B w3 v' (L ++ [r]) := by
  obtain ⟨us, G, h⟩ := h
  refine ⟨us, h.own, fun w1 w3 v' F cf r m W0 hm hb hB hr ho hW0 hg hat => ?_⟩
  subst hm
  subst hW0
  have hsz := hb.size
  have hgs := hg.size
  simp only [World.size_alloc] at hgs
  have hvl := h.own.lt
  have hvv : ∀ k, k < w1.heap.size → v.ownBlock ≠ some k → v'.ownBlock ≠ some k := fun k hk hne e => by
    rcases hat with g | g
    · exact hne (g.symm.trans e)
    · rw [g] at e
      injection e with e
      omega
  have hv' : v'.ownBlock ≠ some w1.heap.size := fun e => by
    rcases hat with g | g
    · have := (hvl _ (g.symm.trans e)).2
      omega
    · rw [g] at e
      injection e with e
      omega
  have hblk : ∀ k, k < w1.heap.size → v.ownBlock ≠ some k → w3.heap[k]? = w1.heap[k]? := fun k hk hne => (hg.block k (by simp; omega) (fun e => hne e.symm)).trans (Below.heap_alloc _ _ k hk)
  by_cases hn : 0 < r.length
  · obtain ⟨gr, off, e, g1, g2, g3⟩ := hr hn
    subst e
    have hne : v.ownBlock ≠ some gr := fun e => by have := (hvl _ e).2; omega
    refine ⟨us ++ [.slice (some ⟨gr, off, none⟩) r.length cf], fun i => if i = L.length then gr else G i, by rw [List.length_append]; exact ho, fun i s hs => ?_, fun i j hi hj hij => ?_⟩
    · rcases Nat.lt_or_ge i L.length with l | l
      · rw [List.getElem?_append_left l] at hs
        obtain ⟨A, c, q1, q2, q3, q4, q5⟩ := h.rows i s hs
        simp only [if_neg (show ¬ i = L.length by omega)]
        have hul : us.length = L.length := by have := h.own.1; omega
        refine ⟨A, c, by rw [List.getElem?_append_left (by omega)]; exact q1, q2, by omega, hvv _ (by omega) q4, fun hn2 => ?_⟩
        obtain ⟨o, e, hc⟩ := q5 hn2
        have hbl := (hblk (G i) (by omega) q4).trans (hb.block (G i) q3)
        exact ⟨o, e, fun j z hz => ⟨(World.cell?_of_block (a := ⟨G i, o + j, none⟩) hbl).trans (hc j z hz).1, (World.frozen?_of_block (a := ⟨G i, o + j, none⟩) hbl).trans (hc j z hz).2⟩⟩
      · have e : i = L.length := by
          have := (List.getElem?_eq_some_iff.1 hs).1
          simp at this
          omega
        subst e
        rw [List.getElem?_append_right (Nat.le_refl _), Nat.sub_self] at hs
        have hs : r = s := by simpa using hs
        subst hs
        have hul : us.length = L.length := by have := h.own.1; omega
        simp only [if_true]
        refine ⟨_, cf, by rw [List.getElem?_append_right (by omega), hul, Nat.sub_self]; rfl, by omega, by omega, hvv _ g2 hne, fun _ => ⟨off, rfl, fun j z hz => ?_⟩⟩
        have hbl := hblk gr g2 hne
        exact ⟨(World.cell?_of_block (a := ⟨gr, off + j, none⟩) hbl).trans (g3 j z hz).1, (World.frozen?_of_block (a := ⟨gr, off + j, none⟩) hbl).trans (g3 j z hz).2⟩
    · rw [List.length_append, List.length_singleton] at hi hj
      have hlt : ∀ i, i < L.length → G i < w.heap.size := fun i hi => by
        obtain ⟨A, c, q1, q2, q3, q4, q5⟩ := h.rows i L[i] (List.getElem?_eq_getElem hi)
        exact q3
      by_cases e1 : i = L.length
      · simp only [if_pos e1, if_neg (show ¬ j = L.length by omega)]
        have := hlt j (by omega)
        omega
      · simp only [if_neg e1]
        by_cases e2 : j = L.length
        · simp only [if_pos e2]
          have := hlt i (by omega)
          omega
        · simp only [if_neg e2]
          exact h.apart i j (by omega) (by omega) hij
  · refine ⟨us ++ [.slice F r.length cf], fun i => if i = L.length then w1.heap.size else G i, by rw [List.length_append]; exact ho, fun i s hs => ?_, fun i j hi hj hij => ?_⟩
    · rcases Nat.lt_or_ge i L.length with l | l
      · rw [List.getElem?_append_left l] at hs
        obtain ⟨A, c, q1, q2, q3, q4, q5⟩ := h.rows i s hs
        simp only [if_neg (show ¬ i = L.length by omega)]
        have hul : us.length = L.length := by have := h.own.1; omega
        refine ⟨A, c, by rw [List.getElem?_append_left (by omega)]; exact q1, q2, by omega, hvv _ (by omega) q4, fun hn2 => ?_⟩
        obtain ⟨o, e, hc⟩ := q5 hn2
        have hbl := (hblk (G i) (by omega) q4).trans (hb.block (G i) q3)
        exact ⟨o, e, fun j z hz => ⟨(World.cell?_of_block (a := ⟨G i, o + j, none⟩) hbl).trans (hc j z hz).1, (World.frozen?_of_block (a := ⟨G i, o + j, none⟩) hbl).trans (hc j z hz).2⟩⟩
      · have e : i = L.length := by
          have := (List.getElem?_eq_some_iff.1 hs).1
          simp at this
          omega
        subst e
        rw [List.getElem?_append_right (Nat.le_refl _), Nat.sub_self] at hs
        have hs : r = s := by simpa using hs
        subst hs
        have hul : us.length = L.length := by have := h.own.1; omega
        simp only [if_true]
        exact ⟨F, cf, by rw [List.getElem?_append_right (by omega), hul, Nat.sub_self]; rfl, by omega, by omega, hv', fun h => absurd h hn⟩
    · rw [List.length_append, List.length_singleton] at hi hj
      have hlt : ∀ i, i < L.length → G i < w.heap.size := fun i hi => by
        obtain ⟨A, c, q1, q2, q3, q4, q5⟩ := h.rows i L[i] (List.getElem?_eq_getElem hi)
        exact q3
      by_cases e1 : i = L.length
      · simp only [if_pos e1, if_neg (show ¬ j = L.length by omega)]
        have := hlt j (by omega)
        omega
      · simp only [if_neg e1]
        by_cases e2 : j = L.length
        · simp only [if_pos e2]
          have := hlt i (by omega)
          omega
        · simp only [if_neg e2]
          exact h.apart i j (by omega) (by omega) hij
theorem Out.fin {B : Nat} {w : World} {v : Value} {L : List (List Int)} (h : Out B w v L) : ∃ (A : Option Addr) (c : Nat), v = .slice A L.length c ∧ OwnSS w B w.heap.size A L := by
  obtain ⟨us, G, h⟩ := h
  rcases h.own.2 with ⟨e, e0⟩ | ⟨g, cap, cur, e, hb, hgb, hc1, hc2, hc3, hc4⟩
  · exact ⟨none, 0, by rw [e, e0], fun hn => absurd hn (by omega)⟩
  · subst e
    refine ⟨_, cap, rfl, fun hn => ⟨g, 0, G, rfl, hb, (Array.getElem?_eq_some_iff.1 hgb).1, Nat.le_refl _, fun i r hr => ?_, h.apart⟩⟩
    obtain ⟨A, c, q1, q2, q3, q4, q5⟩ := h.rows i r hr
    refine ⟨A, c, ?_, fun hz => ?_, fun e => q4 (by rw [e]; rfl)⟩
    · have h9 := World.ownsRow.cells h.own rfl i _ q1
      rw [Addr.add_lit] at h9
      exact h9
    · obtain ⟨o, e, hc⟩ := q5 hz
      exact ⟨o, e, q2, q3, hc⟩
end Go.Proofs.Ytdpojcgeblbfeaa
