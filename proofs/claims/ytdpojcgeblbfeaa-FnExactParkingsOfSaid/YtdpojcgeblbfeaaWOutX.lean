/- Rows appended one by one beside a cell that is written: no row lies in its block. -/
import Derived.Test.YtdpojcgeblbfeaaWOutR
import Derived.Test.YtdpojcgeblbfeaaWBItr
set_option linter.all false
namespace Go.Proofs.Ytdpojcgeblbfeaa
open Go.RowKit

theorem OutI.push {B : Nat} {w w1 w3 : World} {v v' : Value} {L : List (List Int)} {us : List Value} {G : Nat → Nat} {F : Option Addr} {cf : Nat} {r : List Int} {m W0 : Nat} (h : OutI B w v L us G) (hm : r.length = m) (hb : Below w.heap.size w w1) (hB : B ≤ w.heap.size) (hr : OwnI w1 w.heap.size F r)
    (ho : w3.ownsRow B 28 1 v' (L.length + 1) (us ++ [.slice F m cf])) (hW0 : W0 = w1.heap.size) (hg : (w1.alloc (.cells #[.slice F m cf] 28)).grownBy w3 v.ownBlock) (hat : v'.ownBlock = v.ownBlock ∨ v'.ownBlock = some (W0 + 1)) :
    ∃ G', OutI B w3 v' (L ++ [r]) (us ++ [.slice F m cf]) G' ∧ ∀ i, (G' i = G i ∧ i ≠ L.length) ∨ w.heap.size ≤ G' i := by
  subst hm
  subst hW0
  have hsz := hb.size
  have hgs := hg.size
  simp only [World.size_alloc] at hgs
  have hvl := h.own.lt
  have hvv : ∀ k, k < w1.heap.size → v.ownBlock ≠ some k → v'.ownBlock ≠ some k := fun k hk hne e => by
    rcases hat with g | g
    · exact hne (g.symm.trans e)
    · rw [g] at e
      injection e with e
      omega
  have hv' : v'.ownBlock ≠ some w1.heap.size := fun e => by
    rcases hat with g | g
    · have := (hvl _ (g.symm.trans e)).2
      omega
    · rw [g] at e
      injection e with e
      omega
  have hblk : ∀ k, k < w1.heap.size → v.ownBlock ≠ some k → w3.heap[k]? = w1.heap[k]? := fun k hk hne => (hg.block k (by simp; omega) (fun e => hne e.symm)).trans (Below.heap_alloc _ _ k hk)
  by_cases hn : 0 < r.length
  · obtain ⟨gr, off, e, g1, g2, g3⟩ := hr hn
    subst e
    have hne : v.ownBlock ≠ some gr := fun e => by have := (hvl _ e).2; omega
    refine ⟨fun i => if i = L.length then gr else G i, ⟨by rw [List.length_append]; exact ho, fun i s hs => ?_, fun i j hi hj hij => ?_⟩, fun i => ?_⟩
    · rcases Nat.lt_or_ge i L.length with l | l
      · rw [List.getElem?_append_left l] at hs
        obtain ⟨A, c, q1, q2, q3, q4, q5⟩ := h.rows i s hs
        simp only [if_neg (show ¬ i = L.length by omega)]
        have hul : us.length = L.length := by have := h.own.1; omega
        refine ⟨A, c, by rw [List.getElem?_append_left (by omega)]; exact q1, q2, by omega, hvv _ (by omega) q4, fun hn2 => ?_⟩
        obtain ⟨o, e, hc⟩ := q5 hn2
        have hbl := (hblk (G i) (by omega) q4).trans (hb.block (G i) q3)
        exact ⟨o, e, fun j z hz => ⟨(World.cell?_of_block (a := ⟨G i, o + j, none⟩) hbl).trans (hc j z hz).1, (World.frozen?_of_block (a := ⟨G i, o + j, none⟩) hbl).trans (hc j z hz).2⟩⟩
      · have e : i = L.length := by
          have := (List.getElem?_eq_some_iff.1 hs).1
          simp at this
          omega
        subst e
        rw [List.getElem?_append_right (Nat.le_refl _), Nat.sub_self] at hs
        have hs : r = s := by simpa using hs
        subst hs
        have hul : us.length = L.length := by have := h.own.1; omega
        simp only [if_true]
        refine ⟨_, cf, by rw [List.getElem?_append_right (by omega), hul, Nat.sub_self]; rfl, by omega, by omega, hvv _ g2 hne, fun _ => ⟨off, rfl, fun j z hz => ?_⟩⟩
        have hbl := hblk gr g2 hne
        exact ⟨(World.cell?_of_block (a := ⟨gr, off + j, none⟩) hbl).trans (g3 j z hz).1, (World.frozen?_of_block (a := ⟨gr, off + j, none⟩) hbl).trans (g3 j z hz).2⟩
    · rw [List.length_append, List.length_singleton] at hi hj
      have hlt : ∀ i, i < L.length → G i < w.heap.size := fun i hi => by
        obtain ⟨A, c, q1, q2, q3, q4, q5⟩ := h.rows i L[i] (List.getElem?_eq_getElem hi)
        exact q3
      by_cases e1 : i = L.length
      · simp only [if_pos e1, if_neg (show ¬ j = L.length by omega)]
        have := hlt j (by omega)
        omega
      · simp only [if_neg e1]
        by_cases e2 : j = L.length
        · simp only [if_pos e2]
          have := hlt i (by omega)
          omega
        · simp only [if_neg e2]
          exact h.apart i j (by omega) (by omega) hij
    · dsimp only
      split
      · exact .inr (by omega)
      · rename_i hne; exact .inl ⟨rfl, hne⟩
  · refine ⟨fun i => if i = L.length then w1.heap.size else G i, ⟨by rw [List.length_append]; exact ho, fun i s hs => ?_, fun i j hi hj hij => ?_⟩, fun i => ?_⟩
    · rcases Nat.lt_or_ge i L.length with l | l
      · rw [List.getElem?_append_left l] at hs
        obtain ⟨A, c, q1, q2, q3, q4, q5⟩ := h.rows i s hs
        simp only [if_neg (show ¬ i = L.length by omega)]
        have hul : us.length = L.length := by have := h.own.1; omega
        refine ⟨A, c, by rw [List.getElem?_append_left (by omega)]; exact q1, q2, by omega, hvv _ (by omega) q4, fun hn2 => ?_⟩
        obtain ⟨o, e, hc⟩ := q5 hn2
        have hbl := (hblk (G i) (by omega) q4).trans (hb.block (G i) q3)
        exact ⟨o, e, fun j z hz => ⟨(World.cell?_of_block (a := ⟨G i, o + j, none⟩) hbl).trans (hc j z hz).1, (World.frozen?_of_block (a := ⟨G i, o + j, none⟩) hbl).trans (hc j z hz).2⟩⟩
      · have e : i = L.length := by
          have := (List.getElem?_eq_some_iff.1 hs).1
          simp at this
          omega
        subst e
        rw [List.getElem?_append_right (Nat.le_refl _), Nat.sub_self] at hs
        have hs : r = s := by simpa using hs
        subst hs
        have hul : us.length = L.length := by have := h.own.1; omega
        simp only [if_true]
        exact ⟨F, cf, by rw [List.getElem?_append_right (by omega), hul, Nat.sub_self]; rfl, by omega, by omega, hv', fun h => absurd h hn⟩
    · rw [List.length_append, List.length_singleton] at hi hj
      have hlt : ∀ i, i < L.length → G i < w.heap.size := fun i hi => by
        obtain ⟨A, c, q1, q2, q3, q4, q5⟩ := h.rows i L[i] (List.getElem?_eq_getElem hi)
        exact q3
      by_cases e1 : i = L.length
      · simp only [if_pos e1, if_neg (show ¬ j = L.length by omega)]
        have := hlt j (by omega)
        omega
      · simp only [if_neg e1]
        by_cases e2 : j = L.length
        · simp only [if_pos e2]
          have := hlt i (by omega)
          omega
        · simp only [if_neg e2]
          exact h.apart i j (by omega) (by omega) hij
    · dsimp only
      split
      · exact .inr (by omega)
      · rename_i hne; exact .inl ⟨rfl, hne⟩
theorem OutI.stq {B N : Nat} {w w' : World} {v : Value} {L : List (List Int)} {us : List Value} {G : Nat → Nat} (h : OutI B w v L us G) (hs : Stq N w w') : OutI B w' v L us G := by
  refine ⟨?_, fun i r hr => ?_, h.apart⟩
  · obtain ⟨h1, h2⟩ := h.own
    refine ⟨h1, h2.imp id ?_⟩
    rintro ⟨g, cap, cur, e, k1, k2, k3⟩
    exact ⟨g, cap, cur, e, k1, hs.block k2, k3⟩
  · obtain ⟨A, c, q1, q2, q3, q4, q5⟩ := h.rows i r hr
    refine ⟨A, c, q1, q2, Nat.lt_of_lt_of_le q3 hs.size, q4, fun hn => ?_⟩
    obtain ⟨o, e, hc⟩ := q5 hn
    exact ⟨o, e, fun j z hz => ⟨hs.cell (hc j z hz).1, (hs.frozen (hc j z hz).1).trans (hc j z hz).2⟩⟩
def OutX (b B : Nat) (w : World) (v : Value) (L : List (List Int)) : Prop := ∃ us G, OutI B w v L us G ∧ v.ownBlock ≠ some b ∧ ∀ i, i < L.length → G i ≠ b
theorem OutX.out {b B : Nat} {w : World} {v : Value} {L : List (List Int)} (h : OutX b B w v L) : Out B w v L := by
  obtain ⟨us, G, h, -⟩ := h
  exact ⟨us, G, h⟩
theorem OutX.stq {b B N : Nat} {w w' : World} {v : Value} {L : List (List Int)} (h : OutX b B w v L) (hs : Stq N w w') : OutX b B w' v L := by
  obtain ⟨us, G, h1, h2, h3⟩ := h
  exact ⟨us, G, h1.stq hs, h2, h3⟩
theorem OutX.far {b B o : Nat} {w : World} {v u : Value} {L : List (List Int)} (h : OutX b B w v L) : OutX b B (w.setCell ⟨b, o, none⟩ u) v L := by
  obtain ⟨us, G, h1, h2, h3⟩ := h
  refine ⟨us, G, ⟨?_, fun i r hr => ?_, h1.apart⟩, h2, h3⟩
  · obtain ⟨k1, k2⟩ := h1.own
    refine ⟨k1, k2.imp id ?_⟩
    rintro ⟨g, cap, cur, e, k3, k4, k5⟩
    refine ⟨g, cap, cur, e, k3, (Below.heap_setCell _ _ _ _ (fun e2 => h2 ?_)).trans k4, k5⟩
    rw [e, ← show g = b from e2]
    rfl
  · obtain ⟨A, c, q1, q2, q3, q4, q5⟩ := h1.rows i r hr
    refine ⟨A, c, q1, q2, by simpa [World.setCell] using q3, q4, fun hn => ?_⟩
    obtain ⟨o2, e, hc⟩ := q5 hn
    have hbl := Below.heap_setCell w ⟨b, o, none⟩ u (G i) (h3 i (List.getElem?_eq_some_iff.1 hr).1)
    exact ⟨o2, e, fun j z hz => ⟨(World.cell?_of_block (a := ⟨G i, o2 + j, none⟩) hbl).trans (hc j z hz).1, (World.frozen?_of_block (a := ⟨G i, o2 + j, none⟩) hbl).trans (hc j z hz).2⟩⟩
theorem OutX.new {b B : Nat} {w : World} {v : Value} (h : w.ownsRow B 28 1 v 0 []) (hb : v.ownBlock ≠ some b) : OutX b B w v [] :=
  ⟨[], fun _ => 0, ⟨h, fun i r h => by simp at h, fun i j h => absurd h (by simp)⟩, hb, fun i h => absurd h (by simp)⟩
theorem OutX.push {b B : Nat} {w : World} {v : Value} {L : List (List Int)} (h : OutX b B w v L) (hbw : b < w.heap.size) : ∃ us, w.ownsRow B 28 1 v L.length us ∧ ∀ (w1 w3 : World) (v' : Value) (F : Option Addr) (cf : Nat) (r : List Int) (m W0 : Nat), r.length = m → Below w.heap.size w w1 → B ≤ w.heap.size → OwnI w1 w.heap.size F r →
    w3.ownsRow B 28 1 v' (L.length + 1) (us ++ [.slice F m cf]) → W0 = w1.heap.size → (w1.alloc (.cells #[.slice F m cf] 28)).grownBy w3 v.ownBlock → (v'.ownBlock = v.ownBlock ∨ v'.ownBlock = some (W0 + 1)) → OutX b B w3 v' (L ++ [r]) := by
  obtain ⟨us, G, h1, h2, h3⟩ := h
  refine ⟨us, h1.own, fun w1 w3 v' F cf r m W0 hm hb hB hr ho hW0 hg hat => ?_⟩
  obtain ⟨G', k1, k2⟩ := h1.push hm hb hB hr ho hW0 hg hat
  have hsz := hb.size
  have hl : us.length = L.length := by have := h1.own.1; omega
  have hGb : ∀ i, i < (L ++ [r]).length → G' i ≠ b := fun i hi e => by
    obtain ⟨A, c, q1, q2, q3, q4, q5⟩ := k1.rows i _ (List.getElem?_eq_getElem hi)
    rcases k2 i with k | k
    · refine h3 i ?_ (k.1.symm.trans e)
      have h5 := k.2
      rw [List.length_append, List.length_singleton] at hi
      omega
    · omega
  refine ⟨_, G', k1, fun e => ?_, hGb⟩
  rcases hat with g | g
  · exact h2 (g.symm.trans e)
  · rw [g] at e
    injection e with e
    omega
end Go.Proofs.Ytdpojcgeblbfeaa
