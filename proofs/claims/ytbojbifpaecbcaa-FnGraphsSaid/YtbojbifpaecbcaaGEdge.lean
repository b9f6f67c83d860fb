/- A graph of the call's own: its box, its edges, and edges that are added one by one. -/
import Derived.Test.YtbojbifpaecbcaaBA
namespace Go.Proofs.Ytbojbifpaecbcaa
open Go.RowKit

/-- a graph of the call's own and a bool are handed back -/
def GivesG (w : World) (N : Int) (es : List (Int × Int)) (b : Bool) (e : Ending) (w' : World) : Prop :=
  ∃ (A : Option Addr) (c : Nat), e = .returned (.tuple #[.agg #[.int .i64 N, .slice A es.length c], .bool b]) ∧ OwnE w' w.heap.size A es ∧ (∀ g off, A = some ⟨g, off, none⟩ → w.heap.size ≤ g ∧ g < w'.heap.size) ∧ Below w.heap.size w w'
theorem own_rng {w W : World} {g : Nat} (h1 : w.heap.size ≤ g) (h2 : g < W.heap.size) : ∀ g' off, some (⟨g, 0, none⟩ : Addr) = some ⟨g', off, none⟩ → w.heap.size ≤ g' ∧ g' < W.heap.size := fun g' off e => by
  injection e with e
  injection e with e1 _ _
  subst e1
  exact ⟨h1, h2⟩
theorem own_nil (w : World) (b : Nat) (A : Option Addr) : OwnE w b A [] := fun h => absurd h (by simp)
theorem box_facts {w : World} {g : Nat} {a b : Value} (hb : Blk w g 25 #[a, b]) : w.cell? ⟨g, 0, none⟩ = some a ∧ w.cell? ⟨g, 1, none⟩ = some b ∧ w.frozen? ⟨g, 0, none⟩ = false ∧ w.frozen? ⟨g, 1, none⟩ = false ∧ g < w.heap.size :=
  ⟨by rw [hb.cell]; rfl, by rw [hb.cell]; rfl, hb.frozen 0, hb.frozen 1, hb.lt⟩
theorem below_two {w : World} {B X : Nat} (hx : B ≤ X) (u v : Value) : Below B w ((w.setCell ⟨X, 0, none⟩ u).setCell ⟨X, 1, none⟩ v) :=
  Below.setCell (B := B) (Below.setCell (B := B) (Below.refl B w) (p := ⟨X, 0, none⟩) hx u) (p := ⟨X, 1, none⟩) hx v
theorem own_set {w : World} {base X o n size : Nat} {e : TypeId} {v u : Value} {xs : List Value} (h : w.ownsRow base e size v n xs) (hX : X < base) : (w.setCell ⟨X, o, none⟩ u).ownsRow base e size v n xs := by
  refine ⟨h.1, h.2.imp id ?_⟩
  rintro ⟨g, cap, cur, h1, h2, h3, h4⟩
  exact ⟨g, cap, cur, h1, h2, (Below.heap_setCell _ _ _ _ (by show g ≠ X; omega)).trans h3, h4⟩
theorem ownE_of {w : World} {base n : Nat} {v : Value} {l : List (Int × Int)} (h : w.ownsRow base 36 2 v n (flat l)) : ∃ (A : Option Addr) (c : Nat), v = .slice A l.length c ∧ OwnE w base A l ∧ ∀ g off, A = some ⟨g, off, none⟩ → base ≤ g ∧ g < w.heap.size := by
  obtain ⟨hl, h⟩ := h
  rw [flat_length] at hl
  have hln : l.length = n := by omega
  rcases h with ⟨h1, h2⟩ | ⟨g, cap, cur, hv, hb, hh, hnc, _, hcs, htk⟩
  · exact ⟨none, 0, by rw [h1, hln, h2], fun hn => absurd hn (by omega), fun _ _ h => by cases h⟩
  · have hblk : Blk w g 36 cur := hh
    have hc : ∀ k u, (flat l)[k]? = some u → w.cell? ⟨g, 0 + k, none⟩ = some u := fun k u hu => by
      have hk : k < n * 2 := by
        have := (List.getElem?_eq_some_iff.1 hu).1
        rw [flat_length] at this
        omega
      rw [Nat.zero_add, hblk.cell, ← hu, ← htk, List.getElem?_take_of_lt hk, Array.getElem?_toList]
    refine ⟨some ⟨g, 0, none⟩, cap, by rw [hln]; exact hv, fun _ => ⟨g, 0, rfl, hb, hblk.lt, fun i e he => ?_⟩, fun g' off e => by
      injection e with e
      injection e with e1 _ _
      subst e1
      exact ⟨hb, hblk.lt⟩⟩
    have hf := flat_at l i e he
    exact ⟨hc _ _ hf.1, hc _ _ hf.2, hblk.frozen _, hblk.frozen _⟩
theorem ownE_far {w : World} {b X : Nat} {A : Option Addr} {es : List (Int × Int)} (h : OwnE w b A es) (hx : X < b) (u v : Value) : OwnE ((w.setCell ⟨X, 0, none⟩ u).setCell ⟨X, 1, none⟩ v) b A es := fun hn => by
  obtain ⟨g, off, rfl, h1, hg, hc⟩ := h hn
  have hbl : ((w.setCell ⟨X, 0, none⟩ u).setCell ⟨X, 1, none⟩ v).heap[g]? = w.heap[g]? := (Below.heap_setCell _ _ _ _ (by show g ≠ X; omega)).trans (Below.heap_setCell _ _ _ _ (by show g ≠ X; omega))
  have hcl : ∀ o : Nat, ((w.setCell ⟨X, 0, none⟩ u).setCell ⟨X, 1, none⟩ v).cell? ⟨g, o, none⟩ = w.cell? ⟨g, o, none⟩ := fun o => World.cell?_of_block (a := ⟨g, o, none⟩) hbl
  have hfr : ∀ o : Nat, ((w.setCell ⟨X, 0, none⟩ u).setCell ⟨X, 1, none⟩ v).frozen? ⟨g, o, none⟩ = w.frozen? ⟨g, o, none⟩ := fun o => World.frozen?_of_block (a := ⟨g, o, none⟩) hbl
  refine ⟨g, off, rfl, h1, by simpa [World.setCell] using hg, fun i z hz => ?_⟩
  rw [hcl, hcl, hfr, hfr]
  exact hc i z hz
theorem two_cells (W : World) (g : Nat) (hg : g = W.heap.size) (t : TypeId) (u v : Value) (j : Nat) (x : Value) (h : [u, v][j]? = some x) : (W.alloc (.cells #[u, v] t)).cell? ((⟨g, 0, none⟩ : Addr).add j) = some x := by
  subst hg
  rw [Addr.add_lit, Nat.zero_add, (Blk.new W t #[u, v]).cell]
  simpa using h
theorem flat_app (a b : List (Int × Int)) : flat (a ++ b) = flat a ++ flat b := by
  induction a with
  | nil => rfl
  | cons x l ih => simp only [List.cons_append, flat, ih]
end Go.Proofs.Ytbojbifpaecbcaa
