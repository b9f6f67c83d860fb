/- One text out of several: QKeep ValS LapS LapSW LapSL LapI LapK LapIW LapL. -/
import Derived.Test.YtndncmjhpbjcoaaGBB
import Derived.Test.YtndncmjhpbjcoaaGBC
import Derived.Test.YtndncmjhpbjcoaaGBF
import Derived.Test.YtndncmjhpbjcoaaGBA
set_option linter.all false
/- Queues kept from world to world. -/
namespace Go.Proofs.Ytndncmjhpbjcoaa
open Go.RowKit

theorem QOwn.below {w w' : World} {base : Nat} {v : Value} {q : List Int} (h : QOwn w base v q) (hb : Below w.heap.size w w') : QOwn w' base v q :=
  World.ownsRow.kept h (row := none) ⟨hb.os, hb.tape, hb.output, hb.size, fun i hi _ => hb.block i hi⟩ (Classical.em _)
theorem QOwn.set {w : World} {base b o n c g i : Nat} {q : List Int} {u : Value} (h : QOwn w base (.slice (some ⟨b, o, none⟩) n c) q) (hg : g < base) : QOwn (w.setCell ⟨g, i, none⟩ u) base (.slice (some ⟨b, o, none⟩) n c) q :=
  World.ownsRow.kept h (setCell_grown w g i u) (.inr (by have := h.block; simp only [Value.ownBlock, ne_eq, Option.some.injEq]; omega))
end Go.Proofs.Ytndncmjhpbjcoaa

/- Valence: the specification's loop over the edges and the program's sum over the map of counts are one plain number. -/
namespace Go.Proofs.Ytndncmjhpbjcoaa
open Go.RowKit Go.Maps

def touch (v : Int) (e : Int × Int) : Bool := (e.1 == v) || (e.2 == v)
/-! ### the sum over the map -/
end Go.Proofs.Ytndncmjhpbjcoaa

/- The specification's LaplacianOf. -/
namespace Go.Proofs.Ytndncmjhpbjcoaa
open Go.RowKit

theorem own_types {w : World} {base e1 e2 s1 s2 n1 n2 : Nat} {v1 v2 : Value} {x1 x2 : List Value} (h1 : w.ownsRow base e1 s1 v1 n1 x1) (h2 : w.ownsRow base e2 s2 v2 n2 x2) (hne : e1 ≠ e2) : v1.ownBlock = none ∨ v1.ownBlock ≠ v2.ownBlock := by
  rcases h1.2 with ⟨e, _⟩ | ⟨g, cap, cur, e, _, hg, _⟩
  · left; rw [e]; rfl
  · right
    rw [e]
    rcases h2.2 with ⟨e', _⟩ | ⟨g', cap', cur', e', _, hg', _⟩
    · rw [e']; simp [Value.ownBlock]
    · rw [e']
      simp only [Value.ownBlock, ne_eq, Option.some.injEq]
      rintro rfl
      rw [hg] at hg'
      injection hg' with hg'
      injection hg' with _ ht _
      exact hne ht
def SSOwn (w : World) (base : Nat) (v : Value) (rs : List (List Int)) : Prop :=
  ∃ vs : List Value, w.ownsRow base 28 1 v rs.length vs ∧ ∀ (i : Nat) (r : List Int), rs[i]? = some r → ∃ u, vs[i]? = some u ∧ QOwn w base u r
theorem SSOwn.kept {w w' : World} {base : Nat} {v : Value} {rs : List (List Int)} (h : SSOwn w base v rs) (hb : Below w.heap.size w w') : SSOwn w' base v rs := by
  obtain ⟨vs, h1, h2⟩ := h
  refine ⟨vs, h1.kept (row := none) ⟨hb.os, hb.tape, hb.output, hb.size, fun i hi _ => hb.block i hi⟩ (Classical.em _), fun i r hr => ?_⟩
  obtain ⟨u, hu, hq⟩ := h2 i r hr
  exact ⟨u, hu, hq.below hb⟩
theorem SSOwn.push {w w1 : World} {base : Nat} {v v' u : Value} {rs : List (List Int)} {r : List Int} {vs : List Value} (h1 : w.ownsRow base 28 1 v rs.length vs) (h2 : ∀ (i : Nat) (r : List Int), rs[i]? = some r → ∃ u, vs[i]? = some u ∧ QOwn w base u r)
    (hr : QOwn w base u r) (ho : w1.ownsRow base 28 1 v' (rs.length + 1) (vs ++ [u])) (hg : w.grownBy w1 v.ownBlock) : SSOwn w1 base v' (rs ++ [r]) := by
  have keep : ∀ {x : Value} {p : List Int}, QOwn w base x p → QOwn w1 base x p := fun hq => World.ownsRow.kept hq hg (own_types hq h1 (by decide))
  have hl : vs.length = rs.length := by have := h1.1; omega
  refine ⟨vs ++ [u], by simpa using ho, fun i p hp => ?_⟩
  rcases Nat.lt_or_ge i rs.length with l | l
  · rw [List.getElem?_append_left l] at hp
    obtain ⟨x, hx, hq⟩ := h2 i p hp
    exact ⟨x, by rw [List.getElem?_append_left (by omega)]; exact hx, keep hq⟩
  · rw [List.getElem?_append_right l] at hp
    have hi : i - rs.length = 0 := by
      have := (List.getElem?_eq_some_iff.1 hp).1
      simp at this
      omega
    rw [hi] at hp
    simp only [List.getElem?_cons_zero, Option.some.injEq] at hp
    subst hp
    exact ⟨u, by rw [List.getElem?_append_right (by omega), hl, hi]; rfl, keep hr⟩
end Go.Proofs.Ytndncmjhpbjcoaa

/- The walk of the specification's LaplacianOf. -/
namespace Go.Proofs.Ytndncmjhpbjcoaa
open Go.RowKit

theorem ownsRow_mono {w : World} {base base' e s n : Nat} {v : Value} {xs : List Value} (h : w.ownsRow base e s v n xs) (hb : base' ≤ base) : w.ownsRow base' e s v n xs := by
  obtain ⟨h1, h2⟩ := h
  refine ⟨h1, ?_⟩
  rcases h2 with h2 | ⟨g, cap, cur, e1, h3, h4⟩
  · exact .inl h2
  · exact .inr ⟨g, cap, cur, e1, by omega, h4⟩
theorem SSOwn.mono {w : World} {base base' : Nat} {v : Value} {rs : List (List Int)} (h : SSOwn w base v rs) (hb : base' ≤ base) : SSOwn w base' v rs := by
  obtain ⟨vs, h1, h2⟩ := h
  refine ⟨vs, ownsRow_mono h1 hb, fun i r hr => ?_⟩
  obtain ⟨u, hu, hq⟩ := h2 i r hr
  exact ⟨u, hu, ownsRow_mono hq hb⟩
end Go.Proofs.Ytndncmjhpbjcoaa

/- The specification's LaplacianOf, whatever the graph. -/
namespace Go.Proofs.Ytndncmjhpbjcoaa
open Go.RowKit

end Go.Proofs.Ytndncmjhpbjcoaa

/- Matrices in memory of the call's own, written cell by cell (for the program's LaplacianOf). -/
namespace Go.Proofs.Ytndncmjhpbjcoaa
open Go.RowKit

theorem RowsTo.write {w : World} {g hi a b : Nat} {rs : List (List Int)} {r : List Int} (h : RowsTo w g hi rs rs.length) (hr : rs[a]? = some r) (x : Int) :
    ∃ ga : Nat, g < ga ∧ ga < hi ∧ w.cell? ⟨g, a, none⟩ = some (.slice (some ⟨ga, 0, none⟩) r.length r.length) ∧ Blk w ga 3 (intCells r).toArray ∧
      RowsTo (w.setCell ⟨ga, b, none⟩ (.int .i64 x)) g hi (rs.set a (r.set b x)) (rs.set a (r.set b x)).length := by
  obtain ⟨vals, G, h1, h2, h3, h4⟩ := h
  have ha : a < rs.length := (List.getElem?_eq_some_iff.1 hr).1
  obtain ⟨q1, q2, q3, q4⟩ := h3 a r ha hr
  refine ⟨G a, q2, q3, ?_, q4, ?_⟩
  · rw [h1.cell, List.getElem?_toArray, List.getElem?_append_left (by omega)]
    exact q1
  · rw [List.length_set]
    refine ⟨vals, G, ?_, h2, fun i p hi' hp => ?_, h4⟩
    · rw [List.length_set]
      exact h1.far (p := ⟨G a, b, none⟩) (by simp only; omega) _
    · by_cases e : a = i
      · subst e
        rw [List.getElem?_set_self ha] at hp
        injection hp with hp
        subst hp
        rw [List.length_set]
        refine ⟨q1, q2, q3, ?_⟩
        have h5 := q4.set_ b (.int .i64 x)
        rw [List.setIfInBounds_toArray] at h5
        have : (intCells r).set b (.int .i64 x) = intCells (r.set b x) := by simp [intCells, List.map_set]
        rwa [this] at h5
      · rw [List.getElem?_set_ne e] at hp
        obtain ⟨p1, p2, p3, p4⟩ := h3 i p hi' hp
        refine ⟨p1, p2, p3, p4.far (p := ⟨G a, b, none⟩) ?_ _⟩
        simp only
        rcases Nat.lt_or_gt_of_ne e with l | l
        · have := h4 a i l hi'; omega
        · have := h4 i a l ha; omega
end Go.Proofs.Ytndncmjhpbjcoaa

/- The matrix after some of the edges (for the program's LaplacianOf): the plain math. -/
namespace Go.Proofs.Ytndncmjhpbjcoaa
open Go.RowKit

end Go.Proofs.Ytndncmjhpbjcoaa

/- The walk of the program's LaplacianOf. -/
namespace Go.Proofs.Ytndncmjhpbjcoaa
open Go.RowKit

end Go.Proofs.Ytndncmjhpbjcoaa

/- LaplacianOf, the program's side whatever the graph; its size. -/
namespace Go.Proofs.Ytndncmjhpbjcoaa
open Go.RowKit

end Go.Proofs.Ytndncmjhpbjcoaa
