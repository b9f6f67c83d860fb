/- The specification's LaplacianOf. -/
import Derived.Test.YtkmbdclhjdbhpabQKeep
import Derived.Test.YtkmbdclhjdbhpabMultS
import Derived.Test.YtkmbdclhjdbhpabGraphF
import Derived.Test.YtkmbdclhjdbhpabValS
import Derived.Test.YtkmbdclhjdbhpabIntSS
namespace Go.Proofs.Ytkmbdclhjdbhpab
open Go.RowKit

/-- an entry of the Laplacian -/
def lapE (M : Nat) (es : List (Int × Int)) (a b : Nat) : Int := if a = b then valB M es a else - multB M es a b
def lapR (M : Nat) (es : List (Int × Int)) (a : Nat) : List Int := (List.range M).map fun b => lapE M es a b
def lapM (M : Nat) (es : List (Int × Int)) : List (List Int) := (List.range M).map fun a => lapR M es a
theorem lapR_len (M : Nat) (es : List (Int × Int)) (a : Nat) : (lapR M es a).length = M := by simp [lapR]
theorem lapM_len (M : Nat) (es : List (Int × Int)) : (lapM M es).length = M := by simp [lapM]
theorem lapR_at {M : Nat} (es : List (Int × Int)) (a : Nat) {b : Nat} (h : b < M) : (lapR M es a)[b]? = some (lapE M es a b) := by simp [lapR, h]
theorem lapM_at {M : Nat} (es : List (Int × Int)) {a : Nat} (h : a < M) : (lapM M es)[a]? = some (lapR M es a) := by simp [lapM, h]

/-- two rows of unlike cells lie in two blocks -/
theorem own_types {w : World} {base e1 e2 s1 s2 n1 n2 : Nat} {v1 v2 : Value} {x1 x2 : List Value} (h1 : w.ownsRow base e1 s1 v1 n1 x1) (h2 : w.ownsRow base e2 s2 v2 n2 x2) (hne : e1 ≠ e2) : v1.ownBlock = none ∨ v1.ownBlock ≠ v2.ownBlock := by
  rcases h1.2 with ⟨e, _⟩ | ⟨g, cap, cur, e, _, hg, _⟩
  · left; rw [e]; rfl
  · right
    rw [e]
    rcases h2.2 with ⟨e', _⟩ | ⟨g', cap', cur', e', _, hg', _⟩
    · rw [e']; simp [Value.ownBlock]
    · rw [e']
      simp only [Value.ownBlock, ne_eq, Option.some.injEq]
      rintro rfl
      rw [hg] at hg'
      injection hg' with hg'
      injection hg' with _ ht _
      exact hne ht
/-- rows built one by one -/
def SSOwn (w : World) (base : Nat) (v : Value) (rs : List (List Int)) : Prop :=
  ∃ vs : List Value, w.ownsRow base 23 1 v rs.length vs ∧ ∀ (i : Nat) (r : List Int), rs[i]? = some r → ∃ u, vs[i]? = some u ∧ QOwn w base u r
theorem SSOwn.kept {w w' : World} {base : Nat} {v : Value} {rs : List (List Int)} (h : SSOwn w base v rs) (hb : Below w.heap.size w w') : SSOwn w' base v rs := by
  obtain ⟨vs, h1, h2⟩ := h
  refine ⟨vs, h1.kept (row := none) ⟨hb.os, hb.tape, hb.output, hb.size, fun i hi _ => hb.block i hi⟩ (Classical.em _), fun i r hr => ?_⟩
  obtain ⟨u, hu, hq⟩ := h2 i r hr
  exact ⟨u, hu, hq.below hb⟩
/-- growth of a row of ints that is not one of these -/
theorem SSOwn.rows {w : World} {base : Nat} {v : Value} {rs : List (List Int)} (h : SSOwn w base v rs) : ∃ Ar cr, v = .slice Ar rs.length cr ∧ IntSS w w.heap.size Ar rs := by
  obtain ⟨vs, h1, h2⟩ := h
  obtain ⟨hl, h3⟩ := h1
  rcases h3 with ⟨e, e0⟩ | ⟨g, cap, cur, e, hb, hg, hnc, _, hcs, htk⟩
  · refine ⟨none, 0, by rw [e, e0], fun hn => ?_⟩
    omega
  · refine ⟨some ⟨g, 0, none⟩, cap, e, fun hn => ?_⟩
    have hblk : Blk w g 23 cur := hg
    refine ⟨g, 0, rfl, hblk.lt, fun i r hr => ?_⟩
    obtain ⟨u, hu, hq⟩ := h2 i r hr
    obtain ⟨Ai, ci, rfl⟩ := hq.slice
    refine ⟨Ai, ci, ?_, hq.ints⟩
    have hi : i < rs.length := (List.getElem?_eq_some_iff.1 hr).1
    rw [hblk.cell, Nat.zero_add]
    rw [← htk, List.getElem?_take_of_lt (by omega)] at hu
    simpa using hu
/-- one more row -/
theorem SSOwn.push {w w1 : World} {base : Nat} {v v' u : Value} {rs : List (List Int)} {r : List Int} {vs : List Value} (h1 : w.ownsRow base 23 1 v rs.length vs) (h2 : ∀ (i : Nat) (r : List Int), rs[i]? = some r → ∃ u, vs[i]? = some u ∧ QOwn w base u r)
    (hr : QOwn w base u r) (ho : w1.ownsRow base 23 1 v' (rs.length + 1) (vs ++ [u])) (hg : w.grownBy w1 v.ownBlock) : SSOwn w1 base v' (rs ++ [r]) := by
  have keep : ∀ {x : Value} {p : List Int}, QOwn w base x p → QOwn w1 base x p := fun hq => World.ownsRow.kept hq hg (own_types hq h1 (by decide))
  have hl : vs.length = rs.length := by have := h1.1; omega
  refine ⟨vs ++ [u], by simpa using ho, fun i p hp => ?_⟩
  rcases Nat.lt_or_ge i rs.length with l | l
  · rw [List.getElem?_append_left l] at hp
    obtain ⟨x, hx, hq⟩ := h2 i p hp
    exact ⟨x, by rw [List.getElem?_append_left (by omega)]; exact hx, keep hq⟩
  · rw [List.getElem?_append_right l] at hp
    have hi : i - rs.length = 0 := by
      have := (List.getElem?_eq_some_iff.1 hp).1
      simp at this
      omega
    rw [hi] at hp
    simp only [List.getElem?_cons_zero, Option.some.injEq] at hp
    subst hp
    exact ⟨u, by rw [List.getElem?_append_right (by omega), hl, hi]; rfl, keep hr⟩
end Go.Proofs.Ytkmbdclhjdbhpab
