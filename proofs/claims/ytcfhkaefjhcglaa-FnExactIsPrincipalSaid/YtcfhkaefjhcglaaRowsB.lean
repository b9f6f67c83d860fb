/- The declarations of other texts that this seat needs (made by tools/thin.py). -/
import Derived.Deep.CutRange
import Derived.Deep.AppendLies
import Derived.Deep.RegionLaw
import Derived.Test.YtcfhkaefjhcglaaBB
import Derived.Test.YtcfhkaefjhcglaaBA
namespace Go.Proofs.Ytcfhkaefjhcglaa
open Go.RowKit

theorem QOwn.below {w w' : World} {base : Nat} {v : Value} {q : List Int} (h : QOwn w base v q) (hb : Below w.heap.size w w') : QOwn w' base v q :=
  World.ownsRow.kept h (row := none) ⟨hb.os, hb.tape, hb.output, hb.size, fun i hi _ => hb.block i hi⟩ (Classical.em _)
/-- two rows of unlike cells lie in two blocks -/
theorem own_types {w : World} {base e1 e2 s1 s2 n1 n2 : Nat} {v1 v2 : Value} {x1 x2 : List Value} (h1 : w.ownsRow base e1 s1 v1 n1 x1) (h2 : w.ownsRow base e2 s2 v2 n2 x2) (hne : e1 ≠ e2) : v1.ownBlock = none ∨ v1.ownBlock ≠ v2.ownBlock := by
  rcases h1.2 with ⟨e, _⟩ | ⟨g, cap, cur, e, _, hg, _⟩
  · left; rw [e]; rfl
  · right
    rw [e]
    rcases h2.2 with ⟨e', _⟩ | ⟨g', cap', cur', e', _, hg', _⟩
    · rw [e']; simp [Value.ownBlock]
    · rw [e']
      simp only [Value.ownBlock, ne_eq, Option.some.injEq]
      rintro rfl
      rw [hg] at hg'
      injection hg' with hg'
      injection hg' with _ ht _
      exact hne ht
/-- rows built one by one -/
def SSOwn (w : World) (base : Nat) (v : Value) (rs : List (List Int)) : Prop :=
  ∃ vs : List Value, w.ownsRow base 27 1 v rs.length vs ∧ ∀ (i : Nat) (r : List Int), rs[i]? = some r → ∃ u, vs[i]? = some u ∧ QOwn w base u r
theorem SSOwn.kept {w w' : World} {base : Nat} {v : Value} {rs : List (List Int)} (h : SSOwn w base v rs) (hb : Below w.heap.size w w') : SSOwn w' base v rs := by
  obtain ⟨vs, h1, h2⟩ := h
  refine ⟨vs, h1.kept (row := none) ⟨hb.os, hb.tape, hb.output, hb.size, fun i hi _ => hb.block i hi⟩ (Classical.em _), fun i r hr => ?_⟩
  obtain ⟨u, hu, hq⟩ := h2 i r hr
  exact ⟨u, hu, hq.below hb⟩
/-- growth of a row of ints that is not one of these -/
theorem SSOwn.rows {w : World} {base : Nat} {v : Value} {rs : List (List Int)} (h : SSOwn w base v rs) : ∃ Ar cr, v = .slice Ar rs.length cr ∧ IntSS w w.heap.size Ar rs := by
  obtain ⟨vs, h1, h2⟩ := h
  obtain ⟨hl, h3⟩ := h1
  rcases h3 with ⟨e, e0⟩ | ⟨g, cap, cur, e, hb, hg, hnc, _, hcs, htk⟩
  · refine ⟨none, 0, by rw [e, e0], fun hn => ?_⟩
    omega
  · refine ⟨some ⟨g, 0, none⟩, cap, e, fun hn => ?_⟩
    have hblk : Blk w g 27 cur := hg
    refine ⟨g, 0, rfl, hblk.lt, fun i r hr => ?_⟩
    obtain ⟨u, hu, hq⟩ := h2 i r hr
    obtain ⟨Ai, ci, rfl⟩ := hq.slice
    refine ⟨Ai, ci, ?_, hq.ints⟩
    have hi : i < rs.length := (List.getElem?_eq_some_iff.1 hr).1
    rw [hblk.cell, Nat.zero_add]
    rw [← htk, List.getElem?_take_of_lt (by omega)] at hu
    simpa using hu
/-- one more row -/
theorem SSOwn.push {w w1 : World} {base : Nat} {v v' u : Value} {rs : List (List Int)} {r : List Int} {vs : List Value} (h1 : w.ownsRow base 27 1 v rs.length vs) (h2 : ∀ (i : Nat) (r : List Int), rs[i]? = some r → ∃ u, vs[i]? = some u ∧ QOwn w base u r)
    (hr : QOwn w base u r) (ho : w1.ownsRow base 27 1 v' (rs.length + 1) (vs ++ [u])) (hg : w.grownBy w1 v.ownBlock) : SSOwn w1 base v' (rs ++ [r]) := by
  have keep : ∀ {x : Value} {p : List Int}, QOwn w base x p → QOwn w1 base x p := fun hq => World.ownsRow.kept hq hg (own_types hq h1 (by decide))
  have hl : vs.length = rs.length := by have := h1.1; omega
  refine ⟨vs ++ [u], by simpa using ho, fun i p hp => ?_⟩
  rcases Nat.lt_or_ge i rs.length with l | l
  · rw [List.getElem?_append_left l] at hp
    obtain ⟨x, hx, hq⟩ := h2 i p hp
    exact ⟨x, by rw [List.getElem?_append_left (by omega)]; exact hx, keep hq⟩
  · rw [List.getElem?_append_right l] at hp
    have hi : i - rs.length = 0 := by
      have := (List.getElem?_eq_some_iff.1 hp).1
      simp at this
      omega
    rw [hi] at hp
    simp only [List.getElem?_cons_zero, Option.some.injEq] at hp
    subst hp
    exact ⟨u, by rw [List.getElem?_append_right (by omega), hl, hi]; rfl, keep hr⟩
/-- rows, new memory, are handed back to be read -/
theorem ownsRow_mono {w : World} {base base' e s n : Nat} {v : Value} {xs : List Value} (h : w.ownsRow base e s v n xs) (hb : base' ≤ base) : w.ownsRow base' e s v n xs := by
  obtain ⟨h1, h2⟩ := h
  refine ⟨h1, ?_⟩
  rcases h2 with h2 | ⟨g, cap, cur, e1, h3, h4⟩
  · exact .inl h2
  · exact .inr ⟨g, cap, cur, e1, by omega, h4⟩
theorem rowsInfo : (Try.prog.info? 27).map (fun i => (i.zero, i.size, i.bytes)) = some (some (.slice none 0 0), 1, 24) := by kernel_rfl

theorem SSOwn.mono {w : World} {base base' : Nat} {v : Value} {rs : List (List Int)} (h : SSOwn w base v rs) (hb : base' ≤ base) : SSOwn w base' v rs := by
  obtain ⟨vs, h1, h2⟩ := h
  refine ⟨vs, ownsRow_mono h1 hb, fun i r hr => ?_⟩
  obtain ⟨u, hu, hq⟩ := h2 i r hr
  exact ⟨u, hu, ownsRow_mono hq hb⟩
/-- rows built one by one are handed back -/
def GivesOwn (w : World) (rs : List (List Int)) (e : Ending) (w' : World) : Prop := ∃ v, e = .returned v ∧ SSOwn w' w.heap.size v rs ∧ Below w.heap.size w w'
theorem own_emptyD (w : World) (base : Nat) (hb : base ≤ w.heap.size) (t : TypeId) : (w.alloc (.cells #[] t)).ownsRow base t 1 (.slice (some ⟨w.heap.size, 0, none⟩) 0 0) 0 [] :=
  ⟨rfl, .inr ⟨w.heap.size, 0, #[], rfl, hb, heap_alloc_new w _, Nat.le_refl _, Nat.zero_le _, rfl, rfl⟩⟩
section
variable {P : Program} {w : World}
end
theorem own_types2 {w : World} {base base2 e1 e2 s1 s2 n1 n2 : Nat} {v1 v2 : Value} {x1 x2 : List Value} (h1 : w.ownsRow base e1 s1 v1 n1 x1) (h2 : w.ownsRow base2 e2 s2 v2 n2 x2) (hne : e1 ≠ e2) : v1.ownBlock = none ∨ v1.ownBlock ≠ v2.ownBlock :=
  own_types (ownsRow_mono h1 (Nat.zero_le _)) (ownsRow_mono h2 (Nat.zero_le _)) hne
/-- rows built one by one: the outer row from b1 on, the inner ones from b2 on -/
def SSOwn2 (w : World) (b1 b2 : Nat) (v : Value) (rs : List (List Int)) : Prop :=
  ∃ vs : List Value, w.ownsRow b1 27 1 v rs.length vs ∧ ∀ (i : Nat) (r : List Int), rs[i]? = some r → ∃ u, vs[i]? = some u ∧ QOwn w b2 u r
theorem SSOwn2.one {w : World} {b1 b2 : Nat} {v : Value} {rs : List (List Int)} (h : SSOwn2 w b1 b2 v rs) (hb : b1 ≤ b2) : SSOwn w b1 v rs := by
  obtain ⟨vs, h1, h2⟩ := h
  refine ⟨vs, h1, fun i r hr => ?_⟩
  obtain ⟨u, hu, hq⟩ := h2 i r hr
  exact ⟨u, hu, ownsRow_mono hq hb⟩
theorem SSOwn2.push {w w1 : World} {b1 b2 : Nat} {v v' u : Value} {rs : List (List Int)} {r : List Int} {vs : List Value} (h1 : w.ownsRow b1 27 1 v rs.length vs) (h2 : ∀ (i : Nat) (r : List Int), rs[i]? = some r → ∃ u, vs[i]? = some u ∧ QOwn w b2 u r)
    (hr : QOwn w b2 u r) (ho : w1.ownsRow b1 27 1 v' (rs.length + 1) (vs ++ [u])) (hg : w.grownBy w1 v.ownBlock) : SSOwn2 w1 b1 b2 v' (rs ++ [r]) := by
  have keep : ∀ {x : Value} {p : List Int}, QOwn w b2 x p → QOwn w1 b2 x p := fun hq => World.ownsRow.kept hq hg (own_types2 hq h1 (by decide))
  have hl : vs.length = rs.length := by have := h1.1; omega
  refine ⟨vs ++ [u], by simpa using ho, fun i p hp => ?_⟩
  rcases Nat.lt_or_ge i rs.length with l | l
  · rw [List.getElem?_append_left l] at hp
    obtain ⟨x, hx, hq⟩ := h2 i p hp
    exact ⟨x, by rw [List.getElem?_append_left (by omega)]; exact hx, keep hq⟩
  · rw [List.getElem?_append_right l] at hp
    have hi : i - rs.length = 0 := by
      have := (List.getElem?_eq_some_iff.1 hp).1
      simp at this
      omega
    rw [hi] at hp
    simp only [List.getElem?_cons_zero, Option.some.injEq] at hp
    subst hp
    exact ⟨u, by rw [List.getElem?_append_right (by omega), show i - vs.length = 0 by omega]; rfl, keep hr⟩
/-- one row of rows built one by one, to be read -/
theorem SSOwn.at_ {w : World} {base : Nat} {v : Value} {rs : List (List Int)} {a : Nat} {r : List Int} (h : SSOwn w base v rs) (hr : rs[a]? = some r) (hz : 0 < r.length) :
    ∃ (g cap b c : Nat), v = .slice (some ⟨g, 0, none⟩) rs.length cap ∧ base ≤ g ∧ g < w.heap.size ∧ w.cell? ⟨g, a, none⟩ = some (.slice (some ⟨b, 0, none⟩) r.length c) ∧ r.length ≤ c ∧ base ≤ b ∧ b < w.heap.size ∧ ∀ (i : Nat) (x : Int), r[i]? = some x → w.cell? ⟨b, i, none⟩ = some (.int .i64 x) := by
  obtain ⟨vs, h1, h2⟩ := h
  obtain ⟨u, hu, hq⟩ := h2 a r hr
  have hal : a < rs.length := (List.getElem?_eq_some_iff.1 hr).1
  rcases h1.2 with ⟨_, e0⟩ | ⟨g, cap, cur, e, hb, hg, hnc, _, hcs, htk⟩
  · omega
  · have hob : v.ownBlock = some g := by rw [e]; rfl
    have hc := h1.cells hob a u hu
    rw [Addr.add_lit, Nat.zero_add] at hc
    rcases hq.2 with ⟨_, e0⟩ | ⟨b, c, cur2, e2, hb2, hg2, hnc2, _, _, _⟩
    · omega
    · refine ⟨g, cap, b, c, e, hb, (h1.lt g hob).2, by rw [hc, e2], hnc2, hb2, (World.ownsRow.lt hq b (by rw [e2]; rfl)).2, fun i x hx => ?_⟩
      have := World.ownsRow.cells hq (by rw [e2]; rfl) i (.int .i64 x) (by simp [intCells, hx])
      rwa [Addr.add_lit, Nat.zero_add] at this
theorem SSOwn2.keep {w w' : World} {b1 b2 : Nat} {v : Value} {rs : List (List Int)} (h : SSOwn2 w b1 b2 v rs) (hb : Below w.heap.size w w') : SSOwn2 w' b1 b2 v rs := by
  obtain ⟨vs, h1, h2⟩ := h
  refine ⟨vs, h1.kept (row := none) ⟨hb.os, hb.tape, hb.output, hb.size, fun i hi _ => hb.block i hi⟩ (Classical.em _), fun i r hr => ?_⟩
  obtain ⟨u, hu, hq⟩ := h2 i r hr
  exact ⟨u, hu, hq.below hb⟩
/-- a row of ints that grows, itself new, leaves what lay before it -/
theorem grown_below {W w1 : World} {B : Nat} {row : Option Nat} (hg : W.grownBy w1 row) (hB : B ≤ W.heap.size) (hr : ∀ k, row = some k → B ≤ k) : Below B W w1 :=
  ⟨hg.os, hg.tape, hg.output, hg.size, fun i hi => hg.block i (by omega) (fun e => by have := hr i e.symm; omega)⟩
theorem own_sl {w : World} {base n s : Nat} {e : TypeId} {v : Value} {xs : List Value} (h : w.ownsRow base e s v n xs) : ∃ (A : Option Addr) (m c : Nat), v = .slice A m c := by
  rcases h.2 with ⟨h1, _⟩ | ⟨g, cap, cur, h1, _⟩
  · exact ⟨none, 0, 0, h1⟩
  · exact ⟨_, n, cap, h1⟩
theorem own_one {w : World} {base n s : Nat} {e : TypeId} {v : Value} {xs : List Value} (h : w.ownsRow base e s v n xs) : v.oneCell' = true := by
  rcases h.2 with ⟨h1, _⟩ | ⟨g, cap, cur, h1, _⟩ <;> rw [h1] <;> rfl
/-- .. the values told -/
def SSOwnV (w : World) (base : Nat) (v : Value) (vs : List Value) (rs : List (List Int)) : Prop :=
  w.ownsRow base 27 1 v rs.length vs ∧ ∀ (i : Nat) (r : List Int), rs[i]? = some r → ∃ u, vs[i]? = some u ∧ QOwn w base u r
theorem SSOwnV.one {w : World} {base : Nat} {v : Value} {vs : List Value} {rs : List (List Int)} (h : SSOwnV w base v vs rs) : SSOwn w base v rs := ⟨vs, h.1, h.2⟩
theorem SSOwnV.keep {w w' : World} {base : Nat} {v : Value} {vs : List Value} {rs : List (List Int)} (h : SSOwnV w base v vs rs) (hb : Below w.heap.size w w') : SSOwnV w' base v vs rs := by
  obtain ⟨h1, h2⟩ := h
  refine ⟨h1.kept (row := none) ⟨hb.os, hb.tape, hb.output, hb.size, fun i hi _ => hb.block i hi⟩ (Classical.em _), fun i r hr => ?_⟩
  obtain ⟨u, hu, hq⟩ := h2 i r hr
  exact ⟨u, hu, hq.below hb⟩
theorem SSOwnV.far {w w1 : World} {base b1 n : Nat} {v out : Value} {us : List Value} {rs : List (List Int)} {xs : List Value} (h : SSOwnV w base v us rs) (ho : w.ownsRow b1 27 1 out n xs) (hne : v.ownBlock ≠ out.ownBlock) (hg : w.grownBy w1 out.ownBlock) : SSOwnV w1 base v us rs := by
  obtain ⟨h1, h2⟩ := h
  refine ⟨h1.kept hg (.inr hne), fun i r hr => ?_⟩
  obtain ⟨u, hu, hq⟩ := h2 i r hr
  exact ⟨u, hu, World.ownsRow.kept hq hg (own_types2 hq ho (by decide))⟩
end Go.Proofs.Ytcfhkaefjhcglaa
