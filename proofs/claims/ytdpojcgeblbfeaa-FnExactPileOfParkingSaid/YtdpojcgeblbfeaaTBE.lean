/- One text out of several: QKeep ValS LapS LapSW LapSL LapI LapK LapIW LapL. -/
import Derived.Test.YtdpojcgeblbfeaaTBB
import Derived.Test.YtdpojcgeblbfeaaTBC
import Derived.Test.YtdpojcgeblbfeaaTBF
import Derived.Test.YtdpojcgeblbfeaaTBA
set_option linter.all false
/- Queues kept from world to world. -/
namespace Go.Proofs.Ytdpojcgeblbfeaa
open Go.RowKit

theorem QOwn.below {w w' : World} {base : Nat} {v : Value} {q : List Int} (h : QOwn w base v q) (hb : Below w.heap.size w w') : QOwn w' base v q :=
  World.ownsRow.kept h (row := none) ⟨hb.os, hb.tape, hb.output, hb.size, fun i hi _ => hb.block i hi⟩ (Classical.em _)
theorem QOwn.set {w : World} {base b o n c g i : Nat} {q : List Int} {u : Value} (h : QOwn w base (.slice (some ⟨b, o, none⟩) n c) q) (hg : g < base) : QOwn (w.setCell ⟨g, i, none⟩ u) base (.slice (some ⟨b, o, none⟩) n c) q :=
  World.ownsRow.kept h (setCell_grown w g i u) (.inr (by have := h.block; simp only [Value.ownBlock, ne_eq, Option.some.injEq]; omega))
end Go.Proofs.Ytdpojcgeblbfeaa

/- Valence: the specification's loop over the edges and the program's sum over the map of counts are one plain number. -/
namespace Go.Proofs.Ytdpojcgeblbfeaa
open Go.RowKit Go.Maps

def touch (v : Int) (e : Int × Int) : Bool := (e.1 == v) || (e.2 == v)
theorem filter_snoc {es : List (Int × Int)} {k : Nat} {e : Int × Int} {p : Int × Int → Bool} (he : es[k]? = some e) : ((es.take (k + 1)).filter p).length = ((es.take k).filter p).length + if p e = true then 1 else 0 := by
  rw [List.take_add_one, he, List.filter_append]
  by_cases h : p e = true <;> simp [h]
theorem filter_le {es : List (Int × Int)} (k : Nat) (p : Int × Int → Bool) : ((es.take k).filter p).length ≤ k := by
  have h1 := List.length_filter_le p (es.take k)
  simp only [List.length_take] at h1
  omega

set_option maxHeartbeats 1000000 in
theorem specVal_yes (N : Int) (A : Option Addr) (c : Nat) (es : List (Int × Int)) (v : Int) (w : World) (hn : es.length ≤ 1048576) (ha : vB v N = true) (hE : EdgeS w w.heap.size A es) :
    Calls Try.prog 123 #[.agg #[.int .i64 N, .slice A es.length c], .int .i64 v] w fun e w' => e = .returned (.int .i64 (es.filter (touch v)).length) ∧ Below w.heap.size w w' := by
  have HE := Lib.hid hE
  clear hE
  go_enter Try.func123, Try.ntmps123
  go_wp2_with fail
  refine (l02Vert_any _ _ _ _ ⟨_, _, _, rfl⟩).mono ?_
  rintro e w1 ⟨rfl, hb1⟩
  have hk1 := (Blk.new w 25 #[.int .i64 N, .slice A es.length c]).below hb1 (by simp)
  have B1 := ((Below.refl w.heap.size w).alloc (Nat.le_refl _) (.cells #[.int .i64 N, .slice A es.length c] 25)).trans (hb1.mono (by simp))
  have c1 : w1.cell? ⟨w.heap.size, 1, none⟩ = some (.slice A es.length c) := by rw [hk1.cell]; rfl
  clear hb1 hk1
  go_wp2
  go_loopw [5, 15] (fun n i wr => ∃ k : Nat, k ≤ es.length ∧ i = .int .i64 k ∧ n = .int .i64 ((es.take k).filter (touch v)).length ∧ Below w.heap.size w wr) (fun _ i _ => es.length - (intOf i).toNat)
  case atStart => exact ⟨0, Nat.zero_le _, rfl, rfl, B1⟩
  case round =>
    obtain ⟨k, hk, rfl, rfl, hbw⟩ := hrel
    clear c1
    by_cases hlt : k < es.length
    · obtain ⟨b1, o1, e, rfl, hb1, he, hc0, hc1⟩ := (HE.out.below hbw).at_ hlt
      have hi0 : (0 : Int) ≤ (k : Int) := Int.natCast_nonneg _
      have hi1 : (k : Int) < (es.length : Int) := by omega
      have HS := Lib.hid (filter_snoc (p := touch v) he)
      have hcl := filter_le (es := es) k (touch v)
      have hz0 : (0 : Int) ≤ (((es.take k).filter (touch v)).length : Int) := Int.natCast_nonneg _
      clear he
      by_cases h1 : e.1 = v
      · have t1 : (e.1 == v) = true := by rw [beq_iff_eq]; exact h1
        have HQ := HS.out
        rw [if_pos (by simp [touch, h1])] at HQ
        have HQ2 := Lib.hid HQ
        clear HQ h1
        go_wp2
        exact ⟨⟨k + 1, by omega, by go_num, by rw [HQ2.out]; go_num, hbw.alloc hbw.size _⟩, by simp [intOf]; omega⟩
      · have t1 : (e.1 == v) = false := by rw [beq_eq_false_iff_ne]; exact h1
        by_cases h2 : e.2 = v
        · have t2 : (e.2 == v) = true := by rw [beq_iff_eq]; exact h2
          have HQ := HS.out
          rw [if_pos (by simp [touch, h2])] at HQ
          have HQ2 := Lib.hid HQ
          clear HQ h1 h2
          go_wp2
          exact ⟨⟨k + 1, by omega, by go_num, by rw [HQ2.out]; go_num, hbw.alloc hbw.size _⟩, by simp [intOf]; omega⟩
        · have t2 : (e.2 == v) = false := by rw [beq_eq_false_iff_ne]; exact h2
          have HQ := HS.out
          rw [if_neg (by simp [touch, h1, h2])] at HQ
          have HQ2 := Lib.hid HQ
          clear HQ h1 h2
          go_wp2
          exact ⟨⟨k + 1, by omega, by go_num, by rw [HQ2.out]; rfl, hbw.alloc hbw.size _⟩, by simp [intOf]; omega⟩
    · have HA := Lib.hid (show ((es.take k).filter (touch v)).length = (es.filter (touch v)).length by rw [List.take_of_length_le (by omega)])
      go_wp2
      go_ret
      exact ⟨ret_intE (congrArg Int.ofNat HA.out), hbw⟩
/-! ### the sum over the map -/
end Go.Proofs.Ytdpojcgeblbfeaa

/- The specification's LaplacianOf. -/
namespace Go.Proofs.Ytdpojcgeblbfeaa
open Go.RowKit

theorem own_types {w : World} {base e1 e2 s1 s2 n1 n2 : Nat} {v1 v2 : Value} {x1 x2 : List Value} (h1 : w.ownsRow base e1 s1 v1 n1 x1) (h2 : w.ownsRow base e2 s2 v2 n2 x2) (hne : e1 ≠ e2) : v1.ownBlock = none ∨ v1.ownBlock ≠ v2.ownBlock := by
  rcases h1.2 with ⟨e, _⟩ | ⟨g, cap, cur, e, _, hg, _⟩
  · left; rw [e]; rfl
  · right
    rw [e]
    rcases h2.2 with ⟨e', _⟩ | ⟨g', cap', cur', e', _, hg', _⟩
    · rw [e']; simp [Value.ownBlock]
    · rw [e']
      simp only [Value.ownBlock, ne_eq, Option.some.injEq]
      rintro rfl
      rw [hg] at hg'
      injection hg' with hg'
      injection hg' with _ ht _
      exact hne ht
def SSOwn (w : World) (base : Nat) (v : Value) (rs : List (List Int)) : Prop :=
  ∃ vs : List Value, w.ownsRow base 28 1 v rs.length vs ∧ ∀ (i : Nat) (r : List Int), rs[i]? = some r → ∃ u, vs[i]? = some u ∧ QOwn w base u r
theorem SSOwn.kept {w w' : World} {base : Nat} {v : Value} {rs : List (List Int)} (h : SSOwn w base v rs) (hb : Below w.heap.size w w') : SSOwn w' base v rs := by
  obtain ⟨vs, h1, h2⟩ := h
  refine ⟨vs, h1.kept (row := none) ⟨hb.os, hb.tape, hb.output, hb.size, fun i hi _ => hb.block i hi⟩ (Classical.em _), fun i r hr => ?_⟩
  obtain ⟨u, hu, hq⟩ := h2 i r hr
  exact ⟨u, hu, hq.below hb⟩
theorem SSOwn.push {w w1 : World} {base : Nat} {v v' u : Value} {rs : List (List Int)} {r : List Int} {vs : List Value} (h1 : w.ownsRow base 28 1 v rs.length vs) (h2 : ∀ (i : Nat) (r : List Int), rs[i]? = some r → ∃ u, vs[i]? = some u ∧ QOwn w base u r)
    (hr : QOwn w base u r) (ho : w1.ownsRow base 28 1 v' (rs.length + 1) (vs ++ [u])) (hg : w.grownBy w1 v.ownBlock) : SSOwn w1 base v' (rs ++ [r]) := by
  have keep : ∀ {x : Value} {p : List Int}, QOwn w base x p → QOwn w1 base x p := fun hq => World.ownsRow.kept hq hg (own_types hq h1 (by decide))
  have hl : vs.length = rs.length := by have := h1.1; omega
  refine ⟨vs ++ [u], by simpa using ho, fun i p hp => ?_⟩
  rcases Nat.lt_or_ge i rs.length with l | l
  · rw [List.getElem?_append_left l] at hp
    obtain ⟨x, hx, hq⟩ := h2 i p hp
    exact ⟨x, by rw [List.getElem?_append_left (by omega)]; exact hx, keep hq⟩
  · rw [List.getElem?_append_right l] at hp
    have hi : i - rs.length = 0 := by
      have := (List.getElem?_eq_some_iff.1 hp).1
      simp at this
      omega
    rw [hi] at hp
    simp only [List.getElem?_cons_zero, Option.some.injEq] at hp
    subst hp
    exact ⟨u, by rw [List.getElem?_append_right (by omega), hl, hi]; rfl, keep hr⟩
end Go.Proofs.Ytdpojcgeblbfeaa

/- The walk of the specification's LaplacianOf. -/
namespace Go.Proofs.Ytdpojcgeblbfeaa
open Go.RowKit

theorem ownsRow_mono {w : World} {base base' e s n : Nat} {v : Value} {xs : List Value} (h : w.ownsRow base e s v n xs) (hb : base' ≤ base) : w.ownsRow base' e s v n xs := by
  obtain ⟨h1, h2⟩ := h
  refine ⟨h1, ?_⟩
  rcases h2 with h2 | ⟨g, cap, cur, e1, h3, h4⟩
  · exact .inl h2
  · exact .inr ⟨g, cap, cur, e1, by omega, h4⟩
theorem SSOwn.mono {w : World} {base base' : Nat} {v : Value} {rs : List (List Int)} (h : SSOwn w base v rs) (hb : base' ≤ base) : SSOwn w base' v rs := by
  obtain ⟨vs, h1, h2⟩ := h
  refine ⟨vs, ownsRow_mono h1 hb, fun i r hr => ?_⟩
  obtain ⟨u, hu, hq⟩ := h2 i r hr
  exact ⟨u, hu, ownsRow_mono hq hb⟩
end Go.Proofs.Ytdpojcgeblbfeaa

/- The specification's LaplacianOf, whatever the graph. -/
namespace Go.Proofs.Ytdpojcgeblbfeaa
open Go.RowKit

end Go.Proofs.Ytdpojcgeblbfeaa

/- Matrices in memory of the call's own, written cell by cell (for the program's LaplacianOf). -/
namespace Go.Proofs.Ytdpojcgeblbfeaa
open Go.RowKit

end Go.Proofs.Ytdpojcgeblbfeaa

/- The matrix after some of the edges (for the program's LaplacianOf): the plain math. -/
namespace Go.Proofs.Ytdpojcgeblbfeaa
open Go.RowKit

end Go.Proofs.Ytdpojcgeblbfeaa

/- The walk of the program's LaplacianOf. -/
namespace Go.Proofs.Ytdpojcgeblbfeaa
open Go.RowKit

end Go.Proofs.Ytdpojcgeblbfeaa

/- LaplacianOf, the program's side whatever the graph; its size. -/
namespace Go.Proofs.Ytdpojcgeblbfeaa
open Go.RowKit

end Go.Proofs.Ytdpojcgeblbfeaa
