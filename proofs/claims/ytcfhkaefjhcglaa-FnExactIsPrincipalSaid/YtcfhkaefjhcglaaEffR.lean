/- Rows that are made while rows that another call has made are read. -/
import Derived.Test.YtcfhkaefjhcglaaRowsB
import Derived.Test.YtcfhkaefjhcglaaBA
namespace Go.Proofs.Ytcfhkaefjhcglaa
open Go.RowKit

/-- the first row lies elsewhere -/
def FarV (vs : List Value) (lo hi : Nat) : Prop := ∀ u, vs[0]? = some u → ∃ (y o n c : Nat), u = .slice (some ⟨y, o, none⟩) n c ∧ (y < lo ∨ hi ≤ y)
theorem QOwn.far {w : World} {base : Nat} {v : Value} {r : List Int} (h : QOwn w base v r) (hr : 0 < r.length) : ∃ (y c : Nat), v = .slice (some ⟨y, 0, none⟩) r.length c ∧ base ≤ y ∧ y < w.heap.size := by
  rcases h.2 with ⟨_, e⟩ | ⟨g, cap, cur, e, hb, hg, _⟩
  · omega
  · exact ⟨g, cap, e, hb, (World.ownsRow.lt h g (by rw [e]; rfl)).2⟩
theorem eff_step {w0 wr w2 : World} {lo hi gL x0 o0 n0 c0 : Nat} {vL vOut v2 : Value} {L rs : List (List Int)} {r : List Int} {vs vsL : List Value}
    (hb : Below w0.heap.size w0 wr) (ho1 : wr.ownsRow w0.heap.size 27 1 vOut rs.length vs) (ho2 : ∀ (i : Nat) (r : List Int), rs[i]? = some r → ∃ u, vs[i]? = some u ∧ QOwn wr w0.heap.size u r)
    (hne : vOut.ownBlock ≠ some gL) (hL : SSOwnV wr lo vL vsL L) (hvL : vL.ownBlock = some gL) (hfar : FarV vs lo hi)
    (hcL : wr.cell? ⟨gL, 0, none⟩ = some (.slice (some ⟨x0, o0, none⟩) n0 c0)) (hx0 : lo ≤ x0) (hx1 : x0 < hi) (hhi : hi ≤ wr.heap.size)
    (bC : Below wr.heap.size wr w2) (kq2 : QOwn w2 wr.heap.size v2 r) (hr : 0 < r.length) :
    (w2.alloc (Obj.cells #[v2] 27)).ownsRow w0.heap.size 27 1 vOut rs.length vs ∧ w0.heap.size ≤ (w2.alloc (Obj.cells #[v2] 27)).heap.size ∧
    ∀ (w4 : World) (v' : Value), (w4.ownsRow w0.heap.size 27 1 v' (rs.length + 1) (vs ++ [v2])) → World.grownBy (w2.alloc (Obj.cells #[v2] 27)) w4 vOut.ownBlock →
      (w4.ownsRow w0.heap.size 27 1 v' (rs ++ [r]).length (vs ++ [v2]) ∧ (∀ (i : Nat) (p : List Int), (rs ++ [r])[i]? = some p → ∃ u, (vs ++ [v2])[i]? = some u ∧ QOwn w4 w0.heap.size u p)) ∧
      v'.ownBlock ≠ some gL ∧ SSOwnV w4 lo vL vsL L ∧ Below w0.heap.size w0 w4 ∧ hi ≤ w4.heap.size ∧ w4.cell? ⟨gL, 0, none⟩ = some (.slice (some ⟨x0, o0, none⟩) n0 c0) ∧ FarV (vs ++ [v2]) lo hi := by
  have bD : Below wr.heap.size wr (w2.alloc (Obj.cells #[v2] 27)) := bC.alloc bC.size _
  have s3 := bD.size
  have sb := hb.size
  have k1 := ho1.kept (row := none) ⟨bD.os, bD.tape, bD.output, bD.size, fun i hi _ => bD.block i hi⟩ (Classical.em _)
  have kq : QOwn (w2.alloc (Obj.cells #[v2] 27)) w0.heap.size v2 r := ownsRow_mono (World.ownsRow.alloc kq2 _) sb
  have hl : vs.length = rs.length := by have := ho1.1; omega
  refine ⟨k1, by omega, fun w4 v' o4 g4 => ?_⟩
  have keep : ∀ {x : Value} {p : List Int}, QOwn (w2.alloc (Obj.cells #[v2] 27)) w0.heap.size x p → QOwn w4 w0.heap.size x p := fun hq => World.ownsRow.kept hq g4 (own_types hq k1 (by decide))
  have hF : FarV (vs ++ [v2]) lo hi := fun u hu => by
    cases vs with
    | nil =>
      simp only [List.nil_append, List.getElem?_cons_zero, Option.some.injEq] at hu
      subst hu
      obtain ⟨y, c, e, h1, h2⟩ := kq2.far hr
      exact ⟨y, 0, _, c, e, .inr (by omega)⟩
    | cons z zs => exact hfar u (by simpa using hu)
  have hgl : gL < wr.heap.size := (hL.1.lt gL hvL).2
  have hc3 : (w2.alloc (Obj.cells #[v2] 27)).cell? ⟨gL, 0, none⟩ = some (.slice (some ⟨x0, o0, none⟩) n0 c0) := (bD.cell (p := ⟨gL, 0, none⟩) hgl).trans hcL
  have hc4 : w4.cell? ⟨gL, 0, none⟩ = some (.slice (some ⟨x0, o0, none⟩) n0 c0) := (World.cell?_of_block (a := ⟨gL, 0, none⟩) (g4.block gL (by omega) (fun e => hne e.symm))).trans hc3
  have hL3 := hL.keep bD
  refine ⟨⟨by simpa using o4, fun i p hp => ?_⟩, fun e => ?_, hL3.far k1 (by rw [hvL]; exact fun e => hne e.symm) g4, (hb.trans (bD.mono sb)).grown g4 (by omega) (fun k e => (ho1.lt k e).1), ?_, hc4, hF⟩
  · rcases Nat.lt_or_ge i rs.length with l | l
    · rw [List.getElem?_append_left l] at hp
      obtain ⟨x, hx, hq⟩ := ho2 i p hp
      exact ⟨x, by rw [List.getElem?_append_left (by omega)]; exact hx, keep (hq.below bD)⟩
    · rw [List.getElem?_append_right l] at hp
      have hi : i - rs.length = 0 := by
        have := (List.getElem?_eq_some_iff.1 hp).1
        simp at this
        omega
      rw [hi] at hp
      simp only [List.getElem?_cons_zero, Option.some.injEq] at hp
      subst hp
      exact ⟨v2, by rw [List.getElem?_append_right (by omega), show i - vs.length = 0 by omega]; rfl, keep kq⟩
  · obtain ⟨u, hu⟩ : ∃ u, (vs ++ [v2])[0]? = some u := ⟨_, List.getElem?_eq_getElem (by simp)⟩
    have h1 := o4.cells e 0 u hu
    rw [Addr.add_lit, Nat.add_zero, hc4] at h1
    obtain ⟨y, o, n, c, rfl, h2⟩ := hF u hu
    injection h1 with h1
    injection h1 with h1 _ _
    injection h1 with h1
    injection h1 with h1 _ _
    omega
  · have := g4.size
    omega
end Go.Proofs.Ytcfhkaefjhcglaa
