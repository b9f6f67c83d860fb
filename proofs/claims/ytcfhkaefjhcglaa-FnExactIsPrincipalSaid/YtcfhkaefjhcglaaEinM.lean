/- EffectiveIn: the plain list, and what a loop holds that puts another's rows into rows of its own. -/
import Derived.Test.YtcfhkaefjhcglaaCls
import Derived.Test.YtcfhkaefjhcglaaEffS
namespace Go.Proofs.Ytcfhkaefjhcglaa
open Go.RowKit

theorem deg_lim {xs : List Int} (h : ∀ u, -60 ≤ xs.getD u 0 ∧ xs.getD u 0 ≤ 60) : ∀ j : Nat, j ≤ 6 → -(60 * (j : Int)) ≤ degB xs j ∧ degB xs j ≤ 60 * (j : Int)
  | 0, _ => by simp [degB]
  | j + 1, hj => by
    have h1 := deg_lim h j (by omega)
    have h2 := h j
    rw [degB, wrap64_of (by omega) (by omega)]
    omega
/-- the effective divisors of d's class among the first t of all -/
noncomputable def einL (N : Int) (es : List (Int × Int)) (d : List Int) (L : List (List Int)) : List (List Int) := L.filter fun e => decide (redR N es d 0 = redR N es e 0)
noncomputable def einOk (N : Int) (es : List (Int × Int)) (d : List Int) : Bool := divB 60 N es d && decide (degB d d.length ≤ 7)
noncomputable def einB (N : Int) (es : List (Int × Int)) (d : List Int) : List (List Int) := if einOk N es d = true ∧ winB N es d = true then einL N es d (effB N.toNat (degB d d.length)) else []
theorem ein_no1 {N : Int} {es : List (Int × Int)} {d : List Int} (h : divB 60 N es d = false) : einOk N es d = false := by simp [einOk, h]
theorem ein_no2 {N : Int} {es : List (Int × Int)} {d : List Int} (h : ¬ degB d d.length ≤ 7) : einOk N es d = false := by simp [einOk]; intro _; omega
theorem ein_yes {N : Int} {es : List (Int × Int)} {d : List Int} (h : divB 60 N es d = true) (h2 : degB d d.length ≤ 7) : einOk N es d = true := by simp [einOk, h, h2]
theorem einB_f {N : Int} {es : List (Int × Int)} {d : List Int} (h : einOk N es d = false) : einB N es d = [] := by rw [einB, if_neg]; rw [h]; simp
theorem einB_n {N : Int} {es : List (Int × Int)} {d : List Int} (h : winB N es d = false) : einB N es d = [] := by rw [einB, if_neg]; rw [h]; simp
theorem einB_t {N : Int} {es : List (Int × Int)} {d : List Int} (h : einOk N es d = true) (h2 : winB N es d = true) : einB N es d = einL N es d (effB N.toNat (degB d d.length)) := by rw [einB, if_pos ⟨h, h2⟩]
theorem einL_step {N : Int} {es : List (Int × Int)} {d : List Int} {L : List (List Int)} {t : Nat} {r : List Int} (h : L[t]? = some r) : einL N es d (L.take (t + 1)) = if redR N es d 0 = redR N es r 0 then einL N es d (L.take t) ++ [r] else einL N es d (L.take t) := by
  rw [List.take_add_one, h, einL, List.filter_append]
  by_cases e : redR N es d 0 = redR N es r 0
  · rw [if_pos e]
    simp [einL, e]
  · rw [if_neg e]
    simp [einL, e]
theorem einL_len {N : Int} {es : List (Int × Int)} {d : List Int} {L : List (List Int)} (t : Nat) : (einL N es d (L.take t)).length ≤ L.length := by
  have h1 := List.length_filter_le (fun e => decide (redR N es d 0 = redR N es e 0)) (L.take t)
  rw [List.length_take] at h1
  unfold einL
  omega
/-- an effective divisor of a small degree is a divisor -/
theorem eff_div {M : Nat} {es : List (Int × Int)} {k : Int} {r : List Int} (hg : graphB (M : Int) es = true) (hk : k ≤ 7) (h : r ∈ effB M k) : divB 60 (M : Int) es r = true := by
  obtain ⟨h1, h2⟩ := effB_mem M k r h
  rw [divB_a hg (by omega), List.all_eq_true]
  intro x hx
  have := h2 x hx
  exact within_t (by omega)

/-- ints in a block between lo and hi -/
def InI (w : World) (lo hi : Nat) (A : Option Addr) (zs : List Int) : Prop :=
  0 < zs.length → ∃ b off : Nat, A = some ⟨b, off, none⟩ ∧ lo ≤ b ∧ b < hi ∧ ∀ (i : Nat) (z : Int), zs[i]? = some z → w.cell? ⟨b, off + i, none⟩ = some (.int .i64 z)
theorem OwnI.ini {w : World} {base : Nat} {A : Option Addr} {zs : List Int} (h : OwnI w base A zs) : InI w base w.heap.size A zs := fun hn => by
  obtain ⟨g, off, e, h1, h2, h3⟩ := h hn
  exact ⟨g, off, e, h1, h2, fun i z hz => (h3 i z hz).1⟩
theorem InI.ints {w : World} {lo hi : Nat} {A : Option Addr} {zs : List Int} (h : InI w lo hi A zs) (hh : hi ≤ w.heap.size) : IntS w w.heap.size A zs := fun hn => by
  obtain ⟨g, off, e, h1, h2, h3⟩ := h hn
  exact ⟨g, off, e, by omega, h3⟩
theorem InI.wide {w : World} {lo lo' hi hi' : Nat} {A : Option Addr} {zs : List Int} (h : InI w lo hi A zs) (h1 : lo' ≤ lo) (h2 : hi ≤ hi') : InI w lo' hi' A zs := fun hn => by
  obtain ⟨g, off, e, h3, h4, h5⟩ := h hn
  exact ⟨g, off, e, by omega, by omega, h5⟩
theorem InI.below {w w' : World} {lo hi : Nat} {A : Option Addr} {zs : List Int} (h : InI w lo hi A zs) (hh : hi ≤ w.heap.size) (hb : Below w.heap.size w w') : InI w' lo hi A zs := fun hn => by
  obtain ⟨g, off, e, h1, h2, h3⟩ := h hn
  exact ⟨g, off, e, h1, h2, fun i z hz => (hb.cell (p := ⟨g, off + i, none⟩) (by simp only; omega)).trans (h3 i z hz)⟩
/-- apart from an interval of blocks -/
def OutOf (row : Option Nat) (lo hi : Nat) : Prop := ∀ g, row = some g → g < lo ∨ hi ≤ g
theorem InI.grown {w w' : World} {lo hi : Nat} {A : Option Addr} {zs : List Int} {row : Option Nat} (h : InI w lo hi A zs) (hh : hi ≤ w.heap.size) (hg : w.grownBy w' row) (ho : OutOf row lo hi) : InI w' lo hi A zs := fun hn => by
  obtain ⟨g, off, e, h1, h2, h3⟩ := h hn
  exact ⟨g, off, e, h1, h2, fun i z hz => (World.cell?_of_block (a := ⟨g, off + i, none⟩) (hg.block g (by omega) (fun e => by have := ho g e.symm; omega))).trans (h3 i z hz)⟩
theorem SSOwnV.at2 {w : World} {base n cap : Nat} {Ar : Option Addr} {vs : List Value} {rs : List (List Int)} {t : Nat} {r : List Int} (h : SSOwnV w base (.slice Ar n cap) vs rs) (hr : rs[t]? = some r) (hz : 0 < r.length) :
    ∃ gL b c : Nat, Ar = some ⟨gL, 0, none⟩ ∧ w.cell? ⟨gL, t, none⟩ = some (.slice (some ⟨b, 0, none⟩) r.length c) ∧ QOwn w base (.slice (some ⟨b, 0, none⟩) r.length c) r ∧ gL < w.heap.size := by
  have ht : t < rs.length := (List.getElem?_eq_some_iff.1 hr).1
  obtain ⟨u, hu, hq⟩ := h.2 t r hr
  obtain ⟨y, c, rfl, h1, h2⟩ := hq.far hz
  rcases h.1.2 with ⟨_, e⟩ | ⟨g, cap', cur, e, _⟩
  · omega
  · injection e with e1 e2 e3
    subst e1
    refine ⟨g, y, c, rfl, ?_, hq, (h.1.lt g rfl).2⟩
    have := h.1.cells (g := g) rfl t _ hu
    rwa [Addr.add_lit, Nat.zero_add] at this
theorem SSOwnV.mono {w : World} {base base' : Nat} {v : Value} {vs : List Value} {rs : List (List Int)} (h : SSOwnV w base v vs rs) (hb : base' ≤ base) : SSOwnV w base' v vs rs :=
  ⟨ownsRow_mono h.1 hb, fun i r hr => by
    obtain ⟨u, hu, hq⟩ := h.2 i r hr
    exact ⟨u, hu, ownsRow_mono hq hb⟩⟩
theorem SSOwnV.far2 {w w1 : World} {base b1 n : Nat} {v out : Value} {us : List Value} {rs : List (List Int)} {xs : List Value} (h : SSOwnV w base v us rs) (ho : w.ownsRow b1 27 1 out n xs) (hne : v.ownBlock = none ∨ v.ownBlock ≠ out.ownBlock) (hg : w.grownBy w1 out.ownBlock) : SSOwnV w1 base v us rs := by
  obtain ⟨h1, h2⟩ := h
  refine ⟨h1.kept hg hne, fun i r hr => ?_⟩
  obtain ⟨u, hu, hq⟩ := h2 i r hr
  exact ⟨u, hu, World.ownsRow.kept hq hg (own_types2 hq ho (by decide))⟩
/-- what the loop of EffectiveIn holds -/
structure EinI (w wr : World) (N : Int) (A : Option Addr) (c : Nat) (es : List (Int × Int)) (lb lo hi cL : Nat) (Ar A1 : Option Addr) (xs : List Int) (v : Value) (vsL : List Value) (L rs : List (List Int)) : Prop where
  g : GB w wr N A c es
  x : InI wr lo hi A1 xs
  out : ∃ vs, wr.ownsRow lb 27 1 v rs.length vs ∧ ∀ (i : Nat) (r : List Int), rs[i]? = some r → ∃ u, vs[i]? = some u ∧ QOwn wr lb u r
  far : OutOf v.ownBlock lo hi
  rows : SSOwnV wr lo (.slice Ar L.length cL) vsL L
  hile : hi ≤ wr.heap.size
  gl : lo ≤ hi ∧ ∀ g, (Value.slice Ar L.length cL).ownBlock = some g → lo ≤ g ∧ g < hi
  lbs : w.heap.size < lb ∧ lb ≤ lo
section
variable {w wr wd w4 : World} {N : Int} {A Ar A1 : Option Addr} {c lb lo hi cL : Nat} {es : List (Int × Int)} {xs : List Int} {v v' : Value} {vsL : List Value} {L rs : List (List Int)} {r : List Int}
theorem EinI.next (h : EinI w wr N A c es lb lo hi cL Ar A1 xs v vsL L rs) (hb : Below wr.heap.size wr wd) : EinI w wd N A c es lb lo hi cL Ar A1 xs v vsL L rs := by
  obtain ⟨vs, h1, h2⟩ := h.out
  have k1 := h1.kept (row := none) ⟨hb.os, hb.tape, hb.output, hb.size, fun i hi _ => hb.block i hi⟩ (Classical.em _)
  exact ⟨h.g.next hb, h.x.below h.hile hb, ⟨vs, k1, fun i r hr => by
    obtain ⟨u, hu, hq⟩ := h2 i r hr
    exact ⟨u, hu, hq.below hb⟩⟩, h.far, h.rows.keep hb, Nat.le_trans h.hile hb.size, h.gl, h.lbs⟩
/-- a row of the other's is put in -/
theorem EinI.push {u : Value} (h : EinI w wr N A c es lb lo hi cL Ar A1 xs v vsL L rs) (hq : QOwn wr lo u r) :
    ∃ vs, (wr.alloc (Obj.cells #[u] 27)).ownsRow lb 27 1 v rs.length vs ∧ lb ≤ (wr.alloc (Obj.cells #[u] 27)).heap.size ∧
    ∀ (w4 : World) (v' : Value), w4.ownsRow lb 27 1 v' (rs.length + 1) (vs ++ [u]) → World.grownBy (wr.alloc (Obj.cells #[u] 27)) w4 v.ownBlock → (v'.ownBlock = v.ownBlock ∨ v'.ownBlock = some (wr.heap.size + 1)) →
      EinI w w4 N A c es lb lo hi cL Ar A1 xs v' vsL L (rs ++ [r]) := by
  have hb : Below wr.heap.size wr (wr.alloc (Obj.cells #[u] 27)) := (Below.refl _ _).alloc (Nat.le_refl _) _
  have h' := h.next hb
  obtain ⟨vs, h1, h2⟩ := h'.out
  have hs := h'.hile
  have hl := h'.lbs
  have hgl := h.gl.1
  refine ⟨vs, h1, by omega, fun w4 v' o4 g4 hat => ?_⟩
  have hP := SSOwn.push h1 h2 (ownsRow_mono (hq.below hb) hl.2) o4 g4
  have hf : OutOf v.ownBlock lo hi := h.far
  have hlt : ∀ q, v.ownBlock = some q → lb ≤ q := fun q e => (h1.lt q e).1
  refine ⟨⟨h'.g.box.grown g4 (fun e => by have := hlt _ e; omega), h'.g.old.grown g4 (by have := h'.g.old.size; omega) (fun q e => by have := hlt _ e; omega)⟩, h'.x.grown hs g4 hf, hP, fun g e => ?_, h'.rows.far2 h1 ?_ g4, ?_, h.gl, h.lbs⟩
  · rcases hat with q | q
    · exact hf g (by rw [← q]; exact e)
    · rw [e] at q
      injection q with q
      have := h.hile
      exact .inr (by omega)
  · by_cases e : (Value.slice Ar L.length cL).ownBlock = none
    · exact .inl e
    · right
      intro q
      obtain ⟨g, hg⟩ := Option.ne_none_iff_exists'.1 e
      have h8 := h.gl.2 g hg
      have h9 := hf g (by rw [← q]; exact hg)
      omega
  · have := g4.size
    omega
end
end Go.Proofs.Ytcfhkaefjhcglaa
