/- Rows that grow in place through a recursion: the frame of such a call. -/
import Derived.Test.YtdpojcgeblbfeaaVGrpO
import Derived.Test.YtdpojcgeblbfeaaVBD
set_option linter.all false
namespace Go.Proofs.Ytdpojcgeblbfeaa
open Go.RowKit

structure Fr (w w' : World) (v v' : Value) : Prop where
  gr : w.grownBy w' v.ownBlock
  at_ : v'.ownBlock = v.ownBlock ∨ ∃ g, v'.ownBlock = some g ∧ w.heap.size ≤ g
theorem Fr.refl (w : World) (v : Value) : Fr w w v v := ⟨World.grownBy.refl _ _, .inl rfl⟩
theorem Fr.trans {w w1 w2 : World} {v v1 v2 : Value} (h : Fr w w1 v v1) (k : Fr w1 w2 v1 v2) : Fr w w2 v v2 := by
  refine ⟨⟨k.gr.os.trans h.gr.os, k.gr.tape.trans h.gr.tape, k.gr.output.trans h.gr.output, Nat.le_trans h.gr.size k.gr.size, fun i hi hne => (k.gr.block i (Nat.lt_of_lt_of_le hi h.gr.size) fun e => ?_).trans (h.gr.block i hi hne)⟩, ?_⟩
  · rcases h.at_ with g | ⟨g, hg, hs⟩
    · exact hne (e.trans g)
    · rw [hg] at e
      injection e with e
      omega
  · rcases k.at_ with g | ⟨g, hg, hs⟩
    · rw [g]
      exact h.at_
    · exact .inr ⟨g, hg, Nat.le_trans h.gr.size hs⟩
theorem Fr.of_below {w w' : World} (v : Value) (h : Below w.heap.size w w') : Fr w w' v v := ⟨⟨h.os, h.tape, h.output, h.size, fun i hi _ => h.block i hi⟩, .inl rfl⟩
structure BoxI (wr : World) (B0 base : Nat) (P : Option Addr) (cp : Nat) (part : List Int) (A : Option Addr) (es : List (Int × Int)) (v : Value) (rs : List (List Int)) : Prop where
  lo : B0 ≤ base
  own : SSOwn wr base v rs
  part : QOwn wr B0 (.slice P part.length cp) part
  ed : EdgeS wr B0 A es
  size : base ≤ wr.heap.size
theorem SSOwn.row {w : World} {base : Nat} {v : Value} {rs : List (List Int)} (h : SSOwn w base v rs) : ∃ vs, w.ownsRow base 28 1 v rs.length vs := by
  obtain ⟨vs, h1, -⟩ := h
  exact ⟨vs, h1⟩
theorem BoxI.next {wr wd : World} {B0 base cp : Nat} {P A : Option Addr} {part : List Int} {es : List (Int × Int)} {v : Value} {rs : List (List Int)} (h : BoxI wr B0 base P cp part A es v rs) (hb : Below wr.heap.size wr wd) : BoxI wd B0 base P cp part A es v rs :=
  ⟨h.lo, h.own.kept hb, QOwn.below h.part hb, h.ed.below (hb.mono (Nat.le_trans h.lo h.size)), Nat.le_trans h.size hb.size⟩
theorem BoxI.fr {wr wd : World} {B0 base cp : Nat} {P A : Option Addr} {part : List Int} {es : List (Int × Int)} {v v' : Value} {rs rs' : List (List Int)} (h : BoxI wr B0 base P cp part A es v rs) (hf : Fr wr wd v v') (ho : SSOwn wd base v' rs') : BoxI wd B0 base P cp part A es v' rs' := by
  obtain ⟨vs, hv⟩ := h.own.row
  exact ⟨h.lo, ho, World.ownsRow.kept h.part hf.gr (own_types2 h.part hv (by decide)), h.ed.below (grown_below hf.gr (Nat.le_trans h.lo h.size) fun k hk => Nat.le_trans h.lo (hv.lt k hk).1), Nat.le_trans h.size hf.gr.size⟩
end Go.Proofs.Ytdpojcgeblbfeaa
