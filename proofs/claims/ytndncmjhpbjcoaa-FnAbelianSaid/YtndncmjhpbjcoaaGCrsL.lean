/- Laws, from lone pieces to calls beside leavers and back. -/
import Derived.Test.YtndncmjhpbjcoaaGCrs
import Derived.Test.YtndncmjhpbjcoaaGBA
set_option linter.all false
namespace Go.Proofs.Ytndncmjhpbjcoaa
open Go Go.Conc Go.ConcN Go.RowKit

section
variable {w0 w w' y z : World} {oB : Os} {T : TpL} {N : Int} {A : Option Addr} {c B : Nat} {es : List (Int × Int)} {zs : List Int}
theorem hb_of (h : w = w0.wi T 0 oB #[]) : ∀ y, Below w.heap.size w y → HB w0 y := fun y hb => by
  rw [h] at hb
  exact ⟨hb.size, hb.block⟩
theorem drew_of (h : Below B w w') : Drew w w' := ⟨h.tape, h.os, h.output⟩
/-! to the world that runs -/
theorem LawG.re (hw : w = w0.wi T 0 oB #[]) (h : LawG w y N A c es) (hh : w'.heap = y.heap) (hd : Drew w0 w') : LawG w0 w' N A c es := by
  subst hw
  exact ⟨Blk.heap (g := w0.heap.size) h.box hh, below_re h.old hh hd⟩
theorem below_re1 (hw : w = w0.wi T 0 oB #[]) (h : Below w.heap.size w y) (hh : w'.heap = y.heap) (hd : Drew w0 w') : Below w0.heap.size w0 w' := by
  subst hw
  exact below_re h hh hd
/-! to a lone run from there -/
theorem LawG.lo (hw : w = w0.wi T 0 oB #[]) (hy : y = w'.wi T 0 oB #[]) (h : LawG w0 w' N A c es) : LawG w y N A c es := by
  subst hw hy
  exact ⟨h.box, below_wi h.old _ _ _ _⟩
theorem below_lo (hw : w = w0.wi T 0 oB #[]) (hy : y = w'.wi T 0 oB #[]) (h : Below w0.heap.size w0 w') : Below w.heap.size w y := by
  subst hw hy
  exact below_wi h _ _ _ _
theorem own_lo (hy : y = w'.wi T 0 oB #[]) (h : OwnI w' B A zs) : OwnI y B A zs := by
  subst hy
  exact h
theorem blk_lo {g : Nat} {t : TypeId} {cs : Array Value} (hy : y = w'.wi T 0 oB #[]) (h : Blk w' g t cs) : Blk y g t cs := by
  subst hy
  exact h
end
section
variable {P : Program}
theorem law_quit (hb : Bodied P) (hr : Ready P) {f : FuncId} {fn : Func} {cs : List Frame} {a : Act} {e : Exit} {w0 w w2 : World} (hf : P.funcs[f]? = some fn) (ht : tmpsB fn = true) (hd : Drew w w2) (hd0 : Drew w0 w)
    (h : Sees w (fun _ y => bodyPost P fn (fun e y => e = .returned (.bool true) ∧ HB w0 y) e a y) w2) : GoesT P (base f) [] cs (Last P f cs (LawEnd w0)) e a w2 :=
  goesT_body hb hr (R0 := fun _ e y => e = .returned (.bool true) ∧ HB w0 y) LawEnd.easy hf ht hd (fun _ _ _ h => ⟨_, h.1⟩) (fun _ _ v z h w' hh hd2 => ⟨by have := h.1; cases this; rfl, h.2.below hh (hd0.trans hd2)⟩) h
theorem lastT_law (hb : Bodied P) (hr : Ready P) {f : FuncId} {fn : Func} {c : Code} {args : Array Value} {w0 : World} (hf : P.funcs[f]? = some fn) (hbd : fn.body = some c) (ht : tmpsB fn = true)
    (h : ∀ oB T, oB.env = w0.os.env → c.wp P (bodyPost P fn (fun e y => e = .returned (.bool true) ∧ HB w0 y)) { tmps := args ++ Array.replicate (fn.ntmps - args.size) undef, defers := [] } (w0.wi T 0 oB #[])) : LastT P f args w0 (LawEnd w0) :=
  lastT_of_wp hb hr (R0 := fun _ e y => e = .returned (.bool true) ∧ HB w0 y) LawEnd.easy hf hbd ht (fun _ _ _ h => ⟨_, h.1⟩) (fun _ _ v z h w' hh hd2 => ⟨by have := h.1; cases this; rfl, h.2.below hh hd2⟩) h
end
end Go.Proofs.Ytndncmjhpbjcoaa
