/- DropChip, beside goroutines that only leave. -/
import Derived.Test.YtndncmjhpbjcoaaGCrsL
import Derived.Test.YtndncmjhpbjcoaaGPilG
import Derived.Test.YtndncmjhpbjcoaaGPilZ
import Derived.Test.YtndncmjhpbjcoaaGBF
set_option linter.all false
namespace Go.Proofs.Ytndncmjhpbjcoaa
open Go Go.Conc Go.ConcN Go.RowKit

theorem GB.re {w x y w' : World} {oB : Os} {T : TpL} {N : Int} {A : Option Addr} {c : Nat} {es : List (Int × Int)} (hw : x = w.wi T 0 oB #[]) (h : GB x y N A c es) (hh : w'.heap = y.heap) (hd : Drew w w') : GB w w' N A c es := by
  subst hw
  exact GB.real h hh hd
theorem GivesIntOk.easy (w : World) (xs : List Int) (n : Int) (b : Bool) : Easy fun v w' => GivesIntOk w xs n b (.returned v) w' := by
  rintro v w1 w2 hl ⟨A1, c1, h1, h2, h5⟩
  exact ⟨A1, c1, h1, h2.heap hl.heap, ⟨hl.drew.os.trans h5.os, hl.drew.tape.trans h5.tape, hl.drew.out.trans h5.output, by rw [hl.heap]; exact h5.size, fun b hb => by rw [hl.heap]; exact h5.block b hb⟩⟩
end Go.Proofs.Ytndncmjhpbjcoaa
