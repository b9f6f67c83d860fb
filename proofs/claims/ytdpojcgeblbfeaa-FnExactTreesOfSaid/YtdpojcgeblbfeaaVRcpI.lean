/- RecurrentPiles: the program's side. -/
import Derived.Deep.LoopGhost
import Derived.Test.YtdpojcgeblbfeaaVPilS
import Derived.Test.YtdpojcgeblbfeaaVAdv
import Derived.Test.YtdpojcgeblbfeaaVRkM
import Derived.Test.YtdpojcgeblbfeaaVOutR
import Derived.Test.YtdpojcgeblbfeaaVRecM
import Derived.Test.YtdpojcgeblbfeaaVBG
import Derived.Test.YtdpojcgeblbfeaaVBT
import Derived.Test.YtdpojcgeblbfeaaVBF
import Derived.Test.YtdpojcgeblbfeaaVBI
import Derived.Test.YtdpojcgeblbfeaaVRecN
import Derived.Test.YtdpojcgeblbfeaaVPilH
import Derived.Test.YtdpojcgeblbfeaaVPilY
import Derived.OwnWalk
import Derived.Test.YtdpojcgeblbfeaaVPilA
import Derived.Test.YtdpojcgeblbfeaaVBJ
import Derived.Test.YtdpojcgeblbfeaaVBM
import Derived.Test.YtdpojcgeblbfeaaVBE
import Derived.Test.YtdpojcgeblbfeaaVBA
import Derived.Test.YtdpojcgeblbfeaaVAnyH
import Derived.Test.YtdpojcgeblbfeaaVSh
set_option linter.all false
namespace Go.Proofs.Ytdpojcgeblbfeaa
open Go.RowKit

def GivesSSP (w : World) (rs : List (List Int)) (b : Bool) (e : Ending) (w' : World) : Prop :=
  ∃ (A : Option Addr) (c : Nat), e = .returned (.tuple #[.slice A rs.length c, .bool b]) ∧ OwnSS w' w.heap.size w'.heap.size A rs ∧ Below w.heap.size w w'
structure CfgI (w W : World) (X g M cd cf k c : Nat) (F A : Option Addr) (es : List (Int × Int)) (x : List Int) : Prop where
  cfg : Blk W X 64 #[.slice (some ⟨g, 0, none⟩) M cd, .slice F M cf, .int .i64 (M : Int), .slice A es.length c, .int .i64 (k : Int)]
  d : Blk W g 3 (intCells x).toArray
  f : OwnI W w.heap.size F (fullTo es k M)
  xg : X ≠ g
  xl : w.heap.size ≤ X
  gl : w.heap.size ≤ g
  fg : ∀ b off, F = some ⟨b, off, none⟩ → b ≠ g
  old : Below w.heap.size w W
theorem blk_ints {W : World} {g : Nat} {x : List Int} (h : Blk W g 3 (intCells x).toArray) : IntS W W.heap.size (some ⟨g, 0, none⟩) x := fun _ => ⟨g, 0, rfl, h.lt, fun i z hz => by
  rw [Nat.zero_add, h.cell]
  simp [intCells, hz]⟩
theorem CfgI.below {w W W' : World} {X g M cd cf k c : Nat} {F A : Option Addr} {es : List (Int × Int)} {x : List Int} (h : CfgI w W X g M cd cf k c F A es x) (hb : Below W.heap.size W W') : CfgI w W' X g M cd cf k c F A es x :=
  ⟨h.cfg.below hb h.cfg.lt, h.d.below hb h.d.lt, h.f.below hb, h.xg, h.xl, h.gl, h.fg, h.old.trans (hb.mono h.old.size)⟩
theorem CfgI.grown {w W W' : World} {X g M cd cf k c : Nat} {F A : Option Addr} {es : List (Int × Int)} {x x' : List Int} {r : Option Nat} (h : CfgI w W X g M cd cf k c F A es x) (hg : W.grownBy W' r) (hX : r ≠ some X) (hF : ∀ b off, F = some ⟨b, off, none⟩ → r ≠ some b) (hr : ∀ b, r = some b → w.heap.size ≤ b) (hd : Blk W' g 3 (intCells x').toArray) : CfgI w W' X g M cd cf k c F A es x' :=
  ⟨Blk.grown h.cfg hg hX, hd, fun hp => by
    obtain ⟨b, off, e, h1, h2, h3⟩ := h.f hp
    have hbl := hg.block b h2 (fun e2 => hF b off e e2.symm)
    exact ⟨b, off, e, h1, Nat.lt_of_lt_of_le h2 hg.size, fun i z hz => ⟨(World.cell?_of_block (a := ⟨b, off + i, none⟩) hbl).trans (h3 i z hz).1, (World.frozen?_of_block (a := ⟨b, off + i, none⟩) hbl).trans (h3 i z hz).2⟩⟩, h.xg, h.xl, h.gl, h.fg, h.old.grown hg h.old.size hr⟩
end Go.Proofs.Ytdpojcgeblbfeaa
