/- advance: the counter of the recurrent configurations, over slices.Backward. -/
import Derived.Test.YtdpojcgeblbfeaaVBack
import Derived.Test.YtdpojcgeblbfeaaVBU
import Derived.Test.YtdpojcgeblbfeaaVBI
import Derived.Test.YtdpojcgeblbfeaaVRndR
set_option linter.all false
namespace Go.Proofs.Ytdpojcgeblbfeaa
open Go.RowKit
attribute [local go_sem] Oper.semAt_some

structure AdvI (w Z : World) (g M cd cf : Nat) (F : Option Addr) (f x : List Int) (b : Bool) : Prop where
  d : Blk Z g 3 (intCells x).toArray
  bD : Blk Z w.heap.size 62 #[.slice (some ⟨g, 0, none⟩) M cd]
  bF : Blk Z (w.heap.size + 1) 62 #[.slice F M cf]
  bR : Blk Z (w.heap.size + 1 + 1) 4 #[.bool b]
  bB : Blk Z (w.heap.size + 1 + 1 + 1) 62 #[.slice (some ⟨g, 0, none⟩) M cd]
  fI : IntS Z w.heap.size F f
  gr : w.grownBy Z (some g)
theorem grownBy_stq {w Z Z' : World} {r : Option Nat} {B : Nat} (h : w.grownBy Z r) (hs : Stq B Z Z') (hB : w.heap.size ≤ B) : w.grownBy Z' r :=
  ⟨hs.os.trans h.os, hs.tape.trans h.tape, hs.output.trans h.output, Nat.le_trans h.size hs.size, fun k hk hne => by
    have h1 := h.block k hk hne
    rw [← h1]
    have hk2 : k < Z.heap.size := Nat.lt_of_lt_of_le hk h.size
    rw [Array.getElem?_eq_getElem hk2]
    exact hs.keep k _ (Array.getElem?_eq_getElem hk2) (.inr (by omega))⟩
theorem ints_stq {Z Z' : World} {B N : Nat} {F : Option Addr} {f : List Int} (h : IntS Z N F f) (hs : Stq B Z Z') : IntS Z' N F f := fun hn => by
  obtain ⟨b, o, e, hb, hc⟩ := h hn
  exact ⟨b, o, e, hb, fun i z hz => hs.cell (hc i z hz)⟩
theorem AdvI.stq {w Z Z' : World} {g M cd cf B : Nat} {F : Option Addr} {f x : List Int} {b : Bool} (h : AdvI w Z g M cd cf F f x b) (hs : Stq B Z Z') (hB : w.heap.size ≤ B) : AdvI w Z' g M cd cf F f x b :=
  ⟨hs.block h.d, hs.block h.bD, hs.block h.bF, hs.block h.bR, hs.block h.bB, ints_stq h.fI hs, grownBy_stq h.gr hs hB⟩
theorem ints_far {Z : World} {B g o : Nat} {F : Option Addr} {f : List Int} {u : Value} (h : IntS Z B F f) (hne : ∀ b off, F = some ⟨b, off, none⟩ → b ≠ g) : IntS (Z.setCell ⟨g, o, none⟩ u) B F f := fun hn => by
  obtain ⟨b, o2, e, hb, hc⟩ := h hn
  exact ⟨b, o2, e, hb, fun i z hz => (World.cell?_of_block (a := ⟨b, o2 + i, none⟩) (Below.heap_setCell _ _ _ _ (hne b o2 e))).trans (hc i z hz)⟩
theorem grownBy_set {w Z : World} {g o : Nat} {u : Value} (h : w.grownBy Z (some g)) : w.grownBy (Z.setCell ⟨g, o, none⟩ u) (some g) :=
  ⟨h.os, h.tape, h.output, by simpa [World.setCell] using h.size, fun k hk hne => (Below.heap_setCell _ _ _ _ (by intro e; exact hne (by rw [show k = g from e]))).trans (h.block k hk hne)⟩
theorem grownBy_new {w Z : World} {g X o : Nat} {u : Value} (h : w.grownBy Z (some g)) (hX : w.heap.size ≤ X) : w.grownBy (Z.setCell ⟨X, o, none⟩ u) (some g) :=
  ⟨h.os, h.tape, h.output, by simpa [World.setCell] using h.size, fun k hk hne => (Below.heap_setCell _ _ _ _ (by show k ≠ X; omega)).trans (h.block k hk hne)⟩
theorem intCells_set (x : List Int) (v : Nat) (z : Int) : ((intCells x).toArray.setIfInBounds v (.int .i64 z)) = (intCells (x.set v z)).toArray := by
  simp [intCells, List.map_set]
theorem AdvI.put {w Z : World} {g M cd cf v : Nat} {F : Option Addr} {f x : List Int} {b : Bool} (h : AdvI w Z g M cd cf F f x b) (hg : g < w.heap.size) (hF : ∀ c off, F = some ⟨c, off, none⟩ → c ≠ g) (z : Int) : AdvI w (Z.setCell ⟨g, v, none⟩ (.int .i64 z)) g M cd cf F f (x.set v z) b :=
  ⟨by have := h.d.set_ v (.int .i64 z); rwa [intCells_set] at this, h.bD.far (by simp only; omega) _, h.bF.far (by simp only; omega) _, h.bR.far (by simp only; omega) _, h.bB.far (by simp only; omega) _, ints_far h.fI hF, grownBy_set h.gr⟩
theorem AdvI.say {w Z : World} {g M cd cf : Nat} {F : Option Addr} {f x : List Int} {b : Bool} (h : AdvI w Z g M cd cf F f x b) (hg : g < w.heap.size) (hF : ∀ c off, F = some ⟨c, off, none⟩ → c < w.heap.size) (b' : Bool) : AdvI w (Z.setCell ⟨w.heap.size + 1 + 1, 0, none⟩ (.bool b')) g M cd cf F f x b' :=
  ⟨h.d.far (by simp only; omega) _, h.bD.far (by simp only; omega) _, h.bF.far (by simp only; omega) _, by have := h.bR.set_ 0 (.bool b'); exact this, h.bB.far (by simp only; omega) _, ints_far h.fI fun c off e => by have := hF c off e; omega, grownBy_new h.gr (by omega)⟩
end Go.Proofs.Ytdpojcgeblbfeaa
