/- From a lone run to the run beside leavers, and back: what is said of the memory. -/
import Derived.Test.YtndncmjhpbjcoaaGLonU
import Derived.Test.YtndncmjhpbjcoaaGSetG
import Derived.Test.YtndncmjhpbjcoaaGBJ
set_option linter.all false
namespace Go.Proofs.Ytndncmjhpbjcoaa
open Go Go.Conc Go.ConcN Go.RowKit

def HB (w y : World) : Prop := w.heap.size ≤ y.heap.size ∧ ∀ b, b < w.heap.size → y.heap[b]? = w.heap[b]?
section
variable {w w' y z : World} {oB : Os} {T : TpL} {B : Nat}
theorem HB.below (h : HB w y) (hh : w'.heap = y.heap) (hd : Drew w w') : Below w.heap.size w w' := ⟨hd.os, hd.tape, hd.out, by rw [hh]; exact h.1, fun b hb => by rw [hh]; exact h.2 b hb⟩
theorem below_re (h : Below B (w.wi T 0 oB #[]) y) (hh : w'.heap = y.heap) (hd : Drew w w') : Below B w w' := ⟨hd.os, hd.tape, hd.out, by rw [hh]; exact h.size, fun b hb => by rw [hh]; exact h.block b hb⟩
theorem below_wi (h : Below B w w') (t : TpL) (d : Nat) (o : Os) (u : OutL) : Below B (w.wi t d o u) (w'.wi t d o u) := ⟨rfl, rfl, rfl, h.size, h.block⟩
theorem cell_heap (h : w'.heap = y.heap) (a : Addr) : w'.cell? a = y.cell? a := by unfold World.cell?; rw [h]
theorem frozen_heap (h : w'.heap = y.heap) (a : Addr) : w'.frozen? a = y.frozen? a := by unfold World.frozen?; rw [h]
theorem OwnI.heap {base : Nat} {A : Option Addr} {zs : List Int} (h : OwnI y base A zs) (hh : w'.heap = y.heap) : OwnI w' base A zs := fun hp => by
  obtain ⟨g, off, e, k1, k2, k3⟩ := h hp
  exact ⟨g, off, e, k1, by rw [hh]; exact k2, fun i z hz => by rw [cell_heap hh, frozen_heap hh]; exact k3 i z hz⟩
theorem IntS.heap {A : Option Addr} {zs : List Int} (h : IntS y y.heap.size A zs) (hh : w'.heap = y.heap) : IntS w' w'.heap.size A zs := h.keep (fun p _ => cell_heap hh p) (by rw [hh]; exact Nat.le_refl _)
theorem EdgeS.heap {A : Option Addr} {es : List (Int × Int)} (h : EdgeS y y.heap.size A es) (hh : w'.heap = y.heap) : EdgeS w' w'.heap.size A es := h.keep (fun p _ => cell_heap hh p) (by rw [hh]; exact Nat.le_refl _)
theorem Blk.heap {g : Nat} {t : TypeId} {cs : Array Value} (h : Blk y g t cs) (hh : w'.heap = y.heap) : Blk w' g t cs := by unfold Blk; rw [hh]; exact h
theorem EdgeK.of_blk {g : Nat} {es : List (Int × Int)} {t : TypeId} (h : Blk w g t (flat es).toArray) : EdgeK w (some ⟨g, 0, none⟩) es := fun a e => by
  cases e
  refine ⟨_, _, h, fun i v _ hv => ?_⟩
  simp only [List.getElem?_toArray] at hv
  have hm := List.mem_of_getElem? hv
  have : ∀ l : List (Int × Int), ∀ v ∈ flat l, ∃ x, v = Value.int .i64 x := fun l => by
    induction l with
    | nil => intro v hv; simp [flat] at hv
    | cons e l ih =>
      intro v hv
      simp only [flat, List.mem_cons] at hv
      rcases hv with rfl | rfl | hv
      · exact ⟨_, rfl⟩
      · exact ⟨_, rfl⟩
      · exact ih v hv
  exact this es v hm
theorem EdgeK.heap {A : Option Addr} {es : List (Int × Int)} (h : EdgeK y A es) (hh : w'.heap = y.heap) : EdgeK w' A es := h.keep fun _ _ => by rw [hh]
theorem EdgeK.up {A : Option Addr} {es : List (Int × Int)} (h : EdgeK w A es) (hb : Below w.heap.size w w') : EdgeK w' A es := h.keep fun _ e => hb.block _ (h.lt e)
variable {N : Int} {A : Option Addr} {c : Nat} {es : List (Int × Int)}
theorem GB.real (h : GB (w.wi T 0 oB #[]) y N A c es) (hh : w'.heap = y.heap) (hd : Drew w w') : GB w w' N A c es := ⟨Blk.heap (g := w.heap.size) h.box hh, below_re h.old hh hd⟩
theorem GB.wi (h : GB w w' N A c es) (t : TpL) (d : Nat) (o : Os) (u : OutL) : GB (w.wi t d o u) (w'.wi t d o u) N A c es := ⟨h.box, below_wi h.old t d o u⟩
end
theorem implCnt (A : Option Addr) (c : Nat) (xs : List Int) (w : World) (hn : xs.length ≤ 1048576) (hS : IntS w w.heap.size A xs) :
    Calls Try.prog 62 #[.slice A xs.length c] w fun e w' => e = .returned (.int .i64 (degB xs xs.length)) ∧ Below w.heap.size w w' := by
  have HD := Lib.hid (implDeg A c xs w hn hS)
  clear hS
  go_enter Try.func62, Try.ntmps62
  go_wp2_with fail
  refine HD.out.mono ?_
  rintro e w1 ⟨rfl, hb1⟩
  have HB1 := Lib.hid hb1
  clear hb1 HD
  go_wp2
  go_ret
  exact ⟨rfl, HB1.out⟩
end Go.Proofs.Ytndncmjhpbjcoaa
