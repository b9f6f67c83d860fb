/- RecurrentPiles and ParkingsOf: what is listed, and that the lists are short. -/
import Derived.Test.YtdpojcgeblbfeaaVCntM
import Derived.Test.YtdpojcgeblbfeaaVTrsD
import Derived.Test.YtdpojcgeblbfeaaVBJ
import Derived.Test.YtdpojcgeblbfeaaVBF
set_option linter.all false
namespace Go.Proofs.Ytdpojcgeblbfeaa
open Go.RowKit

theorem red_has {M : Nat} {es : List (Int × Int)} (hg : graphB (M : Int) es = true) (A : Option Addr) (w : World) (hE : EdgeS w w.heap.size A es) (q : Nat) (hq : q < M) : ∀ x : List Int, x.length = M → (∀ u, -100 ≤ x.getD u 0 ∧ x.getD u 0 ≤ 100) → ∃ f, IsRed M es x q f := fun x hl hx => by
  obtain ⟨h4, h5⟩ := graphB_all hg
  obtain ⟨h6, h7, h8⟩ := edgesB_lims h4
  have hb : Below w.heap.size w (w.alloc (.cells (intCells x).toArray 3)) := (Below.refl _ _).alloc (Nat.le_refl _) _
  have hI : IntS (w.alloc (.cells (intCells x).toArray 3)) (w.alloc (.cells (intCells x).toArray 3)).heap.size (some ⟨w.heap.size, 0, none⟩) x := fun _ => ⟨w.heap.size, 0, rfl, by simp, fun i z hz => by rw [Nat.zero_add, (Blk.new w 3 (intCells x).toArray).cell]; simp [intCells, hz]⟩
  obtain ⟨e, w', fr, ⟨pr, pb, g, cg, gs, f, -, hf, -⟩, -⟩ := reduceW_any A (some ⟨w.heap.size, 0, none⟩) 0 0 M q es x _ (by omega) (by omega) hq hl h8 (fun e he => all_edge h4 he) (fun u => by have := hx u; omega) h5.cut (hE.up_ hb) hI []
  exact ⟨f, hf⟩
end Go.Proofs.Ytdpojcgeblbfeaa
