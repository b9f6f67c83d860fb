/- Steps that leave all blocks but a range, put together. -/
import Derived.Test.YtcfhkaefjhcglaaBA
namespace Go.Proofs.Ytcfhkaefjhcglaa
open Go.RowKit
section
variable {w w' : World} {lo hi g : Nat}
theorem Moves.set_ (h : Moves g (g + 1) w w') (i : Nat) (u : Value) : Moves g (g + 1) w (w'.setCell ⟨g, i, none⟩ u) :=
  ⟨h.os, h.tape, h.output, by simpa [World.setCell] using h.size, fun k hk ho => (Below.heap_setCell w' ⟨g, i, none⟩ u k (by simp only; omega)).trans (h.block k hk ho)⟩
theorem Moves.refl (w : World) (lo hi : Nat) : Moves lo hi w w := ⟨rfl, rfl, rfl, Nat.le_refl _, fun _ _ _ => rfl⟩
theorem Moves.trans {w3 : World} (h : Moves lo hi w w') (k : Moves lo hi w' w3) : Moves lo hi w w3 :=
  ⟨k.os.trans h.os, k.tape.trans h.tape, k.output.trans h.output, Nat.le_trans h.size k.size, fun i hi2 ho => (k.block i (Nat.lt_of_lt_of_le hi2 h.size) ho).trans (h.block i hi2 ho)⟩
theorem Moves.alloc (h : Moves lo hi w w') (o : Obj) : Moves lo hi w (w'.alloc o) :=
  ⟨h.os, h.tape, h.output, by simp; have := h.size; omega, fun k hk ho => (Below.heap_alloc w' o k (Nat.lt_of_lt_of_le hk h.size)).trans (h.block k hk ho)⟩
theorem Moves.below {B : Nat} (h : Moves lo hi w w') (hB : B ≤ lo) (hs : B ≤ w.heap.size) : Below B w w' :=
  ⟨h.os, h.tape, h.output, h.size, fun i hi => h.block i (by omega) (.inl (by omega))⟩
end
end Go.Proofs.Ytcfhkaefjhcglaa
