/- One new cell, as an append reads it; worlds that drew alone. -/
import Derived.Test.YtbmihbbpdmpmpaaIntB
namespace Go.Proofs.Ytbmihbbpdmpmpaa
open Go.RowKit

theorem one_cellI (W : World) (g : Nat) (hg : g = W.heap.size) (t : TypeId) (u : Value) (j : Nat) (x : Value) (h : [u][j]? = some x) : (W.alloc (.cells #[u] t)).cell? ((⟨g, 0, none⟩ : Addr).add j) = some x := by
  subst hg
  cases j with
  | zero =>
    simp only [List.getElem?_cons_zero, Option.some.injEq] at h
    subst h
    exact (Blk.new W t #[u]).cell 0
  | succ j => simp at h
theorem drewN_below (w : World) (q : Nat) : Below w.heap.size w (w.drewN q) := below_drewN (Below.refl _ _) q
end Go.Proofs.Ytbmihbbpdmpmpaa
