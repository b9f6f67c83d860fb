/- Sandpiles: DropChip and FullPile: the specification's side. -/
import Derived.Test.YtndncmjhpbjcoaaGPilE
set_option linter.all false
namespace Go.Proofs.Ytndncmjhpbjcoaa
open Go.RowKit

def oneMore (p : List Int) (v : Nat) : List Int := p.set v (p.getD v 0 + 1)
theorem oneMore_get {p : List Int} {v : Nat} (hv : v < p.length) (u : Nat) : (oneMore p v).getD u 0 = if u = v then p.getD v 0 + 1 else p.getD u 0 := by
  unfold oneMore
  rw [List.getD, List.getElem?_set]
  by_cases h : v = u
  · subst h
    simp [hv]
  · rw [if_neg h, if_neg (fun e => h e.symm)]
    rfl
theorem PileL.more {M k v : Nat} {es : List (Int × Int)} {p : List Int} (h : PileL M k es p) (hs : unsF M k es p = none) (hv : v < M) (hvk : v ≠ k) : PileL M k es (oneMore p v) := by
  have hst := unsF_none hs v hv hvk
  have hvl := (valP_lim v es fun e he => (h.ed e he).2.1).2
  have hn := h.n12
  refine ⟨h.m0, h.m6, h.n12, h.ed, h.cut, by simp [oneMore, h.len], fun u => ?_, h.qm, ?_⟩
  · rw [oneMore_get (by rw [h.len]; exact hv)]
    have := h.lim u
    have := h.lim v
    split <;> omega
  · rw [oneMore_get (by rw [h.len]; exact hv), if_neg (fun e => hvk e.symm)]
    exact h.zero
def GivesIntOk (w : World) (xs : List Int) (n : Int) (b : Bool) (e : Ending) (w' : World) : Prop :=
  ∃ (A : Option Addr) (c : Nat), e = .returned (.tuple #[.slice A xs.length c, .int .i64 n, .bool b]) ∧ OwnI w' w.heap.size A xs ∧ Below w.heap.size w w'
end Go.Proofs.Ytndncmjhpbjcoaa
