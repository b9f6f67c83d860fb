/- A row that speaks of goroutines that may still be leaving when the call returns: a call that starts none keeps it, since it returns alone. And how a call's four arguments are opened. -/
import Derived.Conc.Holds
import Derived.Leaving
import Derived.ProofKit
set_option linter.all false
namespace Go.Proofs.Ytdpojcgeblbfeaa
open Go.ChangeShapes Go.WideShapes

theorem leaving_of_handed {a : Assume} {C : Checked} {os : Os} {f : FuncId} {r : Reach} {Pre : World → Array Value → Prop} {Post : World → Array Value → Value → World → Prop}
    (h : ReturnsInHanded a C os f r Pre Post) : ReturnsInLeavingWide a C os f r Pre Post := fun enter => by
  obtain ⟨a1, a2, a3, a4, h⟩ := h enter
  refine ⟨a1, a2, a3, a4, fun w tape i hf => ?_⟩
  obtain ⟨n, v, w', h1, h2, h3, h4, ⟨j, last, l1, l2, q, ho, eh⟩, al⟩ := h w tape i hf
  exact ⟨n, v, w', h1, h2, h3, h4, ⟨j, last, l1, l2, ho, onlyLeaving_of_quiet q, eh⟩, al⟩
end Go.Proofs.Ytdpojcgeblbfeaa
