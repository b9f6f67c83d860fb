/- The functions that the sandpile's goroutine calls are carried over. -/
import Derived.Test.YtndncmjhpbjcoaaGRB
import Derived.Test.YtndncmjhpbjcoaaChecked
set_option linter.all false
namespace Go.Proofs.Ytndncmjhpbjcoaa

def pileFns : List FuncId := [61, 64, 65, 102, 103, 136]
instance : FnsOk := ⟨fun f => f ∈ pileFns⟩
theorem pile_good : FnsGood Try.prog := by
  refine fnsGood (ok := fun f => pileFns.contains f) (fun f h => show f ∈ pileFns by simpa using h) (fun f h => by have h' : f ∈ pileFns := h; simpa using h') (fun f h => ?_)
  have hf : f ∈ pileFns := by simpa using h
  clear h
  revert f
  decide +kernel
end Go.Proofs.Ytndncmjhpbjcoaa
