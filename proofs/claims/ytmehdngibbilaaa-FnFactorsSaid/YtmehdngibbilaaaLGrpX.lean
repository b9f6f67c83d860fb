/- The critical group: the program's side, whole. -/
import Derived.Test.YtmehdngibbilaaaLGrpXd
import Derived.Test.YtmehdngibbilaaaLGrpXf
import Derived.Test.YtmehdngibbilaaaLGrpXg
import Derived.Test.YtmehdngibbilaaaLGrpXh
import Derived.Test.YtmehdngibbilaaaLGrpXj
import Derived.Test.YtmehdngibbilaaaLBQ
import Derived.Test.YtmehdngibbilaaaLBR
import Derived.Test.YtmehdngibbilaaaLBA
namespace Go.Proofs.Ytmehdngibbilaaa
open Go.RowKit

theorem implClsN (N : Int) (A : Option Addr) (c : Nat) (es : List (Int × Int)) (hB : graphB N es = true) (w : World) (hn : es.length ≤ 1048576) (hE : EdgeS w w.heap.size A es) :
    Calls Try.prog 29 #[.agg #[.int .i64 N, .slice A es.length c]] w fun e w' => ∃ (A2 : Option Addr) (c2 n2 : Nat), e = .returned (.tuple #[.slice A2 n2 c2, .bool (decide (treesB N es ≤ 400))]) ∧ (treesB N es ≤ 400 → (n2 : Int) = treesB N es) ∧ Below w.heap.size w w' := by
  refine (implCls N A c es w hn hE).mono ?_
  rintro e w' ⟨A2, c2, rfl, -, hb⟩
  refine ⟨A2, c2, _, by rw [clsOk, hB, Bool.true_and], fun h => ?_, hb⟩
  obtain ⟨m, rfl, hG⟩ := grl_of hB
  exact clsC_len hB hG h w
end Go.Proofs.Ytmehdngibbilaaa
