/- Single rows of one's own. -/
import Derived.Test.YtmehdngibbilaaaLEffM
import Derived.Test.YtmehdngibbilaaaLBR
namespace Go.Proofs.Ytmehdngibbilaaa
open Go.RowKit

theorem own_single (w : World) (u : Value) (t : TypeId) : (w.alloc (.cells #[u] t)).ownsRow w.heap.size t 1 (.slice (some ⟨w.heap.size, 0, none⟩) 1 1) 1 [u] :=
  ⟨rfl, .inr ⟨w.heap.size, 1, #[u], rfl, Nat.le_refl _, heap_alloc_new w _, Nat.le_refl _, by decide, rfl, rfl⟩⟩
end Go.Proofs.Ytmehdngibbilaaa
