/- AreEquivalent: the specification's side. -/
import Derived.Test.YtpdnfijeahdahaaBK
import Derived.Test.YtpdnfijeahdahaaBJ
namespace Go.Proofs.Ytpdnfijeahdahaa
open Go.RowKit

end Go.Proofs.Ytpdnfijeahdahaa
