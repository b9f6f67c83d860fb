/- IsPrincipal: the specification's side. -/
import Derived.Test.YtpdnfijeahdahaaEqvS
import Derived.Test.YtpdnfijeahdahaaBK
namespace Go.Proofs.Ytpdnfijeahdahaa
open Go.RowKit

end Go.Proofs.Ytpdnfijeahdahaa
