/- The program keeps what a walk beside leavers asks of it. -/
import Derived.Test.YtndncmjhpbjcoaaGCB
import Derived.Test.YtndncmjhpbjcoaaGCA
import Derived.Test.YtndncmjhpbjcoaaChecked
set_option linter.all false
namespace Go.Proofs.Ytndncmjhpbjcoaa

theorem prog_bodied : Bodied Try.prog := bodied_of (by decide +kernel)
theorem prog_ready : Ready Try.prog := ready_of (by decide +kernel)
end Go.Proofs.Ytndncmjhpbjcoaa
