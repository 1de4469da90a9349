/- What the laws on schedules want besides. -/
import Derived.Test.YtiimebiecihpkaaCkb
import Derived.Test.YtiimebiecihpkaaFrame
namespace Go.Proofs.Ytiimebiecihpkaa
open Go.RowKit
set_option linter.unusedVariables false

end Go.Proofs.Ytiimebiecihpkaa
