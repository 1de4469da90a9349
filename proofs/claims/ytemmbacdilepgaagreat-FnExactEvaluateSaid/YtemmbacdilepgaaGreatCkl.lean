/- What the laws on schedules want besides. -/
import Derived.Test.YtemmbacdilepgaaGreatCkb
import Derived.Test.YtemmbacdilepgaaGreatFrame
namespace Go.Proofs.YtemmbacdilepgaaGreat
open Go.RowKit
set_option linter.unusedVariables false

end Go.Proofs.YtemmbacdilepgaaGreat
