/- What the laws on schedules want besides: marks. -/
import Derived.Test.YtleebjjikpmgoaaCkl
namespace Go.Proofs.Ytleebjjikpmgoaa
open Go.RowKit
set_option linter.unusedVariables false

end Go.Proofs.Ytleebjjikpmgoaa
