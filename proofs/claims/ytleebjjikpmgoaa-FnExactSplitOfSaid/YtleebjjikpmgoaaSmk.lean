/- Sums of the first numbers of a list. -/
import Derived.Test.YtleebjjikpmgoaaCkr
namespace Go.Proofs.Ytleebjjikpmgoaa
open Go.RowKit
set_option linter.unusedVariables false

def sumK (l : List Int) : Nat → Int
  | 0 => 0
  | k + 1 => sumK l k + l.getD k 0

end Go.Proofs.Ytleebjjikpmgoaa
