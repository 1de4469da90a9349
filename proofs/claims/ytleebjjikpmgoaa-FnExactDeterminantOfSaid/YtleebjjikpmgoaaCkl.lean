/- What the laws on schedules want besides. -/
import Derived.Test.YtleebjjikpmgoaaCkb
import Derived.Test.YtleebjjikpmgoaaFrame
namespace Go.Proofs.Ytleebjjikpmgoaa
open Go.RowKit
set_option linter.unusedVariables false

theorem iValidWeightsL (l : List Int) (a : Option Addr) (cap : Nat) (w : World) (hP : At w a l) (hR : Rng l) (hs : l.length ≤ 1048576) :
    Calls Try.prog 53 #[.slice a l.length cap] w fun e w' => e = .returned (.bool (wtB l)) ∧ Below w.heap.size w w' :=
  (iValidWeights l a cap w hP hs).mono fun e w' ⟨h1, h2⟩ => ⟨h1, by subst h2; exact Below.refl _ _⟩

end Go.Proofs.Ytleebjjikpmgoaa
