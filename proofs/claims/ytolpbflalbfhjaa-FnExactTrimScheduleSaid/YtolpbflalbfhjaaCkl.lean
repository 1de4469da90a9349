/- What the laws on schedules want besides. -/
import Derived.Test.YtolpbflalbfhjaaCkb
import Derived.Test.YtolpbflalbfhjaaFrame
namespace Go.Proofs.Ytolpbflalbfhjaa
open Go.RowKit
set_option linter.unusedVariables false

theorem sValidScheduleL (r : List Ac) (a : Option Addr) (cap : Nat) (w : World) (hP : AcAt w 0 w.heap.size r a) (hs : r.length ≤ 1048576) :
    Calls Try.prog 20 #[.slice a r.length cap] w fun e w' => e = .returned (.bool (schB r)) ∧ Below w.heap.size w w' := sValidSchedule r a cap w hP hs
theorem sValidWeightsL (l : List Int) (a : Option Addr) (cap : Nat) (w : World) (hP : At w a l) (hR : Rng l) (hs : l.length ≤ 1048576) :
    Calls Try.prog 15 #[.slice a l.length cap] w fun e w' => e = .returned (.bool (wtB l)) ∧ Below w.heap.size w w' :=
  (sValidWeights l a cap w hP hs).mono fun e w' ⟨h1, h2⟩ => ⟨h1, by subst h2; exact Below.refl _ _⟩
theorem iValidScheduleL (r : List Ac) (a : Option Addr) (cap : Nat) (w : World) (hP : AcAt w 0 w.heap.size r a) (hs : r.length ≤ 1048576) :
    Calls Try.prog 22 #[.slice a r.length cap] w fun e w' => e = .returned (.bool (schB r)) ∧ Below w.heap.size w w' := iValidSchedule r a cap w hP hs
theorem iValidWeightsL (l : List Int) (a : Option Addr) (cap : Nat) (w : World) (hP : At w a l) (hR : Rng l) (hs : l.length ≤ 1048576) :
    Calls Try.prog 17 #[.slice a l.length cap] w fun e w' => e = .returned (.bool (wtB l)) ∧ Below w.heap.size w w' :=
  (iValidWeights l a cap w hP hs).mono fun e w' ⟨h1, h2⟩ => ⟨h1, by subst h2; exact Below.refl _ _⟩

end Go.Proofs.Ytolpbflalbfhjaa
