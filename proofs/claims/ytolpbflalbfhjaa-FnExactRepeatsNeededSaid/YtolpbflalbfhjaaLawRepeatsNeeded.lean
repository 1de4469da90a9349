/- The walk of the law FnExactRepeatsNeeded: the model and the program answer alike, no argument turns, the answer owns its memory. -/
import Derived.Deep.RegionHeld3
import Derived.Test.YtolpbflalbfhjaaCkl
import Derived.Test.YtolpbflalbfhjaaChp
namespace Go.Proofs.Ytolpbflalbfhjaa
open Go.RowKit
set_option linter.unusedVariables false

set_option maxRecDepth 100000 in
set_option maxHeartbeats 6400000 in
theorem wFnExactRepeatsNeeded (v0 v1 : Value) (w : World) (h0 : IsI64 w v0) (h1 : IsI64 w v1) :
    Calls Try.prog 6 #[v0, v1] w fun e w' => e = .returned (.bool true) ∧ Below w.heap.size w w' := by
  obtain ⟨n0, rfl, hnn0⟩ := h0
  obtain ⟨n1, rfl, hnn1⟩ := h1
  go_enter Try.func6, Try.ntmps6
  go_wp2_with fail
  have HB := Below.refl w.heap.size w
  refine (sRepeatsNeededL n0 n1 _ hnn0 hnn1).mono ?_
  rintro e v1 ⟨rfl, b⟩
  have s1 := b.size
  replace HB := HB.trans (b.mono HB.size)
  clear b
  go_wp2_with fail
  refine (iRepeatsNeededL n0 n1 _ hnn0 hnn1).mono ?_
  rintro e v2 ⟨rfl, b⟩
  have s2 := b.size
  replace HB := HB.trans (b.mono HB.size)
  clear b
  have hne : ((RRep n0 n1) != (RRep n0 n1)) = false := by simp
  have hne2 : ((CRep n0 n1) != (CRep n0 n1)) = false := by simp
  generalize (RRep n0 n1) = rr at hne ⊢
  generalize (CRep n0 n1) = rc at hne2 ⊢
  go_wp2_with fail
  go_ret
  exact ⟨rfl, HB⟩

end Go.Proofs.Ytolpbflalbfhjaa
