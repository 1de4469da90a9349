/- The walk of the law FnExactSplitOf: the model and the program answer alike, no argument turns, the answer owns its memory. -/
import Derived.Deep.RegionHeld3
import Derived.Test.YtleebjjikpmgoaaCkq
import Derived.Test.YtleebjjikpmgoaaCli
namespace Go.Proofs.Ytleebjjikpmgoaa
open Go.RowKit
set_option linter.unusedVariables false

set_option maxRecDepth 100000 in
set_option maxHeartbeats 6400000 in
theorem wFnExactSplitOf (v0 v1 : Value) (w : World) (h0 : IsI64s w v0) (h1 : IsI64 w v1) :
    Calls Try.prog 5 #[v0, v1] w fun e w' => e = .returned (.bool true) ∧ Below w.heap.size w w' := by
  obtain ⟨al0, cl0, l0, rfl, hAl0, hRl0, hMl0⟩ := h0
  obtain ⟨n0, rfl, hnn0⟩ := h1
  by_cases hbigl0 : 1048576 < l0.length
  · go_enter Try.func5, Try.ntmps5
    go_wp2_with fail
    go_ret
    exact ⟨rfl, Below.refl _ _⟩
  have hLl0 : l0.length ≤ 1048576 := by omega
  clear hbigl0 hMl0
  go_enter Try.func5, Try.ntmps5
  go_wp2_with fail
  have HB := Below.refl w.heap.size w
  refine (toInt64S al0 cl0 l0 _ (hAl0.below HB (Nat.le_refl _)) hLl0).mono ?_
  rintro e v1 ⟨gTl0, kTl0, rfl, oTl0, b⟩
  have s1 := b.size
  replace HB := HB.trans (b.mono HB.size)
  clear b
  replace oTl0 := oTl0.a
  go_wp2_with fail
  refine (sSplitOf l0 _ _ n0 _ (oTl0.at) hRl0 hLl0 hnn0).mono ?_
  rintro e v2 ⟨rfl, b⟩
  have s2 := b.size
  replace HB := HB.trans (b.mono HB.size)
  replace oTl0 := oTl0.below b
  clear b
  clear oTl0
  go_wp2_with fail
  refine (toInt64S al0 cl0 l0 _ (hAl0.below HB (Nat.le_refl _)) hLl0).mono ?_
  rintro e v3 ⟨gXl0, kXl0, rfl, oXl0, b⟩
  have s3 := b.size
  replace HB := HB.trans (b.mono HB.size)
  clear b
  replace oXl0 := oXl0.a
  go_wp2_with fail
  refine (iSplitOf l0 _ _ n0 _ (oXl0.at) hRl0 hLl0 hnn0).mono ?_
  rintro e v4 ⟨rfl, b⟩
  have s4 := b.size
  replace HB := HB.trans (b.mono HB.size)
  replace oXl0 := oXl0.below b
  clear b
  have hne : ((soR l0 n0) != (soR l0 n0)) = false := by simp
  have hne2 : ((soC l0 n0) != (soC l0 n0)) = false := by simp
  generalize (soR l0 n0) = rr at hne ⊢
  generalize (soC l0 n0) = rc at hne2 ⊢
  go_wp2_with fail
  refine (toInt64S al0 cl0 l0 _ (hAl0.below HB (Nat.le_refl _)) hLl0).mono ?_
  rintro e v5 ⟨gSl0, kSl0, rfl, oSl0, b⟩
  have s5 := b.size
  replace HB := HB.trans (b.mono HB.size)
  replace oXl0 := oXl0.below b
  clear b
  replace oSl0 := oSl0.a
  go_wp2_with fail
  refine (eqInt64S _ _ _ _ l0 _ oXl0.at oSl0.at (by omega)).mono ?_
  rintro e v6 ⟨rfl, b⟩
  have s6 := b.size
  replace HB := HB.trans (b.mono HB.size)
  replace oXl0 := oXl0.below b
  replace oSl0 := oSl0.below b
  clear b
  clear oSl0
  go_wp2_with fail
  go_ret
  exact ⟨rfl, HB⟩

end Go.Proofs.Ytleebjjikpmgoaa
