/- The walk of the law FnExactFirstBadAction: the model and the program answer alike, no argument turns, the answer owns its memory. -/
import Derived.Deep.RegionHeld3
import Derived.Test.YtolpbflalbfhjaaCkl
import Derived.Test.YtolpbflalbfhjaaCkg
namespace Go.Proofs.Ytolpbflalbfhjaa
open Go.RowKit
set_option linter.unusedVariables false

set_option maxRecDepth 100000 in
set_option maxHeartbeats 6400000 in
theorem wFnExactFirstBadAction (v0 v1 v2 : Value) (w : World) (h0 : IsAcs w v0) (h1 : IsI64 w v1) (h2 : IsI64 w v2) :
    Calls Try.prog 8 #[v0, v1, v2] w fun e w' => e = .returned (.bool true) ∧ Below w.heap.size w w' := by
  obtain ⟨ar0, cr0, r0, rfl, hAr0, hMr0⟩ := h0
  unfold maxLen at hMr0
  obtain ⟨n0, rfl, hnn0⟩ := h1
  obtain ⟨n1, rfl, hnn1⟩ := h2
  by_cases hLr0 : r0.length ≤ 1048576
  rotate_left
  · have HZ := Lib.hid (szActionS_f ar0 r0.length cr0 1048576 w (by omega) (by omega) (by omega))
    clear hAr0
    go_enter Try.func8, Try.ntmps8
    go_wp2_with fail
    refine HZ.out.mono ?_; rintro e w1 ⟨rfl, rfl⟩
    go_wp2_with fail
    go_ret
    exact ⟨rfl, Below.refl _ _⟩
  have HZ := Lib.hid (szActionS_t ar0 r0.length cr0 1048576 w (by omega) (by omega))
  clear hMr0
  have hy : 0 ≤ 1048576 - (r0.length : Int) := by omega
  have hd : decide (1048576 - (r0.length : Int) < 0) = false := decide_eq_false (by omega)
  generalize 1048576 - (r0.length : Int) = lv at HZ hy hd
  go_enter Try.func8, Try.ntmps8
  go_wp2_with fail
  refine HZ.out.mono ?_; rintro e w1 ⟨rfl, rfl⟩
  clear HZ
  go_wp2_with fail
  clear hy hd
  have HB := Below.refl w.heap.size w
  refine (toActionS r0 ar0 cr0 _ ((hAr0.below HB).mono (Nat.le_refl _) HB.size) hLr0).mono ?_
  rintro e v1 ⟨gTr0, rfl, rTr0, wrTr0, b⟩
  have s1 := b.size
  replace HB := HB.trans (b.mono HB.size)
  clear b
  replace rTr0 := rTr0.mono (Nat.zero_le _) (Nat.le_refl _)
  clear wrTr0
  go_wp2_with fail
  refine (sFirstBadAction r0 _ _ n0 n1 _ rTr0 hLr0 hnn0 hnn1).mono ?_
  rintro e v2 ⟨rfl, b⟩
  have s2 := b.size
  replace HB := HB.trans (b.mono HB.size)
  replace rTr0 := rTr0.next b
  clear b
  clear rTr0
  go_wp2_with fail
  refine (toActionS r0 ar0 cr0 _ ((hAr0.below HB).mono (Nat.le_refl _) HB.size) hLr0).mono ?_
  rintro e v3 ⟨gXr0, rfl, rXr0, wrXr0, b⟩
  have s3 := b.size
  replace HB := HB.trans (b.mono HB.size)
  clear b
  replace rXr0 := rXr0.mono (Nat.zero_le _) (Nat.le_refl _)
  clear wrXr0
  go_wp2_with fail
  refine (iFirstBadAction r0 _ _ n0 n1 _ rXr0 hLr0 hnn0 hnn1).mono ?_
  rintro e v4 ⟨rfl, b⟩
  have s4 := b.size
  replace HB := HB.trans (b.mono HB.size)
  replace rXr0 := rXr0.next b
  clear b
  have hne : ((RFirstBad r0 n0 n1) != (RFirstBad r0 n0 n1)) = false := by simp
  have hne2 : ((CFirstBad r0 n0 n1) != (CFirstBad r0 n0 n1)) = false := by simp
  generalize (RFirstBad r0 n0 n1) = rr at hne ⊢
  generalize (CFirstBad r0 n0 n1) = rc at hne2 ⊢
  go_wp2_with fail
  refine (toActionS r0 ar0 cr0 _ ((hAr0.below HB).mono (Nat.le_refl _) HB.size) hLr0).mono ?_
  rintro e v5 ⟨gSr0, rfl, rSr0, wrSr0, b⟩
  have s5 := b.size
  replace HB := HB.trans (b.mono HB.size)
  replace rXr0 := rXr0.next b
  clear b
  replace rSr0 := rSr0.mono (Nat.zero_le _) (Nat.le_refl _)
  clear wrSr0
  go_wp2_with fail
  refine (eqActionS r0 _ _ _ _ _ rXr0 rSr0 (by omega)).mono ?_
  rintro e v6 ⟨rfl, b⟩
  have s6 := b.size
  replace HB := HB.trans (b.mono HB.size)
  replace rXr0 := rXr0.next b
  replace rSr0 := rSr0.next b
  clear b
  clear rSr0
  go_wp2_with fail
  go_ret
  exact ⟨rfl, HB⟩

end Go.Proofs.Ytolpbflalbfhjaa
