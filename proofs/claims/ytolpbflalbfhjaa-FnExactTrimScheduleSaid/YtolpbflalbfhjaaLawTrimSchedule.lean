/- The walk of the law FnExactTrimSchedule: the model and the program answer alike, no argument turns, the answer owns its memory. -/
import Derived.Deep.RegionHeld3
import Derived.Test.YtolpbflalbfhjaaCkq
import Derived.Test.YtolpbflalbfhjaaCkz
namespace Go.Proofs.Ytolpbflalbfhjaa
open Go.RowKit
set_option linter.unusedVariables false

set_option maxRecDepth 100000 in
set_option maxHeartbeats 6400000 in
theorem wFnExactTrimSchedule (v0 v1 v2 : Value) (w : World) (h0 : IsAcs w v0) (h1 : IsI64 w v1) (h2 : IsI64 w v2) :
    Calls Try.prog 11 #[v0, v1, v2] w fun e w' => e = .returned (.bool true) ∧ Below w.heap.size w w' := by
  obtain ⟨ar0, cr0, r0, rfl, hAr0, hMr0⟩ := h0
  unfold maxLen at hMr0
  obtain ⟨n0, rfl, hnn0⟩ := h1
  obtain ⟨n1, rfl, hnn1⟩ := h2
  by_cases hLr0 : r0.length ≤ 1048576
  rotate_left
  · have HZ := Lib.hid (szActionS_f ar0 r0.length cr0 1048576 w (by omega) (by omega) (by omega))
    clear hAr0
    go_enter Try.func11, Try.ntmps11
    go_wp2_with fail
    refine HZ.out.mono ?_; rintro e w1 ⟨rfl, rfl⟩
    go_wp2_with fail
    go_ret
    exact ⟨rfl, Below.refl _ _⟩
  have HZ := Lib.hid (szActionS_t ar0 r0.length cr0 1048576 w (by omega) (by omega))
  clear hMr0
  have hy : 0 ≤ 1048576 - (r0.length : Int) := by omega
  have hd : decide (1048576 - (r0.length : Int) < 0) = false := decide_eq_false (by omega)
  generalize 1048576 - (r0.length : Int) = lv at HZ hy hd
  go_enter Try.func11, Try.ntmps11
  go_wp2_with fail
  refine HZ.out.mono ?_; rintro e w1 ⟨rfl, rfl⟩
  clear HZ
  go_wp2_with fail
  clear hy hd
  have HB := Below.refl w.heap.size w
  refine (toActionS r0 ar0 cr0 _ ((hAr0.below HB).mono (Nat.le_refl _) HB.size) hLr0).mono ?_
  rintro e v1 ⟨gTr0, rfl, rTr0, wrTr0, b⟩
  have s1 := b.size
  replace HB := HB.trans (b.mono HB.size)
  clear b
  replace rTr0 := rTr0.mono (Nat.zero_le _) (Nat.le_refl _)
  clear wrTr0
  go_wp2_with fail
  refine (sTrimSchedule r0 _ _ n0 n1 _ rTr0 hLr0 hnn0 hnn1).mono ?_
  rintro e v2 ⟨gR, kR, rfl, oR, b⟩
  have s2 := b.size
  replace HB := HB.trans (b.mono HB.size)
  replace rTr0 := rTr0.next b
  clear b
  clear rTr0
  go_wp2_with fail
  have uR := Lib.hid (fun g hg => (oR.lt g hg).2)
  refine (toActionS r0 ar0 cr0 _ ((hAr0.below HB).mono (Nat.le_refl _) HB.size) hLr0).mono ?_
  rintro e v3 ⟨gXr0, rfl, rXr0, wrXr0, b⟩
  have s3 := b.size
  replace HB := HB.trans (b.mono HB.size)
  replace oR := oR.below b
  clear b
  replace rXr0 := rXr0.mono (Nat.zero_le _) (Nat.le_refl _)
  have lor0 := wrXr0.1
  go_wp2_with fail
  refine (iTrimSchedule r0 _ _ n0 n1 _ rXr0 hLr0 hnn0 hnn1).mono ?_
  rintro e v4 ⟨gQ, kQ, rfl, oQ, b⟩
  have s4 := b.size
  replace HB := HB.trans (b.mono HB.size)
  replace oR := oR.below b
  replace rXr0 := rXr0.next b
  replace wrXr0 := wrXr0.below (b.mono (by omega))
  clear b
  have hne2 : ((CTrimSchedule r0 n0 n1) != (CTrimSchedule r0 n0 n1)) = false := by simp
  have hRl : (RTrimSchedule r0 n0 n1).length ≤ 1048576 := RTrimSchedule_len r0 n0 n1 hLr0
  go_wp2_with fail
  refine (eqActionS (RTrimSchedule r0 n0 n1) _ _ _ _ _ oQ.at oR.at (by omega)).mono ?_
  rintro e v5 ⟨rfl, b⟩
  have s5 := b.size
  replace HB := HB.trans (b.mono HB.size)
  replace oR := oR.below b
  replace rXr0 := rXr0.next b
  replace wrXr0 := wrXr0.below (b.mono (by omega))
  replace oQ := oQ.below b
  clear b
  go_wp2_with fail
  refine (toActionS r0 ar0 cr0 _ ((hAr0.below HB).mono (Nat.le_refl _) HB.size) hLr0).mono ?_
  rintro e v6 ⟨gSr0, rfl, rSr0, wrSr0, b⟩
  have s6 := b.size
  replace HB := HB.trans (b.mono HB.size)
  replace oR := oR.below b
  replace rXr0 := rXr0.next b
  replace wrXr0 := wrXr0.below (b.mono (by omega))
  replace oQ := oQ.below b
  clear b
  replace rSr0 := rSr0.mono (Nat.zero_le _) (Nat.le_refl _)
  clear wrSr0
  go_wp2_with fail
  refine (eqActionS r0 _ _ _ _ _ rXr0 rSr0 (by omega)).mono ?_
  rintro e v7 ⟨rfl, b⟩
  have s7 := b.size
  replace HB := HB.trans (b.mono HB.size)
  replace oR := oR.below b
  replace rXr0 := rXr0.next b
  replace wrXr0 := wrXr0.below (b.mono (by omega))
  replace oQ := oQ.below b
  replace rSr0 := rSr0.next b
  clear b
  clear rSr0
  go_wp2_with fail
  refine (markActionAt _ _ r0.length _ _ (1) (1) _ (by omega) wrXr0 (by omega) (by omega)).mono ?_
  rintro e v8 ⟨rfl, Tm, hg, _⟩
  have HS := HB.size
  have sT := Tm.size
  replace HB := HB.grown hg HB.size (fun g hg => by simp only [Option.some.injEq] at hg; omega)
  replace oR := oR.keptBy hg (fun g h1 h2 => by simp only [Option.some.injEq] at h2; have e1 := uR.out g h1; omega)
  replace oQ := oQ.keptBy hg (fun g h1 h2 => by simp only [Option.some.injEq] at h2; have e1 := (oQ.lt g h1).1; omega)
  clear hg Tm HS lor0
  clear wrXr0 rXr0
  go_wp2_with fail
  refine (eqActionS (RTrimSchedule r0 n0 n1) _ _ _ _ _ oQ.at oR.at (by omega)).mono ?_
  rintro e v9 ⟨rfl, b⟩
  have s9 := b.size
  replace HB := HB.trans (b.mono HB.size)
  replace oR := oR.below b
  replace oQ := oQ.below b
  clear b
  go_wp2_with fail
  refine (markOAt _ _ _ (RTrimSchedule r0 n0 n1) 1 1 _ (by omega) oQ (by omega) (by omega)).mono ?_
  rintro e v10 ⟨rfl, om, hg⟩
  have HS := HB.size
  replace HB := HB.grown hg HB.size (fun g hg => by have e1 := (oQ.lt g hg).1; omega)
  replace oR := oR.keptBy hg (fun g h1 h2 => by have e1 := uR.out g h1; have e2 := (oQ.lt g h2).1; omega)
  clear hg HS oQ
  have oQ := om
  clear om
  go_wp2_with fail
  refine (heldOAt _ _ _ (RTrimSchedule r0 n0 n1).length 1 1 _ (by omega) oQ (by omega) (by omega)).mono ?_
  rintro e w' ⟨rfl, rfl⟩
  go_wp2_with fail
  refine (toActionS r0 ar0 cr0 _ ((hAr0.below HB).mono (Nat.le_refl _) HB.size) hLr0).mono ?_
  rintro e v11 ⟨gUr0, rfl, rUr0, wrUr0, b⟩
  have s11 := b.size
  replace HB := HB.trans (b.mono HB.size)
  replace oR := oR.below b
  replace oQ := oQ.below b
  clear b
  replace rUr0 := rUr0.mono (Nat.zero_le _) (Nat.le_refl _)
  clear wrUr0
  go_wp2_with fail
  refine (iTrimSchedule r0 _ _ n0 n1 _ rUr0 hLr0 hnn0 hnn1).mono ?_
  rintro e v12 ⟨gH, kH, rfl, oH, b⟩
  have s12 := b.size
  replace HB := HB.trans (b.mono HB.size)
  replace oR := oR.below b
  replace oQ := oQ.below b
  replace rUr0 := rUr0.next b
  clear b
  clear rUr0
  go_wp2_with fail
  refine (eqActionS (RTrimSchedule r0 n0 n1) _ _ _ _ _ oH.at oR.at (by omega)).mono ?_
  rintro e v13 ⟨rfl, b⟩
  have s13 := b.size
  replace HB := HB.trans (b.mono HB.size)
  replace oR := oR.below b
  replace oQ := oQ.below b
  replace oH := oH.below b
  clear b
  go_wp2_with fail
  refine (heldOAt _ _ _ (RTrimSchedule r0 n0 n1).length 1 1 _ (by omega) oQ (by omega) (by omega)).mono ?_
  rintro e w' ⟨rfl, rfl⟩
  go_wp2_with fail
  go_ret
  exact ⟨rfl, HB⟩

end Go.Proofs.Ytolpbflalbfhjaa
