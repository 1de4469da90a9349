/- The walk of the law FnExactRunSchedule: the model and the program answer alike, no argument turns, the answer owns its memory. -/
import Derived.Deep.RegionHeld3
import Derived.Test.YtolpbflalbfhjaaCkq
import Derived.Test.YtolpbflalbfhjaaCky
namespace Go.Proofs.Ytolpbflalbfhjaa
open Go.RowKit
set_option linter.unusedVariables false

set_option maxRecDepth 100000 in
set_option maxHeartbeats 6400000 in
theorem wFnExactRunSchedule (v0 v1 v2 : Value) (w : World) (h0 : IsAcs w v0) (h1 : IsI64s w v1) (h2 : IsI64 w v2) :
    Calls Try.prog 10 #[v0, v1, v2] w fun e w' => e = .returned (.bool true) ∧ Below w.heap.size w w' := by
  obtain ⟨ar0, cr0, r0, rfl, hAr0, hMr0⟩ := h0
  unfold maxLen at hMr0
  obtain ⟨al0, cl0, l0, rfl, hAl0, hRl0, hMl0⟩ := h1
  obtain ⟨n0, rfl, hnn0⟩ := h2
  by_cases hbigl0 : 1048576 < l0.length
  · go_enter Try.func10, Try.ntmps10
    go_wp2_with fail
    go_ret
    exact ⟨rfl, Below.refl _ _⟩
  have hLl0 : l0.length ≤ 1048576 := by omega
  clear hbigl0 hMl0
  by_cases hLr0 : r0.length ≤ 1048576
  rotate_left
  · have HZ := Lib.hid (szActionS_f ar0 r0.length cr0 1048576 w (by omega) (by omega) (by omega))
    clear hAr0
    go_enter Try.func10, Try.ntmps10
    go_wp2_with fail
    refine HZ.out.mono ?_; rintro e w1 ⟨rfl, rfl⟩
    go_wp2_with fail
    go_ret
    exact ⟨rfl, Below.refl _ _⟩
  have HZ := Lib.hid (szActionS_t ar0 r0.length cr0 1048576 w (by omega) (by omega))
  clear hMr0
  have hy : 0 ≤ 1048576 - (r0.length : Int) := by omega
  have hd : decide (1048576 - (r0.length : Int) < 0) = false := decide_eq_false (by omega)
  generalize 1048576 - (r0.length : Int) = lv at HZ hy hd
  go_enter Try.func10, Try.ntmps10
  go_wp2_with fail
  refine HZ.out.mono ?_; rintro e w1 ⟨rfl, rfl⟩
  clear HZ
  go_wp2_with fail
  clear hy hd
  have HB := Below.refl w.heap.size w
  refine (toActionS r0 ar0 cr0 _ ((hAr0.below HB).mono (Nat.le_refl _) HB.size) hLr0).mono ?_
  rintro e v1 ⟨gTr0, rfl, rTr0, wrTr0, b⟩
  have s1 := b.size
  replace HB := HB.trans (b.mono HB.size)
  clear b
  replace rTr0 := rTr0.mono (Nat.zero_le _) (Nat.le_refl _)
  clear wrTr0
  go_wp2_with fail
  refine (toInt64S al0 cl0 l0 _ (hAl0.below HB (Nat.le_refl _)) hLl0).mono ?_
  rintro e v2 ⟨gTl0, kTl0, rfl, oTl0, b⟩
  have s2 := b.size
  replace HB := HB.trans (b.mono HB.size)
  replace rTr0 := rTr0.next b
  clear b
  replace oTl0 := oTl0.a
  go_wp2_with fail
  refine (sRunSchedule r0 _ _ l0 _ _ n0 _ rTr0 hLr0 (oTl0.at) hRl0 hLl0 hnn0).mono ?_
  rintro e v3 ⟨rfl, b⟩
  have s3 := b.size
  replace HB := HB.trans (b.mono HB.size)
  replace rTr0 := rTr0.next b
  replace oTl0 := oTl0.below b
  clear b
  clear rTr0 oTl0
  go_wp2_with fail
  obtain ⟨v4, hvb⟩ : ∃ vb, vb = v3.alloc (.cells #[.int .i64 (URun r0 l0 n0).cost, .int .i64 (URun r0 l0 n0).adv, .int .i64 (URun r0 l0 n0).st, .int .i64 (URun r0 l0 n0).ld, .int .i64 ((URun r0 l0 n0).into.length : Int)] 43) := ⟨_, rfl⟩
  have b : Below v3.heap.size v3 v4 := by rw [hvb]; exact (Below.refl _ _).alloc (Nat.le_refl _) _
  have ru : UAt v4 v3.heap.size (URun r0 l0 n0).cost (URun r0 l0 n0).adv (URun r0 l0 n0).st (URun r0 l0 n0).ld ((URun r0 l0 n0).into.length : Int) := by rw [hvb]; exact uat_box _ _ _ _ _ _ _
  have hub : v3.heap.size < v4.heap.size := by rw [hvb]; simp
  rw [← hvb]
  clear hvb
  have s4 := b.size
  replace HB := HB.trans (b.mono HB.size)
  clear b
  refine (toActionS r0 ar0 cr0 _ ((hAr0.below HB).mono (Nat.le_refl _) HB.size) hLr0).mono ?_
  rintro e v5 ⟨gXr0, rfl, rXr0, wrXr0, b⟩
  have s5 := b.size
  replace HB := HB.trans (b.mono HB.size)
  replace ru := ru.next b
  clear b
  replace rXr0 := rXr0.mono (Nat.zero_le _) (Nat.le_refl _)
  clear wrXr0
  go_wp2_with fail
  refine (toInt64S al0 cl0 l0 _ (hAl0.below HB (Nat.le_refl _)) hLl0).mono ?_
  rintro e v6 ⟨gXl0, kXl0, rfl, oXl0, b⟩
  have s6 := b.size
  replace HB := HB.trans (b.mono HB.size)
  replace ru := ru.next b
  replace rXr0 := rXr0.next b
  clear b
  replace oXl0 := oXl0.a
  go_wp2_with fail
  refine (iRunSchedule r0 _ _ l0 _ _ n0 _ rXr0 hLr0 (oXl0.at) hRl0 hLl0 hnn0).mono ?_
  rintro e v7 ⟨rfl, b⟩
  have s7 := b.size
  replace HB := HB.trans (b.mono HB.size)
  replace ru := ru.next b
  replace rXr0 := rXr0.next b
  replace oXl0 := oXl0.below b
  clear b
  have hne2 : ((CRunSchedule r0 l0 n0) != (CRunSchedule r0 l0 n0)) = false := by simp
  obtain ⟨p0, p1, p2, p3, p4, _, _, _, _, _, ult⟩ := ru
  go_wp2_with fail
  refine (eqUs (URun r0 l0 n0).cost (URun r0 l0 n0).adv (URun r0 l0 n0).st (URun r0 l0 n0).ld ((URun r0 l0 n0).into.length : Int) _).mono ?_
  rintro e v8 ⟨rfl, b'⟩
  have b := ((Below.refl v7.heap.size v7).alloc (Nat.le_refl _) _).trans (b'.mono (by simp))
  clear b' p0 p1 p2 p3 p4 ult
  have s8 := b.size
  replace HB := HB.trans (b.mono HB.size)
  replace rXr0 := rXr0.next b
  replace oXl0 := oXl0.below b
  clear b
  go_wp2_with fail
  refine (toActionS r0 ar0 cr0 _ ((hAr0.below HB).mono (Nat.le_refl _) HB.size) hLr0).mono ?_
  rintro e v9 ⟨gSr0, rfl, rSr0, wrSr0, b⟩
  have s9 := b.size
  replace HB := HB.trans (b.mono HB.size)
  replace rXr0 := rXr0.next b
  replace oXl0 := oXl0.below b
  clear b
  replace rSr0 := rSr0.mono (Nat.zero_le _) (Nat.le_refl _)
  clear wrSr0
  go_wp2_with fail
  refine (eqActionS r0 _ _ _ _ _ rXr0 rSr0 (by omega)).mono ?_
  rintro e v10 ⟨rfl, b⟩
  have s10 := b.size
  replace HB := HB.trans (b.mono HB.size)
  replace rXr0 := rXr0.next b
  replace oXl0 := oXl0.below b
  replace rSr0 := rSr0.next b
  clear b
  clear rSr0
  go_wp2_with fail
  refine (toInt64S al0 cl0 l0 _ (hAl0.below HB (Nat.le_refl _)) hLl0).mono ?_
  rintro e v11 ⟨gSl0, kSl0, rfl, oSl0, b⟩
  have s11 := b.size
  replace HB := HB.trans (b.mono HB.size)
  replace rXr0 := rXr0.next b
  replace oXl0 := oXl0.below b
  clear b
  replace oSl0 := oSl0.a
  go_wp2_with fail
  refine (eqInt64S _ _ _ _ l0 _ oXl0.at oSl0.at (by omega)).mono ?_
  rintro e v12 ⟨rfl, b⟩
  have s12 := b.size
  replace HB := HB.trans (b.mono HB.size)
  replace rXr0 := rXr0.next b
  replace oXl0 := oXl0.below b
  replace oSl0 := oSl0.below b
  clear b
  clear oSl0
  go_wp2_with fail
  go_ret
  exact ⟨rfl, HB⟩

end Go.Proofs.Ytolpbflalbfhjaa
