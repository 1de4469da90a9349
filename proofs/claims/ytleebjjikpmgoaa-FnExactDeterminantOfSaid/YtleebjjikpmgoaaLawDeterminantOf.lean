/- The walk of the law FnExactDeterminantOf: the model and the program answer alike, no argument turns. -/
import Derived.Deep.RegionHeld3
import Derived.Test.YtleebjjikpmgoaaMxm
namespace Go.Proofs.Ytleebjjikpmgoaa
open Go.RowKit
set_option linter.unusedVariables false

set_option maxRecDepth 100000 in
set_option maxHeartbeats 6400000 in
theorem wFnExactDeterminantOf (v0 : Value) (w : World) (h0 : IsMat w v0) :
    Calls Try.prog 9 #[v0] w fun e w' => e = .returned (.bool true) ∧ Below w.heap.size w w' := by
  obtain ⟨a, cap, ls, rfl, hA, hR, hM, hL⟩ := h0
  have HZ := Lib.hid (szMat a cap ls 1048576 w hA hM hL (by omega) (by omega))
  by_cases hs : mSz ls ≤ 1048576
  rotate_left
  · have e : mzR ls 1048576 = -1 := by unfold mzR; rw [if_neg (by omega)]
    rw [e] at HZ
    clear hA e hs hL hR
    go_enter Try.func9, Try.ntmps9
    go_wp2_with fail
    refine HZ.out.mono ?_; rintro e w1 ⟨rfl, rfl⟩
    go_wp2_with fail
    go_ret
    exact ⟨rfl, Below.refl _ _⟩
  · have hy : 0 ≤ mzR ls 1048576 := by unfold mzR; rw [if_pos (by omega)]; omega
    have hd : decide (mzR ls 1048576 < 0) = false := decide_eq_false (by omega)
    have hll : ls.length ≤ 1048576 := by unfold mSz at hs; omega
    generalize mzR ls 1048576 = lv at *
    clear hL hR hM
    go_enter Try.func9, Try.ntmps9
    go_wp2_with fail
    refine HZ.out.mono ?_; rintro e w1 ⟨rfl, rfl⟩
    clear HZ
    go_wp2_with fail
    clear hy hd
    refine (toMat a cap ls _ hA hs).mono ?_; rintro e v1 ⟨g1, rfl, ⟨R1, K1, m1⟩, b⟩
    have HB := b
    clear b
    go_wp2_with fail
    refine (sDeterminantOf _ _ ls _ (m1.mat rfl) hs).mono ?_; rintro e v2 ⟨rfl, b⟩
    have s1 := HB.size
    replace HB := HB.trans (b.mono HB.size)
    clear b m1
    go_wp2_with fail
    refine (toMat a cap ls _ (hA.below HB (Nat.le_refl _)) hs).mono ?_; rintro e v3 ⟨g3, rfl, ⟨R3, K3, m3⟩, b⟩
    replace HB := HB.trans (b.mono HB.size)
    clear b
    have x3 := m3.mat rfl
    clear m3
    go_wp2_with fail
    refine (iDeterminantOf _ _ ls _ x3 hs).mono ?_; rintro e v4 ⟨rfl, b⟩
    replace HB := HB.trans (b.mono HB.size)
    have x4 := x3.below b (Nat.le_refl _)
    clear b x3
    have hne : (dtR ls != dtR ls) = false := by simp
    have hne2 : (dtC ls != dtC ls) = false := by simp
    generalize dtR ls = rr at hne ⊢
    generalize dtC ls = rc at hne2 ⊢
    go_wp2_with fail
    refine (toMat a cap ls _ (hA.below HB (Nat.le_refl _)) hs).mono ?_; rintro e v5 ⟨g5, rfl, ⟨R5, K5, m5⟩, b⟩
    replace HB := HB.trans (b.mono HB.size)
    have x5 := x4.below b (Nat.le_refl _)
    clear b x4
    go_wp2_with fail
    refine (eqMat _ _ _ _ ls _ x5 (m5.mat rfl) hs).mono ?_; rintro e v6 ⟨rfl, b⟩
    replace HB := HB.trans (b.mono HB.size)
    clear b x5 m5
    go_wp2_with fail
    go_ret
    exact ⟨rfl, HB⟩

end Go.Proofs.Ytleebjjikpmgoaa
