/- MulSeries, by the model and by the program. -/
import Derived.Test.YtegjlfbklcgapaaMulR
namespace Go.Proofs.Ytegjlfbklcgapaa
open Go.RowKit
set_option linter.unusedVariables false

set_option maxRecDepth 100000 in
set_option maxHeartbeats 1600000 in
theorem icombine1 (a b : Option Addr) (ca cb : Nat) (l m : List Int) (w : World) (ha : At w a l) (hb : At w b m) (hr : Rng l) (hr2 : Rng m) (hl : l.length ≤ 1048576) (hm : m.length ≤ 1048576) :
    Calls Try.prog 81 #[.int .i64 1, .slice a l.length ca, .slice b m.length cb] w (Res2 w (allMul l m) (alcMul l m)) := by
  rcases two_cases l m with ⟨h0, h1, h2, h3⟩ | ⟨h0, h1⟩ | ⟨h0, h1, h2, h3⟩
  · have hlm : Hid (m.length = l.length) := h3.symm
    have hif := Lib.hid (show resMul l m = allMul l m by unfold allMul ifTwo; rw [if_pos h0])
    have hic := Lib.hid (show codMul l m = alcMul l m by unfold alcMul; rw [if_pos h0])
    have H1 := Lib.hid h1
    have H2 := Lib.hid h2
    have hq : ((l.length : Int) != (m.length : Int)) = false := by rw [h3]; simp
    clear h0 h1 h2 h3
    go_enter Try.func81, Try.ntmps81
    go_wp2_with fail
    refine (iValid a ca l _ ha (by omega)).mono ?_; rintro e w' ⟨rfl, rfl⟩
    rw [H1.out]
    go_wp2_with fail
    refine (iValid b cb m _ hb (by omega)).mono ?_; rintro e w' ⟨rfl, rfl⟩
    rw [H2.out]
    go_wp2_with fail
    refine (iMulR a b ca cb l m _ (by exact ha.alloc _) (by exact hb.alloc _) H1 H2 hlm).mono ?_; rintro e w1 ⟨g, cap, rfl, ho, hbel⟩
    go_wp2_with fail
    go_ret2
    rw [← hif.out, ← hic.out]
    exact res2_alloc ⟨g, cap, rfl, ho, hbel⟩
  · have hif := Lib.hid (show ([] : List Int) = allMul l m by unfold allMul ifTwo; rw [if_neg (by omega)])
    have hic := Lib.hid (show (1 : Int) = alcMul l m by unfold alcMul; rw [if_neg (by omega), h0])
    clear h0
    rcases h1 with h1 | ⟨h1, h2⟩
    · have H1 := Lib.hid h1
      clear h1
      go_enter Try.func81, Try.ntmps81
      go_wp2_with fail
      refine (iValid a ca l _ ha (by omega)).mono ?_; rintro e w' ⟨rfl, rfl⟩
      rw [H1.out]
      go_wp2_with fail
      go_ret2
      rw [← hif.out, ← hic.out]
      exact ⟨none, 0, rfl, .inl rfl, Below.refl _ _⟩
    · have H1 := Lib.hid h1
      have H2 := Lib.hid h2
      clear h1 h2
      go_enter Try.func81, Try.ntmps81
      go_wp2_with fail
      refine (iValid a ca l _ ha (by omega)).mono ?_; rintro e w' ⟨rfl, rfl⟩
      rw [H1.out]
      go_wp2_with fail
      refine (iValid b cb m _ hb (by omega)).mono ?_; rintro e w' ⟨rfl, rfl⟩
      rw [H2.out]
      go_wp2_with fail
      go_ret2
      rw [← hif.out, ← hic.out]
      exact ⟨none, 0, rfl, .inl rfl, Below.refl _ _⟩
  · have hif := Lib.hid (show ([] : List Int) = allMul l m by unfold allMul ifTwo; rw [if_neg (by omega)])
    have hic := Lib.hid (show (2 : Int) = alcMul l m by unfold alcMul; rw [if_neg (by omega), h0])
    have H1 := Lib.hid h1
    have H2 := Lib.hid h2
    have hq : ((l.length : Int) != (m.length : Int)) = true := by rw [bne_iff_ne]; omega
    clear h0 h1 h2 h3
    go_enter Try.func81, Try.ntmps81
    go_wp2_with fail
    refine (iValid a ca l _ ha (by omega)).mono ?_; rintro e w' ⟨rfl, rfl⟩
    rw [H1.out]
    go_wp2_with fail
    refine (iValid b cb m _ hb (by omega)).mono ?_; rintro e w' ⟨rfl, rfl⟩
    rw [H2.out]
    go_wp2_with fail
    go_ret2
    rw [← hif.out, ← hic.out]
    exact ⟨none, 0, rfl, .inl rfl, Below.refl _ _⟩

set_option maxHeartbeats 800000 in
theorem iMulSeries (a b : Option Addr) (ca cb : Nat) (l m : List Int) (w : World) (ha : At w a l) (hb : At w b m) (hr : Rng l) (hr2 : Rng m) (hl : l.length ≤ 1048576) (hm : m.length ≤ 1048576) :
    Calls Try.prog 35 #[.slice a l.length ca, .slice b m.length cb] w (Res2 w (allMul l m) (alcMul l m)) := by
  go_enter Try.func35, Try.ntmps35
  go_wp2_with fail
  refine (icombine1 a b ca cb l m _ ha hb hr hr2 hl hm).mono ?_; rintro e w1 ⟨g, cap, rfl, ho, hbel⟩
  go_wp2_with fail
  go_ret2
  exact ⟨g, cap, rfl, ho, hbel⟩

theorem resLen_MulSeries (l m : List Int) (hl : l.length ≤ 1048576) (_ : m.length ≤ 1048576) : (allMul l m).length ≤ 1048576 := ifTwo_len (Nat.le_trans (resMul_len l m) hl)

end Go.Proofs.Ytegjlfbklcgapaa
