/- ComposeSeries, by the model and by the program. -/
import Derived.Test.YtegjlfbklcgapaaCmpI
namespace Go.Proofs.Ytegjlfbklcgapaa
open Go.RowKit
set_option linter.unusedVariables false

set_option maxRecDepth 100000 in
set_option maxHeartbeats 1600000 in
theorem icombine3 (a b : Option Addr) (ca cb : Nat) (l m : List Int) (w : World) (ha : At w a l) (hb : At w b m) (hr : Rng l) (hr2 : Rng m) (hl : l.length ≤ 1048576) (hm : m.length ≤ 1048576) :
    Calls Try.prog 81 #[.int .i64 3, .slice a l.length ca, .slice b m.length cb] w (Res2 w (allCompose l m) (alcCompose l m)) := by
  rcases two_cases l m with ⟨h0, h1, h2, h3⟩ | ⟨h0, h1⟩ | ⟨h0, h1, h2, h3⟩
  · have hlm : Hid (m.length = l.length) := h3.symm
    have hif := Lib.hid (show resCompose l m = allCompose l m by unfold allCompose ifTwo; rw [if_pos h0])
    have hic := Lib.hid (show codCompose l m = alcCompose l m by unfold alcCompose; rw [if_pos h0])
    have H1 := Lib.hid h1
    have H2 := Lib.hid h2
    have hq : ((l.length : Int) != (m.length : Int)) = false := by rw [h3]; simp
    clear h0 h1 h2 h3
    go_enter Try.func81, Try.ntmps81
    go_wp2_with fail
    refine (iValid a ca l _ ha (by omega)).mono ?_; rintro e w' ⟨rfl, rfl⟩
    rw [H1.out]
    go_wp2_with fail
    refine (iValid b cb m _ hb (by omega)).mono ?_; rintro e w' ⟨rfl, rfl⟩
    rw [H2.out]
    go_wp2_with fail
    refine (iComposeR a b ca cb l m _ (by exact ha.alloc _) (by exact hb.alloc _) H1 H2 hlm).mono ?_; rintro e w1 ⟨g, cap, rfl, ho, hbel⟩
    go_wp2_with fail
    go_ret2
    rw [← hif.out, ← hic.out]
    exact res2_alloc ⟨g, cap, rfl, ho, hbel⟩
  · have hif := Lib.hid (show ([] : List Int) = allCompose l m by unfold allCompose ifTwo; rw [if_neg (by omega)])
    have hic := Lib.hid (show (1 : Int) = alcCompose l m by unfold alcCompose; rw [if_neg (by omega), h0])
    clear h0
    rcases h1 with h1 | ⟨h1, h2⟩
    · have H1 := Lib.hid h1
      clear h1
      go_enter Try.func81, Try.ntmps81
      go_wp2_with fail
      refine (iValid a ca l _ ha (by omega)).mono ?_; rintro e w' ⟨rfl, rfl⟩
      rw [H1.out]
      go_wp2_with fail
      go_ret2
      rw [← hif.out, ← hic.out]
      exact ⟨none, 0, rfl, .inl rfl, Below.refl _ _⟩
    · have H1 := Lib.hid h1
      have H2 := Lib.hid h2
      clear h1 h2
      go_enter Try.func81, Try.ntmps81
      go_wp2_with fail
      refine (iValid a ca l _ ha (by omega)).mono ?_; rintro e w' ⟨rfl, rfl⟩
      rw [H1.out]
      go_wp2_with fail
      refine (iValid b cb m _ hb (by omega)).mono ?_; rintro e w' ⟨rfl, rfl⟩
      rw [H2.out]
      go_wp2_with fail
      go_ret2
      rw [← hif.out, ← hic.out]
      exact ⟨none, 0, rfl, .inl rfl, Below.refl _ _⟩
  · have hif := Lib.hid (show ([] : List Int) = allCompose l m by unfold allCompose ifTwo; rw [if_neg (by omega)])
    have hic := Lib.hid (show (2 : Int) = alcCompose l m by unfold alcCompose; rw [if_neg (by omega), h0])
    have H1 := Lib.hid h1
    have H2 := Lib.hid h2
    have hq : ((l.length : Int) != (m.length : Int)) = true := by rw [bne_iff_ne]; omega
    clear h0 h1 h2 h3
    go_enter Try.func81, Try.ntmps81
    go_wp2_with fail
    refine (iValid a ca l _ ha (by omega)).mono ?_; rintro e w' ⟨rfl, rfl⟩
    rw [H1.out]
    go_wp2_with fail
    refine (iValid b cb m _ hb (by omega)).mono ?_; rintro e w' ⟨rfl, rfl⟩
    rw [H2.out]
    go_wp2_with fail
    go_ret2
    rw [← hif.out, ← hic.out]
    exact ⟨none, 0, rfl, .inl rfl, Below.refl _ _⟩

set_option maxHeartbeats 800000 in
theorem iComposeSeries (a b : Option Addr) (ca cb : Nat) (l m : List Int) (w : World) (ha : At w a l) (hb : At w b m) (hr : Rng l) (hr2 : Rng m) (hl : l.length ≤ 1048576) (hm : m.length ≤ 1048576) :
    Calls Try.prog 39 #[.slice a l.length ca, .slice b m.length cb] w (Res2 w (allCompose l m) (alcCompose l m)) := by
  go_enter Try.func39, Try.ntmps39
  go_wp2_with fail
  refine (icombine3 a b ca cb l m _ ha hb hr hr2 hl hm).mono ?_; rintro e w1 ⟨g, cap, rfl, ho, hbel⟩
  go_wp2_with fail
  go_ret2
  exact ⟨g, cap, rfl, ho, hbel⟩

theorem resLen_ComposeSeries (l m : List Int) (hl : l.length ≤ 1048576) (_ : m.length ≤ 1048576) : (allCompose l m).length ≤ 1048576 := ifTwo_len (Nat.le_trans (resCompose_len l m) hl)

end Go.Proofs.Ytegjlfbklcgapaa
