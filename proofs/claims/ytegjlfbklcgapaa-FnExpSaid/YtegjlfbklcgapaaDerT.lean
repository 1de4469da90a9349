/- DerivativeOf, by the program. -/
import Derived.Test.YtegjlfbklcgapaaDerP
namespace Go.Proofs.Ytegjlfbklcgapaa
open Go.RowKit
set_option linter.unusedVariables false

set_option maxRecDepth 100000 in
set_option maxHeartbeats 1600000 in
theorem itransform1 (a : Option Addr) (ca : Nat) (l : List Int) (w : World) (ha : At w a l) (hl : l.length ≤ 1048576) :
    Calls Try.prog 82 #[.int .i64 1, .slice a l.length ca] w (Res2 w (allDerivativeOf l) (alcDerivativeOf l)) := by
  cases h1 : okS l with
  | true =>
    have hif := Lib.hid (show resDerivativeOf l = allDerivativeOf l by unfold allDerivativeOf; rw [if_pos h1])
    have hic := Lib.hid (show codDerivativeOf l = alcDerivativeOf l by unfold alcDerivativeOf; rw [if_pos h1])
    have H1 := Lib.hid h1
    clear h1
    go_enter Try.func82, Try.ntmps82
    go_wp2_with fail
    refine (iValid a ca l _ ha (by omega)).mono ?_; rintro e w' ⟨rfl, rfl⟩
    rw [H1.out]
    go_wp2_with fail
    refine (iDerivativeOfR a ca l _ (by exact ha.alloc _) H1).mono ?_; rintro e w1 ⟨g, cap, rfl, ho, hbel⟩
    go_wp2_with fail
    go_ret2
    rw [← hif.out, ← hic.out]
    exact res2_alloc ⟨g, cap, rfl, ho, hbel⟩
  | false =>
    have hif := Lib.hid (show ([] : List Int) = allDerivativeOf l by unfold allDerivativeOf; rw [if_neg (by rw [h1]; simp)])
    have hic := Lib.hid (show (1 : Int) = alcDerivativeOf l by unfold alcDerivativeOf; rw [if_neg (by rw [h1]; simp)])
    have H1 := Lib.hid h1
    clear h1
    go_enter Try.func82, Try.ntmps82
    go_wp2_with fail
    refine (iValid a ca l _ ha (by omega)).mono ?_; rintro e w' ⟨rfl, rfl⟩
    rw [H1.out]
    go_wp2_with fail
    go_ret2
    rw [← hif.out, ← hic.out]
    exact ⟨none, 0, rfl, .inl rfl, Below.refl _ _⟩

set_option maxHeartbeats 800000 in
theorem iDerivativeOf (a : Option Addr) (ca : Nat) (l : List Int) (w : World) (ha : At w a l) (_ : Rng l) (hl : l.length ≤ 1048576) :
    Calls Try.prog 40 #[.slice a l.length ca] w (Res2 w (allDerivativeOf l) (alcDerivativeOf l)) := by
  go_enter Try.func40, Try.ntmps40
  go_wp2_with fail
  refine (itransform1 a ca l _ ha hl).mono ?_; rintro e w1 ⟨g, cap, rfl, ho, hbel⟩
  go_wp2_with fail
  go_ret2
  exact ⟨g, cap, rfl, ho, hbel⟩

theorem resLen_DerivativeOf (l : List Int) (hl : l.length ≤ 1048576) : (allDerivativeOf l).length ≤ 1048576 := by
  unfold allDerivativeOf; split
  · exact Nat.le_trans (resDerivativeOf_len l) hl
  · simp

end Go.Proofs.Ytegjlfbklcgapaa
