/- IntegralOf: what it answers; the model; the method behind the program's checks. -/
import Derived.Test.YtegjlfbklcgapaaUnI
namespace Go.Proofs.Ytegjlfbklcgapaa
open Go.RowKit
set_option linter.unusedVariables false

def resIntegralOf (l : List Int) : List Int := ils l
def codIntegralOf (_ : List Int) : Int := 0
def allIntegralOf (l : List Int) : List Int := if okS l = true then resIntegralOf l else []
def alcIntegralOf (l : List Int) : Int := if okS l = true then codIntegralOf l else 1
theorem resIntegralOf_len (l : List Int) (h0 : 1 ≤ l.length) : (resIntegralOf l).length ≤ l.length := by unfold resIntegralOf; rw [ils_len h0]; exact Nat.le_refl _

set_option maxHeartbeats 800000 in
theorem sIntegralOf (a : Option Addr) (ca : Nat) (l : List Int) (w : World) (ha : At w a l) (hr : Rng l) (hl : l.length ≤ 1048576) :
    Calls Try.prog 69 #[.slice a l.length ca] w (Res2 w (allIntegralOf l) (alcIntegralOf l)) := by
  cases h1 : okS l with
  | true =>
    have hif := Lib.hid (show ils l = allIntegralOf l by unfold allIntegralOf; rw [if_pos h1]; rfl)
    have hic := Lib.hid (show (0 : Int) = alcIntegralOf l by unfold alcIntegralOf; rw [if_pos h1]; rfl)
    have H1 := Lib.hid h1
    clear h1
    go_enter Try.func69, Try.ntmps69
    go_wp2_with fail
    refine (sOk a ca l _ ha (by omega)).mono ?_; rintro e w' ⟨rfl, rfl⟩
    rw [H1.out]
    go_wp2_with fail
    refine (sInt a ca l _ ha hr (okS_rng H1).2.2.1 hl).mono ?_; rintro e w1 ⟨g, cap, rfl, ho, hbel⟩
    go_wp2_with fail
    go_ret2
    exact res2_of_fresh (c := 0) hif.out hic.out ⟨g, cap, rfl, ho, hbel⟩
  | false =>
    have hif := Lib.hid (show ([] : List Int) = allIntegralOf l by unfold allIntegralOf; rw [if_neg (by rw [h1]; simp)])
    have hic := Lib.hid (show (1 : Int) = alcIntegralOf l by unfold alcIntegralOf; rw [if_neg (by rw [h1]; simp)])
    have H1 := Lib.hid h1
    clear h1
    go_enter Try.func69, Try.ntmps69
    go_wp2_with fail
    refine (sOk a ca l _ ha (by omega)).mono ?_; rintro e w' ⟨rfl, rfl⟩
    rw [H1.out]
    go_wp2_with fail
    go_ret2
    rw [← hif.out, ← hic.out]
    exact ⟨_, _, rfl, .inl rfl, (Below.refl _ _).alloc (Nat.le_refl _) _⟩

theorem iIntegralOfR (a : Option Addr) (ca : Nat) (l : List Int) (w : World) (ha : At w a l) (h1 : Hid (okS l = true)) :
    Calls Try.prog 108 #[.slice a l.length ca] w (Res2 w (resIntegralOf l) (codIntegralOf l)) :=
  (iInt a ca l w ha (okS_rng h1).1 (okS_rng h1).2.2.1 (okS_rng h1).2.1).mono fun _ _ h => res2_of_fresh (c := 0) rfl rfl h

end Go.Proofs.Ytegjlfbklcgapaa
