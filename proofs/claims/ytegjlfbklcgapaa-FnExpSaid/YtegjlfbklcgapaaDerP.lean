/- DerivativeOf: what it answers; the model; the method behind the program's checks. -/
import Derived.Test.YtegjlfbklcgapaaUnI
namespace Go.Proofs.Ytegjlfbklcgapaa
open Go.RowKit
set_option linter.unusedVariables false

def resDerivativeOf (l : List Int) : List Int := dls l
def codDerivativeOf (_ : List Int) : Int := 0
def allDerivativeOf (l : List Int) : List Int := if okS l = true then resDerivativeOf l else []
def alcDerivativeOf (l : List Int) : Int := if okS l = true then codDerivativeOf l else 1
theorem resDerivativeOf_len (l : List Int) : (resDerivativeOf l).length ≤ l.length := by unfold resDerivativeOf; rw [dls_len]; exact Nat.le_refl _

set_option maxHeartbeats 800000 in
theorem sDerivativeOf (a : Option Addr) (ca : Nat) (l : List Int) (w : World) (ha : At w a l) (hr : Rng l) (hl : l.length ≤ 1048576) :
    Calls Try.prog 68 #[.slice a l.length ca] w (Res2 w (allDerivativeOf l) (alcDerivativeOf l)) := by
  cases h1 : okS l with
  | true =>
    have hif := Lib.hid (show dls l = allDerivativeOf l by unfold allDerivativeOf; rw [if_pos h1]; rfl)
    have hic := Lib.hid (show (0 : Int) = alcDerivativeOf l by unfold alcDerivativeOf; rw [if_pos h1]; rfl)
    have H1 := Lib.hid h1
    clear h1
    go_enter Try.func68, Try.ntmps68
    go_wp2_with fail
    refine (sOk a ca l _ ha (by omega)).mono ?_; rintro e w' ⟨rfl, rfl⟩
    rw [H1.out]
    go_wp2_with fail
    refine (sDer a ca l _ ha hr (okS_rng H1).2.2.1 hl).mono ?_; rintro e w1 ⟨g, cap, rfl, ho, hbel⟩
    go_wp2_with fail
    go_ret2
    exact res2_of_fresh (c := 0) hif.out hic.out ⟨g, cap, rfl, ho, hbel⟩
  | false =>
    have hif := Lib.hid (show ([] : List Int) = allDerivativeOf l by unfold allDerivativeOf; rw [if_neg (by rw [h1]; simp)])
    have hic := Lib.hid (show (1 : Int) = alcDerivativeOf l by unfold alcDerivativeOf; rw [if_neg (by rw [h1]; simp)])
    have H1 := Lib.hid h1
    clear h1
    go_enter Try.func68, Try.ntmps68
    go_wp2_with fail
    refine (sOk a ca l _ ha (by omega)).mono ?_; rintro e w' ⟨rfl, rfl⟩
    rw [H1.out]
    go_wp2_with fail
    go_ret2
    rw [← hif.out, ← hic.out]
    exact ⟨_, _, rfl, .inl rfl, (Below.refl _ _).alloc (Nat.le_refl _) _⟩

theorem iDerivativeOfR (a : Option Addr) (ca : Nat) (l : List Int) (w : World) (ha : At w a l) (h1 : Hid (okS l = true)) :
    Calls Try.prog 107 #[.slice a l.length ca] w (Res2 w (resDerivativeOf l) (codDerivativeOf l)) :=
  (iDer a ca l w ha (okS_rng h1).1 (okS_rng h1).2.2.1 (okS_rng h1).2.1).mono fun _ _ h => res2_of_fresh (c := 0) rfl rfl h

end Go.Proofs.Ytegjlfbklcgapaa
