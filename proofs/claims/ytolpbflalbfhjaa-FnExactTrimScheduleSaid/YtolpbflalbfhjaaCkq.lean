/- What the laws on schedules want besides: marks. -/
import Derived.Test.YtolpbflalbfhjaaCkl
namespace Go.Proofs.Ytolpbflalbfhjaa
open Go.RowKit
set_option linter.unusedVariables false

theorem markActionAt (L B n g cap k0 : Nat) (q : Int) (w : World) (hq : (k0 : Int) = q) (h : Wr w L B (n * 2) g) (hl : n ≤ 1048576) (hk0 : k0 ≤ 16777216) :
    Calls Try.prog 34 #[.slice (some ⟨g, 0, none⟩) n cap, .int .i64 q] w fun e w' => e = .returned (.int .i64 (q + 2 * (n : Int))) ∧ Trn L B w w' ∧ w.grownBy w' (some g) ∧ MkAc w' g n k0 := by
  subst hq
  refine (markActionS L B n g cap k0 w h hl hk0).mono fun e w' ⟨h1, h2⟩ => ⟨?_, h2⟩
  rw [h1]; congr 2
theorem heldActionAt (n g cap k0 : Nat) (q : Int) (w : World) (hq : (k0 : Int) = q) (h : MkAc w g n k0) (hl : n ≤ 1048576) (hk0 : k0 ≤ 16777216) :
    Calls Try.prog 42 #[.slice (some ⟨g, 0, none⟩) n cap, .int .i64 q] w fun e w' => e = .returned (.int .i64 (q + 2 * (n : Int))) ∧ w = w' := by
  subst hq
  refine (heldActionS n g cap k0 w h hl hk0).mono fun e w' ⟨h1, h2⟩ => ⟨?_, h2⟩
  rw [h1]; congr 2

end Go.Proofs.Ytolpbflalbfhjaa
