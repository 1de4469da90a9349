/- Tapes: which ones are valid by the model. -/
import Derived.Test.YtldbhhocoolloaaGreatTam
namespace Go.Proofs.YtldbhhocoolloaaGreat
open Go.RowKit
set_option linter.unusedVariables false

theorem tne_beq {a b : Int} (h : a ≠ b) : (a == b) = false := by simpa using h
set_option maxHeartbeats 400000 in
theorem sIx (x n : Int) (w : World) : Calls Tryz.prog 63 #[.int .i64 x, .int .i64 0, .int .i64 (n - 1)] w fun e w' => e = .returned (.bool (ixB x n)) ∧ w = w' := by
  by_cases h : 0 ≤ x ∧ x < n
  · rw [ixB_of h]; exact inT x 0 (n - 1) h.1 (by omega) w
  · rw [ixB_no h]; exact inF x 0 (n - 1) (by omega) w
theorem okNum_ix (x : Int) : okNum x = ixB x 1000003 := rfl

end Go.Proofs.YtldbhhocoolloaaGreat
