/- One more step, or none. -/
import Derived.Test.YtldbhhocoolloaaGreatEa
namespace Go.Proofs.YtldbhhocoolloaaGreat
open Go.RowKit
set_option linter.unusedVariables false

theorem evE_go {V : Type} {A : Ar V} {fs : List Fn} {f : Nat} {k n p c : Int} {ks : Fo} {vars : List V} {s : Nat} (h : ¬ s = 3000) : evE A fs (f + 1) k n p c ks vars s = nodE A fs (evE A fs f) k n p c ks vars (s + 1) := if_neg h
theorem evE_end {V : Type} {A : Ar V} {fs : List Fn} {f : Nat} {k n p c : Int} {ks : Fo} {vars : List V} {s : Nat} (h : s = 3000) : evE A fs (f + 1) k n p c ks vars s = ⟨A.cst 0, s, 7⟩ := if_pos h

end Go.Proofs.YtldbhhocoolloaaGreat
