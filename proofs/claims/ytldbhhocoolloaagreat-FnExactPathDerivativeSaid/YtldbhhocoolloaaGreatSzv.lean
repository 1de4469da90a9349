/- What is left of a number of places. -/
import Derived.Test.YtldbhhocoolloaaGreatBase
namespace Go.Proofs.YtldbhhocoolloaaGreat
set_option linter.unusedVariables false
/-- what is left of so many nodes; -1 if there are more -/
def szv (m : Nat) (left : Int) : Int := if (m : Int) ≤ left then left - m else -1
theorem szv_t {m : Nat} {x : Int} (h : (m : Int) ≤ x) : szv m x = x - m := if_pos h
theorem szv_f {m : Nat} {x : Int} (h : ¬ (m : Int) ≤ x) : szv m x = -1 := if_neg h
theorem szv_add {a b : Nat} {x : Int} (h : (a : Int) ≤ x) : szv (a + b) x = szv b (x - a) := by
  unfold szv; by_cases hb : (b : Int) ≤ x - a
  · rw [if_pos hb, if_pos (by omega)]; omega
  · rw [if_neg hb, if_neg (by omega)]
theorem szv_over {a b : Nat} {x : Int} (h : ¬ (a : Int) ≤ x) : szv (a + b) x = -1 := szv_f (by omega)
end Go.Proofs.YtldbhhocoolloaaGreat
