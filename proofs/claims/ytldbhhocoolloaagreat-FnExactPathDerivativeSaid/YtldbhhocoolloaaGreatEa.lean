/- The arithmetics of numbers and of series; numbers are series of one coefficient. -/
import Derived.Test.YtldbhhocoolloaaGreatEr
import Derived.Test.YtldbhhocoolloaaGreatOps
import Derived.Test.YtldbhhocoolloaaGreatFit
namespace Go.Proofs.YtldbhhocoolloaaGreat
open Go.RowKit
set_option linter.unusedVariables false

def nA : Ar Int := ⟨fun n => n, pls, mns, tms, fun a b => tms a (inv b), fun a => mns 0 a, fun a => a == 0⟩
def sA (n : Nat) : Ar (List Int) := ⟨fun x => cstl x n, addl, fun a b => addl a (scll b 1000002), mull, divl, fun a => scll a 1000002, fun a => a.getD 0 0 == 0⟩
/-- a number and the series of it alone -/
def One1 (x : Int) (v : List Int) : Prop := v = [x] ∧ 0 ≤ x ∧ x < 1000003
theorem alike1 : Alike nA (sA 1) One1 where
  cst := fun n h1 h2 => ⟨rfl, h1, h2⟩
  add := by
    rintro a b a' b' ⟨rfl, _⟩ ⟨rfl, _⟩
    exact ⟨rfl, pls_bd _ _⟩
  sub := by
    rintro a b a' b' ⟨rfl, h⟩ ⟨rfl, h'⟩
    refine ⟨?_, mns_bd _ _⟩
    show [pls a (tms a' 1000002)] = [mns a a']
    congr 1
    unfold pls tms mns
    omega
  mul := by
    rintro a b a' b' ⟨rfl, h⟩ ⟨rfl, h'⟩
    refine ⟨?_, tms_bd _ _⟩
    show [pls 0 (tms a a')] = [tms a a']
    congr 1
    have := tms_bd a a'
    unfold pls
    omega
  div := by
    rintro a b a' b' ⟨rfl, h⟩ ⟨rfl, h'⟩ _
    exact ⟨rfl, tms_bd _ _⟩
  neg := by
    rintro a b ⟨rfl, h⟩
    refine ⟨?_, mns_bd _ _⟩
    show [tms a 1000002] = [mns 0 a]
    congr 1
    unfold tms mns
    omega
  zer := by
    rintro a b ⟨rfl, h⟩
    rfl

end Go.Proofs.YtldbhhocoolloaaGreat
