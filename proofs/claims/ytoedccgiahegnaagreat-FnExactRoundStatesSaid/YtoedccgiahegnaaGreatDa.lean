/- The arithmetics of numbers and of series; numbers are series of one coefficient. The arithmetic of pairs: a value and its slope; pairs are series of two coefficients. -/
import Derived.Test.YtoedccgiahegnaaGreatEr
import Derived.Test.YtoedccgiahegnaaGreatFit
namespace Go.Proofs.YtoedccgiahegnaaGreat
open Go.RowKit
set_option linter.unusedVariables false

def nA : Ar Int := ⟨fun n => n, pls, mns, tms, fun a b => tms a (inv b), fun a => mns 0 a, fun a => a == 0⟩
def sA (n : Nat) : Ar (List Int) := ⟨fun x => cstl x n, addl, fun a b => addl a (scll b 1000002), mull, divl, fun a => scll a 1000002, fun a => a.getD 0 0 == 0⟩
/-- a number and the series of it alone -/
def One1 (x : Int) (v : List Int) : Prop := v = [x] ∧ 0 ≤ x ∧ x < 1000003
theorem alike1 : Alike nA (sA 1) One1 where
  cst := fun n h1 h2 => ⟨rfl, h1, h2⟩
  add := by
    rintro a b a' b' ⟨rfl, _⟩ ⟨rfl, _⟩
    exact ⟨rfl, pls_bd _ _⟩
  sub := by
    rintro a b a' b' ⟨rfl, h⟩ ⟨rfl, h'⟩
    refine ⟨?_, mns_bd _ _⟩
    show [pls a (tms a' 1000002)] = [mns a a']
    congr 1
    unfold pls tms mns
    omega
  mul := by
    rintro a b a' b' ⟨rfl, h⟩ ⟨rfl, h'⟩
    refine ⟨?_, tms_bd _ _⟩
    show [pls 0 (tms a a')] = [tms a a']
    congr 1
    have := tms_bd a a'
    unfold pls
    omega
  div := by
    rintro a b a' b' ⟨rfl, h⟩ ⟨rfl, h'⟩ _
    exact ⟨rfl, tms_bd _ _⟩
  neg := by
    rintro a b ⟨rfl, h⟩
    refine ⟨?_, mns_bd _ _⟩
    show [tms a 1000002] = [mns 0 a]
    congr 1
    unfold tms mns
    omega
  zer := by
    rintro a b ⟨rfl, h⟩
    rfl

end Go.Proofs.YtoedccgiahegnaaGreat

namespace Go.Proofs.YtoedccgiahegnaaGreat
open Go.RowKit
set_option linter.unusedVariables false

def pA : Ar (Int × Int) where
  cst := fun n => (n, 0)
  add := fun a b => (pls a.1 b.1, pls a.2 b.2)
  sub := fun a b => (mns a.1 b.1, mns a.2 b.2)
  mul := fun a b => (tms a.1 b.1, pls (tms a.2 b.1) (tms a.1 b.2))
  div := fun a b => (tms a.1 (tms 1 (inv b.1)), tms (mns a.2 (tms (tms a.1 (tms 1 (inv b.1))) b.2)) (tms 1 (inv b.1)))
  neg := fun a => (mns 0 a.1, mns 0 a.2)
  zer := fun a => a.1 == 0
def Num2 (x : Int × Int) : Prop := (0 ≤ x.1 ∧ x.1 < 1000003) ∧ (0 ≤ x.2 ∧ x.2 < 1000003)
/-- a pair and the series of it -/
def Two2 (x : Int × Int) (v : List Int) : Prop := v = [x.1, x.2] ∧ Num2 x
theorem one_tmsE {x : Int} (h : 0 ≤ x ∧ x < 1000003) : tms 1 x = x := by unfold tms; omega
theorem alike2 : Alike pA (sA 2) Two2 where
  cst := fun n h1 h2 => ⟨rfl, ⟨h1, h2⟩, by show (0 : Int) ≤ 0; omega, by show (0 : Int) < 1000003; omega⟩
  add := by
    rintro ⟨a, a1⟩ b ⟨c, c1⟩ d ⟨rfl, _⟩ ⟨rfl, _⟩
    exact ⟨rfl, pls_bd _ _, pls_bd _ _⟩
  sub := by
    rintro ⟨a, a1⟩ b ⟨c, c1⟩ d ⟨rfl, h⟩ ⟨rfl, h'⟩
    refine ⟨?_, mns_bd _ _, mns_bd _ _⟩
    have e : ∀ x y : Int, pls x (tms y 1000002) = mns x y := fun x y => by unfold pls tms mns; omega
    show [pls a (tms c 1000002), pls a1 (tms c1 1000002)] = [mns a c, mns a1 c1]
    rw [e, e]
  mul := by
    rintro ⟨a, a1⟩ b ⟨c, c1⟩ d ⟨rfl, h⟩ ⟨rfl, h'⟩
    refine ⟨?_, tms_bd _ _, pls_bd _ _⟩
    show [pls 0 (tms a c), pls (pls 0 (tms a c1)) (tms a1 c)] = [tms a c, pls (tms a1 c) (tms a c1)]
    have h1 := tms_bd a c
    have h2 := tms_bd a c1
    have h3 := tms_bd a1 c
    have e0 : ∀ x : Int, 0 ≤ x ∧ x < 1000003 → pls 0 x = x := fun x hx => by unfold pls; omega
    rw [e0 _ h1, e0 _ h2]
    congr 2
    unfold pls
    rw [Int.add_comm]
  div := by
    rintro ⟨a, a1⟩ b ⟨c, c1⟩ d ⟨rfl, h⟩ ⟨rfl, h'⟩ _
    refine ⟨?_, tms_bd _ _, tms_bd _ _⟩
    have hi : 0 ≤ inv c ∧ inv c < 1000003 := pwr_bd c 1000001
    show [tms a (inv c), tms (mns a1 (tms (tms a (inv c)) c1)) (inv c)] = [tms a (tms 1 (inv c)), tms (mns a1 (tms (tms a (tms 1 (inv c))) c1)) (tms 1 (inv c))]
    rw [one_tmsE hi]
  neg := by
    rintro ⟨a, a1⟩ b ⟨rfl, h⟩
    refine ⟨?_, mns_bd _ _, mns_bd _ _⟩
    have e : ∀ y : Int, tms y 1000002 = mns 0 y := fun y => by unfold tms mns; omega
    show [tms a 1000002, tms a1 1000002] = [mns 0 a, mns 0 a1]
    rw [e, e]
  zer := by
    rintro ⟨a, a1⟩ b ⟨rfl, h⟩
    rfl

end Go.Proofs.YtoedccgiahegnaaGreat
