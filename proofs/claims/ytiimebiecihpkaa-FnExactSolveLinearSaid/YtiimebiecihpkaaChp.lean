/- The reach of chains, the repeats that are needed, and the cost by the formula: by the model and by the program. -/
import Derived.Test.YtiimebiecihpkaaCho
namespace Go.Proofs.Ytiimebiecihpkaa
open Go.RowKit
set_option linter.unusedVariables false

theorem ret_ii {a b c d : Int} (h : a = c) (h2 : b = d) : Ending.returned (.tuple #[.int .i64 a, .int .i64 b]) = .returned (.tuple #[.int .i64 c, .int .i64 d]) := by rw [h, h2]
/-- two numbers, and nothing old has turned -/
def II (a b : Int) (w : World) (e : Ending) (w' : World) : Prop := e = .returned (.tuple #[.int .i64 a, .int .i64 b]) ∧ Below w.heap.size w w'

def inR (n s : Int) : Bool := inB s 0 8 && inB n 0 40
theorem inR_t {n s : Int} (h : inR n s = true) : inB s 0 8 = true ∧ inB n 0 40 = true := by unfold inR at h; rwa [Bool.and_eq_true] at h
def RReach (s r : Int) : Int := if inR r s = true then ((bin (s.toNat + r.toNat) s.toNat : Nat) : Int) else 0
def CReach (s r : Int) : Int := if inR r s = true then 0 else 2

/- repeats -/
def repP (n s : Nat) (r : Nat) : Bool := decide (n ≤ bin (s + r) s)
def rep (n s : Nat) : Option Nat := lst (repP n s) 41 0
def repV : Option Nat → Int
  | some r => r
  | none => 0
def repC : Option Nat → Int
  | some _ => 0
  | none => 4
def RRep (n s : Int) : Int := if inR n s = true then repV (rep n.toNat s.toNat) else 0
def CRep (n s : Int) : Int := if inR n s = true then repC (rep n.toNat s.toNat) else 2
theorem rep_none {n s : Nat} (h : rep n s = none) : repV (rep n s) = 0 ∧ repC (rep n s) = 4 := by rw [h]; exact ⟨rfl, rfl⟩
theorem rep_some {n s r : Nat} (h : rep n s = some r) : repV (rep n s) = r ∧ repC (rep n s) = 0 := by rw [h]; exact ⟨rfl, rfl⟩

theorem rep_can0 {n s : Nat} (h : n ≤ 1) : repP n s 0 = true := by
  unfold repP; rw [Nat.add_zero, bin_self]; exact decide_eq_true h
theorem rep_can {n s : Nat} (hs : 1 ≤ s) (hn : n ≤ 40) : repP n s 39 = true := decide_eq_true (by have := bin_row s 39 hs; omega)
/-- without slots there are no repeats for two steps -/
theorem rep_not {n : Nat} (h : 1 < n) : rep n 0 = none := by
  have hp : ∀ r, repP n 0 r = false := fun r => decide_eq_false (by rw [bin_zero]; omega)
  have : ∀ f r, lst (repP n 0) f r = none := by
    intro f
    induction f with
    | zero => intro r; rfl
    | succ f ih => intro r; rw [lst_f (hp r)]; exact ih _
  exact this 41 0

/- the formula -/
def RFor (n s : Int) : Int := if CRep n s = 0 then RRep n s * n - ((bin (s.toNat + (RRep n s).toNat) (s.toNat + 1) : Nat) : Int) else 0
theorem rep_bd {n s : Int} (h : CRep n s = 0) : (0 ≤ s ∧ s ≤ 8) ∧ (0 ≤ n ∧ n ≤ 40) ∧ 0 ≤ RRep n s ∧ RRep n s ≤ 40 := by
  unfold CRep at h
  split at h
  · rename_i hr
    have h1 := inB_t (inR_t hr).1
    have h2 := inB_t (inR_t hr).2
    unfold RRep
    rw [if_pos hr]
    cases hl : rep n.toNat s.toNat with
    | none => rw [hl] at h; cases h
    | some r => have := lst_bd hl; exact ⟨h1, h2, by show 0 ≤ (r : Int); omega, by show (r : Int) ≤ 40; omega⟩
  · cases h

end Go.Proofs.Ytiimebiecihpkaa
