/- ReverseSeries: the program by Lagrange's form, the model one coefficient after the other. -/
import Derived.Test.YtiimebiecihpkaaRev
namespace Go.Proofs.Ytiimebiecihpkaa
open Go.RowKit
set_option linter.unusedVariables false

/-- The call answers a new slice of n numbers that reads as l. -/
def FreshN (w : World) (n : Nat) (l : List Int) (e : Ending) (w' : World) : Prop :=
  ∃ g cap, e = .returned (.slice (some ⟨g, 0, none⟩) n cap) ∧ Own w.heap.size w' g cap l ∧ Below w.heap.size w w'
theorem freshN_of {w w1 : World} {n : Nat} {l : List Int} {e : Ending} (h : Fresh w l e w1) (hn : l.length = n) : FreshN w n l e w1 := by
  subst hn; exact h
def resReverseSeries (l : List Int) : List Int := if l.length = 1 then [] else if l.getD 0 0 ≠ 0 then [] else if l.getD 1 0 = 0 then [] else revl l
def codReverseSeries (l : List Int) : Int := if l.length = 1 then 2 else if l.getD 0 0 ≠ 0 then 4 else if l.getD 1 0 = 0 then 6 else 0
def allReverseSeries (l : List Int) : List Int := if okS l = true then resReverseSeries l else []
def alcReverseSeries (l : List Int) : Int := if okS l = true then codReverseSeries l else 1

theorem okS_parts {l : List Int} (h : okS l = true) : 1 ≤ l.length ∧ l.length ≤ 13 ∧ Nums l := okS_t h
theorem resReverseSeries_len (l : List Int) (h0 : 1 ≤ l.length) : (resReverseSeries l).length ≤ l.length := by
  unfold resReverseSeries; repeat' split
  all_goals first | (rw [revl_len h0]; exact Nat.le_refl _) | simp
theorem resLen_ReverseSeries (l : List Int) (hl : l.length ≤ 1048576) : (allReverseSeries l).length ≤ 1048576 := by
  unfold allReverseSeries; split
  · rename_i h; exact Nat.le_trans (resReverseSeries_len l (okS_t h).1) hl
  · simp

set_option maxHeartbeats 400000 in
theorem sNeg (a : Int) (ha : -9223372036854775807 ≤ a ∧ a ≤ 9223372036854775807) (w : World) :
    Calls Try.prog 155 #[.int .i64 a] w fun e w' => e = .returned (.int .i64 (res (-a))) ∧ w = w' := by
  go_enter Try.func155, Try.ntmps155
  go_wp2_with fail
  refine (sResidue (-a) (by omega) (by omega) _).mono ?_; rintro e w' ⟨rfl, rfl⟩
  go_wp2_with fail
  go_ret
  exact ⟨rfl, rfl⟩
end Go.Proofs.Ytiimebiecihpkaa
