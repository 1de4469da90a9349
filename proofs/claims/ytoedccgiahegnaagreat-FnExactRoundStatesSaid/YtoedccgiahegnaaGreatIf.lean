/- The program: the form of a node. -/
import Derived.Test.YtoedccgiahegnaaGreatSy
namespace Go.Proofs.YtoedccgiahegnaaGreat
open Go.RowKit
set_option linter.unusedVariables false

def leafB (p c : Int) (m : Nat) : Bool := decide (m = 0) && (decide (p = 0) && decide (c = 0))
def innerB (n p c : Int) : Bool := decide (n = 0) && (decide (p = 0) && decide (c = 0))
/-- a node has the form of its kind -/
def formB (k n p c : Int) (m : Nat) : Bool :=
  if k = 1 ∨ k = 2 then leafB p c m else if k = 3 ∨ k = 4 ∨ k = 5 ∨ k = 6 ∨ k = 9 then innerB n p c && decide (m = 2) else if k = 7 then innerB n p c && decide (m = 1) else
  if k = 8 then innerB n p c && decide (m = 3) else if k = 10 then decide (c = 0) else decide (k = 11)

theorem kind_all (k : Int) : k = 1 ∨ k = 2 ∨ k = 3 ∨ k = 4 ∨ k = 5 ∨ k = 6 ∨ k = 7 ∨ k = 8 ∨ k = 9 ∨ k = 10 ∨ k = 11 ∨ (k ≠ 1 ∧ k ≠ 2 ∧ k ≠ 3 ∧ k ≠ 4 ∧ k ≠ 5 ∧ k ≠ 6 ∧ k ≠ 7 ∧ k ≠ 8 ∧ k ≠ 9 ∧ k ≠ 10 ∧ k ≠ 11) := by omega
theorem eq_beq {a b : Int} (h : a = b) : (a == b) = true := by simpa using h
theorem nat_beq {a b : Nat} (h : a = b) : ((a : Int) == (b : Int)) = true := by simp [h]
theorem nat_nbeq {a b : Nat} (h : ¬ a = b) : ((a : Int) == (b : Int)) = false := by
  rw [beq_eq_false_iff_ne]; omega

set_option maxRecDepth 100000 in
set_option maxHeartbeats 6400000 in
theorem iForm (k n p c : Int) (m : Nat) (a : Option Addr) (cap : Nat) (w : World) (hm : m ≤ 1048576) :
    Calls Tryz.prog 147 #[.agg #[.int .i64 k, .int .i64 n, .int .i64 p, .int .i64 c, .slice a m cap]] w fun e w' => e = .returned (.bool (formB k n p c m)) ∧ Below w.heap.size w w' := by
  have B1 : ∀ o, Below w.heap.size w (w.alloc o) := fun o => (Below.refl _ _).alloc (Nat.le_refl _) o
  have hmi : (m : Int) ≤ 1048576 := by omega
  rcases kind_all k with rfl | rfl | rfl | rfl | rfl | rfl | rfl | rfl | rfl | rfl | rfl | ⟨h1, h2, h3, h4, h5, h6, h7, h8, h9, h10, h11⟩
  iterate 11
    · go_enter Tryz.func147, Tryz.ntmps147
      go_wp2_with fail
      all_goals go_ret
      all_goals refine ⟨ret_bool ?_, (Below.refl _ _).alloc (Nat.le_refl _) _⟩
      all_goals unfold formB
      all_goals try unfold leafB
      all_goals try unfold innerB
      all_goals first
        | (simp; done)
        | (simp; intros; omega)
        | (simp; rw [Bool.eq_iff_iff]; simp only [Bool.and_eq_true, decide_eq_true_eq, beq_iff_eq]; omega)
        | (rw [Bool.eq_iff_iff]; simp; done)
        | (rw [Bool.eq_iff_iff]; simp; omega)
  · have d1 := ne_beq h1
    have d2 := ne_beq h2
    have d3 := ne_beq h3
    have d4 := ne_beq h4
    have d5 := ne_beq h5
    have d6 := ne_beq h6
    have d7 := ne_beq h7
    have d8 := ne_beq h8
    have d9 := ne_beq h9
    have d10 := ne_beq h10
    have d11 := ne_beq h11
    have HF : Hid (formB k n p c m = false) := by
      show _ = _
      simp [formB, h1, h2, h3, h4, h5, h6, h7, h8, h9, h10, h11]
    clear h1 h2 h3 h4 h5 h6 h7 h8 h9 h10 h11
    go_enter Tryz.func147, Tryz.ntmps147
    go_wp2_with fail
    all_goals go_ret
    all_goals exact ⟨ret_bool HF.out.symm, (Below.refl _ _).alloc (Nat.le_refl _) _⟩

end Go.Proofs.YtoedccgiahegnaaGreat
