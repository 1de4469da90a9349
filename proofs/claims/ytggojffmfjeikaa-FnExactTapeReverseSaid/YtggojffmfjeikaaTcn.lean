/- Tapes: how many instructions have each operation, by the model and by the program. -/
import Derived.Test.YtggojffmfjeikaaTal
import Derived.Test.YtggojffmfjeikaaTaj
namespace Go.Proofs.Ytggojffmfjeikaa
open Go.RowKit
set_option linter.unusedVariables false

theorem ret_sl2 {a : Option Addr} {n m c : Nat} {z z' : Int} (h : n = m) (h2 : z = z') : Ending.returned (.tuple #[.slice a n c, .int .i64 z]) = .returned (.tuple #[.slice a m c, .int .i64 z']) := by rw [h, h2]
/-- the counts behind so many instructions -/
def cnts (t : Tp) : Nat → List Int
  | 0 => List.replicate 7 0
  | k + 1 => (cnts t k).set ((t.code.getD k no4).op - 1).toNat ((cnts t k).getD ((t.code.getD k no4).op - 1).toNat 0 + 1)
theorem cnts_len (t : Tp) : ∀ k, (cnts t k).length = 7
  | 0 => rfl
  | k + 1 => by rw [cnts, List.length_set]; exact cnts_len t k
theorem cnts_bd (t : Tp) : ∀ k j, 0 ≤ (cnts t k).getD j 0 ∧ (cnts t k).getD j 0 ≤ k
  | 0, j => by
    have : (cnts t 0).getD j 0 = 0 := by
      show (List.replicate 7 (0 : Int)).getD j 0 = 0
      rw [List.getD_eq_getElem?_getD, List.getElem?_replicate]; split <;> rfl
    rw [this]; omega
  | k + 1, j => by
    have h1 := cnts_bd t k j
    have h2 := cnts_bd t k ((t.code.getD k no4).op - 1).toNat
    rw [cnts, List.getD_eq_getElem?_getD, List.getElem?_set]
    split
    · split
      · simp only [Option.getD_some]; omega
      · simp only [Option.getD_none]; omega
    · rw [← List.getD_eq_getElem?_getD]; omega
def RCountOps (t : Tp) : List Int := if tapeB t = true then cnts t t.code.length else []
def CCountOps (t : Tp) : Int := if tapeB t = true then 0 else 1
theorem RCountOps_len (t : Tp) (hs : tpSize t ≤ 1048576) : (RCountOps t).length ≤ 1048576 := by
  unfold RCountOps; split
  · rw [cnts_len]; omega
  · exact Nat.zero_le _
theorem insB_op {x : In4} {i : Nat} {n : Int} (h : insB x i n = true) : 1 ≤ x.op ∧ x.op ≤ 7 := by
  apply Decidable.byContradiction
  intro hn
  rw [insB_other (by omega)] at h
  cases h

end Go.Proofs.Ytggojffmfjeikaa
