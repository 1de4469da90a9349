/- Tapes: outputs and guards, by the model. -/
import Derived.Test.YtggojffmfjeikaaTsr
import Derived.Test.YtggojffmfjeikaaTcn
import Derived.BigQuiet
namespace Go.Proofs.Ytggojffmfjeikaa
open Go.RowKit
set_option linter.unusedVariables false

/-- what is known where registers have values -/
theorem regs_ok {t : Tp} {l : List Int} (h : CRegistersOf t l = 0) : Okt t ∧ Nums l ∧ (l.length : Int) = t.inputs ∧ runV t l t.code.length = some (RRegistersOf t l) ∧ (RRegistersOf t l).length = t.code.length ∧ Nums (RRegistersOf t l) := by
  by_cases h0 : askC t l = 0
  · obtain ⟨h1, h2, h3⟩ := askC_zero h0
    have ht := tapeB_ok h1
    unfold CRegistersOf at h
    rw [if_pos h0] at h
    cases hv : runV t l t.code.length with
    | none => rw [if_pos hv] at h; omega
    | some rs =>
      have hR : RRegistersOf t l = rs := by unfold RRegistersOf; rw [if_pos h0, hv]; rfl
      rw [hR]
      exact ⟨ht, h3, h2, rfl, runV_ok ht h3 (Nat.le_refl _) hv⟩
  · unfold CRegistersOf at h
    rw [if_neg h0] at h
    exact absurd h h0

def CRunTape (t : Tp) (l : List Int) : Int := CRegistersOf t l
def RRunTape (t : Tp) (l : List Int) : List Int := if CRegistersOf t l = 0 then pick (RRegistersOf t l) t.outs else []
theorem pick_len (l m : List Int) : (pick l m).length = m.length := by simp [pick]
theorem RRunTape_len (t : Tp) (l : List Int) (hs : tpSize t ≤ 1048576) (hl : l.length ≤ 1048576) : (RRunTape t l).length ≤ 1048576 := by
  unfold RRunTape; split
  · rw [pick_len]; unfold tpSize at hs; omega
  · exact Nat.zero_le _

/-- a guard is true -/
def guB (rs : List Int) (g : Gd) : Bool := decide (rs.getD g.reg.toNat 0 = 0) == g.zero
def CGuardsHold (t : Tp) (l : List Int) : Int := CRegistersOf t l
def RGuardsHold (t : Tp) (l : List Int) : Bool := decide (CRegistersOf t l = 0) && (List.range t.guards.length).all fun i => guB (RRegistersOf t l) (t.guards.getD i noG)
theorem ret_bi {a b : Bool} {c d : Int} (h : a = b) (h2 : c = d) : Ending.returned (.tuple #[.bool a, .int .i64 c]) = .returned (.tuple #[.bool b, .int .i64 d]) := by rw [h, h2]

end Go.Proofs.Ytggojffmfjeikaa
