/- Tapes: registers and outputs, by the program. -/
import Derived.Test.YtggojffmfjeikaaTrw
import Derived.Test.YtggojffmfjeikaaTrm
namespace Go.Proofs.Ytggojffmfjeikaa
open Go.RowKit
set_option linter.unusedVariables false

theorem regR_of {t : Tp} {l : List Int} (h : askC t l = 0) : RRegistersOf t l = regR t l ∧ CRegistersOf t l = regC t l := by
  unfold RRegistersOf CRegistersOf regR regC; rw [if_pos h, if_pos h]; exact ⟨rfl, rfl⟩
theorem OwnA.mono {B B' : Nat} {w : World} {a : Option Addr} {cap : Nat} {l : List Int} (h : OwnA B w a cap l) (hB : B' ≤ B) : OwnA B' w a cap l := by
  rcases h with h | ⟨g, e, h⟩
  · exact .inl h
  · exact .inr ⟨g, e, h.mono hB⟩
/-- one list in a block of its own -/
theorem lsa_one {w : World} {a : Option Addr} {ca : Nat} {l : List Int} (hA : At w a l) (hl : l.length ≤ 1048576) (ty : TypeId) : Lsa (w.alloc (.cells #[.slice a l.length ca] ty)) w.heap.size [l] := by
  refine ⟨by simp, fun i hi => ?_⟩
  have : i = 0 := by simp at hi; omega
  subst this
  exact ⟨a, ca, by simp [go_sem], hA.below ((Below.refl _ _).alloc (Nat.le_refl _) _) (Nat.le_refl _), hl⟩

def outR (t : Tp) (l : List Int) : List Int := if regC t l = 0 then pick (regR t l) t.outs else []
theorem outR_ok {t : Tp} {l : List Int} (h : regC t l = 0) : outR t l = pick (regR t l) t.outs := if_pos h
theorem outR_no {t : Tp} {l : List Int} (h : regC t l ≠ 0) : outR t l = [] := if_neg h
theorem regC_ok {t : Tp} {l : List Int} (ht : Okt t) (hn : Nums l) (h : regC t l = 0) : (regR t l).length = t.code.length ∧ Nums (regR t l) := by
  unfold regC at h
  cases hv : runV t l t.code.length with
  | none => rw [if_pos hv] at h; omega
  | some rs =>
    have : regR t l = rs := by unfold regR; rw [hv]; rfl
    rw [this]
    exact runV_ok ht hn (Nat.le_refl _) hv

theorem outR_of {t : Tp} {l : List Int} (h : askC t l = 0) : RRunTape t l = outR t l ∧ CRunTape t l = regC t l := by
  obtain ⟨h1, h2⟩ := regR_of h
  unfold RRunTape CRunTape outR
  rw [h1, h2]; exact ⟨rfl, rfl⟩

end Go.Proofs.Ytggojffmfjeikaa
