/- Tapes: which ones are valid by the program. -/
import Derived.Test.YtldbhhocoolloaaGreatTap2
import Derived.Test.YtldbhhocoolloaaGreatOps
import Derived.Lib.LazyBuf
namespace Go.Proofs.YtldbhhocoolloaaGreat
open Go.RowKit
set_option linter.unusedVariables false

set_option maxHeartbeats 400000 in
theorem tIx (k n : Int) (w : World) : Calls Tryz.prog 77 #[.int .i64 k, .int .i64 n] w fun e w' => e = .returned (.bool (ixB k n)) ∧ w = w' := by
  by_cases h1 : 0 ≤ k
  · by_cases h2 : k < n
    · have HF : Hid (ixB k n = true) := decide_eq_true ⟨h1, h2⟩
      have d1 : decide (0 ≤ k) = true := decide_eq_true h1
      have d2 : decide (k < n) = true := decide_eq_true h2
      go_enter Tryz.func77, Tryz.ntmps77
      go_wp2
      go_ret
      exact ⟨ret_bool HF.out.symm, rfl⟩
    · have HF : Hid (ixB k n = false) := decide_eq_false (by omega)
      have d1 : decide (0 ≤ k) = true := decide_eq_true h1
      have d2 : decide (k < n) = false := decide_eq_false h2
      go_enter Tryz.func77, Tryz.ntmps77
      go_wp2
      go_ret
      exact ⟨ret_bool HF.out.symm, rfl⟩
  · have HF : Hid (ixB k n = false) := decide_eq_false (by omega)
    have d1 : decide (0 ≤ k) = false := decide_eq_false h1
    go_enter Tryz.func77, Tryz.ntmps77
    go_wp2
    go_ret
    exact ⟨ret_bool HF.out.symm, rfl⟩

theorem news_of_at {w w0 : World} {b o : Nat} {l : List Int} (hc : ∀ k, k < l.length → w0.cell? ⟨b, o + k, none⟩ = some (.int .i64 (l.getD k 0))) :
    ∀ (j : Nat) (u : Value), (l.map (Value.int .i64))[j]? = some u → w0.cell? ((⟨b, o, none⟩ : Addr).add j) = some u := by
  intro j u hj
  rw [List.getElem?_map] at hj
  have hjl : j < l.length := by
    apply Nat.lt_of_not_le
    intro hge
    rw [List.getElem?_eq_none hge] at hj
    cases hj
  have e : (⟨b, o, none⟩ : Addr).add j = ⟨b, o + j, none⟩ := by cases j <;> simp [Addr.add]
  rw [e, hc j hjl, ← hj, List.getElem?_eq_getElem hjl, List.getD_eq_getElem?_getD, List.getElem?_eq_getElem hjl]
  rfl

end Go.Proofs.YtldbhhocoolloaaGreat
