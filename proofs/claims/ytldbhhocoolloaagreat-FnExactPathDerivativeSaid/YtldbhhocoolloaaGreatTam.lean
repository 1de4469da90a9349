/- Tapes: comparisons and marks, as the laws make them. -/
import Derived.Test.YtldbhhocoolloaaGreatTac
namespace Go.Proofs.YtldbhhocoolloaaGreat
open Go.RowKit
set_option linter.unusedVariables false

set_option maxRecDepth 100000 in
set_option maxHeartbeats 3200000 in
theorem markOuts (L B n g cap : Nat) (k0 : Nat) (w : World) (h : Wr w L B n g) (hl : n ≤ 1048576) (hk0 : k0 ≤ 16777216) :
    Calls Tryz.prog 19 #[.slice (some ⟨g, 0, none⟩) n cap, .int .i64 k0] w fun e w' => e = .returned (.int .i64 ((k0 + n : Nat) : Int)) ∧ Trn L B w w' := by
  have hb := h.1
  go_enter Tryz.func19, Tryz.ntmps19
  go_wp2_with fail
  go_loopw [1, 5] (fun q i wr => ∃ k : Nat, k ≤ n ∧ i = .int .i64 k ∧ q = .int .i64 ((k0 + k : Nat) : Int) ∧ Trn L B w wr) (fun _ i _ => n - (intOf i).toNat)
  case atStart => exact ⟨0, Nat.zero_le _, rfl, rfl, Trn.refl _ _ _⟩
  case round =>
    obtain ⟨k, hk, rfl, rfl, hT⟩ := hrel
    by_cases hlt : k < n
    · have hi : (k : Int) < (n : Int) := by omega
      obtain ⟨_, hfz, hcl⟩ := hT.wr h
      obtain ⟨v0, c0⟩ := hcl k (by omega)
      have f0 := hfz k
      have T4 := fun (x0 : Value) => hT.trans (Trn.set (o := k) (v := x0) hb)
      have E : Hid (((k0 + k : Nat) : Int) + 1 = ((k0 + (k + 1) : Nat) : Int)) := by show _ = _; omega
      have x0 : 0 ≤ ((k0 + k : Nat) : Int) := by omega
      have x1 : ((k0 + k : Nat) : Int) ≤ 1099511627776 := by omega
      clear hcl hfz hT
      generalize ((k0 + k : Nat) : Int) = x at *
      go_wp2_with fail
      go_roundw
      case rel => exact ⟨k + 1, by omega, by go_num, by rw [← E.out], T4 _⟩
      case measure => simp [intOf]; omega
    · have hkk : k = n := by omega
      subst hkk
      have hi : ¬ (k : Int) < (k : Int) := by omega
      go_wp2_with fail
      go_ret
      exact ⟨rfl, hT⟩

end Go.Proofs.YtldbhhocoolloaaGreat
