/- Tapes: which ones are valid by the model. -/
import Derived.Test.YtiimebiecihpkaaTam
namespace Go.Proofs.Ytiimebiecihpkaa
open Go.RowKit
set_option linter.unusedVariables false

theorem tne_beq {a b : Int} (h : a ≠ b) : (a == b) = false := by simpa using h
set_option maxHeartbeats 400000 in
theorem sIx (x n : Int) (w : World) : Calls Try.prog 87 #[.int .i64 x, .int .i64 0, .int .i64 (n - 1)] w fun e w' => e = .returned (.bool (ixB x n)) ∧ w = w' := by
  by_cases h : 0 ≤ x ∧ x < n
  · rw [ixB_of h]; exact inT x 0 (n - 1) h.1 (by omega) w
  · rw [ixB_no h]; exact inF x 0 (n - 1) (by omega) w
theorem okNum_ix (x : Int) : okNum x = ixB x 1000003 := rfl

set_option maxRecDepth 100000 in
set_option maxHeartbeats 3200000 in
theorem sInstr_two (o : Int) (ho : o = 3 ∨ o = 4 ∨ o = 5 ∨ o = 6) (a b m : Int) (i : Nat) (n : Int) (w : World) (hi : i ≤ 3200) :
    Calls Try.prog 184 #[inst ⟨o, a, b, m⟩, .int .i64 i, .int .i64 n] w fun e w' => e = .returned (.bool (insB ⟨o, a, b, m⟩ i n)) ∧ Below w.heap.size w w' := by
  unfold inst
  have B1 : ∀ o, Below w.heap.size w (w.alloc o) := fun o => (Below.refl _ _).alloc (Nat.le_refl _) o
  have HI := Lib.hid (insB_two (x := ⟨o, a, b, m⟩) (i := i) (n := n) (by show 3 ≤ o ∧ o ≤ 6; omega))
  by_cases hm : m = 0
  · subst hm
    cases ha : ixB a i with
    | true =>
      have HF : Hid (insB ⟨o, a, b, 0⟩ i n = ixB b i) := by show _ = _; rw [HI.out]; simp [ha]
      have HA := fun (W : World) => Lib.hid (sIx a i W)
      rw [ha] at HA
      have HB := fun (W : World) => Lib.hid (sIx b i W)
      clear HI ha
      rcases ho with rfl | rfl | rfl | rfl
      all_goals
        go_enter Try.func184, Try.ntmps184
        go_wp2_with fail
        refine (HA _).out.mono ?_; rintro e w' ⟨rfl, rfl⟩
        go_wp2_with fail
        refine (HB _).out.mono ?_; rintro e w' ⟨rfl, rfl⟩
        go_wp2_with fail
        go_ret
        exact ⟨ret_bool HF.out.symm, B1 _⟩
    | false =>
      have HF : Hid (insB ⟨o, a, b, 0⟩ i n = false) := by show _ = _; rw [HI.out]; simp [ha]
      have HA := fun (W : World) => Lib.hid (sIx a i W)
      rw [ha] at HA
      clear HI ha
      rcases ho with rfl | rfl | rfl | rfl
      all_goals
        go_enter Try.func184, Try.ntmps184
        go_wp2_with fail
        refine (HA _).out.mono ?_; rintro e w' ⟨rfl, rfl⟩
        go_wp2_with fail
        go_ret
        exact ⟨ret_bool HF.out.symm, B1 _⟩
  · have hd := tne_beq hm
    have HF : Hid (insB ⟨o, a, b, m⟩ i n = false) := by show _ = _; rw [HI.out]; simp [hm]
    clear HI hm
    rcases ho with rfl | rfl | rfl | rfl
    all_goals
      go_enter Try.func184, Try.ntmps184
      go_wp2_with fail
      go_ret
      exact ⟨ret_bool HF.out.symm, B1 _⟩

set_option maxRecDepth 100000 in
set_option maxHeartbeats 3200000 in
theorem sInstr (x : In4) (i : Nat) (n : Int) (w : World) (hi : i ≤ 3200) (hn : 0 ≤ n ∧ n ≤ 12) :
    Calls Try.prog 184 #[inst x, .int .i64 i, .int .i64 n] w fun e w' => e = .returned (.bool (insB x i n)) ∧ Below w.heap.size w w' := by
  have B1 : ∀ o, Below w.heap.size w (w.alloc o) := fun o => (Below.refl _ _).alloc (Nat.le_refl _) o
  obtain ⟨o, a, b, m⟩ := x
  by_cases h36 : 3 ≤ o ∧ o ≤ 6
  · exact sInstr_two o (by omega) a b m i n w hi
  unfold inst
  by_cases h1 : o = 1
  · subst h1
    have HI := Lib.hid (insB_in (x := ⟨1, a, b, m⟩) (i := i) (n := n) rfl)
    by_cases ha : a = 0
    · subst ha
      by_cases hb : b = 0
      · subst hb
        have HF : Hid (insB ⟨1, 0, 0, m⟩ i n = ixB m n) := by show _ = _; rw [HI.out]; simp
        clear HI
        go_enter Try.func184, Try.ntmps184
        go_wp2_with fail
        refine (sIx m n _).mono ?_; rintro e w' ⟨rfl, rfl⟩
        go_wp2_with fail
        go_ret
        exact ⟨ret_bool HF.out.symm, B1 _⟩
      · have hd := tne_beq hb
        have HF : Hid (insB ⟨1, 0, b, m⟩ i n = false) := by show _ = _; rw [HI.out]; simp [hb]
        clear HI hb
        go_enter Try.func184, Try.ntmps184
        go_wp2_with fail
        go_ret
        exact ⟨ret_bool HF.out.symm, B1 _⟩
    · have hd := tne_beq ha
      have HF : Hid (insB ⟨1, a, b, m⟩ i n = false) := by show _ = _; rw [HI.out]; simp [ha]
      clear HI ha
      go_enter Try.func184, Try.ntmps184
      go_wp2_with fail
      go_ret
      exact ⟨ret_bool HF.out.symm, B1 _⟩
  by_cases h2 : o = 2
  · subst h2
    have HI := Lib.hid (insB_num (x := ⟨2, a, b, m⟩) (i := i) (n := n) rfl)
    by_cases ha : a = 0
    · subst ha
      by_cases hb : b = 0
      · subst hb
        have HF : Hid (insB ⟨2, 0, 0, m⟩ i n = okNum m) := by show _ = _; rw [HI.out, okNum_ix]; simp
        clear HI
        go_enter Try.func184, Try.ntmps184
        go_wp2_with fail
        refine (sNumber m _).mono ?_; rintro e w' ⟨rfl, rfl⟩
        go_wp2_with fail
        go_ret
        exact ⟨ret_bool HF.out.symm, B1 _⟩
      · have hd := tne_beq hb
        have HF : Hid (insB ⟨2, 0, b, m⟩ i n = false) := by show _ = _; rw [HI.out]; simp [hb]
        clear HI hb
        go_enter Try.func184, Try.ntmps184
        go_wp2_with fail
        go_ret
        exact ⟨ret_bool HF.out.symm, B1 _⟩
    · have hd := tne_beq ha
      have HF : Hid (insB ⟨2, a, b, m⟩ i n = false) := by show _ = _; rw [HI.out]; simp [ha]
      clear HI ha
      go_enter Try.func184, Try.ntmps184
      go_wp2_with fail
      go_ret
      exact ⟨ret_bool HF.out.symm, B1 _⟩
  by_cases h7 : o = 7
  · subst h7
    have HI := Lib.hid (insB_neg (x := ⟨7, a, b, m⟩) (i := i) (n := n) rfl)
    by_cases ha : m = 0
    · subst ha
      by_cases hb : b = 0
      · subst hb
        have HF : Hid (insB ⟨7, a, 0, 0⟩ i n = ixB a i) := by show _ = _; rw [HI.out]; simp
        clear HI
        go_enter Try.func184, Try.ntmps184
        go_wp2_with fail
        refine (sIx a i _).mono ?_; rintro e w' ⟨rfl, rfl⟩
        go_wp2_with fail
        go_ret
        exact ⟨ret_bool HF.out.symm, B1 _⟩
      · have hd := tne_beq hb
        have HF : Hid (insB ⟨7, a, b, 0⟩ i n = false) := by show _ = _; rw [HI.out]; simp [hb]
        clear HI hb
        go_enter Try.func184, Try.ntmps184
        go_wp2_with fail
        go_ret
        exact ⟨ret_bool HF.out.symm, B1 _⟩
    · have hd := tne_beq ha
      have HF : Hid (insB ⟨7, a, b, m⟩ i n = false) := by show _ = _; rw [HI.out]; simp [ha]
      clear HI ha
      go_enter Try.func184, Try.ntmps184
      go_wp2_with fail
      go_ret
      exact ⟨ret_bool HF.out.symm, B1 _⟩
  have HF := Lib.hid (insB_other (x := ⟨o, a, b, m⟩) (i := i) (n := n) (by show o < 1 ∨ 7 < o; omega))
  have d1 := tne_beq h1
  have d2 := tne_beq h2
  have d3 : (o == 3) = false := tne_beq (by omega)
  have d4 : (o == 4) = false := tne_beq (by omega)
  have d5 : (o == 5) = false := tne_beq (by omega)
  have d6 : (o == 6) = false := tne_beq (by omega)
  have d7 := tne_beq h7
  clear h1 h2 h7 h36
  go_enter Try.func184, Try.ntmps184
  go_wp2_with fail
  go_ret
  exact ⟨ret_bool HF.out.symm, B1 _⟩

end Go.Proofs.Ytiimebiecihpkaa
