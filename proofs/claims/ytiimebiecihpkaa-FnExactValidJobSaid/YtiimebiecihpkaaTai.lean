/- Tapes: which ones are valid by the program. -/
import Derived.Test.YtiimebiecihpkaaTap2
import Derived.Test.YtiimebiecihpkaaOps
import Derived.Lib.LazyBuf
namespace Go.Proofs.Ytiimebiecihpkaa
open Go.RowKit
set_option linter.unusedVariables false

set_option maxHeartbeats 400000 in
theorem tIx (k n : Int) (w : World) : Calls Try.prog 112 #[.int .i64 k, .int .i64 n] w fun e w' => e = .returned (.bool (ixB k n)) ∧ w = w' := by
  by_cases h1 : 0 ≤ k
  · by_cases h2 : k < n
    · have HF : Hid (ixB k n = true) := decide_eq_true ⟨h1, h2⟩
      have d1 : decide (0 ≤ k) = true := decide_eq_true h1
      have d2 : decide (k < n) = true := decide_eq_true h2
      go_enter Try.func112, Try.ntmps112
      go_wp2
      go_ret
      exact ⟨ret_bool HF.out.symm, rfl⟩
    · have HF : Hid (ixB k n = false) := decide_eq_false (by omega)
      have d1 : decide (0 ≤ k) = true := decide_eq_true h1
      have d2 : decide (k < n) = false := decide_eq_false h2
      go_enter Try.func112, Try.ntmps112
      go_wp2
      go_ret
      exact ⟨ret_bool HF.out.symm, rfl⟩
  · have HF : Hid (ixB k n = false) := decide_eq_false (by omega)
    have d1 : decide (0 ≤ k) = false := decide_eq_false h1
    go_enter Try.func112, Try.ntmps112
    go_wp2
    go_ret
    exact ⟨ret_bool HF.out.symm, rfl⟩

set_option maxRecDepth 100000 in
set_option maxHeartbeats 3200000 in
theorem iInstr_in (a b m : Int) (i : Nat) (n : Int) (w : World) :
    Calls Try.prog 187 #[inst ⟨1, a, b, m⟩, .int .i64 n, .int .i64 i] w fun e w' => e = .returned (.bool (insB ⟨1, a, b, m⟩ i n)) ∧ Below w.heap.size w w' := by
  unfold inst
  have B1 : ∀ o, Below w.heap.size w (w.alloc o) := fun o => (Below.refl _ _).alloc (Nat.le_refl _) o
  have HI := Lib.hid (insB_in (x := ⟨1, a, b, m⟩) (i := i) (n := n) rfl)
  by_cases h1 : a = 0
  · subst h1
    by_cases h2 : b = 0
    · subst h2
      have HF : Hid (insB ⟨1, 0, 0, m⟩ i n = ixB m n) := by show _ = _; rw [HI.out]; simp
      clear HI
      go_enter Try.func187, Try.ntmps187
      go_wp2_with fail
      refine (tIx m n _).mono ?_; rintro e w' ⟨rfl, rfl⟩
      go_wp2_with fail
      go_ret
      exact ⟨ret_bool HF.out.symm, B1 _⟩
    · have HF : Hid (insB ⟨1, 0, b, m⟩ i n = false) := by show _ = _; rw [HI.out]; simp [h2]
      clear HI
      go_enter Try.func187, Try.ntmps187
      go_wp2_with fail
      go_ret
      exact ⟨ret_bool HF.out.symm, B1 _⟩
  · have HF : Hid (insB ⟨1, a, b, m⟩ i n = false) := by show _ = _; rw [HI.out]; simp [h1]
    clear HI
    go_enter Try.func187, Try.ntmps187
    go_wp2_with fail
    go_ret
    exact ⟨ret_bool HF.out.symm, B1 _⟩

set_option maxRecDepth 100000 in
set_option maxHeartbeats 3200000 in
theorem iInstr_num (a b m : Int) (i : Nat) (n : Int) (w : World) :
    Calls Try.prog 187 #[inst ⟨2, a, b, m⟩, .int .i64 n, .int .i64 i] w fun e w' => e = .returned (.bool (insB ⟨2, a, b, m⟩ i n)) ∧ Below w.heap.size w w' := by
  unfold inst
  have B1 : ∀ o, Below w.heap.size w (w.alloc o) := fun o => (Below.refl _ _).alloc (Nat.le_refl _) o
  have HI := Lib.hid (insB_num (x := ⟨2, a, b, m⟩) (i := i) (n := n) rfl)
  by_cases h1 : a = 0
  · subst h1
    by_cases h2 : b = 0
    · subst h2
      have HF : Hid (insB ⟨2, 0, 0, m⟩ i n = ixB m 1000003) := by show _ = _; rw [HI.out]; simp
      clear HI
      go_enter Try.func187, Try.ntmps187
      go_wp2_with fail
      refine (tIx m 1000003 _).mono ?_; rintro e w' ⟨rfl, rfl⟩
      go_wp2_with fail
      go_ret
      exact ⟨ret_bool HF.out.symm, B1 _⟩
    · have HF : Hid (insB ⟨2, 0, b, m⟩ i n = false) := by show _ = _; rw [HI.out]; simp [h2]
      clear HI
      go_enter Try.func187, Try.ntmps187
      go_wp2_with fail
      go_ret
      exact ⟨ret_bool HF.out.symm, B1 _⟩
  · have HF : Hid (insB ⟨2, a, b, m⟩ i n = false) := by show _ = _; rw [HI.out]; simp [h1]
    clear HI
    go_enter Try.func187, Try.ntmps187
    go_wp2_with fail
    go_ret
    exact ⟨ret_bool HF.out.symm, B1 _⟩

set_option maxRecDepth 100000 in
set_option maxHeartbeats 3200000 in
theorem iInstr_neg (a b m : Int) (i : Nat) (n : Int) (w : World) :
    Calls Try.prog 187 #[inst ⟨7, a, b, m⟩, .int .i64 n, .int .i64 i] w fun e w' => e = .returned (.bool (insB ⟨7, a, b, m⟩ i n)) ∧ Below w.heap.size w w' := by
  unfold inst
  have B1 : ∀ o, Below w.heap.size w (w.alloc o) := fun o => (Below.refl _ _).alloc (Nat.le_refl _) o
  have HI := Lib.hid (insB_neg (x := ⟨7, a, b, m⟩) (i := i) (n := n) rfl)
  by_cases h1 : b = 0
  · subst h1
    by_cases h2 : m = 0
    · subst h2
      have HF : Hid (insB ⟨7, a, 0, 0⟩ i n = ixB a i) := by show _ = _; rw [HI.out]; simp
      clear HI
      go_enter Try.func187, Try.ntmps187
      go_wp2_with fail
      refine (tIx a i _).mono ?_; rintro e w' ⟨rfl, rfl⟩
      go_wp2_with fail
      go_ret
      exact ⟨ret_bool HF.out.symm, B1 _⟩
    · have HF : Hid (insB ⟨7, a, 0, m⟩ i n = false) := by show _ = _; rw [HI.out]; simp [h2]
      clear HI
      go_enter Try.func187, Try.ntmps187
      go_wp2_with fail
      go_ret
      exact ⟨ret_bool HF.out.symm, B1 _⟩
  · have HF : Hid (insB ⟨7, a, b, m⟩ i n = false) := by show _ = _; rw [HI.out]; simp [h1]
    clear HI
    go_enter Try.func187, Try.ntmps187
    go_wp2_with fail
    go_ret
    exact ⟨ret_bool HF.out.symm, B1 _⟩

set_option maxRecDepth 100000 in
set_option maxHeartbeats 3200000 in
theorem iInstr_two (o : Int) (ho : o = 3 ∨ o = 4 ∨ o = 5 ∨ o = 6) (a b m : Int) (i : Nat) (n : Int) (w : World) :
    Calls Try.prog 187 #[inst ⟨o, a, b, m⟩, .int .i64 n, .int .i64 i] w fun e w' => e = .returned (.bool (insB ⟨o, a, b, m⟩ i n)) ∧ Below w.heap.size w w' := by
  unfold inst
  have B1 : ∀ o, Below w.heap.size w (w.alloc o) := fun o => (Below.refl _ _).alloc (Nat.le_refl _) o
  have HI := Lib.hid (insB_two (x := ⟨o, a, b, m⟩) (i := i) (n := n) (by show 3 ≤ o ∧ o ≤ 6; omega))
  by_cases hm : m = 0
  · subst hm
    cases ha : ixB a i with
    | true =>
      have HF : Hid (insB ⟨o, a, b, 0⟩ i n = ixB b i) := by show _ = _; rw [HI.out]; simp [ha]
      have HA := fun (W : World) => Lib.hid (tIx a i W)
      rw [ha] at HA
      have HB := fun (W : World) => Lib.hid (tIx b i W)
      clear HI ha
      rcases ho with rfl | rfl | rfl | rfl
      all_goals
        go_enter Try.func187, Try.ntmps187
        go_wp2_with fail
        refine (HA _).out.mono ?_; rintro e w' ⟨rfl, rfl⟩
        go_wp2_with fail
        refine (HB _).out.mono ?_; rintro e w' ⟨rfl, rfl⟩
        go_wp2_with fail
        go_ret
        exact ⟨ret_bool HF.out.symm, B1 _⟩
    | false =>
      have HF : Hid (insB ⟨o, a, b, 0⟩ i n = false) := by show _ = _; rw [HI.out]; simp [ha]
      have HA := fun (W : World) => Lib.hid (tIx a i W)
      rw [ha] at HA
      clear HI ha
      rcases ho with rfl | rfl | rfl | rfl
      all_goals
        go_enter Try.func187, Try.ntmps187
        go_wp2_with fail
        refine (HA _).out.mono ?_; rintro e w' ⟨rfl, rfl⟩
        go_wp2_with fail
        go_ret
        exact ⟨ret_bool HF.out.symm, B1 _⟩
  · have hd := tne_beq hm
    have HF : Hid (insB ⟨o, a, b, m⟩ i n = false) := by show _ = _; rw [HI.out]; simp [hm]
    clear HI hm
    rcases ho with rfl | rfl | rfl | rfl
    all_goals
      go_enter Try.func187, Try.ntmps187
      go_wp2_with fail
      go_ret
      exact ⟨ret_bool HF.out.symm, B1 _⟩

set_option maxRecDepth 100000 in
set_option maxHeartbeats 3200000 in
theorem iInstr (x : In4) (i : Nat) (n : Int) (w : World) :
    Calls Try.prog 187 #[inst x, .int .i64 n, .int .i64 i] w fun e w' => e = .returned (.bool (insB x i n)) ∧ Below w.heap.size w w' := by
  have B1 : ∀ o, Below w.heap.size w (w.alloc o) := fun o => (Below.refl _ _).alloc (Nat.le_refl _) o
  obtain ⟨o, a, b, m⟩ := x
  by_cases h36 : 3 ≤ o ∧ o ≤ 6
  · exact iInstr_two o (by omega) a b m i n w
  by_cases h1 : o = 1
  · subst h1; exact iInstr_in a b m i n w
  by_cases h2 : o = 2
  · subst h2; exact iInstr_num a b m i n w
  by_cases h7 : o = 7
  · subst h7; exact iInstr_neg a b m i n w
  unfold inst
  have HF := Lib.hid (insB_other (x := ⟨o, a, b, m⟩) (i := i) (n := n) (by show o < 1 ∨ 7 < o; omega))
  have d1 := tne_beq h1
  have d2 := tne_beq h2
  have d3 : (o == 3) = false := tne_beq (by omega)
  have d4 : (o == 4) = false := tne_beq (by omega)
  have d5 : (o == 5) = false := tne_beq (by omega)
  have d6 : (o == 6) = false := tne_beq (by omega)
  have d7 := tne_beq h7
  clear h1 h2 h7 h36
  go_enter Try.func187, Try.ntmps187
  go_wp2_with fail
  go_ret
  exact ⟨ret_bool HF.out.symm, B1 _⟩

set_option maxRecDepth 100000 in
set_option maxHeartbeats 1600000 in
theorem iLacks (t : Tp) (ac : Option Addr) (cc : Nat) (ag : Option Addr) (cg : Nat) (ao : Option Addr) (co : Nat) (x : Int) (w : World) :
    Calls Try.prog 130 #[tpv t ac cc ag cg ao co, .int .i64 x] w fun e w' => e = .returned (.bool (!ixB x t.code.length)) ∧ Below w.heap.size w w' := by
  unfold tpv
  have B1 : ∀ o, Below w.heap.size w (w.alloc o) := fun o => (Below.refl _ _).alloc (Nat.le_refl _) o
  have HC := fun (W : World) => Lib.hid (tIx x t.code.length W)
  cases hb : ixB x t.code.length with
  | true =>
    rw [hb] at HC
    go_enter Try.func130, Try.ntmps130
    go_wp2_with fail
    refine (HC _).out.mono ?_; rintro e w' ⟨rfl, rfl⟩
    go_wp2_with fail
    go_ret
    exact ⟨rfl, B1 _⟩
  | false =>
    rw [hb] at HC
    go_enter Try.func130, Try.ntmps130
    go_wp2_with fail
    refine (HC _).out.mono ?_; rintro e w' ⟨rfl, rfl⟩
    go_wp2_with fail
    go_ret
    exact ⟨rfl, B1 _⟩

theorem news_of_at {w w0 : World} {b o : Nat} {l : List Int} (hc : ∀ k, k < l.length → w0.cell? ⟨b, o + k, none⟩ = some (.int .i64 (l.getD k 0))) :
    ∀ (j : Nat) (u : Value), (l.map (Value.int .i64))[j]? = some u → w0.cell? ((⟨b, o, none⟩ : Addr).add j) = some u := by
  intro j u hj
  rw [List.getElem?_map] at hj
  have hjl : j < l.length := by
    apply Nat.lt_of_not_le
    intro hge
    rw [List.getElem?_eq_none hge] at hj
    cases hj
  have e : (⟨b, o, none⟩ : Addr).add j = ⟨b, o + j, none⟩ := by cases j <;> simp [Addr.add]
  rw [e, hc j hjl, ← hj, List.getElem?_eq_getElem hjl, List.getD_eq_getElem?_getD, List.getElem?_eq_getElem hjl]
  rfl

set_option maxRecDepth 100000 in
set_option maxHeartbeats 1600000 in
theorem iClone (a : Option Addr) (ca : Nat) (l : List Int) (w : World) (ha : At w a l) (h1 : 1 ≤ l.length) (h2 : l.length ≤ 1048576) :
    Calls Try.prog 141 #[.slice a l.length ca] w (Fresh w l) := by
  obtain ⟨i0, hi, hz0, hz1, hz2⟩ := info_parts info64
  obtain ⟨b1, o1, rfl, hbl1, hc1⟩ := (ha.resolve_left (by intro e; rw [e] at h1; simp at h1))
  have hB0 := (Below.refl w.heap.size w).alloc (Nat.le_refl _) (.cells #[] 2)
  have hO0 := own_none w w.heap.size (Nat.le_refl _)
  have HN := Lib.hid (news_of_at (w := w) (w0 := w.alloc (.cells #[] 2)) (b := b1) (o := o1) (l := l) (fun k hk => (hB0.cell (p := ⟨b1, o1 + k, none⟩) hbl1).trans (hc1 k hk)))
  have hone : Hid (∀ u ∈ l.map (Value.int .i64), u.oneCell' = true) := ints_oneCell .i64 l
  have hnil := fun (W : World) => Lib.run_eql_slice_nil (P := Try.prog) W 23 2 (some ⟨b1, o1, none⟩) l.length ca 0 0 Try.underlying23
  clear hc1 ha
  go_enter Try.func141, Try.ntmps141
  go_wp2_with (at_builtin; refine wpList_append_lies _ rfl _ _ _ rfl w.heap.size 2 i0 _ 1 8 Try.underlying23 hi hz0 hz1 hz2 rfl (by omega) (.slice (some ⟨w.heap.size, 0, none⟩) 0 0) 0 [] rfl hO0 ⟨b1, o1, none⟩ l.length ca (l.map (Value.int .i64)) rfl (by rw [List.length_map, Nat.mul_one]) HN.out hone.out (by omega) (by unfold maxLen; omega) (by omega) (by simp) (w.heap.size + 1) (by simp) ?_; intro g cc w1 hown1 hgrow hat hlt1)
  have hw2 : Below w.heap.size w w1 := hB0.grown hgrow (by simp) (by intro q hq; simp [Value.ownBlock] at hq; omega)
  have ho3 : Own w.heap.size w1 g cc l := by unfold Own; simpa using hown1
  clear hown1 hgrow hat
  go_wp2_with fail
  go_ret
  exact ⟨g, cc, by simp, ho3, hw2⟩

end Go.Proofs.Ytiimebiecihpkaa
