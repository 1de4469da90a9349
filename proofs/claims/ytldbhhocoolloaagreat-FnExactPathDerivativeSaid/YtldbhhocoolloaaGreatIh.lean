/- The program: what an environment admits. -/
import Derived.Test.YtldbhhocoolloaaGreatIf
import Derived.Test.YtldbhhocoolloaaGreatIg
namespace Go.Proofs.YtldbhhocoolloaaGreat
open Go.RowKit
set_option linter.unusedVariables false

/-- the fields of a node are within the environment -/
def admB (fs : List Fn) (vars funcs : Int) (k n p c : Int) (m : Nat) : Bool :=
  if k = 1 then decide (0 ≤ n ∧ n < 1000003) else if k = 2 then decide (0 ≤ n ∧ n < vars) else if k = 10 then offB fs funcs n p m else
  if k = 11 then offB fs funcs n p m && (repB fs n && decide (0 ≤ c ∧ c < 9)) else true

theorem formAdm (fs : List Fn) (vars funcs : Int) (k n p c : Int) (m : Nat) : (formB k n p c m && admB fs vars funcs k n p c m) = nodeB fs vars funcs k n p c m := by
  rw [Bool.eq_iff_iff]
  rcases kind_all k with rfl | rfl | rfl | rfl | rfl | rfl | rfl | rfl | rfl | rfl | rfl | ⟨h1, h2, h3, h4, h5, h6, h7, h8, h9, h10, h11⟩
  iterate 11
    · simp [formB, admB, nodeB, leafB, innerB, kidsNo, offB, repB]
      try omega
  · simp [formB, admB, nodeB, kidsNo, h1, h2, h3, h4, h5, h6, h7, h8, h9, h10, h11]
    try omega

theorem zeroNum (W : World) : (do pure (Value.tuple #[← zeroValue 193, .bool false]) : Sem Value).run Tryz.prog W = .ok (.tuple #[.agg #[.int .i64 0], .bool false]) W := by kernel_rfl
theorem asNum_yes (W : World) (v : Value) : (Instr.typeAssert (.iface 193 v) 190 193 true).run Tryz.prog W = .ok (.tuple #[v, .bool true]) W := by kernel_rfl
theorem asNum_no (W : World) (u : TypeId) (v : Value) (h : u ≠ 193) : (Instr.typeAssert (.iface u v) 190 193 true).run Tryz.prog W = .ok (.tuple #[.agg #[.int .i64 0], .bool false]) W := by
  have e : (Instr.typeAssert (.iface u v) 190 193 true).run Tryz.prog W = (if u = 193 then (pure (Value.tuple #[v, .bool true]) : Sem Value) else (do pure (Value.tuple #[← zeroValue 193, .bool false]))).run Tryz.prog W := by kernel_rfl
  rw [e, if_neg h]
  exact zeroNum W
theorem zeroVar (W : World) : (do pure (Value.tuple #[← zeroValue 195, .bool false]) : Sem Value).run Tryz.prog W = .ok (.tuple #[.agg #[.int .i64 0], .bool false]) W := by kernel_rfl
theorem asVar_yes (W : World) (v : Value) : (Instr.typeAssert (.iface 195 v) 190 195 true).run Tryz.prog W = .ok (.tuple #[v, .bool true]) W := by kernel_rfl
theorem asVar_no (W : World) (u : TypeId) (v : Value) (h : u ≠ 195) : (Instr.typeAssert (.iface u v) 190 195 true).run Tryz.prog W = .ok (.tuple #[.agg #[.int .i64 0], .bool false]) W := by
  have e : (Instr.typeAssert (.iface u v) 190 195 true).run Tryz.prog W = (if u = 195 then (pure (Value.tuple #[v, .bool true]) : Sem Value) else (do pure (Value.tuple #[← zeroValue 195, .bool false]))).run Tryz.prog W := by kernel_rfl
  rw [e, if_neg h]
  exact zeroVar W
theorem zeroCall (W : World) : (do pure (Value.tuple #[← zeroValue 209, .bool false]) : Sem Value).run Tryz.prog W = .ok (.tuple #[.agg #[.int .i64 0, .int .i64 0, .slice none 0 0], .bool false]) W := by kernel_rfl
theorem asCall_yes (W : World) (v : Value) : (Instr.typeAssert (.iface 209 v) 190 209 true).run Tryz.prog W = .ok (.tuple #[v, .bool true]) W := by kernel_rfl
theorem asCall_no (W : World) (u : TypeId) (v : Value) (h : u ≠ 209) : (Instr.typeAssert (.iface u v) 190 209 true).run Tryz.prog W = .ok (.tuple #[.agg #[.int .i64 0, .int .i64 0, .slice none 0 0], .bool false]) W := by
  have e : (Instr.typeAssert (.iface u v) 190 209 true).run Tryz.prog W = (if u = 209 then (pure (Value.tuple #[v, .bool true]) : Sem Value) else (do pure (Value.tuple #[← zeroValue 209, .bool false]))).run Tryz.prog W := by kernel_rfl
  rw [e, if_neg h]
  exact zeroCall W
theorem zeroLoop (W : World) : (do pure (Value.tuple #[← zeroValue 212, .bool false]) : Sem Value).run Tryz.prog W = .ok (.tuple #[.agg #[.int .i64 0, .int .i64 0, .int .i64 0, .slice none 0 0], .bool false]) W := by kernel_rfl
theorem asLoop_yes (W : World) (v : Value) : (Instr.typeAssert (.iface 212 v) 190 212 true).run Tryz.prog W = .ok (.tuple #[v, .bool true]) W := by kernel_rfl
theorem asLoop_no (W : World) (u : TypeId) (v : Value) (h : u ≠ 212) : (Instr.typeAssert (.iface u v) 190 212 true).run Tryz.prog W = .ok (.tuple #[.agg #[.int .i64 0, .int .i64 0, .int .i64 0, .slice none 0 0], .bool false]) W := by
  have e : (Instr.typeAssert (.iface u v) 190 212 true).run Tryz.prog W = (if u = 212 then (pure (Value.tuple #[v, .bool true]) : Sem Value) else (do pure (Value.tuple #[← zeroValue 212, .bool false]))).run Tryz.prog W := by kernel_rfl
  rw [e, if_neg h]
  exact zeroLoop W

set_option maxRecDepth 100000 in
set_option maxHeartbeats 3200000 in
theorem iAdmits (fs : List Fn) (ap : Option Addr) (fn capp : Nat) (vars : Int) (k n p c : Int) (m : Nat) (a : Option Addr) (cap : Nat) (v : Value) (w : World) (hV : NodeIs k n p c m a cap v) (hP : Pat w 0 w.heap.size fs ap) (hfn : fn ≤ fs.length) (hl : fs.length ≤ 1048576) (hm : m ≤ 1048576) :
    Calls Tryz.prog 163 #[.agg #[.slice ap fn capp, .int .i64 vars], v] w fun e w' => e = .returned (.bool (admB fs vars fn k n p c m)) ∧ Below w.heap.size w w' := by
  have B1 : ∀ o, Below w.heap.size w (w.alloc o) := fun o => (Below.refl _ _).alloc (Nat.le_refl _) o
  rcases hV with ⟨rfl, rfl⟩ | ⟨rfl, rfl⟩ | ⟨rfl, rfl⟩ | ⟨rfl, rfl⟩ | ⟨⟨h1, h2, h10, h11⟩, T, x, rfl, hT⟩
  · have HF : Hid (admB fs vars fn 1 n p c m = decide (0 ≤ n ∧ n < 1000003)) := rfl
    have HI := fun W => Lib.hid (iIndex n 1000003 W)
    generalize decide (0 ≤ n ∧ n < 1000003) = r at HF HI
    have qNum := fun W v => asNum_yes W v
    go_enter Tryz.func163, Tryz.ntmps163
    go_wp2_with fail
    refine (HI _).out.mono ?_; rintro e w' ⟨rfl, rfl⟩
    go_wp2_with fail
    go_ret
    exact ⟨ret_bool HF.out.symm, (B1 _).alloc (by simp) _⟩
  · have HF : Hid (admB fs vars fn 2 n p c m = decide (0 ≤ n ∧ n < vars)) := rfl
    have HI := fun W => Lib.hid (iIndex n vars W)
    generalize decide (0 ≤ n ∧ n < vars) = r at HF HI
    have qNum := fun W v => asNum_no W 195 v (by decide)
    have qVar := fun W v => asVar_yes W v
    go_enter Tryz.func163, Tryz.ntmps163
    go_wp2_with fail
    refine (HI _).out.mono ?_; rintro e w' ⟨rfl, rfl⟩
    go_wp2_with fail
    go_ret
    exact ⟨ret_bool HF.out.symm, (B1 _).alloc (by simp) _⟩
  · have HF : Hid (admB fs vars fn 10 n p c m = offB fs fn n p m) := rfl
    have qNum := fun W v => asNum_no W 209 v (by decide)
    have qVar := fun W v => asVar_no W 209 v (by decide)
    have qCall := fun W v => asCall_yes W v
    go_enter Tryz.func163, Tryz.ntmps163
    go_wp2_with fail
    refine (iOffers fs ap fn capp vars n p m a cap _ ((hP.below ((B1 _).alloc (by simp) _)).mono (Nat.le_refl _) (by simp; omega)) hfn hl hm).mono ?_; rintro e w' ⟨rfl, hb⟩
    have hB := ((B1 _).alloc (by simp) _).trans (hb.mono (by simp; omega))
    generalize offB fs fn n p m = r at HF
    go_wp2_with fail
    go_ret
    exact ⟨ret_bool HF.out.symm, hB⟩
  · have HF : Hid (admB fs vars fn 11 n p c m = (offB fs fn n p m && (repB fs n && decide (0 ≤ c ∧ c < 9)))) := rfl
    have qNum := fun W v => asNum_no W 212 v (by decide)
    have qVar := fun W v => asVar_no W 212 v (by decide)
    have qCall := fun W v => asCall_no W 212 v (by decide)
    have qLoop := fun W v => asLoop_yes W v
    go_enter Tryz.func163, Tryz.ntmps163
    go_wp2_with fail
    refine (iOffers fs ap fn capp vars n p m a cap _ ((hP.below ((B1 _).alloc (by simp) _)).mono (Nat.le_refl _) (by simp; omega)) hfn hl hm).mono ?_; rintro e w' ⟨rfl, hb⟩
    have hB := ((B1 _).alloc (by simp) _).trans (hb.mono (by simp; omega))
    cases ho : offB fs fn n p m with
    | false =>
      have HF2 : Hid (admB fs vars fn 11 n p c m = false) := by show _ = _; rw [HF.out, ho, Bool.false_and]
      clear HF ho
      go_wp2_with fail
      go_ret
      exact ⟨ret_bool HF2.out.symm, hB⟩
    | true =>
      have HF2 : Hid (admB fs vars fn 11 n p c m = (repB fs n && decide (0 ≤ c ∧ c < 9))) := by show _ = _; rw [HF.out, ho, Bool.true_and]
      have hn : 0 ≤ n ∧ n < (fn : Int) := by
        unfold offB at ho
        simp only [Bool.and_eq_true, decide_eq_true_eq] at ho
        exact ho.1
      obtain ⟨hc, hf⟩ := bcell hb
      have hz := hb.size
      simp at hz
      clear HF ho
      obtain ⟨j, rfl⟩ := Int.eq_ofNat_of_zero_le hn.1
      have hj : j < fs.length := by omega
      obtain ⟨bf, of, rfl, hbB, hall⟩ := (((hP.below hB).mono (Nat.le_refl _) hB.size).resolve_left (by intro e; rw [e] at hj; simp at hj))
      obtain ⟨hrr, af, cf, f0, f1, f2, _⟩ := hall j hj
      have hlf := hrr.2.2
      unfold maxLen at hlf
      have HR : Hid (Calls Tryz.prog 183 #[.agg #[.string (fs.getD j noFn).name, .int .i64 (fs.getD j noFn).params, .slice af (fs.getD j noFn).outs.len cf]] w' fun e w2 => e = .returned (.bool (repB fs (j : Int))) ∧ Below w'.heap.size w' w2) := iRepeats (fs.getD j noFn).name (fs.getD j noFn).params af (fs.getD j noFn).outs.len cf w' (by omega)
      have hji : (j : Int) < (fn : Int) := hn.2
      clear hall hrr hlf hn
      generalize (fs.getD j noFn).name = nm at f0 HR
      generalize (fs.getD j noFn).outs.len = mo at f2 HR
      generalize (fs.getD j noFn).params = pa at f1 HR
      go_wp2_with fail
      refine (HR.out).mono ?_; rintro e w2 ⟨rfl, hb2⟩
      have hB2 := hB.trans (hb2.mono hB.size)
      obtain ⟨hc2, hf2⟩ := bcell hb2
      have hz2 := hb2.size
      have hz3 : w.heap.size < w'.heap.size := by omega
      have hz4 : w.heap.size + 1 < w'.heap.size := by omega
      clear HR
      cases hr : repB fs (j : Int) with
      | false =>
        have HF3 : Hid (admB fs vars fn 11 (j : Int) p c m = false) := by show _ = _; rw [HF2.out, hr, Bool.false_and]
        clear HF2 hr
        go_wp2_with fail
        go_ret
        exact ⟨ret_bool HF3.out.symm, hB2⟩
      | true =>
        have HF3 : Hid (admB fs vars fn 11 (j : Int) p c m = decide (0 ≤ c ∧ c < 9)) := by show _ = _; rw [HF2.out, hr, Bool.true_and]
        have HI := fun W => Lib.hid (iIndex c 9 W)
        generalize decide (0 ≤ c ∧ c < 9) = r at HF3 HI
        clear HF2 hr
        go_wp2_with fail
        refine (HI _).out.mono ?_; rintro e w3 ⟨rfl, rfl⟩
        go_wp2_with fail
        go_ret
        exact ⟨ret_bool HF3.out.symm, hB2⟩
  · have HF : Hid (admB fs vars fn k n p c m = true) := by
      show _ = _
      unfold admB
      rw [if_neg h1, if_neg h2, if_neg h10, if_neg h11]
    clear h1 h2 h10 h11
    have qNum := fun W v => asNum_no W T v (by rcases hT with rfl | rfl | rfl | rfl <;> decide)
    have qVar := fun W v => asVar_no W T v (by rcases hT with rfl | rfl | rfl | rfl <;> decide)
    have qCall := fun W v => asCall_no W T v (by rcases hT with rfl | rfl | rfl | rfl <;> decide)
    have qLoop := fun W v => asLoop_no W T v (by rcases hT with rfl | rfl | rfl | rfl <;> decide)
    clear hT
    iterate 1
      · go_enter Tryz.func163, Tryz.ntmps163
        go_wp2_with fail
        go_ret
        exact ⟨ret_bool HF.out.symm, B1 _⟩

end Go.Proofs.YtldbhhocoolloaaGreat
