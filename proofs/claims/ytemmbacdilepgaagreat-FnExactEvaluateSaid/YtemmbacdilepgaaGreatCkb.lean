/- Schedules and weights: which ones are valid, by the model and by the program. -/
import Derived.Test.YtemmbacdilepgaaGreatCka
import Derived.Laws.StructEq
namespace Go.Proofs.YtemmbacdilepgaaGreat
open Go.RowKit
set_option linter.unusedVariables false

/-- between two bounds -/
def inB (x lo hi : Int) : Bool := decide (lo ≤ x ∧ x ≤ hi)
theorem inB_of {x lo hi : Int} (h : lo ≤ x ∧ x ≤ hi) : inB x lo hi = true := decide_eq_true h
theorem inB_no {x lo hi : Int} (h : ¬ (lo ≤ x ∧ x ≤ hi)) : inB x lo hi = false := decide_eq_false h
theorem inB_t {x lo hi : Int} (h : inB x lo hi = true) : lo ≤ x ∧ x ≤ hi := of_decide_eq_true h
theorem inB_ix {x hi n : Int} (h : hi + 1 = n) : ixB x n = inB x 0 hi := by subst h; unfold ixB inB; congr 1; exact propext ⟨fun h => by omega, fun h => by omega⟩
set_option maxHeartbeats 400000 in
theorem sIn (x lo hi : Int) (w : World) : Calls Tryz.prog 70 #[.int .i64 x, .int .i64 lo, .int .i64 hi] w fun e w' => e = .returned (.bool (inB x lo hi)) ∧ w = w' := by
  by_cases h : lo ≤ x ∧ x ≤ hi
  · rw [inB_of h]; exact inT x lo hi h.1 h.2 w
  · rw [inB_no h]; exact inF x lo hi (by omega) w
set_option maxHeartbeats 400000 in
theorem iIx (k n : Int) (w : World) : Calls Tryz.prog 74 #[.int .i64 k, .int .i64 n] w fun e w' => e = .returned (.bool (ixB k n)) ∧ w = w' := by
  by_cases h1 : 0 ≤ k
  · by_cases h2 : k < n
    · have HF : Hid (ixB k n = true) := decide_eq_true ⟨h1, h2⟩
      have d1 : decide (0 ≤ k) = true := decide_eq_true h1
      have d2 : decide (k < n) = true := decide_eq_true h2
      go_enter Tryz.func74, Tryz.ntmps74
      go_wp2
      go_ret
      exact ⟨ret_bool HF.out.symm, rfl⟩
    · have HF : Hid (ixB k n = false) := decide_eq_false (by omega)
      have d1 : decide (0 ≤ k) = true := decide_eq_true h1
      have d2 : decide (k < n) = false := decide_eq_false h2
      go_enter Tryz.func74, Tryz.ntmps74
      go_wp2
      go_ret
      exact ⟨ret_bool HF.out.symm, rfl⟩
  · have HF : Hid (ixB k n = false) := decide_eq_false (by omega)
    have d1 : decide (0 ≤ k) = false := decide_eq_false h1
    go_enter Tryz.func74, Tryz.ntmps74
    go_wp2
    go_ret
    exact ⟨ret_bool HF.out.symm, rfl⟩

/-- an action has the form of its kind -/
def acB (x : Ac) : Bool :=
  (decide (x.kind = 1) && inB x.arg 1 40) || (decide (x.kind = 2 ∨ x.kind = 3) && inB x.arg 0 7) || (decide (x.kind = 4) && decide (x.arg = 0))
theorem acB_1 {a : Int} : acB ⟨1, a⟩ = inB a 1 40 := by simp [acB]
theorem acB_2 {a : Int} : acB ⟨2, a⟩ = inB a 0 7 := by simp [acB]
theorem acB_3 {a : Int} : acB ⟨3, a⟩ = inB a 0 7 := by simp [acB]
theorem acB_4 {a : Int} : acB ⟨4, a⟩ = decide (a = 0) := by simp [acB]
theorem acB_o {k a : Int} (h1 : k ≠ 1) (h2 : k ≠ 2) (h3 : k ≠ 3) (h4 : k ≠ 4) : acB ⟨k, a⟩ = false := by simp [acB, h1, h2, h3, h4]

def eqAc (x y : Ac) : Bool := x.kind == y.kind && x.arg == y.arg
/-- a schedule is a list of so many actions of this form -/
def schB (l : List Ac) : Bool := decide (l.length ≤ 400) && l.all acB
theorem all_take0 {l : List Ac} : (l.take 0).all acB = true := rfl
theorem all_bad {l : List Ac} {k : Nat} (hk : k < l.length) (h : acB (l.getD k noAc) = false) : l.all acB = false := by
  rw [List.all_eq_false]
  refine ⟨l.getD k noAc, ?_, by rw [h]; simp⟩
  rw [List.getD_eq_getElem?_getD, List.getElem?_eq_getElem hk]; exact List.getElem_mem hk
theorem all_step {l : List Ac} {k : Nat} (hk : k < l.length) (h : (l.take k).all acB = true) (h2 : acB (l.getD k noAc) = true) : (l.take (k + 1)).all acB = true := by
  rw [List.take_succ_eq_append_getElem hk, List.all_append, h, Bool.true_and]
  rw [List.getD_eq_getElem?_getD, List.getElem?_eq_getElem hk] at h2
  simpa using h2
theorem schB_t {l : List Ac} (h : schB l = true) : l.length ≤ 400 ∧ l.all acB = true := by
  unfold schB at h; rw [Bool.and_eq_true] at h; exact ⟨of_decide_eq_true h.1, h.2⟩
theorem schB_ac {l : List Ac} (h : schB l = true) (k : Nat) (hk : k < l.length) : acB (l.getD k noAc) = true := by
  cases hh : acB (l.getD k noAc) with
  | true => rfl
  | false => have := (schB_t h).2; rw [all_bad hk hh] at this; cases this

/-- an index, or -1 -/
def IdxPost (z : Bool) (w : World) (e : Ending) (w' : World) : Prop := ∃ r : Int, e = .returned (.int .i64 r) ∧ decide (0 ≤ r) = z ∧ Below w.heap.size w w'
/- weights -/
def wtN (x : Int) : Bool := inB x 0 1000
def wtB (l : List Int) : Bool := decide (l.length ≤ 40) && l.all wtN
theorem wt_take0 {l : List Int} : (l.take 0).all wtN = true := rfl
theorem wt_bad {l : List Int} {k : Nat} (hk : k < l.length) (h : wtN (l.getD k 0) = false) : l.all wtN = false := by
  rw [List.all_eq_false]
  exact ⟨l.getD k 0, getD_mem hk, by rw [h]; simp⟩
theorem wt_step {l : List Int} {k : Nat} (hk : k < l.length) (h : (l.take k).all wtN = true) (h2 : wtN (l.getD k 0) = true) : (l.take (k + 1)).all wtN = true := by
  rw [← take_snoc hk, List.all_append, h, Bool.true_and]
  simpa using h2
theorem wtB_t {l : List Int} (h : wtB l = true) : l.length ≤ 40 ∧ ∀ k, 0 ≤ l.getD k 0 ∧ l.getD k 0 ≤ 1000 := by
  unfold wtB at h; rw [Bool.and_eq_true] at h
  refine ⟨of_decide_eq_true h.1, fun k => ?_⟩
  by_cases hk : k < l.length
  · exact inB_t (List.all_eq_true.1 h.2 _ (getD_mem hk))
  · rw [List.getD_eq_getElem?_getD, List.getElem?_eq_none (by omega)]; simp
end Go.Proofs.YtemmbacdilepgaaGreat
