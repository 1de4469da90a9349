/- Which tapes are valid, as plain functions. -/
import Derived.Test.YtldbhhocoolloaaGreatTap
namespace Go.Proofs.YtldbhhocoolloaaGreat
open Go.RowKit

/-- a number from 0 to n - 1 -/
def ixB (x n : Int) : Bool := decide (0 ≤ x ∧ x < n)
theorem ixB_t {x n : Int} (h : ixB x n = true) : 0 ≤ x ∧ x < n := by simpa [ixB] using h
theorem ixB_f {x n : Int} (h : ixB x n = false) : x < 0 ∨ n ≤ x := by simp [ixB] at h; omega
theorem ixB_of {x n : Int} (h : 0 ≤ x ∧ x < n) : ixB x n = true := by simp [ixB, h]
theorem ixB_no {x n : Int} (h : ¬ (0 ≤ x ∧ x < n)) : ixB x n = false := by simp only [ixB, h, decide_false]
/-- an instruction that is right behind so many others -/
def insB (x : In4) (i : Nat) (inputs : Int) : Bool :=
  (decide (x.op = 1) && (decide (x.a = 0 ∧ x.b = 0) && ixB x.num inputs)) ||
  (decide (x.op = 2) && (decide (x.a = 0 ∧ x.b = 0) && ixB x.num 1000003)) ||
  (decide (3 ≤ x.op ∧ x.op ≤ 6) && (decide (x.num = 0) && (ixB x.a i && ixB x.b i))) ||
  (decide (x.op = 7) && (decide (x.num = 0 ∧ x.b = 0) && ixB x.a i))
theorem insB_in {x : In4} {i : Nat} {n : Int} (h : x.op = 1) : insB x i n = (decide (x.a = 0 ∧ x.b = 0) && ixB x.num n) := by simp [insB, h]
theorem insB_num {x : In4} {i : Nat} {n : Int} (h : x.op = 2) : insB x i n = (decide (x.a = 0 ∧ x.b = 0) && ixB x.num 1000003) := by simp [insB, h]
theorem insB_two {x : In4} {i : Nat} {n : Int} (h : 3 ≤ x.op ∧ x.op ≤ 6) : insB x i n = (decide (x.num = 0) && (ixB x.a i && ixB x.b i)) := by
  have h1 : x.op ≠ 1 := by omega
  have h2 : x.op ≠ 2 := by omega
  have h3 : x.op ≠ 7 := by omega
  simp [insB, h, h1, h2, h3]
theorem insB_neg {x : In4} {i : Nat} {n : Int} (h : x.op = 7) : insB x i n = (decide (x.num = 0 ∧ x.b = 0) && ixB x.a i) := by simp [insB, h]
theorem insB_other {x : In4} {i : Nat} {n : Int} (h : x.op < 1 ∨ 7 < x.op) : insB x i n = false := by
  have h1 : x.op ≠ 1 := by omega
  have h2 : x.op ≠ 2 := by omega
  have h3 : x.op ≠ 7 := by omega
  have h4 : ¬ (3 ≤ x.op ∧ x.op ≤ 6) := by omega
  simp [insB, h1, h2, h3, h4]

def headB (t : Tp) : Bool := decide (0 ≤ t.inputs ∧ t.inputs ≤ 12 ∧ t.code.length ≤ 3200 ∧ t.guards.length ≤ 3200 ∧ 1 ≤ t.outs.length ∧ t.outs.length ≤ 12)
def codeB (t : Tp) : Bool := (List.range t.code.length).all fun i => insB (t.code.getD i no4) i t.inputs
def guardsB (t : Tp) : Bool := (List.range t.guards.length).all fun i => ixB (t.guards.getD i noG).reg t.code.length
def outsB (t : Tp) : Bool := (List.range t.outs.length).all fun i => ixB (t.outs.getD i 0) t.code.length
/-- the tape is valid -/
def tapeB (t : Tp) : Bool := headB t && (codeB t && (guardsB t && outsB t))

theorem allB_t {n : Nat} {f : Nat → Bool} (h : ∀ i, i < n → f i = true) : (List.range n).all f = true := by
  rw [List.all_eq_true]; intro x hx; exact h x (List.mem_range.1 hx)
theorem allB_f {n : Nat} {f : Nat → Bool} {i : Nat} (hi : i < n) (h : f i = false) : (List.range n).all f = false := by
  rw [List.all_eq_false]; exact ⟨i, List.mem_range.2 hi, by rw [h]; simp⟩
theorem allB_at {n : Nat} {f : Nat → Bool} {i : Nat} (h : (List.range n).all f = true) (hi : i < n) : f i = true := by
  rw [List.all_eq_true] at h; exact h i (List.mem_range.2 hi)
theorem tapeB_code {t : Tp} {i : Nat} (hi : i < t.code.length) (h : insB (t.code.getD i no4) i t.inputs = false) : tapeB t = false := by
  have : codeB t = false := allB_f hi h
  simp [tapeB, this]
theorem tapeB_guard {t : Tp} {i : Nat} (hi : i < t.guards.length) (h : ixB (t.guards.getD i noG).reg t.code.length = false) : tapeB t = false := by
  have : guardsB t = false := allB_f hi h
  simp [tapeB, this]
theorem tapeB_out {t : Tp} {i : Nat} (hi : i < t.outs.length) (h : ixB (t.outs.getD i 0) t.code.length = false) : tapeB t = false := by
  have : outsB t = false := allB_f hi h
  simp [tapeB, this]
theorem tapeB_head {t : Tp} (h : headB t = false) : tapeB t = false := by simp [tapeB, h]
theorem tapeB_all {t : Tp} (h0 : headB t = true) (h1 : ∀ i, i < t.code.length → insB (t.code.getD i no4) i t.inputs = true) (h2 : ∀ i, i < t.guards.length → ixB (t.guards.getD i noG).reg t.code.length = true)
    (h3 : ∀ i, i < t.outs.length → ixB (t.outs.getD i 0) t.code.length = true) : tapeB t = true := by
  have e1 : codeB t = true := allB_t h1
  have e2 : guardsB t = true := allB_t h2
  have e3 : outsB t = true := allB_t h3
  simp [tapeB, h0, e1, e2, e3]

/-- what is known of a valid tape -/
structure Okt (t : Tp) : Prop where
  inputs : 0 ≤ t.inputs ∧ t.inputs ≤ 12
  size : t.code.length ≤ 3200
  guards : t.guards.length ≤ 3200
  outs : 1 ≤ t.outs.length ∧ t.outs.length ≤ 12
  code : ∀ i, i < t.code.length → insB (t.code.getD i no4) i t.inputs = true
  reg : ∀ i, i < t.guards.length → 0 ≤ (t.guards.getD i noG).reg ∧ (t.guards.getD i noG).reg < t.code.length
  out : ∀ i, i < t.outs.length → 0 ≤ t.outs.getD i 0 ∧ t.outs.getD i 0 < t.code.length
theorem tapeB_ok {t : Tp} (h : tapeB t = true) : Okt t := by
  simp only [tapeB, Bool.and_eq_true] at h
  obtain ⟨h0, h1, h2, h3⟩ := h
  have h0' := of_decide_eq_true h0
  exact ⟨⟨h0'.1, h0'.2.1⟩, h0'.2.2.1, h0'.2.2.2.1, h0'.2.2.2.2, fun i hi => allB_at h1 hi, fun i hi => ixB_t (allB_at h2 hi), fun i hi => ixB_t (allB_at h3 hi)⟩

/-- how much a tape takes, as the laws count it -/
def tpSize (t : Tp) : Nat := t.code.length + t.guards.length + t.outs.length

end Go.Proofs.YtldbhhocoolloaaGreat
