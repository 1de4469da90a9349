/- Which programs are valid: plain functions on trees. -/
import Derived.Test.YtldbhhocoolloaaGreatPgm
import Derived.Test.YtldbhhocoolloaaGreatName
namespace Go.Proofs.YtldbhhocoolloaaGreat
open Go.RowKit

def kidsNo (k : Int) : Int := if k = 1 ∨ k = 2 then 0 else if k = 3 ∨ k = 4 ∨ k = 5 ∨ k = 6 ∨ k = 9 then 2 else if k = 7 then 1 else if k = 8 then 3 else -1

/-- the fields of a node are right -/
def nodeB (fs : List Fn) (vars funcs : Int) (k n p c : Int) (m : Nat) : Bool :=
  if k = 10 ∨ k = 11 then
    decide (0 ≤ n ∧ n < funcs) && (decide (0 ≤ p ∧ p < ((fs.getD n.toNat noFn).outs.len : Int)) && (decide ((m : Int) = (fs.getD n.toNat noFn).params) &&
      (if k = 10 then decide (c = 0) else decide (0 ≤ c ∧ c ≤ 8) && decide (((fs.getD n.toNat noFn).outs.len : Int) = (fs.getD n.toNat noFn).params))))
  else decide (kidsNo k = (m : Int) ∧ p = 0 ∧ c = 0) && (if k = 1 then decide (0 ≤ n ∧ n < 1000003) else if k = 2 then decide (0 ≤ n ∧ n < vars) else decide (n = 0))

/-- how many variables more the kid i of a node of the kind q has -/
def more (q : Int) (i : Nat) : Int := if q = 9 ∧ i = 1 then 1 else 0
/-- the kids of a node of the kind q, from the one with the number i on -/
def treeB (fs : List Fn) (funcs : Int) : Fo → Int → Int → Nat → Bool
  | .nil, _, _, _ => true
  | .cons k n p c ks r, vars, q, i => (nodeB fs (vars + more q i) funcs k n p c ks.len && treeB fs funcs ks (vars + more q i) k 0) && treeB fs funcs r vars q (i + 1)

def Fo.depth : Fo → Nat
  | .nil => 0
  | .cons _ _ _ _ ks r => max (ks.depth + 1) r.depth

def exprB (fs : List Fn) (vars funcs : Int) (f : Fo) : Bool :=
  decide (0 ≤ vars ∧ vars ≤ 412) && (decide (0 ≤ funcs ∧ funcs ≤ (fs.length : Int)) && (decide (f.size ≤ 400) && (decide (f.depth ≤ 60) && treeB fs funcs f vars 0 0)))

/-- no function ahead of it has the name -/
def freshB (fs : List Fn) (s : ByteArray) (i : Nat) : Bool := (fs.take i).all fun f => decide (f.name ≠ s)
def fnB (fs : List Fn) (i : Nat) : Bool :=
  isNm (fs.getD i noFn).name && (decide (0 ≤ (fs.getD i noFn).params ∧ (fs.getD i noFn).params ≤ 12) && (decide (1 ≤ (fs.getD i noFn).outs.len ∧ (fs.getD i noFn).outs.len ≤ 12) &&
    (freshB fs (fs.getD i noFn).name i && (decide ((fs.getD i noFn).outs.size ≤ 400) && (decide ((fs.getD i noFn).outs.depth ≤ 60) && treeB fs (i : Int) (fs.getD i noFn).outs (fs.getD i noFn).params 0 0)))))
def progB (fs : List Fn) : Bool := decide (fs.length ≤ 16) && (List.range fs.length).all (fnB fs)

theorem Fo.depth_drop (f : Fo) (i : Nat) : (Fo.drop i f).depth ≤ f.depth := by
  induction f generalizing i with
  | nil => rw [Fo.drop_nil]; exact Nat.le_refl _
  | cons k n p c ks r _ ih =>
    cases i with
    | zero => exact Nat.le_refl _
    | succ i => have := ih i; simp only [Fo.depth]; show (Fo.drop i r).depth ≤ _; omega
theorem Fo.depth_le (f : Fo) : f.depth ≤ f.size := by
  induction f with
  | nil => exact Nat.le_refl _
  | cons k n p c ks r ih1 ih2 => simp only [Fo.depth, Fo.size]; omega

/-- what is left of x nodes behind the expressions -/
def LeftIs (m : Nat) (x r : Int) : Prop := ((m : Int) ≤ x ∧ r = x - m) ∨ (x < (m : Int) ∧ r < 0)

/-- expressions are accepted, with at most d levels and x nodes -/
def accF (fs : List Fn) (funcs vars q : Int) (i : Nat) (d x : Int) (f : Fo) : Bool :=
  decide ((f.size : Int) ≤ x) && (decide ((f.depth : Int) ≤ d) && treeB fs funcs f vars q i)
def accB (fs : List Fn) (funcs vars d x : Int) (k n p c : Int) (ks : Fo) : Bool :=
  decide ((ks.size : Int) + 1 ≤ x) && (decide ((ks.depth : Int) + 1 ≤ d) && (nodeB fs vars funcs k n p c ks.len && treeB fs funcs ks vars k 0))

theorem accF_nil (fs : List Fn) (funcs vars q : Int) (i : Nat) (d x : Int) (hd : 0 ≤ d) (hx : 0 ≤ x) : accF fs funcs vars q i d x .nil = true := by
  have e1 : (Fo.nil).size = 0 := rfl
  have e2 : (Fo.nil).depth = 0 := rfl
  simp [accF, treeB, e1, e2, hd, hx]
theorem accF_cons (fs : List Fn) (funcs vars q : Int) (i : Nat) (d x : Int) (k n p c : Int) (ks r : Fo) :
    accF fs funcs vars q i d x (.cons k n p c ks r) = (accB fs funcs (vars + more q i) d x k n p c ks && accF fs funcs vars q (i + 1) d (x - ks.size - 1) r) := by
  have e1 : (Fo.cons k n p c ks r).size = ks.size + r.size + 1 := rfl
  have e2 : (Fo.cons k n p c ks r).depth = max (ks.depth + 1) r.depth := rfl
  rw [Bool.eq_iff_iff]
  simp only [accF, accB, treeB, Bool.and_eq_true, decide_eq_true_eq]
  constructor
  · rintro ⟨h1, h2, ⟨h3, h4⟩, h5⟩
    exact ⟨⟨by omega, by omega, h3, h4⟩, by omega, by omega, h5⟩
  · rintro ⟨⟨h1, h2, h3, h4⟩, h5, h6, h7⟩
    exact ⟨by omega, by omega, ⟨h3, h4⟩, h7⟩
theorem accB_step (fs : List Fn) (funcs vars d x : Int) (k n p c : Int) (ks : Fo) :
    accB fs funcs vars d x k n p c ks = (nodeB fs vars funcs k n p c ks.len && accF fs funcs vars k 0 (d - 1) (x - 1) ks) := by
  rw [Bool.eq_iff_iff]
  simp only [accF, accB, Bool.and_eq_true, decide_eq_true_eq]
  constructor
  · rintro ⟨h1, h2, h3, h4⟩
    exact ⟨h3, by omega, by omega, h4⟩
  · rintro ⟨h3, h1, h2, h4⟩
    exact ⟨by omega, by omega, h3, h4⟩
theorem accB_d0 (fs : List Fn) (funcs vars d x : Int) (k n p c : Int) (ks : Fo) (h : d ≤ 0) : accB fs funcs vars d x k n p c ks = false := by
  have : decide ((ks.depth : Int) + 1 ≤ d) = false := decide_eq_false (by omega)
  simp [accB, this]
theorem accB_x0 (fs : List Fn) (funcs vars d x : Int) (k n p c : Int) (ks : Fo) (h : x ≤ 0) : accB fs funcs vars d x k n p c ks = false := by
  have : decide ((ks.size : Int) + 1 ≤ x) = false := decide_eq_false (by omega)
  simp [accB, this]
theorem accB_size {fs : List Fn} {funcs vars d x : Int} {k n p c : Int} {ks : Fo} (h : accB fs funcs vars d x k n p c ks = true) : (ks.size : Int) + 1 ≤ x := by
  simp only [accB, Bool.and_eq_true, decide_eq_true_eq] at h; exact h.1

end Go.Proofs.YtldbhhocoolloaaGreat
