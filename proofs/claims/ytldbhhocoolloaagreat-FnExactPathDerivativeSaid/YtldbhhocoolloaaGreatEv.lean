/- Evaluation of expressions, plainly, for values of any kind that has an arithmetic. -/
import Derived.Test.YtldbhhocoolloaaGreatVr
namespace Go.Proofs.YtldbhhocoolloaaGreat
open Go.RowKit
set_option linter.unusedVariables false

/-- an arithmetic -/
structure Ar (V : Type) where
  cst : Int → V
  add : V → V → V
  sub : V → V → V
  mul : V → V → V
  div : V → V → V
  neg : V → V
  zer : V → Bool
/-- a value, the steps, the code -/
structure Rv (V : Type) where
  v : V
  s : Nat
  c : Int
/-- values, the steps, the code -/
structure Rl (V : Type) where
  l : List V
  s : Nat
  c : Int
abbrev Evr (V : Type) := Int → Int → Int → Int → Fo → List V → Nat → Rv V

section
variable {V : Type} (A : Ar V)
/-- the node i of a forest -/
def atE (E : Evr V) (f : Fo) (i : Nat) (vars : List V) (s : Nat) : Rv V :=
  match Fo.drop i f with
  | .nil => ⟨A.cst 0, s, 1⟩
  | .cons k n p c ks _ => E k n p c ks vars s
/-- the first i nodes of a forest, in order, up to the first that fails -/
def lisE (E : Evr V) (f : Fo) (vars : List V) (s : Nat) : Nat → Rl V
  | 0 => ⟨[], s, 0⟩
  | i + 1 => if (lisE E f vars s i).c = 0 then ⟨(lisE E f vars s i).l ++ [(atE A E f i vars (lisE E f vars s i).s).v], (atE A E f i vars (lisE E f vars s i).s).s, (atE A E f i vars (lisE E f vars s i).s).c⟩ else lisE E f vars s i
/-- all outputs of a function, again and again -/
def lopE (E : Evr V) (o : Fo) (a : Rl V) : Nat → Rl V
  | 0 => a
  | i + 1 => if (lopE E o a i).c = 0 then lisE A E o (lopE E o a i).l (lopE E o a i).s o.len else lopE E o a i
def oneE (x : Rv V) (g : V → V) : Rv V := if x.c = 0 then ⟨g x.v, x.s, 0⟩ else x
def bindE (x : Rv V) (g : V → Nat → Rv V) : Rv V := if x.c = 0 then g x.v x.s else x
def bindL (x : Rl V) (g : List V → Nat → Rv V) : Rv V := if x.c = 0 then g x.l x.s else ⟨A.cst 0, x.s, x.c⟩
def opE (k : Int) (l : List V) (s : Nat) : Rv V :=
  if k = 3 then ⟨A.add (l.getD 0 (A.cst 0)) (l.getD 1 (A.cst 0)), s, 0⟩
  else if k = 4 then ⟨A.sub (l.getD 0 (A.cst 0)) (l.getD 1 (A.cst 0)), s, 0⟩
  else if k = 5 then ⟨A.mul (l.getD 0 (A.cst 0)) (l.getD 1 (A.cst 0)), s, 0⟩
  else if A.zer (l.getD 1 (A.cst 0)) = true then ⟨A.cst 0, s, 6⟩
  else ⟨A.div (l.getD 0 (A.cst 0)) (l.getD 1 (A.cst 0)), s, 0⟩
/-- a node, the kids by E -/
def nodE (fs : List Fn) (E : Evr V) (k n p c : Int) (ks : Fo) (vars : List V) (s : Nat) : Rv V :=
  if k = 1 then ⟨A.cst n, s, 0⟩
  else if k = 2 then ⟨vars.getD n.toNat (A.cst 0), s, 0⟩
  else if k = 7 then oneE (atE A E ks 0 vars s) A.neg
  else if k = 8 then bindE (atE A E ks 0 vars s) fun v s => if A.zer v = true then atE A E ks 1 vars s else atE A E ks 2 vars s
  else if k = 9 then bindE (atE A E ks 0 vars s) fun v s => atE A E ks 1 (vars ++ [v]) s
  else if k = 10 then bindL A (lisE A E ks vars s ks.len) fun l s => atE A E (fs.getD n.toNat noFn).outs p.toNat l s
  else if k = 11 then bindL A (lopE A E (fs.getD n.toNat noFn).outs (lisE A E ks vars s ks.len) c.toNat) fun l s => ⟨l.getD p.toNat (A.cst 0), s, 0⟩
  else bindL A (lisE A E ks vars s ks.len) fun l s => opE A k l s
def evE (fs : List Fn) : Nat → Evr V
  | 0 => fun _ _ _ _ _ _ s => ⟨A.cst 0, s, 7⟩
  | f + 1 => fun k n p c ks vars s => if s = 3000 then ⟨A.cst 0, s, 7⟩ else nodE A fs (evE fs f) k n p c ks vars (s + 1)
end

section
variable {V : Type} {A : Ar V}
theorem atE_eq {E : Evr V} {f : Fo} {i : Nat} {vars : List V} {s : Nat} {k n p c : Int} {ks r : Fo} (h : Fo.drop i f = .cons k n p c ks r) : atE A E f i vars s = E k n p c ks vars s := by unfold atE; rw [h]
theorem lisE_step {E : Evr V} {f : Fo} {vars : List V} {s i : Nat} (h : (lisE A E f vars s i).c = 0) : lisE A E f vars s (i + 1) = ⟨(lisE A E f vars s i).l ++ [(atE A E f i vars (lisE A E f vars s i).s).v], (atE A E f i vars (lisE A E f vars s i).s).s, (atE A E f i vars (lisE A E f vars s i).s).c⟩ := by
  rw [lisE, if_pos h]
theorem lisE_stop {E : Evr V} {f : Fo} {vars : List V} {s i : Nat} (h : ¬ (lisE A E f vars s i).c = 0) : ∀ d, lisE A E f vars s (i + d) = lisE A E f vars s i
  | 0 => rfl
  | d + 1 => by rw [← Nat.add_assoc, lisE, lisE_stop h d, if_neg h]
theorem lisE_bad {E : Evr V} {f : Fo} {vars : List V} {s i m : Nat} (hi : i < m) (h0 : (lisE A E f vars s i).c = 0) (h : ¬ (atE A E f i vars (lisE A E f vars s i).s).c = 0) : (lisE A E f vars s m).c = (atE A E f i vars (lisE A E f vars s i).s).c ∧ (lisE A E f vars s m).s = (atE A E f i vars (lisE A E f vars s i).s).s := by
  have e := lisE_step h0
  have h2 : ¬ (lisE A E f vars s (i + 1)).c = 0 := by rw [e]; exact h
  obtain ⟨d, rfl⟩ := Nat.exists_eq_add_of_lt hi
  rw [show i + d + 1 = i + 1 + d by omega, lisE_stop h2 d, e]
  exact ⟨rfl, rfl⟩
theorem lisE_len {E : Evr V} {f : Fo} {vars : List V} {s : Nat} : ∀ i, (lisE A E f vars s i).c = 0 → (lisE A E f vars s i).l.length = i
  | 0, _ => rfl
  | i + 1, h => by
    by_cases h0 : (lisE A E f vars s i).c = 0
    · rw [lisE_step h0]; simp [lisE_len i h0]
    · rw [lisE, if_neg h0] at h; exact absurd h h0
theorem lisE_pre {E : Evr V} {f : Fo} {vars : List V} {s : Nat} {m : Nat} (h : (lisE A E f vars s m).c = 0) : ∀ d, (lisE A E f vars s (m - d)).c = 0
  | 0 => h
  | d + 1 => by
    have ih := lisE_pre h d
    by_cases e : m - d = 0
    · rw [show m - (d + 1) = 0 by omega]; rfl
    · rw [show m - d = (m - (d + 1)) + 1 by omega] at ih
      by_cases h0 : (lisE A E f vars s (m - (d + 1))).c = 0
      · exact h0
      · rw [lisE, if_neg h0] at ih; exact absurd ih h0
theorem lopE_step {E : Evr V} {o : Fo} {a : Rl V} {i : Nat} (h : (lopE A E o a i).c = 0) : lopE A E o a (i + 1) = lisE A E o (lopE A E o a i).l (lopE A E o a i).s o.len := by rw [lopE, if_pos h]
theorem lopE_stop {E : Evr V} {o : Fo} {a : Rl V} {i : Nat} (h : ¬ (lopE A E o a i).c = 0) : ∀ d, lopE A E o a (i + d) = lopE A E o a i
  | 0 => rfl
  | d + 1 => by rw [← Nat.add_assoc, lopE, lopE_stop h d, if_neg h]

/- steps never become less; they never exceed 3000 -/
def Stp (E : Evr V) (lo : Nat) : Prop := ∀ k n p c ks vars s, lo ≤ s → s ≤ 3000 → s ≤ (E k n p c ks vars s).s ∧ (E k n p c ks vars s).s ≤ 3000
theorem atE_stp {E : Evr V} {lo : Nat} (hE : Stp E lo) (f : Fo) (i : Nat) (vars : List V) (s : Nat) (h1 : lo ≤ s) (h2 : s ≤ 3000) : s ≤ (atE A E f i vars s).s ∧ (atE A E f i vars s).s ≤ 3000 := by
  unfold atE
  split
  · exact ⟨Nat.le_refl _, h2⟩
  · exact hE _ _ _ _ _ _ _ h1 h2
theorem lisE_stp {E : Evr V} {lo : Nat} (hE : Stp E lo) (f : Fo) (vars : List V) (s : Nat) (h1 : lo ≤ s) (h2 : s ≤ 3000) : ∀ i, s ≤ (lisE A E f vars s i).s ∧ (lisE A E f vars s i).s ≤ 3000
  | 0 => ⟨Nat.le_refl _, h2⟩
  | i + 1 => by
    have ih := lisE_stp hE f vars s h1 h2 i
    rw [lisE]
    split
    · have := atE_stp (A := A) hE f i vars _ (Nat.le_trans h1 ih.1) ih.2
      exact ⟨Nat.le_trans ih.1 this.1, this.2⟩
    · exact ih
theorem lopE_stp {E : Evr V} {lo : Nat} (hE : Stp E lo) (o : Fo) (a : Rl V) (h1 : lo ≤ a.s) (h2 : a.s ≤ 3000) : ∀ i, a.s ≤ (lopE A E o a i).s ∧ (lopE A E o a i).s ≤ 3000
  | 0 => ⟨Nat.le_refl _, h2⟩
  | i + 1 => by
    have ih := lopE_stp hE o a h1 h2 i
    rw [lopE]
    split
    · have := lisE_stp (A := A) hE o (lopE A E o a i).l _ (Nat.le_trans h1 ih.1) ih.2 o.len
      exact ⟨Nat.le_trans ih.1 this.1, this.2⟩
    · exact ih
theorem evE_stp (fs : List Fn) : ∀ f lo, 3000 < f + lo → Stp (evE A fs f) lo
  | 0, lo, h => fun k n p c ks vars s h1 h2 => by omega
  | f + 1, lo, h => fun k n p c ks vars s h1 h2 => by
    show s ≤ (if s = 3000 then _ else _ : Rv V).s ∧ (if s = 3000 then _ else _ : Rv V).s ≤ 3000
    split
    · exact ⟨Nat.le_refl _, h2⟩
    · rename_i hs
      have hE := evE_stp fs f (lo + 1) (by omega)
      have e1 : lo + 1 ≤ s + 1 := by omega
      have e2 : s + 1 ≤ 3000 := by omega
      unfold nodE
      split
      · exact ⟨by show s ≤ s + 1; omega, e2⟩
      split
      · exact ⟨by show s ≤ s + 1; omega, e2⟩
      split
      · have := atE_stp (A := A) hE ks 0 vars (s + 1) e1 e2
        unfold oneE
        split
        · exact ⟨by show s ≤ (atE A _ ks 0 vars (s + 1)).s; omega, this.2⟩
        · exact ⟨by omega, this.2⟩
      split
      · have h0 := atE_stp (A := A) hE ks 0 vars (s + 1) e1 e2
        unfold bindE
        split
        · show s ≤ (if A.zer _ = true then _ else _ : Rv V).s ∧ (if A.zer _ = true then _ else _ : Rv V).s ≤ 3000
          split
          · have := atE_stp (A := A) hE ks 1 vars _ (Nat.le_trans e1 h0.1) h0.2
            exact ⟨by omega, this.2⟩
          · have := atE_stp (A := A) hE ks 2 vars _ (Nat.le_trans e1 h0.1) h0.2
            exact ⟨by omega, this.2⟩
        · exact ⟨by omega, h0.2⟩
      split
      · have h0 := atE_stp (A := A) hE ks 0 vars (s + 1) e1 e2
        unfold bindE
        split
        · have := atE_stp (A := A) hE ks 1 (vars ++ [(atE A (evE A fs f) ks 0 vars (s + 1)).v]) _ (Nat.le_trans e1 h0.1) h0.2
          dsimp only
          exact ⟨by omega, this.2⟩
        · exact ⟨by omega, h0.2⟩
      split
      · have h0 := lisE_stp (A := A) hE ks vars (s + 1) e1 e2 ks.len
        unfold bindL
        split
        · have := atE_stp (A := A) hE (fs.getD n.toNat noFn).outs p.toNat (lisE A (evE A fs f) ks vars (s + 1) ks.len).l _ (Nat.le_trans e1 h0.1) h0.2
          dsimp only
          exact ⟨by omega, this.2⟩
        · exact ⟨by show s ≤ (lisE A (evE A fs f) ks vars (s + 1) ks.len).s; omega, h0.2⟩
      split
      · have h0 := lisE_stp (A := A) hE ks vars (s + 1) e1 e2 ks.len
        have h3 := lopE_stp (A := A) hE (fs.getD n.toNat noFn).outs (lisE A (evE A fs f) ks vars (s + 1) ks.len) (Nat.le_trans e1 h0.1) h0.2 c.toNat
        unfold bindL
        split
        · exact ⟨by show s ≤ (lopE A _ _ _ _).s; omega, h3.2⟩
        · exact ⟨by show s ≤ (lopE A _ _ _ _).s; omega, h3.2⟩
      · have h0 := lisE_stp (A := A) hE ks vars (s + 1) e1 e2 ks.len
        have hop : ∀ l s', (opE A k l s').s = s' := fun l s' => by
          unfold opE
          split
          · rfl
          split
          · rfl
          split
          · rfl
          split
          · rfl
          · rfl
        unfold bindL
        split
        · rw [hop]; exact ⟨by omega, h0.2⟩
        · exact ⟨by show s ≤ (lisE A (evE A fs f) ks vars (s + 1) ks.len).s; omega, h0.2⟩
end

/- validity, handed down -/
theorem treeB_at {fs : List Fn} {funcs vars q : Int} {k n p c : Int} {ks r : Fo} : ∀ (f : Fo) (j i : Nat), treeB fs funcs f vars q j = true → Fo.drop i f = .cons k n p c ks r →
    nodeB fs (vars + more q (j + i)) funcs k n p c ks.len = true ∧ treeB fs funcs ks (vars + more q (j + i)) k 0 = true
  | .nil, j, i, _, h => by rw [Fo.drop_nil] at h; cases h
  | .cons k' n' p' c' ks' r', j, 0, ht, h => by
    rw [Fo.drop_zero] at h
    cases h
    unfold treeB at ht
    rw [Bool.and_eq_true, Bool.and_eq_true] at ht
    exact ht.1
  | .cons k' n' p' c' ks' r', j, i + 1, ht, h => by
    unfold treeB at ht
    rw [Bool.and_eq_true, Bool.and_eq_true] at ht
    have := treeB_at r' (j + 1) i ht.2 h
    rw [show j + 1 + i = j + (i + 1) by omega] at this
    exact this
/-- the outputs of a function are valid -/
theorem fnB_tree {fs : List Fn} {i : Nat} (h : fnB fs i = true) : treeB fs (i : Int) (fs.getD i noFn).outs (fs.getD i noFn).params 0 0 = true := by
  unfold fnB at h
  simp only [Bool.and_eq_true] at h
  exact h.2.2.2.2.2.2
theorem progB_fn {fs : List Fn} (h : progB fs = true) {i : Nat} (hi : i < fs.length) : fnB fs i = true := by
  unfold progB at h
  rw [Bool.and_eq_true] at h
  exact List.all_eq_true.1 h.2 i (List.mem_range.2 hi)

end Go.Proofs.YtldbhhocoolloaaGreat
