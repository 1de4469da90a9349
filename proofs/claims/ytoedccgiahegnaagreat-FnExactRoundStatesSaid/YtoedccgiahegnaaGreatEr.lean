/- Evaluation of expressions, plainly, for values of any kind that has an arithmetic. Evaluation with values of two kinds that stand for each other. -/
import Derived.Test.YtoedccgiahegnaaGreatVr
namespace Go.Proofs.YtoedccgiahegnaaGreat
open Go.RowKit
set_option linter.unusedVariables false

/-- an arithmetic -/
structure Ar (V : Type) where
  cst : Int → V
  add : V → V → V
  sub : V → V → V
  mul : V → V → V
  div : V → V → V
  neg : V → V
  zer : V → Bool
/-- a value, the steps, the code -/
structure Rv (V : Type) where
  v : V
  s : Nat
  c : Int
/-- values, the steps, the code -/
structure Rl (V : Type) where
  l : List V
  s : Nat
  c : Int
abbrev Evr (V : Type) := Int → Int → Int → Int → Fo → List V → Nat → Rv V

section
variable {V : Type} (A : Ar V)
/-- the node i of a forest -/
def atE (E : Evr V) (f : Fo) (i : Nat) (vars : List V) (s : Nat) : Rv V :=
  match Fo.drop i f with
  | .nil => ⟨A.cst 0, s, 1⟩
  | .cons k n p c ks _ => E k n p c ks vars s
/-- the first i nodes of a forest, in order, up to the first that fails -/
def lisE (E : Evr V) (f : Fo) (vars : List V) (s : Nat) : Nat → Rl V
  | 0 => ⟨[], s, 0⟩
  | i + 1 => if (lisE E f vars s i).c = 0 then ⟨(lisE E f vars s i).l ++ [(atE A E f i vars (lisE E f vars s i).s).v], (atE A E f i vars (lisE E f vars s i).s).s, (atE A E f i vars (lisE E f vars s i).s).c⟩ else lisE E f vars s i
/-- all outputs of a function, again and again -/
def lopE (E : Evr V) (o : Fo) (a : Rl V) : Nat → Rl V
  | 0 => a
  | i + 1 => if (lopE E o a i).c = 0 then lisE A E o (lopE E o a i).l (lopE E o a i).s o.len else lopE E o a i
def oneE (x : Rv V) (g : V → V) : Rv V := if x.c = 0 then ⟨g x.v, x.s, 0⟩ else x
def bindE (x : Rv V) (g : V → Nat → Rv V) : Rv V := if x.c = 0 then g x.v x.s else x
def bindL (x : Rl V) (g : List V → Nat → Rv V) : Rv V := if x.c = 0 then g x.l x.s else ⟨A.cst 0, x.s, x.c⟩
def opE (k : Int) (l : List V) (s : Nat) : Rv V :=
  if k = 3 then ⟨A.add (l.getD 0 (A.cst 0)) (l.getD 1 (A.cst 0)), s, 0⟩
  else if k = 4 then ⟨A.sub (l.getD 0 (A.cst 0)) (l.getD 1 (A.cst 0)), s, 0⟩
  else if k = 5 then ⟨A.mul (l.getD 0 (A.cst 0)) (l.getD 1 (A.cst 0)), s, 0⟩
  else if A.zer (l.getD 1 (A.cst 0)) = true then ⟨A.cst 0, s, 6⟩
  else ⟨A.div (l.getD 0 (A.cst 0)) (l.getD 1 (A.cst 0)), s, 0⟩
/-- a node, the kids by E -/
def nodE (fs : List Fn) (E : Evr V) (k n p c : Int) (ks : Fo) (vars : List V) (s : Nat) : Rv V :=
  if k = 1 then ⟨A.cst n, s, 0⟩
  else if k = 2 then ⟨vars.getD n.toNat (A.cst 0), s, 0⟩
  else if k = 7 then oneE (atE A E ks 0 vars s) A.neg
  else if k = 8 then bindE (atE A E ks 0 vars s) fun v s => if A.zer v = true then atE A E ks 1 vars s else atE A E ks 2 vars s
  else if k = 9 then bindE (atE A E ks 0 vars s) fun v s => atE A E ks 1 (vars ++ [v]) s
  else if k = 10 then bindL A (lisE A E ks vars s ks.len) fun l s => atE A E (fs.getD n.toNat noFn).outs p.toNat l s
  else if k = 11 then bindL A (lopE A E (fs.getD n.toNat noFn).outs (lisE A E ks vars s ks.len) c.toNat) fun l s => ⟨l.getD p.toNat (A.cst 0), s, 0⟩
  else bindL A (lisE A E ks vars s ks.len) fun l s => opE A k l s
def evE (fs : List Fn) : Nat → Evr V
  | 0 => fun _ _ _ _ _ _ s => ⟨A.cst 0, s, 7⟩
  | f + 1 => fun k n p c ks vars s => if s = 3000 then ⟨A.cst 0, s, 7⟩ else nodE A fs (evE fs f) k n p c ks vars (s + 1)
end

section
variable {V : Type} {A : Ar V}
theorem atE_eq {E : Evr V} {f : Fo} {i : Nat} {vars : List V} {s : Nat} {k n p c : Int} {ks r : Fo} (h : Fo.drop i f = .cons k n p c ks r) : atE A E f i vars s = E k n p c ks vars s := by unfold atE; rw [h]
theorem lisE_step {E : Evr V} {f : Fo} {vars : List V} {s i : Nat} (h : (lisE A E f vars s i).c = 0) : lisE A E f vars s (i + 1) = ⟨(lisE A E f vars s i).l ++ [(atE A E f i vars (lisE A E f vars s i).s).v], (atE A E f i vars (lisE A E f vars s i).s).s, (atE A E f i vars (lisE A E f vars s i).s).c⟩ := by
  rw [lisE, if_pos h]
theorem lisE_stop {E : Evr V} {f : Fo} {vars : List V} {s i : Nat} (h : ¬ (lisE A E f vars s i).c = 0) : ∀ d, lisE A E f vars s (i + d) = lisE A E f vars s i
  | 0 => rfl
  | d + 1 => by rw [← Nat.add_assoc, lisE, lisE_stop h d, if_neg h]
theorem lisE_bad {E : Evr V} {f : Fo} {vars : List V} {s i m : Nat} (hi : i < m) (h0 : (lisE A E f vars s i).c = 0) (h : ¬ (atE A E f i vars (lisE A E f vars s i).s).c = 0) : (lisE A E f vars s m).c = (atE A E f i vars (lisE A E f vars s i).s).c ∧ (lisE A E f vars s m).s = (atE A E f i vars (lisE A E f vars s i).s).s := by
  have e := lisE_step h0
  have h2 : ¬ (lisE A E f vars s (i + 1)).c = 0 := by rw [e]; exact h
  obtain ⟨d, rfl⟩ := Nat.exists_eq_add_of_lt hi
  rw [show i + d + 1 = i + 1 + d by omega, lisE_stop h2 d, e]
  exact ⟨rfl, rfl⟩
theorem lisE_len {E : Evr V} {f : Fo} {vars : List V} {s : Nat} : ∀ i, (lisE A E f vars s i).c = 0 → (lisE A E f vars s i).l.length = i
  | 0, _ => rfl
  | i + 1, h => by
    by_cases h0 : (lisE A E f vars s i).c = 0
    · rw [lisE_step h0]; simp [lisE_len i h0]
    · rw [lisE, if_neg h0] at h; exact absurd h h0
theorem lisE_pre {E : Evr V} {f : Fo} {vars : List V} {s : Nat} {m : Nat} (h : (lisE A E f vars s m).c = 0) : ∀ d, (lisE A E f vars s (m - d)).c = 0
  | 0 => h
  | d + 1 => by
    have ih := lisE_pre h d
    by_cases e : m - d = 0
    · rw [show m - (d + 1) = 0 by omega]; rfl
    · rw [show m - d = (m - (d + 1)) + 1 by omega] at ih
      by_cases h0 : (lisE A E f vars s (m - (d + 1))).c = 0
      · exact h0
      · rw [lisE, if_neg h0] at ih; exact absurd ih h0
theorem lopE_step {E : Evr V} {o : Fo} {a : Rl V} {i : Nat} (h : (lopE A E o a i).c = 0) : lopE A E o a (i + 1) = lisE A E o (lopE A E o a i).l (lopE A E o a i).s o.len := by rw [lopE, if_pos h]
theorem lopE_stop {E : Evr V} {o : Fo} {a : Rl V} {i : Nat} (h : ¬ (lopE A E o a i).c = 0) : ∀ d, lopE A E o a (i + d) = lopE A E o a i
  | 0 => rfl
  | d + 1 => by rw [← Nat.add_assoc, lopE, lopE_stop h d, if_neg h]

/- steps never become less; they never exceed 3000 -/
def Stp (E : Evr V) (lo : Nat) : Prop := ∀ k n p c ks vars s, lo ≤ s → s ≤ 3000 → s ≤ (E k n p c ks vars s).s ∧ (E k n p c ks vars s).s ≤ 3000
theorem atE_stp {E : Evr V} {lo : Nat} (hE : Stp E lo) (f : Fo) (i : Nat) (vars : List V) (s : Nat) (h1 : lo ≤ s) (h2 : s ≤ 3000) : s ≤ (atE A E f i vars s).s ∧ (atE A E f i vars s).s ≤ 3000 := by
  unfold atE
  split
  · exact ⟨Nat.le_refl _, h2⟩
  · exact hE _ _ _ _ _ _ _ h1 h2
theorem lisE_stp {E : Evr V} {lo : Nat} (hE : Stp E lo) (f : Fo) (vars : List V) (s : Nat) (h1 : lo ≤ s) (h2 : s ≤ 3000) : ∀ i, s ≤ (lisE A E f vars s i).s ∧ (lisE A E f vars s i).s ≤ 3000
  | 0 => ⟨Nat.le_refl _, h2⟩
  | i + 1 => by
    have ih := lisE_stp hE f vars s h1 h2 i
    rw [lisE]
    split
    · have := atE_stp (A := A) hE f i vars _ (Nat.le_trans h1 ih.1) ih.2
      exact ⟨Nat.le_trans ih.1 this.1, this.2⟩
    · exact ih
theorem lopE_stp {E : Evr V} {lo : Nat} (hE : Stp E lo) (o : Fo) (a : Rl V) (h1 : lo ≤ a.s) (h2 : a.s ≤ 3000) : ∀ i, a.s ≤ (lopE A E o a i).s ∧ (lopE A E o a i).s ≤ 3000
  | 0 => ⟨Nat.le_refl _, h2⟩
  | i + 1 => by
    have ih := lopE_stp hE o a h1 h2 i
    rw [lopE]
    split
    · have := lisE_stp (A := A) hE o (lopE A E o a i).l _ (Nat.le_trans h1 ih.1) ih.2 o.len
      exact ⟨Nat.le_trans ih.1 this.1, this.2⟩
    · exact ih
theorem evE_stp (fs : List Fn) : ∀ f lo, 3000 < f + lo → Stp (evE A fs f) lo
  | 0, lo, h => fun k n p c ks vars s h1 h2 => by omega
  | f + 1, lo, h => fun k n p c ks vars s h1 h2 => by
    show s ≤ (if s = 3000 then _ else _ : Rv V).s ∧ (if s = 3000 then _ else _ : Rv V).s ≤ 3000
    split
    · exact ⟨Nat.le_refl _, h2⟩
    · rename_i hs
      have hE := evE_stp fs f (lo + 1) (by omega)
      have e1 : lo + 1 ≤ s + 1 := by omega
      have e2 : s + 1 ≤ 3000 := by omega
      unfold nodE
      split
      · exact ⟨by show s ≤ s + 1; omega, e2⟩
      split
      · exact ⟨by show s ≤ s + 1; omega, e2⟩
      split
      · have := atE_stp (A := A) hE ks 0 vars (s + 1) e1 e2
        unfold oneE
        split
        · exact ⟨by show s ≤ (atE A _ ks 0 vars (s + 1)).s; omega, this.2⟩
        · exact ⟨by omega, this.2⟩
      split
      · have h0 := atE_stp (A := A) hE ks 0 vars (s + 1) e1 e2
        unfold bindE
        split
        · show s ≤ (if A.zer _ = true then _ else _ : Rv V).s ∧ (if A.zer _ = true then _ else _ : Rv V).s ≤ 3000
          split
          · have := atE_stp (A := A) hE ks 1 vars _ (Nat.le_trans e1 h0.1) h0.2
            exact ⟨by omega, this.2⟩
          · have := atE_stp (A := A) hE ks 2 vars _ (Nat.le_trans e1 h0.1) h0.2
            exact ⟨by omega, this.2⟩
        · exact ⟨by omega, h0.2⟩
      split
      · have h0 := atE_stp (A := A) hE ks 0 vars (s + 1) e1 e2
        unfold bindE
        split
        · have := atE_stp (A := A) hE ks 1 (vars ++ [(atE A (evE A fs f) ks 0 vars (s + 1)).v]) _ (Nat.le_trans e1 h0.1) h0.2
          dsimp only
          exact ⟨by omega, this.2⟩
        · exact ⟨by omega, h0.2⟩
      split
      · have h0 := lisE_stp (A := A) hE ks vars (s + 1) e1 e2 ks.len
        unfold bindL
        split
        · have := atE_stp (A := A) hE (fs.getD n.toNat noFn).outs p.toNat (lisE A (evE A fs f) ks vars (s + 1) ks.len).l _ (Nat.le_trans e1 h0.1) h0.2
          dsimp only
          exact ⟨by omega, this.2⟩
        · exact ⟨by show s ≤ (lisE A (evE A fs f) ks vars (s + 1) ks.len).s; omega, h0.2⟩
      split
      · have h0 := lisE_stp (A := A) hE ks vars (s + 1) e1 e2 ks.len
        have h3 := lopE_stp (A := A) hE (fs.getD n.toNat noFn).outs (lisE A (evE A fs f) ks vars (s + 1) ks.len) (Nat.le_trans e1 h0.1) h0.2 c.toNat
        unfold bindL
        split
        · exact ⟨by show s ≤ (lopE A _ _ _ _).s; omega, h3.2⟩
        · exact ⟨by show s ≤ (lopE A _ _ _ _).s; omega, h3.2⟩
      · have h0 := lisE_stp (A := A) hE ks vars (s + 1) e1 e2 ks.len
        have hop : ∀ l s', (opE A k l s').s = s' := fun l s' => by
          unfold opE
          split
          · rfl
          split
          · rfl
          split
          · rfl
          split
          · rfl
          · rfl
        unfold bindL
        split
        · rw [hop]; exact ⟨by omega, h0.2⟩
        · exact ⟨by show s ≤ (lisE A (evE A fs f) ks vars (s + 1) ks.len).s; omega, h0.2⟩
end

/- validity, handed down -/
theorem treeB_at {fs : List Fn} {funcs vars q : Int} {k n p c : Int} {ks r : Fo} : ∀ (f : Fo) (j i : Nat), treeB fs funcs f vars q j = true → Fo.drop i f = .cons k n p c ks r →
    nodeB fs (vars + more q (j + i)) funcs k n p c ks.len = true ∧ treeB fs funcs ks (vars + more q (j + i)) k 0 = true
  | .nil, j, i, _, h => by rw [Fo.drop_nil] at h; cases h
  | .cons k' n' p' c' ks' r', j, 0, ht, h => by
    rw [Fo.drop_zero] at h
    cases h
    unfold treeB at ht
    rw [Bool.and_eq_true, Bool.and_eq_true] at ht
    exact ht.1
  | .cons k' n' p' c' ks' r', j, i + 1, ht, h => by
    unfold treeB at ht
    rw [Bool.and_eq_true, Bool.and_eq_true] at ht
    have := treeB_at r' (j + 1) i ht.2 h
    rw [show j + 1 + i = j + (i + 1) by omega] at this
    exact this
/-- the outputs of a function are valid -/
theorem fnB_tree {fs : List Fn} {i : Nat} (h : fnB fs i = true) : treeB fs (i : Int) (fs.getD i noFn).outs (fs.getD i noFn).params 0 0 = true := by
  unfold fnB at h
  simp only [Bool.and_eq_true] at h
  exact h.2.2.2.2.2.2
theorem progB_fn {fs : List Fn} (h : progB fs = true) {i : Nat} (hi : i < fs.length) : fnB fs i = true := by
  unfold progB at h
  rw [Bool.and_eq_true] at h
  exact List.all_eq_true.1 h.2 i (List.mem_range.2 hi)

end Go.Proofs.YtoedccgiahegnaaGreat

namespace Go.Proofs.YtoedccgiahegnaaGreat
open Go.RowKit
set_option linter.unusedVariables false

/-- two arithmetics that do alike -/
structure Alike {V W : Type} (A : Ar V) (B : Ar W) (R : V → W → Prop) : Prop where
  cst : ∀ n, 0 ≤ n → n < 1000003 → R (A.cst n) (B.cst n)
  add : ∀ a b a' b', R a b → R a' b' → R (A.add a a') (B.add b b')
  sub : ∀ a b a' b', R a b → R a' b' → R (A.sub a a') (B.sub b b')
  mul : ∀ a b a' b', R a b → R a' b' → R (A.mul a a') (B.mul b b')
  div : ∀ a b a' b', R a b → R a' b' → A.zer a' = false → R (A.div a a') (B.div b b')
  neg : ∀ a b, R a b → R (A.neg a) (B.neg b)
  zer : ∀ a b, R a b → A.zer a = B.zer b

section
variable {V W : Type} (A : Ar V) (B : Ar W) (R : V → W → Prop)
structure Rls (l : List V) (m : List W) : Prop where
  len : l.length = m.length
  at_ : ∀ i, i < l.length → R (l.getD i (A.cst 0)) (m.getD i (B.cst 0))
structure Rlv (x : Rv V) (y : Rv W) : Prop where
  s : x.s = y.s
  c : x.c = y.c
  v : x.c = 0 → R x.v y.v
structure Rll (x : Rl V) (y : Rl W) : Prop where
  s : x.s = y.s
  c : x.c = y.c
  l : x.c = 0 → Rls A B R x.l y.l
/-- evaluators that do alike at valid nodes -/
def Rle (fs : List Fn) (E : Evr V) (E' : Evr W) : Prop := ∀ (fi : Nat) k n p c ks vars vars' s, fi ≤ fs.length → nodeB fs (vars.length : Int) (fi : Int) k n p c ks.len = true → treeB fs (fi : Int) ks (vars.length : Int) k 0 = true → Rls A B R vars vars' → Rlv R (E k n p c ks vars s) (E' k n p c ks vars' s)
end

section
variable {V W : Type} {A : Ar V} {B : Ar W} {R : V → W → Prop}
theorem Rls.snoc {l : List V} {m : List W} {x : V} {y : W} (h : Rls A B R l m) (hx : R x y) : Rls A B R (l ++ [x]) (m ++ [y]) := by
  have hl := h.len
  refine ⟨by simp [hl], fun i hi => ?_⟩
  rw [List.getD_eq_getElem?_getD, List.getD_eq_getElem?_getD]
  by_cases e : i < l.length
  · rw [List.getElem?_append_left e, List.getElem?_append_left (by omega), ← List.getD_eq_getElem?_getD, ← List.getD_eq_getElem?_getD]
    exact h.at_ i e
  · have e2 : i = l.length := by simp at hi; omega
    subst e2
    rw [List.getElem?_append_right (Nat.le_refl _), List.getElem?_append_right (by omega), Nat.sub_self, hl, Nat.sub_self]
    exact hx
theorem Rls.nil : Rls A B R [] [] := ⟨rfl, fun i hi => absurd hi (Nat.not_lt_zero _)⟩
theorem drop_cons {f : Fo} {i : Nat} (h : i < f.len) : ∃ k n p c ks, Fo.drop i f = .cons k n p c ks (Fo.drop (i + 1) f) := Fo.drop_at h
theorem atE_rel {fs : List Fn} {E : Evr V} {E' : Evr W} (hE : Rle A B R fs E E') {fi : Nat} (hfi : fi ≤ fs.length) {f : Fo} {q nv : Int} {i : Nat} {vars : List V} {vars' : List W} {s : Nat} (ht : treeB fs (fi : Int) f nv q 0 = true) (hi : i < f.len) (hl : (vars.length : Int) = nv + more q i) (hv : Rls A B R vars vars') :
    Rlv R (atE A E f i vars s) (atE B E' f i vars' s) := by
  obtain ⟨k, n, p, c, ks, hd⟩ := drop_cons hi
  rw [atE_eq hd, atE_eq hd]
  obtain ⟨h1, h2⟩ := treeB_at f 0 i ht hd
  rw [Nat.zero_add, ← hl] at h1 h2
  exact hE fi k n p c ks vars vars' s hfi h1 h2 hv
theorem lisE_rel {fs : List Fn} {E : Evr V} {E' : Evr W} (hE : Rle A B R fs E E') {fi : Nat} (hfi : fi ≤ fs.length) {f : Fo} {q : Int} (hq : q ≠ 9) {vars : List V} {vars' : List W} {s : Nat} (ht : treeB fs (fi : Int) f (vars.length : Int) q 0 = true) (hv : Rls A B R vars vars') :
    ∀ i, i ≤ f.len → Rll A B R (lisE A E f vars s i) (lisE B E' f vars' s i)
  | 0, _ => ⟨rfl, rfl, fun _ => Rls.nil⟩
  | i + 1, hi => by
    have ih := lisE_rel hE hfi hq ht hv (s := s) i (by omega)
    by_cases h0 : (lisE A E f vars s i).c = 0
    · have h0' : (lisE B E' f vars' s i).c = 0 := by rw [← ih.c]; exact h0
      rw [lisE_step h0, lisE_step h0']
      have ha := atE_rel hE hfi (i := i) (s := (lisE A E f vars s i).s) ht (by omega) (by unfold more; rw [if_neg (fun h => hq h.1)]; omega) hv
      rw [← ih.s]
      exact ⟨ha.s, ha.c, fun hc => (ih.l h0).snoc (ha.v hc)⟩
    · have h0' : ¬ (lisE B E' f vars' s i).c = 0 := by rw [← ih.c]; exact h0
      rw [lisE, if_neg h0, lisE, if_neg h0']
      exact ih
/-- what one knows of a function that may be called -/
theorem fn_parts {fs : List Fn} {i : Nat} (h : fnB fs i = true) : (0 ≤ (fs.getD i noFn).params ∧ (fs.getD i noFn).params ≤ 12) ∧ (1 ≤ (fs.getD i noFn).outs.len ∧ (fs.getD i noFn).outs.len ≤ 12) ∧ treeB fs (i : Int) (fs.getD i noFn).outs (fs.getD i noFn).params 0 0 = true := by
  have ht := fnB_tree h
  unfold fnB at h
  simp only [Bool.and_eq_true, decide_eq_true_eq] at h
  exact ⟨h.2.1, h.2.2.1, ht⟩
theorem node_call {fs : List Fn} {vars funcs k n p c : Int} {m : Nat} (h : nodeB fs vars funcs k n p c m = true) (hk : k = 10 ∨ k = 11) : (0 ≤ n ∧ n < funcs) ∧ (0 ≤ p ∧ p < ((fs.getD n.toNat noFn).outs.len : Int)) ∧ (m : Int) = (fs.getD n.toNat noFn).params ∧ (k = 11 → (0 ≤ c ∧ c ≤ 8) ∧ ((fs.getD n.toNat noFn).outs.len : Int) = (fs.getD n.toNat noFn).params) := by
  unfold nodeB at h
  rw [if_pos hk] at h
  simp only [Bool.and_eq_true, decide_eq_true_eq] at h
  refine ⟨h.1, h.2.1, h.2.2.1, fun e => ?_⟩
  have h2 := h.2.2.2
  rw [if_neg (by omega)] at h2
  simp only [Bool.and_eq_true, decide_eq_true_eq] at h2
  exact h2
theorem node_kids {fs : List Fn} {vars funcs k n p c : Int} {m : Nat} (h : nodeB fs vars funcs k n p c m = true) (hk : ¬ (k = 10 ∨ k = 11)) : kidsNo k = (m : Int) ∧ (k = 1 → 0 ≤ n ∧ n < 1000003) ∧ (k = 2 → 0 ≤ n ∧ n < vars) := by
  unfold nodeB at h
  rw [if_neg hk] at h
  simp only [Bool.and_eq_true, decide_eq_true_eq] at h
  refine ⟨h.1.1, fun e => ?_, fun e => ?_⟩
  · have h2 := h.2
    rw [if_pos e] at h2
    simpa using h2
  · have h2 := h.2
    rw [if_neg (by omega), if_pos e] at h2
    simpa using h2
theorem node_kind {fs : List Fn} {vars funcs k n p c : Int} {m : Nat} (h : nodeB fs vars funcs k n p c m = true) : 1 ≤ k ∧ k ≤ 11 := by
  by_cases hk : k = 10 ∨ k = 11
  · omega
  · have h1 := (node_kids h hk).1
    unfold kidsNo at h1
    split at h1
    · omega
    · split at h1
      · omega
      · split at h1
        · omega
        · split at h1
          · omega
          · omega
theorem lopE_rel {fs : List Fn} (hP : ∀ i, i < fs.length → fnB fs i = true) {E : Evr V} {E' : Evr W} (hE : Rle A B R fs E E') {j : Nat} (hj : j < fs.length) (ho : ((fs.getD j noFn).outs.len : Int) = (fs.getD j noFn).params) {a : Rl V} {a' : Rl W} (ha : Rll A B R a a') (hal : a.c = 0 → (a.l.length : Int) = (fs.getD j noFn).params) :
    ∀ i, Rll A B R (lopE A E (fs.getD j noFn).outs a i) (lopE B E' (fs.getD j noFn).outs a' i) ∧ ((lopE A E (fs.getD j noFn).outs a i).c = 0 → ((lopE A E (fs.getD j noFn).outs a i).l.length : Int) = (fs.getD j noFn).params)
  | 0 => ⟨ha, hal⟩
  | i + 1 => by
    obtain ⟨ih, ihl⟩ := lopE_rel hP hE hj ho ha hal i
    obtain ⟨_, _, ht⟩ := fn_parts (hP j hj)
    by_cases h0 : (lopE A E (fs.getD j noFn).outs a i).c = 0
    · have h0' : (lopE B E' (fs.getD j noFn).outs a' i).c = 0 := by rw [← ih.c]; exact h0
      rw [lopE_step h0, lopE_step h0', ← ih.s]
      have hl := ihl h0
      rw [← hl] at ht
      exact ⟨lisE_rel hE (by omega) (by decide) ht (ih.l h0) _ (Nat.le_refl _), fun h2 => by rw [lisE_len _ h2]; exact ho⟩
    · have h0' : ¬ (lopE B E' (fs.getD j noFn).outs a' i).c = 0 := by rw [← ih.c]; exact h0
      rw [lopE, if_neg h0, lopE, if_neg h0']
      exact ⟨ih, ihl⟩

theorem evE_rel {fs : List Fn} (hP : ∀ i, i < fs.length → fnB fs i = true) (hA : Alike A B R) : ∀ f, Rle A B R fs (evE A fs f) (evE B fs f)
  | 0 => fun fi k n p c ks vars vars' s _ _ _ _ => ⟨rfl, rfl, fun h => by cases h⟩
  | f + 1 => fun fi k n p c ks vars vars' s hfi hn ht hv => by
    have hE := evE_rel hP hA f
    show Rlv R (if s = 3000 then _ else _) (if s = 3000 then _ else _)
    split
    · exact ⟨rfl, rfl, fun h => by cases h⟩
    generalize evE A fs f = E at hE ⊢
    generalize evE B fs f = E' at hE ⊢
    unfold nodE
    have hkd := node_kind hn
    by_cases h1 : k = 1
    · rw [if_pos h1, if_pos h1]
      have := (node_kids hn (by omega)).2.1 h1
      exact ⟨rfl, rfl, fun _ => hA.cst n this.1 this.2⟩
    rw [if_neg h1, if_neg h1]
    by_cases h2 : k = 2
    · rw [if_pos h2, if_pos h2]
      have := (node_kids hn (by omega)).2.2 h2
      exact ⟨rfl, rfl, fun _ => hv.at_ _ (by omega)⟩
    rw [if_neg h2, if_neg h2]
    by_cases h7 : k = 7
    · rw [if_pos h7, if_pos h7]
      have hm := (node_kids hn (by omega)).1
      have : ks.len = 1 := by subst h7; have : kidsNo 7 = 1 := rfl; omega
      have ha := atE_rel hE hfi (i := 0) (s := s + 1) ht (by omega) (by unfold more; rw [if_neg (by omega)]; omega) hv
      unfold oneE
      rw [ha.c]
      split
      · rename_i h0
        exact ⟨ha.s, rfl, fun _ => hA.neg _ _ (ha.v (by rw [ha.c]; exact h0))⟩
      · exact ha
    rw [if_neg h7, if_neg h7]
    by_cases h8 : k = 8
    · rw [if_pos h8, if_pos h8]
      have hm := (node_kids hn (by omega)).1
      have : ks.len = 3 := by subst h8; have : kidsNo 8 = 3 := rfl; omega
      have ha := atE_rel hE hfi (i := 0) (s := s + 1) ht (by omega) (by unfold more; rw [if_neg (by omega)]; omega) hv
      unfold bindE
      rw [ha.c]
      split
      · rename_i h0
        dsimp only
        rw [hA.zer _ _ (ha.v (by rw [ha.c]; exact h0)), ha.s]
        split
        · exact atE_rel hE hfi ht (by omega) (by unfold more; rw [if_neg (by omega)]; omega) hv
        · exact atE_rel hE hfi ht (by omega) (by unfold more; rw [if_neg (by omega)]; omega) hv
      · exact ha
    rw [if_neg h8, if_neg h8]
    by_cases h9 : k = 9
    · rw [if_pos h9, if_pos h9]
      have hm := (node_kids hn (by omega)).1
      have : ks.len = 2 := by subst h9; have : kidsNo 9 = 2 := rfl; omega
      have ha := atE_rel hE hfi (i := 0) (s := s + 1) ht (by omega) (by unfold more; rw [if_neg (by omega)]; omega) hv
      unfold bindE
      rw [ha.c]
      split
      · rename_i h0
        dsimp only
        rw [ha.s]
        exact atE_rel hE hfi ht (by omega) (by unfold more; rw [if_pos ⟨h9, rfl⟩]; simp) (hv.snoc (ha.v (by rw [ha.c]; exact h0)))
      · exact ha
    rw [if_neg h9, if_neg h9]
    by_cases h10 : k = 10
    · rw [if_pos h10, if_pos h10]
      obtain ⟨c1, c2, c3, _⟩ := node_call hn (.inl h10)
      obtain ⟨j, rfl⟩ := Int.eq_ofNat_of_zero_le c1.1
      have hj : j < fs.length := by omega
      obtain ⟨_, _, htf⟩ := fn_parts (hP j hj)
      have ha := lisE_rel hE hfi (q := k) (by omega) ht hv (s := s + 1) ks.len (Nat.le_refl _)
      unfold bindL
      rw [ha.c]
      split
      · rename_i h0
        dsimp only
        rw [← ha.c] at h0
        rw [ha.s]
        have hll := lisE_len _ h0
        have e : (j : Int).toNat = j := rfl
        rw [e] at c2 c3 ⊢
        refine atE_rel hE (by omega : j ≤ fs.length) htf (by omega) ?_ (ha.l h0)
        rw [hll, c3]; unfold more; rw [if_neg (by omega)]; omega
      · exact ⟨ha.s, rfl, fun h => by rename_i h0; exact absurd h h0⟩
    rw [if_neg h10, if_neg h10]
    by_cases h11 : k = 11
    · rw [if_pos h11, if_pos h11]
      obtain ⟨c1, c2, c3, c4⟩ := node_call hn (.inr h11)
      obtain ⟨c5, c6⟩ := c4 h11
      obtain ⟨j, rfl⟩ := Int.eq_ofNat_of_zero_le c1.1
      have hj : j < fs.length := by omega
      have e : (j : Int).toNat = j := rfl
      rw [e] at c2 c3 c6 ⊢
      have ha := lisE_rel hE hfi (q := k) (by omega) ht hv (s := s + 1) ks.len (Nat.le_refl _)
      obtain ⟨hb, hbl⟩ := lopE_rel hP hE hj c6 ha (fun h => by rw [lisE_len _ h]; exact c3) c.toNat
      unfold bindL
      rw [hb.c]
      split
      · rename_i h0
        rw [← hb.c] at h0
        have := hbl h0
        exact ⟨hb.s, rfl, fun _ => (hb.l h0).at_ _ (by omega)⟩
      · exact ⟨hb.s, rfl, fun h => by rename_i h0; exact absurd h h0⟩
    rw [if_neg h11, if_neg h11]
    have hm := (node_kids hn (by omega)).1
    have hm2 : ks.len = 2 := by
      have : kidsNo k = 2 := by unfold kidsNo; rw [if_neg (by omega), if_pos (by omega)]
      omega
    have ha := lisE_rel hE hfi (q := k) (by omega) ht hv (s := s + 1) ks.len (Nat.le_refl _)
    unfold bindL
    rw [ha.c]
    split
    · rename_i h0
      rw [← ha.c] at h0
      have hll := lisE_len _ h0
      have hl := ha.l h0
      rw [ha.s]
      have r0 := hl.at_ 0 (by omega)
      have r1 := hl.at_ 1 (by omega)
      unfold opE
      dsimp only
      split
      · exact ⟨rfl, rfl, fun _ => hA.add _ _ _ _ r0 r1⟩
      split
      · exact ⟨rfl, rfl, fun _ => hA.sub _ _ _ _ r0 r1⟩
      split
      · exact ⟨rfl, rfl, fun _ => hA.mul _ _ _ _ r0 r1⟩
      rw [hA.zer _ _ r1]
      split
      · exact ⟨rfl, rfl, fun h => by cases h⟩
      · rename_i hz
        exact ⟨rfl, rfl, fun _ => hA.div _ _ _ _ r0 r1 (by rw [hA.zer _ _ r1]; simpa using hz)⟩
    · exact ⟨ha.s, rfl, fun h => by rename_i h0; exact absurd h h0⟩
end

end Go.Proofs.YtoedccgiahegnaaGreat
