/- Evaluation with values of two kinds that stand for each other. -/
import Derived.Test.YtldbhhocoolloaaGreatEv
namespace Go.Proofs.YtldbhhocoolloaaGreat
open Go.RowKit
set_option linter.unusedVariables false

/-- two arithmetics that do alike -/
structure Alike {V W : Type} (A : Ar V) (B : Ar W) (R : V → W → Prop) : Prop where
  cst : ∀ n, 0 ≤ n → n < 1000003 → R (A.cst n) (B.cst n)
  add : ∀ a b a' b', R a b → R a' b' → R (A.add a a') (B.add b b')
  sub : ∀ a b a' b', R a b → R a' b' → R (A.sub a a') (B.sub b b')
  mul : ∀ a b a' b', R a b → R a' b' → R (A.mul a a') (B.mul b b')
  div : ∀ a b a' b', R a b → R a' b' → A.zer a' = false → R (A.div a a') (B.div b b')
  neg : ∀ a b, R a b → R (A.neg a) (B.neg b)
  zer : ∀ a b, R a b → A.zer a = B.zer b

section
variable {V W : Type} (A : Ar V) (B : Ar W) (R : V → W → Prop)
structure Rls (l : List V) (m : List W) : Prop where
  len : l.length = m.length
  at_ : ∀ i, i < l.length → R (l.getD i (A.cst 0)) (m.getD i (B.cst 0))
structure Rlv (x : Rv V) (y : Rv W) : Prop where
  s : x.s = y.s
  c : x.c = y.c
  v : x.c = 0 → R x.v y.v
structure Rll (x : Rl V) (y : Rl W) : Prop where
  s : x.s = y.s
  c : x.c = y.c
  l : x.c = 0 → Rls A B R x.l y.l
/-- evaluators that do alike at valid nodes -/
def Rle (fs : List Fn) (E : Evr V) (E' : Evr W) : Prop := ∀ (fi : Nat) k n p c ks vars vars' s, fi ≤ fs.length → nodeB fs (vars.length : Int) (fi : Int) k n p c ks.len = true → treeB fs (fi : Int) ks (vars.length : Int) k 0 = true → Rls A B R vars vars' → Rlv R (E k n p c ks vars s) (E' k n p c ks vars' s)
end

section
variable {V W : Type} {A : Ar V} {B : Ar W} {R : V → W → Prop}
theorem Rls.snoc {l : List V} {m : List W} {x : V} {y : W} (h : Rls A B R l m) (hx : R x y) : Rls A B R (l ++ [x]) (m ++ [y]) := by
  have hl := h.len
  refine ⟨by simp [hl], fun i hi => ?_⟩
  rw [List.getD_eq_getElem?_getD, List.getD_eq_getElem?_getD]
  by_cases e : i < l.length
  · rw [List.getElem?_append_left e, List.getElem?_append_left (by omega), ← List.getD_eq_getElem?_getD, ← List.getD_eq_getElem?_getD]
    exact h.at_ i e
  · have e2 : i = l.length := by simp at hi; omega
    subst e2
    rw [List.getElem?_append_right (Nat.le_refl _), List.getElem?_append_right (by omega), Nat.sub_self, hl, Nat.sub_self]
    exact hx
theorem Rls.nil : Rls A B R [] [] := ⟨rfl, fun i hi => absurd hi (Nat.not_lt_zero _)⟩
theorem drop_cons {f : Fo} {i : Nat} (h : i < f.len) : ∃ k n p c ks, Fo.drop i f = .cons k n p c ks (Fo.drop (i + 1) f) := Fo.drop_at h
theorem atE_rel {fs : List Fn} {E : Evr V} {E' : Evr W} (hE : Rle A B R fs E E') {fi : Nat} (hfi : fi ≤ fs.length) {f : Fo} {q nv : Int} {i : Nat} {vars : List V} {vars' : List W} {s : Nat} (ht : treeB fs (fi : Int) f nv q 0 = true) (hi : i < f.len) (hl : (vars.length : Int) = nv + more q i) (hv : Rls A B R vars vars') :
    Rlv R (atE A E f i vars s) (atE B E' f i vars' s) := by
  obtain ⟨k, n, p, c, ks, hd⟩ := drop_cons hi
  rw [atE_eq hd, atE_eq hd]
  obtain ⟨h1, h2⟩ := treeB_at f 0 i ht hd
  rw [Nat.zero_add, ← hl] at h1 h2
  exact hE fi k n p c ks vars vars' s hfi h1 h2 hv
theorem lisE_rel {fs : List Fn} {E : Evr V} {E' : Evr W} (hE : Rle A B R fs E E') {fi : Nat} (hfi : fi ≤ fs.length) {f : Fo} {q : Int} (hq : q ≠ 9) {vars : List V} {vars' : List W} {s : Nat} (ht : treeB fs (fi : Int) f (vars.length : Int) q 0 = true) (hv : Rls A B R vars vars') :
    ∀ i, i ≤ f.len → Rll A B R (lisE A E f vars s i) (lisE B E' f vars' s i)
  | 0, _ => ⟨rfl, rfl, fun _ => Rls.nil⟩
  | i + 1, hi => by
    have ih := lisE_rel hE hfi hq ht hv (s := s) i (by omega)
    by_cases h0 : (lisE A E f vars s i).c = 0
    · have h0' : (lisE B E' f vars' s i).c = 0 := by rw [← ih.c]; exact h0
      rw [lisE_step h0, lisE_step h0']
      have ha := atE_rel hE hfi (i := i) (s := (lisE A E f vars s i).s) ht (by omega) (by unfold more; rw [if_neg (fun h => hq h.1)]; omega) hv
      rw [← ih.s]
      exact ⟨ha.s, ha.c, fun hc => (ih.l h0).snoc (ha.v hc)⟩
    · have h0' : ¬ (lisE B E' f vars' s i).c = 0 := by rw [← ih.c]; exact h0
      rw [lisE, if_neg h0, lisE, if_neg h0']
      exact ih
/-- what one knows of a function that may be called -/
theorem fn_parts {fs : List Fn} {i : Nat} (h : fnB fs i = true) : (0 ≤ (fs.getD i noFn).params ∧ (fs.getD i noFn).params ≤ 12) ∧ (1 ≤ (fs.getD i noFn).outs.len ∧ (fs.getD i noFn).outs.len ≤ 12) ∧ treeB fs (i : Int) (fs.getD i noFn).outs (fs.getD i noFn).params 0 0 = true := by
  have ht := fnB_tree h
  unfold fnB at h
  simp only [Bool.and_eq_true, decide_eq_true_eq] at h
  exact ⟨h.2.1, h.2.2.1, ht⟩
theorem node_call {fs : List Fn} {vars funcs k n p c : Int} {m : Nat} (h : nodeB fs vars funcs k n p c m = true) (hk : k = 10 ∨ k = 11) : (0 ≤ n ∧ n < funcs) ∧ (0 ≤ p ∧ p < ((fs.getD n.toNat noFn).outs.len : Int)) ∧ (m : Int) = (fs.getD n.toNat noFn).params ∧ (k = 11 → (0 ≤ c ∧ c ≤ 8) ∧ ((fs.getD n.toNat noFn).outs.len : Int) = (fs.getD n.toNat noFn).params) := by
  unfold nodeB at h
  rw [if_pos hk] at h
  simp only [Bool.and_eq_true, decide_eq_true_eq] at h
  refine ⟨h.1, h.2.1, h.2.2.1, fun e => ?_⟩
  have h2 := h.2.2.2
  rw [if_neg (by omega)] at h2
  simp only [Bool.and_eq_true, decide_eq_true_eq] at h2
  exact h2
theorem node_kids {fs : List Fn} {vars funcs k n p c : Int} {m : Nat} (h : nodeB fs vars funcs k n p c m = true) (hk : ¬ (k = 10 ∨ k = 11)) : kidsNo k = (m : Int) ∧ (k = 1 → 0 ≤ n ∧ n < 1000003) ∧ (k = 2 → 0 ≤ n ∧ n < vars) := by
  unfold nodeB at h
  rw [if_neg hk] at h
  simp only [Bool.and_eq_true, decide_eq_true_eq] at h
  refine ⟨h.1.1, fun e => ?_, fun e => ?_⟩
  · have h2 := h.2
    rw [if_pos e] at h2
    simpa using h2
  · have h2 := h.2
    rw [if_neg (by omega), if_pos e] at h2
    simpa using h2
theorem node_kind {fs : List Fn} {vars funcs k n p c : Int} {m : Nat} (h : nodeB fs vars funcs k n p c m = true) : 1 ≤ k ∧ k ≤ 11 := by
  by_cases hk : k = 10 ∨ k = 11
  · omega
  · have h1 := (node_kids h hk).1
    unfold kidsNo at h1
    split at h1
    · omega
    · split at h1
      · omega
      · split at h1
        · omega
        · split at h1
          · omega
          · omega
theorem lopE_rel {fs : List Fn} (hP : ∀ i, i < fs.length → fnB fs i = true) {E : Evr V} {E' : Evr W} (hE : Rle A B R fs E E') {j : Nat} (hj : j < fs.length) (ho : ((fs.getD j noFn).outs.len : Int) = (fs.getD j noFn).params) {a : Rl V} {a' : Rl W} (ha : Rll A B R a a') (hal : a.c = 0 → (a.l.length : Int) = (fs.getD j noFn).params) :
    ∀ i, Rll A B R (lopE A E (fs.getD j noFn).outs a i) (lopE B E' (fs.getD j noFn).outs a' i) ∧ ((lopE A E (fs.getD j noFn).outs a i).c = 0 → ((lopE A E (fs.getD j noFn).outs a i).l.length : Int) = (fs.getD j noFn).params)
  | 0 => ⟨ha, hal⟩
  | i + 1 => by
    obtain ⟨ih, ihl⟩ := lopE_rel hP hE hj ho ha hal i
    obtain ⟨_, _, ht⟩ := fn_parts (hP j hj)
    by_cases h0 : (lopE A E (fs.getD j noFn).outs a i).c = 0
    · have h0' : (lopE B E' (fs.getD j noFn).outs a' i).c = 0 := by rw [← ih.c]; exact h0
      rw [lopE_step h0, lopE_step h0', ← ih.s]
      have hl := ihl h0
      rw [← hl] at ht
      exact ⟨lisE_rel hE (by omega) (by decide) ht (ih.l h0) _ (Nat.le_refl _), fun h2 => by rw [lisE_len _ h2]; exact ho⟩
    · have h0' : ¬ (lopE B E' (fs.getD j noFn).outs a' i).c = 0 := by rw [← ih.c]; exact h0
      rw [lopE, if_neg h0, lopE, if_neg h0']
      exact ⟨ih, ihl⟩

theorem evE_rel {fs : List Fn} (hP : ∀ i, i < fs.length → fnB fs i = true) (hA : Alike A B R) : ∀ f, Rle A B R fs (evE A fs f) (evE B fs f)
  | 0 => fun fi k n p c ks vars vars' s _ _ _ _ => ⟨rfl, rfl, fun h => by cases h⟩
  | f + 1 => fun fi k n p c ks vars vars' s hfi hn ht hv => by
    have hE := evE_rel hP hA f
    show Rlv R (if s = 3000 then _ else _) (if s = 3000 then _ else _)
    split
    · exact ⟨rfl, rfl, fun h => by cases h⟩
    generalize evE A fs f = E at hE ⊢
    generalize evE B fs f = E' at hE ⊢
    unfold nodE
    have hkd := node_kind hn
    by_cases h1 : k = 1
    · rw [if_pos h1, if_pos h1]
      have := (node_kids hn (by omega)).2.1 h1
      exact ⟨rfl, rfl, fun _ => hA.cst n this.1 this.2⟩
    rw [if_neg h1, if_neg h1]
    by_cases h2 : k = 2
    · rw [if_pos h2, if_pos h2]
      have := (node_kids hn (by omega)).2.2 h2
      exact ⟨rfl, rfl, fun _ => hv.at_ _ (by omega)⟩
    rw [if_neg h2, if_neg h2]
    by_cases h7 : k = 7
    · rw [if_pos h7, if_pos h7]
      have hm := (node_kids hn (by omega)).1
      have : ks.len = 1 := by subst h7; have : kidsNo 7 = 1 := rfl; omega
      have ha := atE_rel hE hfi (i := 0) (s := s + 1) ht (by omega) (by unfold more; rw [if_neg (by omega)]; omega) hv
      unfold oneE
      rw [ha.c]
      split
      · rename_i h0
        exact ⟨ha.s, rfl, fun _ => hA.neg _ _ (ha.v (by rw [ha.c]; exact h0))⟩
      · exact ha
    rw [if_neg h7, if_neg h7]
    by_cases h8 : k = 8
    · rw [if_pos h8, if_pos h8]
      have hm := (node_kids hn (by omega)).1
      have : ks.len = 3 := by subst h8; have : kidsNo 8 = 3 := rfl; omega
      have ha := atE_rel hE hfi (i := 0) (s := s + 1) ht (by omega) (by unfold more; rw [if_neg (by omega)]; omega) hv
      unfold bindE
      rw [ha.c]
      split
      · rename_i h0
        dsimp only
        rw [hA.zer _ _ (ha.v (by rw [ha.c]; exact h0)), ha.s]
        split
        · exact atE_rel hE hfi ht (by omega) (by unfold more; rw [if_neg (by omega)]; omega) hv
        · exact atE_rel hE hfi ht (by omega) (by unfold more; rw [if_neg (by omega)]; omega) hv
      · exact ha
    rw [if_neg h8, if_neg h8]
    by_cases h9 : k = 9
    · rw [if_pos h9, if_pos h9]
      have hm := (node_kids hn (by omega)).1
      have : ks.len = 2 := by subst h9; have : kidsNo 9 = 2 := rfl; omega
      have ha := atE_rel hE hfi (i := 0) (s := s + 1) ht (by omega) (by unfold more; rw [if_neg (by omega)]; omega) hv
      unfold bindE
      rw [ha.c]
      split
      · rename_i h0
        dsimp only
        rw [ha.s]
        exact atE_rel hE hfi ht (by omega) (by unfold more; rw [if_pos ⟨h9, rfl⟩]; simp) (hv.snoc (ha.v (by rw [ha.c]; exact h0)))
      · exact ha
    rw [if_neg h9, if_neg h9]
    by_cases h10 : k = 10
    · rw [if_pos h10, if_pos h10]
      obtain ⟨c1, c2, c3, _⟩ := node_call hn (.inl h10)
      obtain ⟨j, rfl⟩ := Int.eq_ofNat_of_zero_le c1.1
      have hj : j < fs.length := by omega
      obtain ⟨_, _, htf⟩ := fn_parts (hP j hj)
      have ha := lisE_rel hE hfi (q := k) (by omega) ht hv (s := s + 1) ks.len (Nat.le_refl _)
      unfold bindL
      rw [ha.c]
      split
      · rename_i h0
        dsimp only
        rw [← ha.c] at h0
        rw [ha.s]
        have hll := lisE_len _ h0
        have e : (j : Int).toNat = j := rfl
        rw [e] at c2 c3 ⊢
        refine atE_rel hE (by omega : j ≤ fs.length) htf (by omega) ?_ (ha.l h0)
        rw [hll, c3]; unfold more; rw [if_neg (by omega)]; omega
      · exact ⟨ha.s, rfl, fun h => by rename_i h0; exact absurd h h0⟩
    rw [if_neg h10, if_neg h10]
    by_cases h11 : k = 11
    · rw [if_pos h11, if_pos h11]
      obtain ⟨c1, c2, c3, c4⟩ := node_call hn (.inr h11)
      obtain ⟨c5, c6⟩ := c4 h11
      obtain ⟨j, rfl⟩ := Int.eq_ofNat_of_zero_le c1.1
      have hj : j < fs.length := by omega
      have e : (j : Int).toNat = j := rfl
      rw [e] at c2 c3 c6 ⊢
      have ha := lisE_rel hE hfi (q := k) (by omega) ht hv (s := s + 1) ks.len (Nat.le_refl _)
      obtain ⟨hb, hbl⟩ := lopE_rel hP hE hj c6 ha (fun h => by rw [lisE_len _ h]; exact c3) c.toNat
      unfold bindL
      rw [hb.c]
      split
      · rename_i h0
        rw [← hb.c] at h0
        have := hbl h0
        exact ⟨hb.s, rfl, fun _ => (hb.l h0).at_ _ (by omega)⟩
      · exact ⟨hb.s, rfl, fun h => by rename_i h0; exact absurd h h0⟩
    rw [if_neg h11, if_neg h11]
    have hm := (node_kids hn (by omega)).1
    have hm2 : ks.len = 2 := by
      have : kidsNo k = 2 := by unfold kidsNo; rw [if_neg (by omega), if_pos (by omega)]
      omega
    have ha := lisE_rel hE hfi (q := k) (by omega) ht hv (s := s + 1) ks.len (Nat.le_refl _)
    unfold bindL
    rw [ha.c]
    split
    · rename_i h0
      rw [← ha.c] at h0
      have hll := lisE_len _ h0
      have hl := ha.l h0
      rw [ha.s]
      have r0 := hl.at_ 0 (by omega)
      have r1 := hl.at_ 1 (by omega)
      unfold opE
      dsimp only
      split
      · exact ⟨rfl, rfl, fun _ => hA.add _ _ _ _ r0 r1⟩
      split
      · exact ⟨rfl, rfl, fun _ => hA.sub _ _ _ _ r0 r1⟩
      split
      · exact ⟨rfl, rfl, fun _ => hA.mul _ _ _ _ r0 r1⟩
      rw [hA.zer _ _ r1]
      split
      · exact ⟨rfl, rfl, fun h => by cases h⟩
      · rename_i hz
        exact ⟨rfl, rfl, fun _ => hA.div _ _ _ _ r0 r1 (by rw [hA.zer _ _ r1]; simpa using hz)⟩
    · exact ⟨ha.s, rfl, fun h => by rename_i h0; exact absurd h h0⟩
end

end Go.Proofs.YtldbhhocoolloaaGreat
