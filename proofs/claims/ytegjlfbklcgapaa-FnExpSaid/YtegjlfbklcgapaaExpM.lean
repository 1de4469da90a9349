/- Exponentials and logarithms of series: their equations, and that these have one solution. -/
import Derived.Test.YtegjlfbklcgapaaConv
namespace Go.Proofs.Ytegjlfbklcgapaa

def sq (l : List Int) (i : Nat) : Int := l.getD i 0
theorem mulc_conv (a b : List Int) (k : Nat) : mulc a b k = conv (sq a) (sq b) k % 1000003 := mulc_cf a b k
theorem conv_mod {f f' g g' : Nat → Int} {k : Nat} (hf : ∀ i, i ≤ k → f i % 1000003 = f' i % 1000003) (hg : ∀ i, i ≤ k → g i % 1000003 = g' i % 1000003) : conv f g k % 1000003 = conv f' g' k % 1000003 := by
  unfold conv
  exact isum_mod fun i hi => by rw [Int.mul_emod, hf i (by omega), hg (k - i) (by omega), ← Int.mul_emod]

/-- an index is a unit -/
theorem cancel_idx {x y : Int} (k : Nat) (hk : k < 1000000) (h : (((k : Int) + 1) * x) % 1000003 = (((k : Int) + 1) * y) % 1000003) : x % 1000003 = y % 1000003 := by
  have hi : tms ((k : Int) + 1) (inv ((k : Int) + 1)) = 1 := tms_inv (by unfold res; omega)
  unfold tms at hi
  generalize inv ((k : Int) + 1) = v at hi
  generalize ((k : Int) + 1) = u at hi h
  have e : ∀ z : Int, (v * (u * z)) % 1000003 = z % 1000003 := by
    intro z
    rw [← Int.mul_assoc, Int.mul_comm v u, Int.mul_emod, hi, Int.one_mul, Int.emod_emod]
  rw [← e x, ← e y, Int.mul_emod v, h, ← Int.mul_emod]

theorem exp_unique {A f g : Nat → Int} {n : Nat} (hn : n ≤ 1000) (h0 : f 0 % 1000003 = g 0 % 1000003)
    (hf : ∀ k, k + 1 < n → der f k % 1000003 = conv A f k % 1000003) (hg : ∀ k, k + 1 < n → der g k % 1000003 = conv A g k % 1000003) :
    ∀ k, k < n → ∀ i, i ≤ k → f i % 1000003 = g i % 1000003 := by
  intro k
  induction k with
  | zero => intro _ i hi; rw [show i = 0 from by omega]; exact h0
  | succ k ih =>
    intro hk i hi
    by_cases e : i = k + 1
    · subst e
      apply cancel_idx k (by omega)
      have h1 := hf k hk
      have h2 := hg k hk
      have h3 : conv A f k % 1000003 = conv A g k % 1000003 := conv_mod (fun _ _ => rfl) (fun j hj => ih (by omega) j hj)
      show der f k % 1000003 = der g k % 1000003
      rw [h1, h2, h3]
    · exact ih (by omega) i (by omega)

theorem exs_pre (a : List Int) {i k n : Nat} (h : i ≤ k) (hk : k ≤ n) : (exs a n).getD i 0 = (exs a k).getD i 0 := by
  induction n with
  | zero => rw [show k = 0 from by omega]
  | succ n ih =>
    by_cases e : k = n + 1
    · rw [e]
    · rw [exs_succ, getD_snoc_lt (by rw [exs_len]; omega)]; exact ih (by omega)
theorem expl_zero {a : List Int} : (expl a).getD 0 0 = 1 := by
  unfold expl
  rw [exs_pre a (k := 0) (by omega) (by omega)]; rfl
theorem idx_inv (x : Int) (k : Nat) (hk : k < 1000000) : (((k : Int) + 1) * tms x (inv ((k : Int) + 1))) % 1000003 = x % 1000003 := by
  have hi : tms ((k : Int) + 1) (inv ((k : Int) + 1)) = 1 := tms_inv (by unfold res; omega)
  unfold tms at hi ⊢
  rw [Int.mul_emod, Int.emod_emod, ← Int.mul_emod, Int.mul_left_comm, Int.mul_emod, hi, Int.mul_one, Int.emod_emod]
theorem exp_char {a : List Int} (hn : a.length ≤ 1000) (k : Nat) (hk : k + 1 < a.length) : der (sq (expl a)) k % 1000003 = conv (der (sq a)) (sq (expl a)) k % 1000003 := by
  have e1 : sq (expl a) (k + 1) = tms (psum (eterm a (exs a k) k) (k + 1)) (inv ((k : Int) + 1)) := by
    unfold sq expl
    rw [exs_pre a (k := k + 1) (by omega) (by omega), exs_succ]
    have := getD_snoc_eq (xs := exs a k) (x := tms (psum (eterm a (exs a k) k) (k + 1)) (inv ((k : Int) + 1)))
    rw [exs_len] at this
    exact this
  unfold der
  rw [e1, idx_inv _ k (by omega), psum_isum, Int.emod_emod]
  unfold conv
  apply isum_mod
  intro i hi
  have e2 : sq (expl a) (k - i) = (exs a k).getD (k - i) 0 := by
    unfold sq expl
    exact exs_pre a (by omega) (by omega)
  rw [e2]
  unfold eterm tms sq
  rw [Int.emod_emod, Int.mul_emod, Int.emod_emod, ← Int.mul_emod]

theorem exp_sum {a b : List Int} (hn : a.length ≤ 1000) (hb : b.length = a.length) (k : Nat) (hk : k < a.length) :
    conv (sq (expl a)) (sq (expl b)) k % 1000003 = sq (expl (addl a b)) k % 1000003 := by
  have hl : (addl a b).length = a.length := addl_len a b
  refine exp_unique (A := fun i => der (sq a) i + der (sq b) i) hn ?_ ?_ ?_ k hk k (Nat.le_refl _)
  · have h1 : sq (expl a) 0 = 1 := expl_zero
    have h2 : sq (expl b) 0 = 1 := expl_zero
    have h3 : sq (expl (addl a b)) 0 = 1 := expl_zero
    show isum (fun i => sq (expl a) i * sq (expl b) (0 - i)) (0 + 1) % 1000003 = _
    simp only [isum]
    rw [h1, h2, h3]; rfl
  · intro k hk
    rw [der_conv]
    have e1 : conv (der (sq (expl a))) (sq (expl b)) k % 1000003 = conv (conv (der (sq a)) (sq (expl a))) (sq (expl b)) k % 1000003 :=
      conv_mod (fun i hi => exp_char hn i (by omega)) (fun _ _ => rfl)
    have e2 : conv (sq (expl a)) (der (sq (expl b))) k % 1000003 = conv (sq (expl a)) (conv (der (sq b)) (sq (expl b))) k % 1000003 :=
      conv_mod (fun _ _ => rfl) (fun i hi => exp_char (by omega) i (by omega))
    rw [Int.add_emod, e1, e2, ← Int.add_emod]
    have e3 : conv (conv (der (sq a)) (sq (expl a))) (sq (expl b)) k = conv (der (sq a)) (conv (sq (expl a)) (sq (expl b))) k := conv_assoc _ _ _ k
    have e4 : conv (sq (expl a)) (conv (der (sq b)) (sq (expl b))) k = conv (der (sq b)) (conv (sq (expl a)) (sq (expl b))) k := by
      rw [← conv_assoc, conv_congr (f' := conv (der (sq b)) (sq (expl a))) (g' := sq (expl b)) (fun i _ => conv_comm _ _ i) (fun _ _ => rfl), conv_assoc]
    rw [e3, e4, conv_comm (fun i => der (sq a) i + der (sq b) i), conv_add, conv_comm (der (sq a)), conv_comm (der (sq b))]
  · intro k hk
    rw [exp_char (by omega) k (by omega)]
    refine conv_mod (fun i hi => ?_) (fun _ _ => rfl)
    unfold der sq
    rw [addl_at (by omega), ← Int.mul_add]
    unfold pls
    rw [Int.mul_emod, Int.emod_emod, ← Int.mul_emod]
theorem exp_law {a b : List Int} (h1 : 1 ≤ a.length) (hn : a.length ≤ 1000) (hb : b.length = a.length) : mull (expl a) (expl b) = expl (addl a b) := by
  have hl : (expl (addl a b)).length = a.length := by rw [expl_len (by rw [addl_len]; exact h1), addl_len]
  unfold mull
  rw [expl_len h1, ← hl]
  apply tab_eq
  intro k hk
  rw [mulc_conv, exp_sum hn hb k (by omega)]
  have := (exs_nms (addl a b) ((addl a b).length - 1)).at k
  show sq (expl (addl a b)) k % 1000003 = sq (expl (addl a b)) k
  have e : sq (expl (addl a b)) k = (exs (addl a b) ((addl a b).length - 1)).getD k 0 := rfl
  omega

end Go.Proofs.Ytegjlfbklcgapaa
