/- Ways to choose: by the model, by the program's closure; how long a chain can be, how many repeats it needs, and what it costs. -/
import Derived.Test.YtiimebiecihpkaaFrame
import Derived.Test.YtiimebiecihpkaaCkb
namespace Go.Proofs.Ytiimebiecihpkaa
open Go.RowKit
set_option linter.unusedVariables false

/- plain facts -/
theorem bin_le : ∀ n k : Nat, bin n k ≤ 2 ^ n := by
  intro n
  induction n with
  | zero => intro k; cases k <;> simp [bin]
  | succ n ih =>
    intro k
    cases k with
    | zero => rw [bin_zero]; exact Nat.one_le_two_pow
    | succ k => have h1 := ih k; have h2 := ih (k + 1); rw [bin, Nat.pow_succ]; omega
theorem bin_48 {n : Nat} (k : Nat) (h : n ≤ 48) : bin n k ≤ 281474976710656 :=
  Nat.le_trans (bin_le n k) (Nat.le_trans (Nat.pow_le_pow_right (by decide) h) (by decide))
theorem bin_next_aux {a b n k : Int} (h : (k + 1) * (a + b) = (n + 1) * a) : a * (n - k) = (k + 1) * b := by
  have e1 : a * n = n * a := Int.mul_comm _ _
  have e2 : a * k = k * a := Int.mul_comm _ _
  simp only [Int.mul_add, Int.add_mul, Int.mul_sub, Int.one_mul] at *
  omega
theorem bin_next (n k : Nat) : ((bin n k : Nat) : Int) * ((n : Int) - (k : Int)) = ((k : Int) + 1) * ((bin n (k + 1) : Nat) : Int) := by
  have h := bin_mul n k
  rw [bin] at h
  exact bin_next_aux (by exact_mod_cast h)
theorem bin_up (m k : Nat) : ((bin m k : Nat) : Int) * ((m : Int) + 1) = ((k : Int) + 1) * ((bin (m + 1) (k + 1) : Nat) : Int) := by
  have h := bin_mul m k
  have h2 : ((k : Int) + 1) * ((bin (m + 1) (k + 1) : Nat) : Int) = ((m : Int) + 1) * ((bin m k : Nat) : Int) := by exact_mod_cast h
  rw [h2, Int.mul_comm]
theorem div_back {x y z : Int} (hy : 0 < y) (h : x = y * z) : x / y = z := by rw [h]; exact Int.mul_ediv_cancel_left _ (by omega)
theorem bin_row : ∀ s r : Nat, 1 ≤ s → r + 1 ≤ bin (s + r) s := by
  intro s r
  induction r with
  | zero => intro _; show 0 + 1 ≤ bin s s; rw [bin_self]; exact Nat.le_refl _
  | succ r ih =>
    intro hs
    have h1 := ih hs
    obtain ⟨t, rfl⟩ : ∃ t, s = t + 1 := ⟨s - 1, by omega⟩
    have h2 : 1 ≤ bin (t + 1 + r) t := by
      have : ∀ a b : Nat, 1 ≤ bin (a + b) a := by
        intro a
        induction a with
        | zero => intro b; rw [bin_zero]; omega
        | succ a iha => intro b; rw [show a + 1 + b = (a + b) + 1 from by omega, bin]; have := iha b; omega
      have := this t (1 + r); rw [show t + (1 + r) = t + 1 + r from by omega] at this; exact this
    rw [show t + 1 + (r + 1) = (t + 1 + r) + 1 from by omega, bin]
    omega
/-- the first of the next so many numbers for which it holds -/
def lst (p : Nat → Bool) : Nat → Nat → Option Nat
  | 0, _ => none
  | f + 1, r => if p r = true then some r else lst p f (r + 1)
theorem lst_t {p : Nat → Bool} {f r : Nat} (h : p r = true) : lst p (f + 1) r = some r := if_pos h
theorem lst_f {p : Nat → Bool} {f r : Nat} (h : p r = false) : lst p (f + 1) r = lst p f (r + 1) := if_neg (by rw [h]; simp)
theorem lst_bd {p : Nat → Bool} : ∀ {f r k : Nat}, lst p f r = some k → k < r + f := by
  intro f
  induction f with
  | zero => intro r k h; cases h
  | succ f ih =>
    intro r k h
    unfold lst at h; split at h
    · cases h; omega
    · have := ih h; omega

end Go.Proofs.Ytiimebiecihpkaa
