/- Sequences of integers under convolution: associative, commutative, with a derivation. -/
import Derived.Test.YtegjlfbklcgapaaPoly
namespace Go.Proofs.Ytegjlfbklcgapaa

theorem isum_mul (f : Nat → Int) (c : Int) (n : Nat) : isum (fun i => c * f i) n = c * isum f n := by
  induction n with
  | zero => simp [isum]
  | succ n ih => simp only [isum, ih, Int.mul_add]
theorem isum_mul_right (f : Nat → Int) (c : Int) (n : Nat) : isum (fun i => f i * c) n = isum f n * c := by
  induction n with
  | zero => simp [isum]
  | succ n ih => simp only [isum, ih, Int.add_mul]
theorem isum_zero (n : Nat) : isum (fun _ => 0) n = 0 := by
  induction n with
  | zero => rfl
  | succ n ih => simp only [isum, ih]; rfl

def conv (f g : Nat → Int) (k : Nat) : Int := isum (fun i => f i * g (k - i)) (k + 1)
theorem conv_comm (f g : Nat → Int) (k : Nat) : conv f g k = conv g f k := by
  unfold conv
  rw [← isum_rev]
  exact isum_congr fun i hi => by rw [show k + 1 - 1 - i = k - i from by omega, show k - (k - i) = i from by omega, Int.mul_comm]
theorem conv_add (f g h : Nat → Int) (k : Nat) : conv f (fun i => g i + h i) k = conv f g k + conv f h k := by
  unfold conv
  rw [← isum_add]
  exact isum_congr fun i _ => Int.mul_add _ _ _
theorem conv_congr {f f' g g' : Nat → Int} {k : Nat} (hf : ∀ i, i ≤ k → f i = f' i) (hg : ∀ i, i ≤ k → g i = g' i) : conv f g k = conv f' g' k := by
  unfold conv
  exact isum_congr fun i hi => by rw [hf i (by omega), hg (k - i) (by omega)]

/-- the sum over a triangle, by rows and by columns -/
theorem tri (F : Nat → Nat → Int) (n : Nat) : isum (fun i => isum (fun j => F i j) (i + 1)) n = isum (fun j => isum (fun m => F (j + m) j) (n - j)) n := by
  induction n with
  | zero => rfl
  | succ n ih =>
    rw [isum, ih, isum]
    have e1 : isum (fun m => F (n + m) n) (n + 1 - n) = F n n := by
      rw [show n + 1 - n = 0 + 1 from by omega]; simp [isum]
    have e2 : isum (fun j => isum (fun m => F (j + m) j) (n + 1 - j)) n = isum (fun j => isum (fun m => F (j + m) j) (n - j) + F n j) n :=
      isum_congr fun j hj => by
        show isum (fun m => F (j + m) j) (n + 1 - j) = _
        rw [show n + 1 - j = (n - j) + 1 from by omega, isum, show j + (n - j) = n from by omega]
    show isum (fun j => isum (fun m => F (j + m) j) (n - j)) n + isum (fun j => F n j) (n + 1) = isum (fun j => isum (fun m => F (j + m) j) (n + 1 - j)) n + isum (fun m => F (n + m) n) (n + 1 - n)
    have e3 : isum (fun j => F n j) (n + 1) = isum (fun j => F n j) n + F n n := rfl
    rw [e1, e2, isum_add, e3]
    exact (Int.add_assoc _ _ _).symm
theorem conv_assoc (f g h : Nat → Int) (k : Nat) : conv (conv f g) h k = conv f (conv g h) k := by
  unfold conv
  have e1 : isum (fun i => isum (fun j => f j * g (i - j)) (i + 1) * h (k - i)) (k + 1) = isum (fun i => isum (fun j => f j * g (i - j) * h (k - i)) (i + 1)) (k + 1) :=
    isum_congr fun i _ => (isum_mul_right _ _ _).symm
  rw [e1, tri (fun i j => f j * g (i - j) * h (k - i)) (k + 1)]
  exact isum_congr fun j hj => by
    show isum (fun m => f j * g (j + m - j) * h (k - (j + m))) (k + 1 - j) = f j * isum (fun i => g i * h (k - j - i)) (k - j + 1)
    rw [← isum_mul, show k + 1 - j = k - j + 1 from by omega]
    exact isum_congr fun m _ => by
      show f j * g (j + m - j) * h (k - (j + m)) = f j * (g m * h (k - j - m))
      rw [show j + m - j = m from by omega, show k - (j + m) = k - j - m from by omega, Int.mul_assoc]

/-- the derivative -/
def der (f : Nat → Int) (k : Nat) : Int := ((k : Int) + 1) * f (k + 1)
theorem der_conv (f g : Nat → Int) (k : Nat) : der (conv f g) k = conv (der f) g k + conv f (der g) k := by
  have e1 : conv (der f) g k = isum (fun i => (i : Int) * f i * g (k + 1 - i)) (k + 2) := by
    rw [isum_head]
    show _ = ((0 : Nat) : Int) * f 0 * g (k + 1 - 0) + isum (fun i => ((i + 1 : Nat) : Int) * f (i + 1) * g (k + 1 - (i + 1))) (k + 1)
    rw [Int.natCast_zero, Int.zero_mul, Int.zero_mul, Int.zero_add]
    unfold conv der
    exact isum_congr fun i _ => by rw [show k + 1 - (i + 1) = k - i from by omega, Int.natCast_add]; rfl
  have e2 : conv f (der g) k = isum (fun i => f i * (((k + 1 - i : Nat) : Int) * g (k + 1 - i))) (k + 2) := by
    show _ = isum (fun i => f i * (((k + 1 - i : Nat) : Int) * g (k + 1 - i))) (k + 1) + f (k + 1) * (((k + 1 - (k + 1) : Nat) : Int) * g (k + 1 - (k + 1)))
    rw [Nat.sub_self, Int.natCast_zero, Int.zero_mul, Int.mul_zero, Int.add_zero]
    unfold conv der
    exact isum_congr fun i hi => by
      rw [show k + 1 - i = (k - i) + 1 from by omega, Int.natCast_add]; rfl
  rw [e1, e2, ← isum_add]
  unfold der conv
  rw [← isum_mul]
  exact isum_congr fun i hi => by
    rw [show ((k : Int) + 1) = (i : Int) + ((k + 1 - i : Nat) : Int) from by omega, Int.add_mul, Int.mul_assoc, Int.mul_left_comm (f i)]

end Go.Proofs.Ytegjlfbklcgapaa
