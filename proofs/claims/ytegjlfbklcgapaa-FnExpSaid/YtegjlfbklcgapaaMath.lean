/- Numbers modulo 1000003: plain facts, nothing of the program in sight. -/
namespace Go.Proofs.Ytegjlfbklcgapaa

def res (n : Int) : Int := n % 1000003
def pls (a b : Int) : Int := (a + b) % 1000003
def tms (a b : Int) : Int := (a * b) % 1000003
def mns (a b : Int) : Int := (a - b) % 1000003
def pwr (a : Int) (n : Nat) : Int := a ^ n % 1000003
def inv (a : Int) : Int := pwr a 1000001

theorem res_bd (n : Int) : 0 ≤ res n ∧ res n < 1000003 := by unfold res; omega
theorem pls_bd (a b : Int) : 0 ≤ pls a b ∧ pls a b < 1000003 := by unfold pls; omega
theorem mns_bd (a b : Int) : 0 ≤ mns a b ∧ mns a b < 1000003 := by unfold mns; omega
theorem tms_bd (a b : Int) : 0 ≤ tms a b ∧ tms a b < 1000003 := by
  unfold tms; exact ⟨Int.emod_nonneg _ (by decide), Int.emod_lt_of_pos _ (by decide)⟩
theorem pwr_bd (a : Int) (n : Nat) : 0 ≤ pwr a n ∧ pwr a n < 1000003 := by
  unfold pwr; exact ⟨Int.emod_nonneg _ (by decide), Int.emod_lt_of_pos _ (by decide)⟩

theorem res_id {n : Int} (h0 : 0 ≤ n) (h1 : n < 1000003) : res n = n := by unfold res; omega
theorem pls_res (a b : Int) : pls (res a) (res b) = pls a b := by unfold pls res; omega
theorem pls_res' (a b : Int) : res (res a + res b) = pls a b := by unfold pls res; omega
theorem mns_res' (a b : Int) : res (res a - res b) = mns a b := by unfold mns res; omega
theorem tms_res' (a b : Int) : res (res a * res b) = tms a b := by
  unfold tms res; exact (Int.mul_emod a b 1000003).symm
theorem tms_res (a b : Int) : tms (res a) (res b) = tms a b := by
  unfold tms res; exact (Int.mul_emod a b 1000003).symm
theorem res_mul_bd {a b : Int} (ha : 0 ≤ a ∧ a < 1000003) (hb : 0 ≤ b ∧ b < 1000003) : 0 ≤ a * b ∧ a * b ≤ 1000004000004 := by
  refine ⟨Int.mul_nonneg ha.1 hb.1, ?_⟩
  calc a * b ≤ 1000002 * b := Int.mul_le_mul_of_nonneg_right (by omega) hb.1
    _ ≤ 1000004000004 := by omega

theorem emod_pow (a : Int) (n : Nat) : (a % 1000003) ^ n % 1000003 = a ^ n % 1000003 := by
  induction n with
  | zero => simp
  | succ k ih => rw [Int.pow_succ, Int.pow_succ, Int.mul_emod, ih, Int.emod_emod, ← Int.mul_emod]

/-- What holds at each round's head of the power's loop. -/
def Pinv (r s : Int) (m : Nat) (a : Int) (n : Nat) : Prop := r * s ^ m % 1000003 = a ^ n % 1000003
theorem pinv_start (a : Int) (n : Nat) : Pinv 1 (res a) n a n := by
  unfold Pinv res; rw [Int.one_mul, emod_pow]
theorem sq_pow (s : Int) (k : Nat) : (s * s) ^ k = s ^ (2 * k) := by
  rw [Int.pow_mul]; congr 1; rw [Int.pow_succ, Int.pow_succ, Int.pow_zero, Int.one_mul]
theorem pinv_even {r s a : Int} {m n : Nat} (h : m % 2 = 0) (hp : Pinv r s m a n) : Pinv r (tms s s) (m / 2) a n := by
  unfold Pinv tms at *
  rw [Int.mul_emod, emod_pow, ← Int.mul_emod, sq_pow, show 2 * (m / 2) = m from by omega]; exact hp
theorem pinv_odd {r s a : Int} {m n : Nat} (h : m % 2 = 1) (hp : Pinv r s m a n) : Pinv (tms r s) (tms s s) (m / 2) a n := by
  unfold Pinv tms at *
  rw [Int.mul_emod, emod_pow, Int.emod_emod, ← Int.mul_emod, sq_pow, Int.mul_assoc, Int.mul_comm s, ← Int.pow_succ, show (2 * (m / 2)).succ = m from by omega]; exact hp
theorem pinv_end {r s a : Int} {n : Nat} (h0 : 0 ≤ r) (h1 : r < 1000003) (hp : Pinv r s 0 a n) : r = pwr a n := by
  unfold Pinv at hp; unfold pwr; rw [← hp, Int.pow_zero, Int.mul_one]; omega

end Go.Proofs.Ytegjlfbklcgapaa
