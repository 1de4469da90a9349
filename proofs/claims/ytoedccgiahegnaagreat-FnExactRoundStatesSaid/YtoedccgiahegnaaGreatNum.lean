/- Numbers modulo 1000003: plain facts, nothing of the program in sight. 1000003 is a prime, and the power 1000002 of a number that it does not divide is 1 modulo 1000003. What each function on single numbers answers. Powers, inverses, and the small functions over an index. Inverses, the small functions over an index, and the laws on single numbers. -/
import Derived.Test.YtoedccgiahegnaaGreatProg
import Derived.WalkKit
import Derived.WalkLawsBesides
import Derived.Lib.Hide
import Derived.Outline
import Derived.RowKit3
import Derived.Below
import Derived.BigQuiet
import Derived.Deep.QuietTactic
import Derived.OpenShut
namespace Go.Proofs.YtoedccgiahegnaaGreat

def res (n : Int) : Int := n % 1000003
def pls (a b : Int) : Int := (a + b) % 1000003
def tms (a b : Int) : Int := (a * b) % 1000003
def mns (a b : Int) : Int := (a - b) % 1000003
def pwr (a : Int) (n : Nat) : Int := a ^ n % 1000003
def inv (a : Int) : Int := pwr a 1000001

theorem res_bd (n : Int) : 0 ≤ res n ∧ res n < 1000003 := by unfold res; omega
theorem pls_bd (a b : Int) : 0 ≤ pls a b ∧ pls a b < 1000003 := by unfold pls; omega
theorem mns_bd (a b : Int) : 0 ≤ mns a b ∧ mns a b < 1000003 := by unfold mns; omega
theorem tms_bd (a b : Int) : 0 ≤ tms a b ∧ tms a b < 1000003 := by
  unfold tms; exact ⟨Int.emod_nonneg _ (by decide), Int.emod_lt_of_pos _ (by decide)⟩
theorem pwr_bd (a : Int) (n : Nat) : 0 ≤ pwr a n ∧ pwr a n < 1000003 := by
  unfold pwr; exact ⟨Int.emod_nonneg _ (by decide), Int.emod_lt_of_pos _ (by decide)⟩

theorem res_id {n : Int} (h0 : 0 ≤ n) (h1 : n < 1000003) : res n = n := by unfold res; omega
theorem pls_res (a b : Int) : pls (res a) (res b) = pls a b := by unfold pls res; omega
theorem pls_res' (a b : Int) : res (res a + res b) = pls a b := by unfold pls res; omega
theorem mns_res' (a b : Int) : res (res a - res b) = mns a b := by unfold mns res; omega
theorem tms_res' (a b : Int) : res (res a * res b) = tms a b := by
  unfold tms res; exact (Int.mul_emod a b 1000003).symm
theorem tms_res (a b : Int) : tms (res a) (res b) = tms a b := by
  unfold tms res; exact (Int.mul_emod a b 1000003).symm
theorem res_mul_bd {a b : Int} (ha : 0 ≤ a ∧ a < 1000003) (hb : 0 ≤ b ∧ b < 1000003) : 0 ≤ a * b ∧ a * b ≤ 1000004000004 := by
  refine ⟨Int.mul_nonneg ha.1 hb.1, ?_⟩
  calc a * b ≤ 1000002 * b := Int.mul_le_mul_of_nonneg_right (by omega) hb.1
    _ ≤ 1000004000004 := by omega

theorem emod_pow (a : Int) (n : Nat) : (a % 1000003) ^ n % 1000003 = a ^ n % 1000003 := by
  induction n with
  | zero => simp
  | succ k ih => rw [Int.pow_succ, Int.pow_succ, Int.mul_emod, ih, Int.emod_emod, ← Int.mul_emod]

/-- What holds at each round's head of the power's loop. -/
def Pinv (r s : Int) (m : Nat) (a : Int) (n : Nat) : Prop := r * s ^ m % 1000003 = a ^ n % 1000003
theorem pinv_start (a : Int) (n : Nat) : Pinv 1 (res a) n a n := by
  unfold Pinv res; rw [Int.one_mul, emod_pow]
theorem sq_pow (s : Int) (k : Nat) : (s * s) ^ k = s ^ (2 * k) := by
  rw [Int.pow_mul]; congr 1; rw [Int.pow_succ, Int.pow_succ, Int.pow_zero, Int.one_mul]
theorem pinv_even {r s a : Int} {m n : Nat} (h : m % 2 = 0) (hp : Pinv r s m a n) : Pinv r (tms s s) (m / 2) a n := by
  unfold Pinv tms at *
  rw [Int.mul_emod, emod_pow, ← Int.mul_emod, sq_pow, show 2 * (m / 2) = m from by omega]; exact hp
theorem pinv_odd {r s a : Int} {m n : Nat} (h : m % 2 = 1) (hp : Pinv r s m a n) : Pinv (tms r s) (tms s s) (m / 2) a n := by
  unfold Pinv tms at *
  rw [Int.mul_emod, emod_pow, Int.emod_emod, ← Int.mul_emod, sq_pow, Int.mul_assoc, Int.mul_comm s, ← Int.pow_succ, show (2 * (m / 2)).succ = m from by omega]; exact hp
theorem pinv_end {r s a : Int} {n : Nat} (h0 : 0 ≤ r) (h1 : r < 1000003) (hp : Pinv r s 0 a n) : r = pwr a n := by
  unfold Pinv at hp; unfold pwr; rw [← hp, Int.pow_zero, Int.mul_one]; omega

end Go.Proofs.YtoedccgiahegnaaGreat

namespace Go.Proofs.YtoedccgiahegnaaGreat

/-- binomials -/
def bin : Nat → Nat → Nat
  | _, 0 => 1
  | 0, _ + 1 => 0
  | n + 1, k + 1 => bin n k + bin n (k + 1)
theorem bin_zero (n : Nat) : bin n 0 = 1 := by cases n <;> rfl
theorem bin_big : ∀ (n k : Nat), n < k → bin n k = 0 := by
  intro n
  induction n with
  | zero => intro k h; cases k with
    | zero => omega
    | succ k => rfl
  | succ n ih => intro k h; cases k with
    | zero => omega
    | succ k => rw [bin, ih k (by omega), ih (k + 1) (by omega)]
theorem bin_self : ∀ n : Nat, bin n n = 1 := by
  intro n
  induction n with
  | zero => rfl
  | succ n ih => rw [bin, ih, bin_big n (n + 1) (by omega)]
theorem bin_mul : ∀ n k : Nat, (k + 1) * bin (n + 1) (k + 1) = (n + 1) * bin n k := by
  intro n
  induction n with
  | zero => intro k; cases k with
    | zero => rfl
    | succ k => simp [bin]
  | succ n ih =>
    intro k
    cases k with
    | zero =>
      have h := ih 0
      have e1 : bin (n + 1 + 1) (0 + 1) = bin (n + 1) 0 + bin (n + 1) (0 + 1) := rfl
      rw [e1]
      rw [bin_zero] at h ⊢
      omega
    | succ k =>
      have h1 := ih k
      have h2 := ih (k + 1)
      have e1 : bin (n + 1 + 1) (k + 1 + 1) = bin (n + 1) (k + 1) + bin (n + 1) (k + 1 + 1) := rfl
      have e2 : bin (n + 1) (k + 1) = bin n k + bin n (k + 1) := rfl
      rw [e1, Nat.mul_add, h2, show k + 1 + 1 = (k + 1) + 1 from rfl, Nat.add_mul, h1, Nat.one_mul]
      rw [show (n + 1 + 1) * bin (n + 1) (k + 1) = (n + 1) * bin (n + 1) (k + 1) + bin (n + 1) (k + 1) from by rw [Nat.add_mul, Nat.one_mul]]
      rw [e2, Nat.mul_add]
      omega

/-- the sum of f 0, .., f (n - 1) -/
def sumN (f : Nat → Nat) : Nat → Nat
  | 0 => 0
  | n + 1 => sumN f n + f n
theorem sumN_add (f g : Nat → Nat) (n : Nat) : sumN (fun k => f k + g k) n = sumN f n + sumN g n := by
  induction n with
  | zero => rfl
  | succ n ih => simp only [sumN, ih]; omega
theorem sumN_mul (f : Nat → Nat) (c n : Nat) : sumN (fun k => c * f k) n = c * sumN f n := by
  induction n with
  | zero => rfl
  | succ n ih => simp only [sumN, ih, Nat.mul_add]
theorem sumN_shift (f : Nat → Nat) (n : Nat) : sumN f (n + 1) = f 0 + sumN (fun k => f (k + 1)) n := by
  induction n with
  | zero => simp [sumN]
  | succ n ih => rw [sumN, ih]; simp only [sumN]; omega
theorem sumN_congr {f g : Nat → Nat} {n : Nat} (h : ∀ k, k < n → f k = g k) : sumN f n = sumN g n := by
  induction n with
  | zero => rfl
  | succ n ih => simp only [sumN]; rw [ih (fun k hk => h k (by omega)), h n (by omega)]
theorem sumN_dvd {f : Nat → Nat} {d n : Nat} (h : ∀ k, k < n → d ∣ f k) : d ∣ sumN f n := by
  induction n with
  | zero => exact ⟨0, rfl⟩
  | succ n ih => exact Nat.dvd_add (ih fun k hk => h k (by omega)) (h n (by omega))

theorem binom (a n : Nat) : (a + 1) ^ n = sumN (fun k => bin n k * a ^ k) (n + 1) := by
  induction n with
  | zero => simp [sumN, bin]
  | succ n ih =>
    rw [Nat.pow_succ, ih, Nat.mul_add, Nat.mul_one, Nat.mul_comm, ← sumN_mul]
    rw [sumN_shift (fun k => bin (n + 1) k * a ^ k) (n + 1)]
    have e : ∀ k, k < n + 1 → bin (n + 1) (k + 1) * a ^ (k + 1) = a * (bin n k * a ^ k) + bin n (k + 1) * a ^ (k + 1) := by
      intro k _
      rw [bin, Nat.add_mul, Nat.pow_succ]
      congr 1
      rw [← Nat.mul_assoc, Nat.mul_comm]
    rw [sumN_congr e, sumN_add]
    have e2 : sumN (fun k => bin n k * a ^ k) (n + 1) = bin n 0 * a ^ 0 + sumN (fun k => bin n (k + 1) * a ^ (k + 1)) n := sumN_shift _ _
    have e3 : sumN (fun k => bin n (k + 1) * a ^ (k + 1)) (n + 1) = sumN (fun k => bin n (k + 1) * a ^ (k + 1)) n := by
      rw [sumN, bin_big n (n + 1) (by omega)]; simp
    rw [e2, e3, bin_zero, bin_zero]
    omega

theorem noDiv : ∀ d, d < 1001 → 2 ≤ d → 1000003 % d ≠ 0 := by decide +kernel
theorem prime_div {d : Nat} (h : d ∣ 1000003) : d = 1 ∨ d = 1000003 := by
  obtain ⟨e, he⟩ := h
  by_cases h1 : d ≤ 1
  · left
    have : d ≠ 0 := by intro h0; rw [h0] at he; omega
    omega
  · by_cases h2 : e ≤ 1
    · right
      have : e ≠ 0 := by intro h0; rw [h0] at he; omega
      have : e = 1 := by omega
      rw [this] at he; omega
    · exfalso
      by_cases h3 : d < 1001
      · exact noDiv d h3 (by omega) (by rw [he, Nat.mul_mod_right])
      · have h4 : e < 1001 := by
          apply Nat.lt_of_not_le
          intro h5
          have : 1001 * 1001 ≤ d * e := Nat.mul_le_mul (by omega) h5
          omega
        exact noDiv e h4 (by omega) (by rw [he, Nat.mul_mod_left])
theorem cop {k : Nat} (h0 : 0 < k) (h1 : k < 1000003) : Nat.Coprime 1000003 k := by
  rcases prime_div (Nat.gcd_dvd_left 1000003 k) with h | h
  · exact h
  · exfalso
    have := Nat.le_of_dvd h0 (Nat.gcd_dvd_right 1000003 k)
    omega
theorem bin_dvd {k : Nat} (h0 : 0 < k) (h1 : k < 1000003) : 1000003 ∣ bin 1000003 k := by
  obtain ⟨j, rfl⟩ : ∃ j, k = j + 1 := ⟨k - 1, by omega⟩
  have h := bin_mul 1000002 j
  have h2 : 1000003 ∣ (j + 1) * bin 1000003 (j + 1) := ⟨bin 1000002 j, h⟩
  exact (cop h0 h1).dvd_of_dvd_mul_left h2
theorem frob (a p q : Nat) (hp : p = q + 1) (hb : ∀ k, 0 < k → k < p → p ∣ bin p k) : (a + 1) ^ p % p = (a ^ p + 1) % p := by
  rw [binom]
  rw [sumN_shift (fun k => bin p k * a ^ k) p]
  have e2 : sumN (fun k => bin p (k + 1) * a ^ (k + 1)) p = sumN (fun k => bin p (k + 1) * a ^ (k + 1)) q + bin p p * a ^ p := by
    subst hp; rfl
  rw [e2, bin_zero, bin_self, Nat.pow_zero]
  obtain ⟨c, hc⟩ : p ∣ sumN (fun k => bin p (k + 1) * a ^ (k + 1)) q :=
    sumN_dvd fun k hk => Nat.dvd_mul_right_of_dvd (hb _ (by omega) (by omega)) _
  rw [hc, show 1 * 1 + (p * c + 1 * a ^ p) = (a ^ p + 1) + p * c from by omega, Nat.add_mul_mod_self_left]
theorem fermat0 (p q : Nat) (hp : p = q + 1) (hb : ∀ k, 0 < k → k < p → p ∣ bin p k) (a : Nat) : a ^ p % p = a % p := by
  induction a with
  | zero => subst hp; rw [Nat.pow_succ, Nat.mul_zero]
  | succ a ih => rw [frob a p q hp hb, Nat.add_mod, ih, ← Nat.add_mod]
theorem fermat1 (p q : Nat) (hp : p = q + 2) (hb : ∀ k, 0 < k → k < p → p ∣ bin p k) (a : Nat) (hc : Nat.Coprime p a) : a * a ^ q % p = 1 % p := by
  have h := fermat0 p (q + 1) (by omega) hb a
  have h1 : a ^ p = a * (a * a ^ q) := by rw [hp, Nat.pow_succ, Nat.pow_succ, Nat.mul_comm, Nat.mul_comm (a ^ q) a]
  have h2 : p ∣ a * (a * a ^ q) - a * 1 := by
    rw [← h1, Nat.mul_one]
    exact Nat.dvd_of_mod_eq_zero (Nat.sub_mod_eq_zero_of_mod_eq h)
  rw [← Nat.mul_sub] at h2
  have h3 := hc.dvd_of_dvd_mul_left h2
  by_cases h0 : a = 0
  · subst h0
    have : p = 1 := by have := hc; unfold Nat.Coprime at this; rwa [Nat.gcd_zero_right] at this
    omega
  · obtain ⟨c, hc⟩ := h3
    have h4 : 1 ≤ a * a ^ q := Nat.mul_pos (by omega) (Nat.pow_pos (by omega))
    rw [show a * a ^ q = 1 + p * c from by omega, Nat.add_mul_mod_self_left]
theorem cast_pow_mod (r q : Nat) : ((r : Int) ^ q) % 1000003 = ((r ^ q % 1000003 : Nat) : Int) := by
  rw [Int.natCast_emod, Int.natCast_pow]; rfl
theorem tms_left (a b : Int) : tms (res a) b = tms a b := by
  unfold tms res; rw [Int.mul_emod, Int.emod_emod, ← Int.mul_emod]
theorem cast_mul_mod (r t : Nat) : ((r : Int) * (t : Int)) % 1000003 = ((r * t % 1000003 : Nat) : Int) := by
  rw [Int.natCast_emod, Int.natCast_mul]; rfl
theorem pwr_inv (a : Int) (q : Nat) (hq : 1000003 = q + 2) (h : res a ≠ 0) : tms a (pwr a q) = 1 := by
  have b := res_bd a
  obtain ⟨r, hr⟩ := Int.eq_ofNat_of_zero_le b.1
  have e1 : pwr a q = ((r ^ q % 1000003 : Nat) : Int) := by
    unfold pwr
    rw [← emod_pow, show a % 1000003 = (r : Int) from hr, cast_pow_mod]
  have hc : Nat.Coprime 1000003 r := cop (by omega) (by omega)
  have hf := fermat1 1000003 q hq (fun k h0 h1 => bin_dvd h0 h1) r hc
  have hf2 : r * (r ^ q % 1000003) % 1000003 = 1 % 1000003 := by rw [Nat.mul_mod, Nat.mod_mod, ← Nat.mul_mod, hf]
  rw [e1, ← tms_left, hr]
  generalize r ^ q % 1000003 = t at hf2
  unfold tms
  rw [cast_mul_mod, hf2]
  rfl
theorem tms_inv {a : Int} (h : res a ≠ 0) : tms a (inv a) = 1 := pwr_inv a 1000001 rfl h

end Go.Proofs.YtoedccgiahegnaaGreat

namespace Go.Proofs.YtoedccgiahegnaaGreat
open Go.RowKit

theorem ret_int {k : IntKind} {a b : Int} (h : a = b) : Ending.returned (.int k a) = .returned (.int k b) := by rw [h]

theorem tmod_neg {n : Int} (h : n < 0) : -1000003 < n.tmod 1000003 ∧ n.tmod 1000003 ≤ 0 ∧ (n.tmod 1000003 < 0 → n.tmod 1000003 + 1000003 = res n) ∧ (n.tmod 1000003 = 0 → res n = 0) := by
  unfold res
  have e : n.tmod 1000003 = -((-n) % 1000003) := by
    rw [← Int.tmod_eq_emod_of_nonneg (by omega), Int.neg_tmod, Int.neg_neg]
  rw [e]
  omega

set_option maxHeartbeats 400000 in
theorem iResidue (n : Int) (hlo : -9223372036854775808 ≤ n) (hhi : n ≤ 9223372036854775807) (w : World) :
    Calls Tryz.prog 83 #[.int .i64 n] w fun e w' => e = .returned (.int .i64 (res n)) ∧ w = w' := by
  by_cases h : 0 ≤ n
  · have hm : 0 ≤ n % 1000003 := by omega
    go_enter Tryz.func83, Tryz.ntmps83
    go_wp2
    go_ret
    exact ⟨rfl, rfl⟩
  · obtain ⟨h1, h2, h3, h4⟩ := tmod_neg (n := n) (by omega)
    by_cases ht : n.tmod 1000003 < 0
    · have H3 := Lib.hid (h3 ht)
      clear h3 h4
      go_enter Tryz.func83, Tryz.ntmps83
      go_wp2
      go_ret
      exact ⟨ret_int H3.out, rfl⟩
    · have h5 : n.tmod 1000003 = 0 := by omega
      have H4 := Lib.hid (h4 h5)
      have H5 := Lib.hid h5
      clear h3 h4 h5
      go_enter Tryz.func83, Tryz.ntmps83
      go_wp2
      go_ret
      exact ⟨ret_int (by rw [H4.out, H5.out]), rfl⟩

set_option maxHeartbeats 400000 in
theorem sResidue (n : Int) (hlo : -9223372036854775808 ≤ n) (hhi : n ≤ 9223372036854775807) (w : World) :
    Calls Tryz.prog 100 #[.int .i64 n] w fun e w' => e = .returned (.int .i64 (res n)) ∧ w = w' := by
  by_cases h : 0 ≤ n
  · have hm : 0 ≤ n % 1000003 := by omega
    go_enter Tryz.func100, Tryz.ntmps100
    go_wp2
    go_ret
    exact ⟨rfl, rfl⟩
  · obtain ⟨h1, h2, h3, h4⟩ := tmod_neg (n := n) (by omega)
    by_cases ht : n.tmod 1000003 < 0
    · have H3 := Lib.hid (h3 ht)
      clear h3 h4
      go_enter Tryz.func100, Tryz.ntmps100
      go_wp2
      go_ret
      exact ⟨ret_int H3.out, rfl⟩
    · have h5 : n.tmod 1000003 = 0 := by omega
      have H4 := Lib.hid (h4 h5)
      have H5 := Lib.hid h5
      clear h3 h4 h5
      go_enter Tryz.func100, Tryz.ntmps100
      go_wp2
      go_ret
      exact ⟨ret_int (by rw [H4.out, H5.out]), rfl⟩

set_option maxHeartbeats 400000 in
theorem iPlus (a b : Int) (ha : -9223372036854775808 ≤ a ∧ a ≤ 9223372036854775807) (hb : -9223372036854775808 ≤ b ∧ b ≤ 9223372036854775807) (w : World) :
    Calls Tryz.prog 58 #[.int .i64 a, .int .i64 b] w fun e w' => e = .returned (.int .i64 (pls a b)) ∧ w = w' := by
  have b1 := res_bd a
  have b2 := res_bd b
  go_enter Tryz.func58, Tryz.ntmps58
  go_wp2_with fail
  refine (iResidue _ (by omega) (by omega) _).mono ?_; rintro e w' ⟨rfl, rfl⟩
  go_wp2_with fail
  refine (iResidue _ (by omega) (by omega) _).mono ?_; rintro e w' ⟨rfl, rfl⟩
  go_wp2_with fail
  refine (iResidue _ (by omega) (by omega) _).mono ?_; rintro e w' ⟨rfl, rfl⟩
  go_wp2_with fail
  go_ret
  exact ⟨ret_int (pls_res' a b), rfl⟩

set_option maxHeartbeats 400000 in
theorem imns (a b : Int) (ha : -9223372036854775808 ≤ a ∧ a ≤ 9223372036854775807) (hb : -9223372036854775808 ≤ b ∧ b ≤ 9223372036854775807) (w : World) :
    Calls Tryz.prog 178 #[.int .i64 a, .int .i64 b] w fun e w' => e = .returned (.int .i64 (mns a b)) ∧ w = w' := by
  have b1 := res_bd a
  have b2 := res_bd b
  go_enter Tryz.func178, Tryz.ntmps178
  go_wp2_with fail
  refine (iResidue _ (by omega) (by omega) _).mono ?_; rintro e w' ⟨rfl, rfl⟩
  go_wp2_with fail
  refine (iResidue _ (by omega) (by omega) _).mono ?_; rintro e w' ⟨rfl, rfl⟩
  go_wp2_with fail
  refine (iResidue _ (by omega) (by omega) _).mono ?_; rintro e w' ⟨rfl, rfl⟩
  go_wp2_with fail
  go_ret
  exact ⟨ret_int (mns_res' a b), rfl⟩

set_option maxHeartbeats 400000 in
theorem iTimes (a b : Int) (ha : -9223372036854775808 ≤ a ∧ a ≤ 9223372036854775807) (hb : -9223372036854775808 ≤ b ∧ b ≤ 9223372036854775807) (w : World) :
    Calls Tryz.prog 179 #[.int .i64 a, .int .i64 b] w fun e w' => e = .returned (.int .i64 (tms a b)) ∧ w = w' := by
  have b1 := res_bd a
  have b2 := res_bd b
  have b3 := res_mul_bd b1 b2
  go_enter Tryz.func179, Tryz.ntmps179
  go_wp2_with fail
  refine (iResidue _ (by omega) (by omega) _).mono ?_; rintro e w' ⟨rfl, rfl⟩
  go_wp2_with fail
  refine (iResidue _ (by omega) (by omega) _).mono ?_; rintro e w' ⟨rfl, rfl⟩
  go_wp2_with fail
  refine (iResidue _ (by omega) (by omega) _).mono ?_; rintro e w' ⟨rfl, rfl⟩
  go_wp2_with fail
  go_ret
  exact ⟨ret_int (tms_res' a b), rfl⟩

set_option maxHeartbeats 400000 in
theorem sPlus (a b : Int) (ha : -9223372036854775808 ≤ a ∧ a ≤ 9223372036854775807) (hb : -9223372036854775808 ≤ b ∧ b ≤ 9223372036854775807) (w : World) :
    Calls Tryz.prog 82 #[.int .i64 a, .int .i64 b] w fun e w' => e = .returned (.int .i64 (pls a b)) ∧ w = w' := by
  have b1 := res_bd a
  have b2 := res_bd b
  go_enter Tryz.func82, Tryz.ntmps82
  go_wp2_with fail
  refine (sResidue _ (by omega) (by omega) _).mono ?_; rintro e w' ⟨rfl, rfl⟩
  go_wp2_with fail
  refine (sResidue _ (by omega) (by omega) _).mono ?_; rintro e w' ⟨rfl, rfl⟩
  go_wp2_with fail
  go_ret
  exact ⟨ret_int (pls_res' a b), rfl⟩

set_option maxHeartbeats 400000 in
theorem sTimes (a b : Int) (ha : -9223372036854775808 ≤ a ∧ a ≤ 9223372036854775807) (hb : -9223372036854775808 ≤ b ∧ b ≤ 9223372036854775807) (w : World) :
    Calls Tryz.prog 127 #[.int .i64 a, .int .i64 b] w fun e w' => e = .returned (.int .i64 (tms a b)) ∧ w = w' := by
  have b1 := res_bd a
  have b2 := res_bd b
  have b3 := res_mul_bd b1 b2
  go_enter Tryz.func127, Tryz.ntmps127
  go_wp2_with fail
  refine (sResidue _ (by omega) (by omega) _).mono ?_; rintro e w' ⟨rfl, rfl⟩
  go_wp2_with fail
  refine (sResidue _ (by omega) (by omega) _).mono ?_; rintro e w' ⟨rfl, rfl⟩
  go_wp2_with fail
  go_ret
  exact ⟨ret_int (tms_res' a b), rfl⟩

end Go.Proofs.YtoedccgiahegnaaGreat

namespace Go.Proofs.YtoedccgiahegnaaGreat
open Go.RowKit

set_option maxHeartbeats 800000 in
theorem iPower (a : Int) (n : Nat) (ha : -9223372036854775808 ≤ a ∧ a ≤ 9223372036854775807) (hn : n ≤ 9223372036854775807) (w : World) :
    Calls Tryz.prog 181 #[.int .i64 a, .int .i64 n] w fun e w' => e = .returned (.int .i64 (pwr a n)) ∧ w = w' := by
  have b1 := res_bd a
  have hs := pinv_start a n
  go_enter Tryz.func181, Tryz.ntmps181
  go_wp2_with fail
  refine (iResidue _ (by omega) (by omega) _).mono ?_; rintro e w' ⟨rfl, rfl⟩
  go_wp2_with fail
  go_loop [1, 5, 6] (fun i r s => ∃ (m : Nat) (x y : Int), i = .int .i64 m ∧ r = .int .i64 x ∧ s = .int .i64 y ∧ m ≤ 9223372036854775807 ∧ (0 ≤ x ∧ x < 1000003) ∧ (0 ≤ y ∧ y < 1000003) ∧ Pinv x y m a n) (fun i _ _ => (intOf i).toNat)
  case atStart => exact ⟨n, 1, res a, rfl, rfl, rfl, hn, by omega, b1, hs⟩
  case round =>
    obtain ⟨m, x, y, rfl, rfl, rfl, hm, hx, hy, hp⟩ := hrel
    by_cases h0 : m = 0
    · subst h0
      have HE := Lib.hid (pinv_end hx.1 hx.2 hp)
      clear hs hp
      go_wp2_with fail
      go_ret
      exact ⟨ret_int HE.out, rfl⟩
    · have h0' : (0 : Int) < m := by omega
      have t1 := tms_bd x y
      have t2 := tms_bd y y
      by_cases h1 : m % 2 = 1
      · have h1' : ((m : Int) % 2 == 1) = true := by rw [beq_iff_eq]; omega
        have hq := pinv_odd h1 hp
        clear hs hp h1
        go_wp2_with fail
        refine (iTimes _ _ (by omega) (by omega) _).mono ?_; rintro e w' ⟨rfl, rfl⟩
        go_wp2_with fail
        refine (iTimes _ _ (by omega) (by omega) _).mono ?_; rintro e w' ⟨rfl, rfl⟩
        go_wp2_with fail
        go_round
        case rel => exact ⟨m / 2, _, _, by go_num, rfl, rfl, by omega, t1, t2, hq⟩
        case measure => simp [intOf]; omega
      · have h1' : ((m : Int) % 2 == 1) = false := by rw [beq_eq_false_iff_ne]; omega
        have hq := pinv_even (by omega) hp
        clear hs hp h1
        go_wp2_with fail
        refine (iTimes _ _ (by omega) (by omega) _).mono ?_; rintro e w' ⟨rfl, rfl⟩
        go_wp2_with fail
        go_round
        case rel => exact ⟨m / 2, _, _, by go_num, rfl, rfl, by omega, hx, t2, hq⟩
        case measure => simp [intOf]; omega

set_option maxHeartbeats 400000 in
theorem iPowerNeg (a n : Int) (hn : n < 0) (w : World) :
    Calls Tryz.prog 181 #[.int .i64 a, .int .i64 n] w fun e w' => e = .returned (.int .i64 0) ∧ w = w' := by
  go_enter Tryz.func181, Tryz.ntmps181
  go_wp2_with fail
  go_ret
  exact ⟨rfl, rfl⟩

set_option maxHeartbeats 800000 in
theorem sPower (a : Int) (n : Nat) (ha : -9223372036854775808 ≤ a ∧ a ≤ 9223372036854775807) (hn : n ≤ 9223372036854775807) (w : World) :
    Calls Tryz.prog 143 #[.int .i64 a, .int .i64 n] w fun e w' => e = .returned (.int .i64 (pwr a n)) ∧ w = w' := by
  have b1 := res_bd a
  have hs := pinv_start a n
  go_enter Tryz.func143, Tryz.ntmps143
  go_wp2_with fail
  refine (sResidue _ (by omega) (by omega) _).mono ?_; rintro e w' ⟨rfl, rfl⟩
  go_wp2_with fail
  go_loop [1, 5, 6] (fun i r s => ∃ (m : Nat) (x y : Int), i = .int .i64 m ∧ r = .int .i64 x ∧ s = .int .i64 y ∧ m ≤ 9223372036854775807 ∧ (0 ≤ x ∧ x < 1000003) ∧ (0 ≤ y ∧ y < 1000003) ∧ Pinv x y m a n) (fun i _ _ => (intOf i).toNat)
  case atStart => exact ⟨n, 1, res a, rfl, rfl, rfl, hn, by omega, b1, hs⟩
  case round =>
    obtain ⟨m, x, y, rfl, rfl, rfl, hm, hx, hy, hp⟩ := hrel
    by_cases h0 : m = 0
    · subst h0
      have HE := Lib.hid (pinv_end hx.1 hx.2 hp)
      clear hs hp
      go_wp2_with fail
      go_ret
      exact ⟨ret_int HE.out, rfl⟩
    · have h0' : (0 : Int) < m := by omega
      have t1 := tms_bd x y
      have t2 := tms_bd y y
      by_cases h1 : m % 2 = 1
      · have h1' : ((m : Int) % 2 == 1) = true := by rw [beq_iff_eq]; omega
        have hq := pinv_odd h1 hp
        clear hs hp h1
        go_wp2_with fail
        refine (sTimes _ _ (by omega) (by omega) _).mono ?_; rintro e w' ⟨rfl, rfl⟩
        go_wp2_with fail
        refine (sTimes _ _ (by omega) (by omega) _).mono ?_; rintro e w' ⟨rfl, rfl⟩
        go_wp2_with fail
        go_round
        case rel => exact ⟨m / 2, _, _, by go_num, rfl, rfl, by omega, t1, t2, hq⟩
        case measure => simp [intOf]; omega
      · have h1' : ((m : Int) % 2 == 1) = false := by rw [beq_eq_false_iff_ne]; omega
        have hq := pinv_even (by omega) hp
        clear hs hp h1
        go_wp2_with fail
        refine (sTimes _ _ (by omega) (by omega) _).mono ?_; rintro e w' ⟨rfl, rfl⟩
        go_wp2_with fail
        go_round
        case rel => exact ⟨m / 2, _, _, by go_num, rfl, rfl, by omega, hx, t2, hq⟩
        case measure => simp [intOf]; omega

set_option maxHeartbeats 400000 in
theorem sPowerNeg (a n : Int) (hn : n < 0) (w : World) :
    Calls Tryz.prog 143 #[.int .i64 a, .int .i64 n] w fun e w' => e = .returned (.int .i64 0) ∧ w = w' := by
  go_enter Tryz.func143, Tryz.ntmps143
  go_wp2_with fail
  go_ret
  exact ⟨rfl, rfl⟩

end Go.Proofs.YtoedccgiahegnaaGreat

namespace Go.Proofs.YtoedccgiahegnaaGreat
open Go.RowKit

theorem wf_rng {a : Int} (h : (Lit.int .i64 a).wf = true) : -9223372036854775808 ≤ a ∧ a ≤ 9223372036854775807 := by
  exact bounds_i64 h

set_option maxHeartbeats 400000 in
theorem iinv (a : Int) (ha : -9223372036854775808 ≤ a ∧ a ≤ 9223372036854775807) (w : World) :
    Calls Tryz.prog 180 #[.int .i64 a] w fun e w' => e = .returned (.int .i64 (inv a)) ∧ w = w' := by
  go_enter Tryz.func180, Tryz.ntmps180
  go_wp2_with fail
  refine (iPower a 1000001 ha (by omega) _).mono ?_; rintro e w' ⟨rfl, rfl⟩
  go_wp2_with fail
  go_ret
  exact ⟨rfl, rfl⟩

set_option maxHeartbeats 400000 in
theorem sinv (a : Int) (ha : -9223372036854775808 ≤ a ∧ a ≤ 9223372036854775807) (w : World) :
    Calls Tryz.prog 128 #[.int .i64 a] w fun e w' => e = .returned (.int .i64 (inv a)) ∧ w = w' := by
  go_enter Tryz.func128, Tryz.ntmps128
  go_wp2_with fail
  refine (sPower a 1000001 ha (by omega) _).mono ?_; rintro e w' ⟨rfl, rfl⟩
  go_wp2_with fail
  go_ret
  exact ⟨rfl, rfl⟩

end Go.Proofs.YtoedccgiahegnaaGreat
