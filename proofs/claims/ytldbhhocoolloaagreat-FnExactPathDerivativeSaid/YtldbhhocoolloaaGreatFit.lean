/- Interpolation: the polynomial through n points is the only one; Newton's form by divided differences, and one point after the other. -/
import Derived.Test.YtldbhhocoolloaaGreatRev
namespace Go.Proofs.YtldbhhocoolloaaGreat

/-- the value at x of the first n coefficients -/
def pv (f : Nat → Int) (x : Int) (n : Nat) : Int := isum (fun i => f i * x ^ i) n
theorem pv_mod {f g : Nat → Int} {n : Nat} (x : Int) (h : Eqm n f g) : pv f x n % 1000003 = pv g x n % 1000003 :=
  isum_mod fun i hi => mul_mod (h i hi) rfl
theorem hor_pv (t : Int) (l : List Int) : hor t l % 1000003 = pv (sq l) t l.length % 1000003 := by
  induction l with
  | nil => rfl
  | cons x r ih =>
    have e1 : pv (sq (x :: r)) t (r.length + 1) = x + pv (sq r) t r.length * t := by
      unfold pv
      rw [isum_head, ← isum_mul_right]
      have e0 : sq (x :: r) 0 * t ^ 0 = x := by rw [Int.pow_zero, Int.mul_one]; rfl
      rw [e0]
      congr 1
      apply isum_congr
      intro i _
      show r.getD i 0 * t ^ (i + 1) = r.getD i 0 * t ^ i * t
      rw [Int.pow_succ, Int.mul_assoc]
    have e2 : (hor t r * t) % 1000003 = (pv (sq r) t r.length * t) % 1000003 := mul_mod ih rfl
    show pls (tms (hor t r) t) x % 1000003 = pv (sq (x :: r)) t (r.length + 1) % 1000003
    rw [e1]
    unfold pls tms
    generalize hor t r * t = u at e2
    generalize pv (sq r) t r.length * t = v at e2
    omega
/-- a number that is not a multiple of 1000003 can be struck out -/
theorem cancel_num {u x : Int} (hu : res u ≠ 0) (h : (u * x) % 1000003 = 0) : x % 1000003 = 0 := by
  have hi := tms_inv hu
  unfold tms at hi
  have e : (inv u * (u * x)) % 1000003 = x % 1000003 := by
    rw [← Int.mul_assoc, Int.mul_comm (inv u) u, Int.mul_emod, hi, Int.one_mul, Int.emod_emod]
  rw [← e, Int.mul_emod, h, Int.mul_zero]; rfl

/-- what is left of f behind its coefficient i, at the point p -/
def rst (f : Nat → Int) (p : Int) (n i : Nat) : Int := isum (fun m => f (i + 1 + m) * p ^ m) (n - i)
theorem rst_step (f : Nat → Int) (p : Int) (n i : Nat) (h : i < n) : rst f p n i = f (i + 1) + p * rst f p n (i + 1) := by
  unfold rst
  rw [show n - i = (n - (i + 1)) + 1 from by omega, isum_head, ← isum_mul]
  have e0 : f (i + 1 + 0) * p ^ 0 = f (i + 1) := by rw [Int.pow_zero, Int.mul_one]
  rw [e0]
  congr 1
  apply isum_congr
  intro m _
  show f (i + 1 + (m + 1)) * p ^ (m + 1) = p * (f (i + 1 + 1 + m) * p ^ m)
  rw [show i + 1 + (m + 1) = i + 1 + 1 + m from by omega, Int.pow_succ, Int.mul_left_comm p, Int.mul_comm p (p ^ m)]
theorem rst_end (f : Nat → Int) (p : Int) (n : Nat) : rst f p n n = 0 := by unfold rst; rw [Nat.sub_self]; rfl
theorem pv_rst (f : Nat → Int) (p x : Int) (n : Nat) : pv f x (n + 1) = (x - p) * pv (rst f p n) x n + (f 0 + p * rst f p n 0) := by
  have e1 : pv f x (n + 1) = f 0 + isum (fun i => f (i + 1) * x ^ (i + 1)) n := by
    unfold pv; rw [isum_head, Int.pow_zero, Int.mul_one]
  have e2 : isum (fun i => f (i + 1) * x ^ (i + 1)) n = isum (fun i => x * (rst f p n i * x ^ i) + (-p) * (rst f p n (i + 1) * x ^ (i + 1))) n := by
    apply isum_congr
    intro i hi
    have hs := rst_step f p n i hi
    have : f (i + 1) = rst f p n i - p * rst f p n (i + 1) := by omega
    rw [this, Int.sub_mul, Int.pow_succ, Int.neg_mul, ← Int.sub_eq_add_neg, Int.mul_assoc p, Int.mul_left_comm x, Int.mul_comm x]
  have e3 : isum (fun i => rst f p n (i + 1) * x ^ (i + 1)) n = pv (rst f p n) x n - rst f p n 0 := by
    have h1 : isum (fun i => rst f p n i * x ^ i) (n + 1) = rst f p n 0 * x ^ 0 + isum (fun i => rst f p n (i + 1) * x ^ (i + 1)) n := isum_head _ _
    have h2 : isum (fun i => rst f p n i * x ^ i) (n + 1) = pv (rst f p n) x n := by
      rw [isum, rst_end, Int.zero_mul, Int.add_zero]; rfl
    rw [h2, Int.pow_zero, Int.mul_one] at h1
    omega
  rw [e1, e2, isum_add, isum_mul, isum_mul, e3]
  show f 0 + (x * pv (rst f p n) x n + -p * (pv (rst f p n) x n - rst f p n 0)) = _
  generalize pv (rst f p n) x n = Q
  generalize rst f p n 0 = r
  rw [Int.mul_sub, Int.sub_mul, Int.neg_mul, Int.neg_mul]
  omega
/-- a polynomial with as many roots as coefficients is 0 -/
theorem roots {n : Nat} (hn : n ≤ 1000) {f : Nat → Int} (h : ∀ x : Nat, x < n → pv f x n % 1000003 = 0) : ∀ i, i < n → f i % 1000003 = 0 := by
  induction n generalizing f with
  | zero => intro i hi; omega
  | succ n ih =>
    have hn1 := h n (by omega)
    rw [pv_rst f n n n, Int.sub_self, Int.zero_mul, Int.zero_add] at hn1
    have hq : ∀ i, i < n → rst f n n i % 1000003 = 0 := by
      apply ih (by omega)
      intro x hx
      have h1 := h x (by omega)
      rw [pv_rst f n x n, Int.add_emod, hn1, Int.add_zero, Int.emod_emod] at h1
      apply cancel_num (u := (x : Int) - n) _ h1
      unfold res; omega
    intro i hi
    cases i with
    | zero =>
      by_cases h0 : n = 0
      · subst h0
        have := rst_end f ((0 : Nat) : Int) 0
        rw [this, Int.mul_zero, Int.add_zero] at hn1
        exact hn1
      · have h1 := mul_mod (a := (n : Int)) rfl (show rst f n n 0 % 1000003 = 0 % 1000003 from hq 0 (by omega))
        rw [Int.mul_zero] at h1
        omega
    | succ i =>
      have hs := rst_step f n n i (by omega)
      have h1 := hq i (by omega)
      have h2 : rst f n n (i + 1) % 1000003 = 0 := by
        by_cases e : i + 1 < n
        · exact hq (i + 1) e
        · obtain rfl : n = i + 1 := by omega
          rw [rst_end]; rfl
      have h3 := mul_mod (a := (n : Int)) rfl (show rst f n n (i + 1) % 1000003 = 0 % 1000003 from h2)
      rw [Int.mul_zero] at h3
      omega
theorem isum_sub (f g : Nat → Int) (n : Nat) : isum (fun i => f i - g i) n = isum f n - isum g n := by
  induction n with
  | zero => rfl
  | succ n ih => simp only [isum, ih]; omega
/-- two series with the same values at as many points as they have coefficients -/
theorem fit_only {a b : List Int} (hn : a.length ≤ 1000) (hl : b.length = a.length) (ha : Nums a) (hb : Nums b) (h : ∀ x : Nat, x < a.length → hor (x : Int) a = hor (x : Int) b) : a = b := by
  apply eqm_list hl.symm ha hb
  have hr := roots hn (f := fun i => sq a i - sq b i) (fun x hx => by
    have e : pv (fun i => sq a i - sq b i) x a.length = pv (sq a) x a.length - pv (sq b) x a.length := by
      unfold pv
      rw [← isum_sub]
      exact isum_congr fun i _ => Int.sub_mul _ _ _
    have h1 := hor_pv x a
    have h2 := hor_pv x b
    rw [hl, ← h x hx, h1] at h2
    rw [e]
    generalize pv (sq a) x a.length = u at h2
    generalize pv (sq b) x a.length = v at h2
    omega)
  intro k hk
  have := hr k hk
  show sq a k % 1000003 = sq b k % 1000003
  have e : (sq a k - sq b k) % 1000003 = 0 := this
  omega

/-- divided differences of order k from i on -/
def ddf (f : Nat → Int) : Nat → Nat → Int
  | 0, i => f i
  | k + 1, i => tms (mns (ddf f k (i + 1)) (ddf f k i)) (inv ((k : Int) + 1))
theorem ddf_step (f : Nat → Int) (k i : Nat) (hk : k < 1000000) : (((k : Int) + 1) * ddf f (k + 1) i) % 1000003 = (ddf f k (i + 1) - ddf f k i) % 1000003 := by
  rw [ddf, idx_inv _ k hk]; unfold mns; rw [Int.emod_emod]
/-- (x - 0) (x - 1) .. (x - (k - 1)) -/
def ffx (x : Int) : Nat → Int
  | 0 => 1
  | k + 1 => ffx x k * (x - k)
theorem ffx_shift (x : Int) (k : Nat) : ffx (x + 1) (k + 1) = (x + 1) * ffx x k := by
  induction k with
  | zero => simp [ffx]
  | succ k ih =>
    rw [ffx, ih]
    show _ = (x + 1) * (ffx x k * (x - k))
    rw [Int.mul_assoc]
    congr 2
    rw [Int.natCast_add]
    show x + 1 - ((k : Int) + 1) = x - k
    omega
theorem ffx_next (x : Int) (k : Nat) : ffx (x + 1) (k + 1) = ffx x (k + 1) + ((k : Int) + 1) * ffx x k := by
  rw [ffx_shift, ffx, Int.mul_comm (ffx x k), ← Int.add_mul]
  congr 1
  omega
theorem ffx_zero (i k : Nat) (h : i < k) : ffx (i : Int) k = 0 := by
  induction k with
  | zero => omega
  | succ k ih =>
    rw [ffx]
    by_cases e : i = k
    · subst e; rw [Int.sub_self, Int.mul_zero]
    · rw [ih (by omega), Int.zero_mul]
theorem newton (f : Nat → Int) (i s : Nat) (hi : i ≤ 1000) : isum (fun k => ddf f k s * ffx (i : Int) k) (i + 1) % 1000003 = f (s + i) % 1000003 := by
  induction i generalizing s with
  | zero => simp [isum, ffx, ddf]
  | succ i ih =>
    have h1 := ih (s + 1) (by omega)
    rw [show s + 1 + i = s + (i + 1) from by omega] at h1
    rw [← h1]
    have e1 : isum (fun k => ddf f k s * ffx ((i + 1 : Nat) : Int) k) (i + 1 + 1) = isum (fun k => ddf f k s * ffx (i : Int) k) (i + 1 + 1) + isum (fun k => (((k : Int) + 1) * ddf f (k + 1) s) * ffx (i : Int) k) (i + 1) := by
      rw [isum_head, isum_head (fun k => ddf f k s * ffx (i : Int) k)]
      rw [show ffx ((i + 1 : Nat) : Int) 0 = ffx (i : Int) 0 from rfl, Int.add_assoc, ← isum_add]
      congr 1
      apply isum_congr
      intro k _
      show ddf f (k + 1) s * ffx ((i : Int) + 1) (k + 1) = _
      rw [ffx_next, Int.mul_add, Int.mul_left_comm, Int.mul_assoc]
    have e2 : isum (fun k => ddf f k s * ffx (i : Int) k) (i + 1 + 1) = isum (fun k => ddf f k s * ffx (i : Int) k) (i + 1) := by
      rw [isum, ffx_zero i (i + 1) (by omega), Int.mul_zero, Int.add_zero]
    have e3 : isum (fun k => (((k : Int) + 1) * ddf f (k + 1) s) * ffx (i : Int) k) (i + 1) % 1000003 = isum (fun k => (ddf f k (s + 1) - ddf f k s) * ffx (i : Int) k) (i + 1) % 1000003 :=
      isum_mod fun k hk => mul_mod (ddf_step f k s (by omega)) rfl
    rw [e1, e2, Int.add_emod, e3, ← Int.add_emod, ← isum_add]
    congr 1
    apply isum_congr
    intro k _
    rw [← Int.add_mul]
    congr 1
    omega

/-- one step of Newton's form: times (t - k), and a number added -/
def nst (r : List Int) (k : Nat) (d : Int) : List Int :=
  tab (fun i => if i = 0 then mns d (tms (k : Int) (r.getD 0 0)) else mns (r.getD (i - 1) 0) (tms (k : Int) (r.getD i 0))) r.length
def nws (d : Nat → Int) (n : Nat) : Nat → List Int
  | 0 => List.replicate n 0
  | j + 1 => nst (nws d n j) (n - 1 - j) (d (n - 1 - j))
theorem nst_len (r : List Int) (k : Nat) (d : Int) : (nst r k d).length = r.length := tab_len _ _
theorem nws_len (d : Nat → Int) (n j : Nat) : (nws d n j).length = n := by
  induction j with
  | zero => simp [nws]
  | succ j ih => rw [nws, nst_len, ih]
theorem nws_nums (d : Nat → Int) (n j : Nat) : Nums (nws d n j) := by
  cases j with
  | zero => exact rep_nms _
  | succ j => exact tab_nms _ fun k => by split <;> exact mns_bd _ _
theorem nst_sq {r : List Int} {k : Nat} {d : Int} {i : Nat} (h : i < r.length) : sq (nst r k d) i % 1000003 = ((if i = 0 then d else sq r (i - 1)) - k * sq r i) % 1000003 := by
  show (tab _ r.length).getD i 0 % 1000003 = _
  rw [tab_at h]
  by_cases e : i = 0
  · subst e; simp only [if_true]; unfold mns tms sq; rw [Int.emod_emod]; omega
  · simp only [if_neg e]; unfold mns tms sq; omega
theorem nws_high (d : Nat → Int) (n j i : Nat) (hi : j ≤ i) (h : i < n) : (nws d n j).getD i 0 = 0 := by
  induction j generalizing i with
  | zero => exact rep_sq n i
  | succ j ih =>
    rw [nws]
    unfold nst
    rw [tab_at (by rw [nws_len]; exact h), if_neg (by omega), ih i (by omega) h, ih (i - 1) (by omega) (by omega)]
    rw [show tms ((n - 1 - j : Nat) : Int) 0 = 0 from by unfold tms; rw [Int.mul_zero]; rfl]; rfl
/-- Newton's form from the coefficient k on, without the factors ahead of it -/
def nval (d : Nat → Int) (x : Int) (n : Nat) : Nat → Int
  | 0 => 0
  | j + 1 => nval d x n j * (x - (n - 1 - j : Nat)) + d (n - 1 - j)
theorem nws_val (d : Nat → Int) (x : Int) (n j : Nat) (hj : j ≤ n) : pv (sq (nws d n j)) x n % 1000003 = nval d x n j % 1000003 := by
  induction j with
  | zero =>
    rw [show pv (sq (nws d n 0)) x n = 0 from isum_all0 fun i _ => by rw [show sq (nws d n 0) i = 0 from rep_sq n i, Int.zero_mul]]
    rfl
  | succ j ih =>
    have ih := ih (by omega)
    obtain ⟨m, rfl⟩ : ∃ m, n = m + 1 := ⟨n - 1, by omega⟩
    have hl := nws_len d (m + 1) j
    have e1 : pv (sq (nws d (m + 1) (j + 1))) x (m + 1) % 1000003 = pv (fun i => (if i = 0 then d (m + 1 - 1 - j) else sq (nws d (m + 1) j) (i - 1)) - ((m + 1 - 1 - j : Nat) : Int) * sq (nws d (m + 1) j) i) x (m + 1) % 1000003 :=
      pv_mod x fun i hi => nst_sq (by rw [hl]; exact hi)
    rw [e1]
    have e2 : pv (fun i => (if i = 0 then d (m + 1 - 1 - j) else sq (nws d (m + 1) j) (i - 1)) - ((m + 1 - 1 - j : Nat) : Int) * sq (nws d (m + 1) j) i) x (m + 1) = d (m + 1 - 1 - j) + x * pv (sq (nws d (m + 1) j)) x m - ((m + 1 - 1 - j : Nat) : Int) * pv (sq (nws d (m + 1) j)) x (m + 1) := by
      unfold pv
      rw [isum_congr (g := fun i => (if i = 0 then d (m + 1 - 1 - j) else sq (nws d (m + 1) j) (i - 1)) * x ^ i - ((m + 1 - 1 - j : Nat) : Int) * (sq (nws d (m + 1) j) i * x ^ i)) (fun i _ => by rw [Int.sub_mul, Int.mul_assoc]), isum_sub, isum_mul, isum_head]
      rw [if_pos rfl, Int.pow_zero, Int.mul_one]
      congr 2
      rw [← isum_mul]
      apply isum_congr
      intro i _
      rw [if_neg (by omega), show i + 1 - 1 = i from rfl, Int.pow_succ, Int.mul_left_comm x, Int.mul_comm x]
    have e3 : pv (sq (nws d (m + 1) j)) x m = pv (sq (nws d (m + 1) j)) x (m + 1) := by
      unfold pv
      rw [isum, show sq (nws d (m + 1) j) m = 0 from nws_high d (m + 1) j m (by omega) (by omega), Int.zero_mul, Int.add_zero]
    rw [e2, e3, nval]
    generalize pv (sq (nws d (m + 1) j)) x (m + 1) = P at ih
    generalize nval d x (m + 1) j = V at ih
    generalize d (m + 1 - 1 - j) = D
    generalize ((m + 1 - 1 - j : Nat) : Int) = K
    have h1 := mul_mod ih (rfl : (x - K) % 1000003 = (x - K) % 1000003)
    rw [show D + x * P - K * P = P * (x - K) + D from by rw [Int.mul_sub, Int.mul_comm P, Int.mul_comm P]; omega]
    omega
theorem nval_sum (d : Nat → Int) (x : Int) (n j : Nat) (hj : j ≤ n) : nval d x n j * ffx x (n - j) = isum (fun i => d (n - j + i) * ffx x (n - j + i)) j := by
  induction j with
  | zero => rw [nval, Int.zero_mul]; rfl
  | succ j ih =>
    rw [isum_head, nval, show n - 1 - j = n - (j + 1) from by omega, Int.add_mul, Int.add_comm]
    congr 1
    have ih := ih (by omega)
    rw [Int.mul_assoc, Int.mul_comm (x - _) (ffx x (n - (j + 1)))]
    have e : ffx x (n - (j + 1)) * (x - ((n - (j + 1) : Nat) : Int)) = ffx x (n - j) := by
      rw [show n - j = (n - (j + 1)) + 1 from by omega]; rfl
    rw [e, ih]
    apply isum_congr
    intro i _
    rw [show n - (j + 1) + (i + 1) = n - j + i from by omega]
/-- the program's interpolation -/
def fitl (a : List Int) : List Int := nws (fun k => ddf (sq a) k 0) a.length a.length
theorem fitl_len (a : List Int) : (fitl a).length = a.length := nws_len _ _ _
theorem fitl_nums (a : List Int) : Nums (fitl a) := nws_nums _ _ _
theorem fitl_val {a : List Int} (ha : Nums a) (hn : a.length ≤ 1000) (x : Nat) (hx : x < a.length) : hor (x : Int) (fitl a) = a.getD x 0 := by
  have h1 := hor_pv x (fitl a)
  rw [fitl_len] at h1
  have h2 := nws_val (fun k => ddf (sq a) k 0) x a.length a.length (Nat.le_refl _)
  have h3 := nval_sum (fun k => ddf (sq a) k 0) x a.length a.length (Nat.le_refl _)
  rw [Nat.sub_self, show ffx (x : Int) 0 = 1 from rfl, Int.mul_one] at h3
  have h4 : isum (fun i => ddf (sq a) (0 + i) 0 * ffx (x : Int) (0 + i)) a.length = isum (fun k => ddf (sq a) k 0 * ffx (x : Int) k) (x + 1) := by
    rw [isum_more (n := x + 1) (m := a.length) (by omega) (fun i hi _ => by rw [ffx_zero x (0 + i) (by omega), Int.mul_zero])]
    apply isum_congr
    intro i _
    rw [Nat.zero_add]
  have h5 := newton (sq a) x 0 (by omega)
  rw [Nat.zero_add] at h5
  have h6 : pv (sq (fitl a)) x a.length % 1000003 = sq a x % 1000003 := by
    show pv (sq (nws (fun k => ddf (sq a) k 0) a.length a.length)) x a.length % 1000003 = _
    rw [h2, h3, h4, h5]
  exact nums_eq (hor_bd _ _) (ha.at x) (h1.trans h6)

/-- the model's interpolation: one point after the other -/
def scll (b : List Int) (c : Int) : List Int := tab (fun i => tms (b.getD i 0) c) b.length
/-- times (t - x) -/
def bst (b : List Int) (x : Int) : List Int := tab (fun i => if i = 0 then tms (b.getD 0 0) (res (-x)) else pls (tms (b.getD i 0) (res (-x))) (b.getD (i - 1) 0)) b.length
def bss (n : Nat) : Nat → List Int
  | 0 => cstl 1 n
  | i + 1 => bst (bss n i) i
def fts (v : List Int) : Nat → List Int
  | 0 => List.replicate v.length 0
  | i + 1 => addl (fts v i) (scll (bss v.length i) (tms (mns (v.getD i 0) (hor (i : Int) (fts v i))) (inv (hor (i : Int) (bss v.length i)))))
theorem scll_len (b : List Int) (c : Int) : (scll b c).length = b.length := tab_len _ _
theorem bst_len (b : List Int) (x : Int) : (bst b x).length = b.length := tab_len _ _
theorem bss_len (n i : Nat) : (bss n i).length = n := by
  induction i with
  | zero => exact cstl_len _ _
  | succ i ih => rw [bss, bst_len, ih]
theorem fts_len (v : List Int) (i : Nat) : (fts v i).length = v.length := by
  induction i with
  | zero => simp [fts]
  | succ i ih => rw [fts, addl_len, ih]
theorem bss_nums (n i : Nat) : Nums (bss n i) := by
  cases i with
  | zero => exact cstl_nums _
  | succ i => exact tab_nms _ fun k => by split <;> first | exact tms_bd _ _ | exact pls_bd _ _
theorem fts_nums (v : List Int) (i : Nat) : Nums (fts v i) := by
  cases i with
  | zero => exact rep_nms _
  | succ i => exact tab_nms _ fun k => pls_bd _ _
theorem hor_addl {a b : List Int} (hl : b.length = a.length) (x : Int) : hor x (addl a b) % 1000003 = (hor x a + hor x b) % 1000003 := by
  have h1 := hor_pv x (addl a b)
  rw [addl_len] at h1
  have h2 : pv (sq (addl a b)) x a.length % 1000003 = pv (fun i => sq a i + sq b i) x a.length % 1000003 := pv_mod x fun i hi => by
    show (addl a b).getD i 0 % 1000003 = _
    rw [addl_at hi]; unfold pls sq; rw [Int.emod_emod]
  have h3 : pv (fun i => sq a i + sq b i) x a.length = pv (sq a) x a.length + pv (sq b) x a.length := by
    unfold pv
    rw [← isum_add]
    exact isum_congr fun i _ => Int.add_mul _ _ _
  have h4 := hor_pv x a
  have h5 := hor_pv x b
  rw [hl] at h5
  rw [h3] at h2
  omega
theorem hor_scll (b : List Int) (c x : Int) : hor x (scll b c) % 1000003 = (hor x b * c) % 1000003 := by
  have h1 := hor_pv x (scll b c)
  rw [scll_len] at h1
  have h2 : pv (sq (scll b c)) x b.length % 1000003 = pv (fun i => sq b i * c) x b.length % 1000003 := pv_mod x fun i hi => by
    show (tab _ b.length).getD i 0 % 1000003 = _
    rw [tab_at hi]; unfold tms sq; rw [Int.emod_emod]
  have h3 : pv (fun i => sq b i * c) x b.length = pv (sq b) x b.length * c := by
    unfold pv
    rw [← isum_mul_right]
    exact isum_congr fun i _ => by rw [Int.mul_assoc, Int.mul_comm c, ← Int.mul_assoc]
  have h4 := mul_mod (hor_pv x b) (rfl : c % 1000003 = c % 1000003)
  rw [h1, h2, h3, h4]
theorem bss_high (n i k : Nat) (hk : i < k) (h : k < n) : (bss n i).getD k 0 = 0 := by
  induction i generalizing k with
  | zero =>
    unfold bss cstl
    rw [List.getD_eq_getElem?_getD, List.getElem?_set_ne (by omega), ← List.getD_eq_getElem?_getD]
    exact rep_sq n k
  | succ i ih =>
    rw [bss]
    unfold bst
    rw [tab_at (by rw [bss_len]; exact h), if_neg (by omega), ih k (by omega) h, ih (k - 1) (by omega) (by omega)]
    unfold tms; rw [Int.zero_mul]; rfl
theorem bss_val (n i : Nat) (x : Int) (h : i < n) : hor x (bss n i) % 1000003 = ffx x i % 1000003 := by
  induction i with
  | zero =>
    have h1 := hor_pv x (bss n 0)
    rw [bss_len] at h1
    have h2 : pv (sq (bss n 0)) x n % 1000003 = pv dlt x n % 1000003 := pv_mod x (cstl_sq n)
    obtain ⟨m, rfl⟩ : ∃ m, n = m + 1 := ⟨n - 1, by omega⟩
    have h3 : pv dlt x (m + 1) = 1 := by
      unfold pv
      rw [isum_head, isum_all0 (fun i _ => by simp [dlt])]
      simp [dlt]
    rw [h1, h2, h3]; rfl
  | succ i ih =>
    have ih := ih (by omega)
    have h1 := hor_pv x (bss n (i + 1))
    rw [bss_len] at h1
    obtain ⟨m, rfl⟩ : ∃ m, n = m + 1 := ⟨n - 1, by omega⟩
    have h2 : pv (sq (bss (m + 1) (i + 1))) x (m + 1) % 1000003 = pv (fun k => (if k = 0 then 0 else sq (bss (m + 1) i) (k - 1)) - (i : Int) * sq (bss (m + 1) i) k) x (m + 1) % 1000003 := pv_mod x fun k hk => by
      show (tab _ (bss (m + 1) i).length).getD k 0 % 1000003 = _
      rw [tab_at (by rw [bss_len]; exact hk)]
      have hc : tms ((bss (m + 1) i).getD k 0) (res (-(i : Int))) = (-((i : Int) * sq (bss (m + 1) i) k)) % 1000003 := by
        unfold tms res sq
        rw [Int.mul_emod, Int.emod_emod, ← Int.mul_emod, Int.mul_neg, Int.mul_comm]
      by_cases e : k = 0
      · subst e
        simp only [if_true]
        rw [hc]; omega
      · simp only [if_neg e]
        rw [hc]; unfold pls sq; omega
    have h3 : pv (fun k => (if k = 0 then 0 else sq (bss (m + 1) i) (k - 1)) - (i : Int) * sq (bss (m + 1) i) k) x (m + 1) = x * pv (sq (bss (m + 1) i)) x m - (i : Int) * pv (sq (bss (m + 1) i)) x (m + 1) := by
      unfold pv
      rw [isum_congr (g := fun k => (if k = 0 then 0 else sq (bss (m + 1) i) (k - 1)) * x ^ k - (i : Int) * (sq (bss (m + 1) i) k * x ^ k)) (fun k _ => by rw [Int.sub_mul, Int.mul_assoc]), isum_sub, isum_mul, isum_head]
      rw [if_pos rfl, Int.zero_mul, Int.zero_add]
      congr 1
      rw [← isum_mul]
      apply isum_congr
      intro k _
      rw [if_neg (by omega), show k + 1 - 1 = k from rfl, Int.pow_succ, Int.mul_left_comm x, Int.mul_comm x]
    have h4 : pv (sq (bss (m + 1) i)) x m = pv (sq (bss (m + 1) i)) x (m + 1) := by
      unfold pv
      rw [isum, show sq (bss (m + 1) i) m = 0 from bss_high (m + 1) i m (by omega) (by omega), Int.zero_mul, Int.add_zero]
    have h5 := hor_pv x (bss (m + 1) i)
    rw [bss_len, ih] at h5
    rw [h1, h2, h3, h4, ffx]
    generalize pv (sq (bss (m + 1) i)) x (m + 1) = P at h5
    have h6 := mul_mod h5 (rfl : (x - i) % 1000003 = (x - i) % 1000003)
    rw [show x * P - i * P = P * (x - i) from by rw [Int.mul_sub, Int.mul_comm P, Int.mul_comm P]]
    exact h6.symm
theorem fact_unit (i : Nat) (h : i < 1000) : res (ffx (i : Int) i) ≠ 0 := by
  have h1 : ∀ k, k ≤ i → ffx (i : Int) k % 1000003 ≠ 0 := by
    intro k
    induction k with
    | zero => intro _; show (1 : Int) % 1000003 ≠ 0; decide
    | succ k ih =>
      intro hk hz
      have := cancel_num (u := (i : Int) - k) (x := ffx i k) (by unfold res; omega) (by rw [Int.mul_comm]; exact hz)
      exact ih (by omega) this
  exact h1 i (Nat.le_refl _)
theorem fts_val {v : List Int} (hv : Nums v) (hn : v.length ≤ 1000) (i : Nat) (hi : i ≤ v.length) (x : Nat) (hx : x < i) : hor (x : Int) (fts v i) = v.getD x 0 := by
  induction i with
  | zero => omega
  | succ i ih =>
    apply nums_eq (hor_bd _ _) (hv.at x)
    rw [fts, hor_addl (by rw [scll_len, bss_len, fts_len]), Int.add_emod, hor_scll, ← Int.add_emod]
    have hb := bss_val v.length i x (by omega)
    by_cases e : x < i
    · rw [ih (by omega) e, ← Int.add_emod_emod]
      rw [mul_mod (b := tms (mns (v.getD i 0) (hor (i : Int) (fts v i))) (inv (hor (i : Int) (bss v.length i)))) hb rfl, ffx_zero x i e, Int.zero_mul]
      simp
    · obtain rfl : x = i := by omega
      have hu : tms (hor (x : Int) (bss v.length x)) (inv (hor (x : Int) (bss v.length x))) = 1 := by
        apply tms_inv
        unfold res
        rw [hb]
        exact fact_unit x (by omega)
      generalize hor (x : Int) (bss v.length x) = u at hu
      generalize hor (x : Int) (fts v x) = y
      generalize v.getD x 0 = z
      unfold tms at hu
      have e2 : (u * tms (mns z y) (inv u)) % 1000003 = (z - y) % 1000003 := by
        unfold tms mns
        rw [Int.mul_emod, Int.emod_emod, ← Int.mul_emod, Int.mul_left_comm, Int.mul_emod, hu, Int.mul_one, Int.emod_emod, Int.emod_emod]
      omega
theorem fit_same {v : List Int} (hv : Nums v) (hn : v.length ≤ 1000) : fts v v.length = fitl v := by
  apply fit_only (by rw [fts_len]; exact hn) (by rw [fitl_len, fts_len]) (fts_nums _ _) (fitl_nums _)
  rw [fts_len]
  intro x hx
  rw [fts_val hv hn _ (Nat.le_refl _) x hx, fitl_val hv hn x hx]
/-- the series of the values of a series is this series -/
theorem fit_again {a b : List Int} (hn : b.length ≤ 1000) (ha : Nums a) (hb : Nums b) (hl : a.length = b.length) (h : ∀ x : Nat, x < b.length → a.getD x 0 = hor (x : Int) b) : fitl a = b := by
  apply fit_only (by rw [fitl_len]; omega) (by rw [fitl_len]; omega) (fitl_nums _) hb
  rw [fitl_len]
  intro x hx
  rw [fitl_val ha (by omega) x hx]
  exact h x (by omega)

end Go.Proofs.YtldbhhocoolloaaGreat
