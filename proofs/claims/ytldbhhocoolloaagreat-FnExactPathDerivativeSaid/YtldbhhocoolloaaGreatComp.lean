/- Composition of series: associative, with a chain rule; the reversed series by Lagrange's form, and that it is the only one. -/
import Derived.Test.YtldbhhocoolloaaGreatPol
namespace Go.Proofs.YtldbhhocoolloaaGreat

theorem conv_assoc' (f g h : Nat → Int) : conv (conv f g) h = conv f (conv g h) := funext fun k => conv_assoc f g h k
theorem conv_comm' (f g : Nat → Int) : conv f g = conv g f := funext fun k => conv_comm f g k
def dlt (k : Nat) : Int := if k = 0 then 1 else 0
def pw (c : Nat → Int) : Nat → Nat → Int
  | 0 => dlt
  | j + 1 => conv c (pw c j)
theorem isum_all0 {f : Nat → Int} {n : Nat} (h : ∀ i, i < n → f i = 0) : isum f n = 0 := by
  rw [isum_congr (g := fun _ => 0) h]; exact isum_zero n
theorem conv_dlt' (f : Nat → Int) : conv dlt f = f := by
  funext k
  unfold conv
  rw [isum_head, isum_all0 (fun i _ => by simp [dlt])]
  simp [dlt]
theorem conv_dlt (f : Nat → Int) : conv f dlt = f := by rw [conv_comm', conv_dlt']
theorem pw_add (c : Nat → Int) (i l : Nat) : conv (pw c i) (pw c l) = pw c (i + l) := by
  induction i with
  | zero => rw [Nat.zero_add]; exact conv_dlt' _
  | succ i ih => rw [show i + 1 + l = (i + l) + 1 from by omega, pw, pw, conv_assoc', ih]
theorem pw_succ' (c : Nat → Int) (j : Nat) : pw c (j + 1) = conv (pw c j) c := by rw [pw, conv_comm']
theorem pw_low {c : Nat → Int} (h0 : c 0 = 0) : ∀ (j k : Nat), k < j → pw c j k = 0 := by
  intro j
  induction j with
  | zero => intro k hk; omega
  | succ j ih =>
    intro k hk
    rw [pw]
    unfold conv
    apply isum_all0
    intro i hi
    by_cases e : i = 0
    · rw [e, h0, Int.zero_mul]
    · rw [ih (k - i) (by omega), Int.mul_zero]
theorem isum_more {f : Nat → Int} {n m : Nat} (h : n ≤ m) (h0 : ∀ i, n ≤ i → i < m → f i = 0) : isum f m = isum f n := by
  induction m with
  | zero => rw [show n = 0 from by omega]
  | succ m ih =>
    by_cases e : n = m + 1
    · rw [e]
    · rw [isum, ih (by omega) (fun i h1 h2 => h0 i h1 (by omega)), h0 m (by omega) (by omega), Int.add_zero]
theorem isum_swap (F : Nat → Nat → Int) (n m : Nat) : isum (fun i => isum (fun j => F i j) m) n = isum (fun j => isum (fun i => F i j) n) m := by
  induction n with
  | zero => simp only [isum]; rw [isum_zero]
  | succ n ih => simp only [isum]; rw [ih, ← isum_add]
/-- a(c(t)), where c begins with 0 -/
def comp (f c : Nat → Int) (k : Nat) : Int := isum (fun j => f j * pw c j k) (k + 1)
theorem comp_ext {f c : Nat → Int} {k N : Nat} (h0 : c 0 = 0) (h : k + 1 ≤ N) : isum (fun j => f j * pw c j k) N = comp f c k :=
  isum_more h fun i h1 _ => by rw [pw_low h0 i k (by omega), Int.mul_zero]
theorem comp_zero (f c : Nat → Int) : comp f c 0 = f 0 := by simp [comp, isum, pw, dlt]
theorem comp_dlt (c : Nat → Int) : comp dlt c = dlt := by
  funext k
  unfold comp
  rw [isum_head, isum_all0 (fun i _ => by simp [dlt])]
  simp [dlt, pw]
/-- sums of sums of products -/
theorem sum_conv (A B : Nat → Nat → Int) (N k : Nat) (u v : Nat → Int) :
    conv (fun m => isum (fun i => u i * A i m) N) (fun m => isum (fun l => v l * B l m) N) k = isum (fun i => isum (fun l => u i * v l * conv (A i) (B l) k) N) N := by
  unfold conv
  have e1 : ∀ m, isum (fun i => u i * A i m) N * isum (fun l => v l * B l (k - m)) N = isum (fun i => isum (fun l => u i * v l * (A i m * B l (k - m))) N) N := by
    intro m
    rw [← isum_mul_right]
    apply isum_congr
    intro i _
    rw [← isum_mul]
    apply isum_congr
    intro l _
    show u i * A i m * (v l * B l (k - m)) = u i * v l * (A i m * B l (k - m))
    rw [Int.mul_assoc, Int.mul_assoc, ← Int.mul_assoc (A i m), Int.mul_comm (A i m) (v l), Int.mul_assoc (v l)]
  rw [isum_congr (fun m _ => e1 m), isum_swap]
  apply isum_congr
  intro i _
  rw [isum_swap]
  apply isum_congr
  intro l _
  exact isum_mul _ _ _
theorem comp_conv {c : Nat → Int} (h0 : c 0 = 0) (f g : Nat → Int) : comp (conv f g) c = conv (comp f c) (comp g c) := by
  funext k
  have e1 : conv (comp f c) (comp g c) k = conv (fun m => isum (fun i => f i * pw c i m) (k + 1)) (fun m => isum (fun l => g l * pw c l m) (k + 1)) k :=
    conv_congr (fun i hi => (comp_ext h0 (by omega)).symm) (fun i hi => (comp_ext h0 (by omega)).symm)
  rw [e1, sum_conv]
  have e2 : ∀ i, i < k + 1 → isum (fun l => f i * g l * conv (pw c i) (pw c l) k) (k + 1) = isum (fun m => f i * g m * pw c (i + m) k) (k + 1 - i) := by
    intro i hi
    rw [isum_congr (g := fun m => f i * g m * pw c (i + m) k) (fun m _ => by rw [pw_add])]
    exact isum_more (by omega) fun m h1 _ => by rw [pw_low h0 _ k (by omega), Int.mul_zero]
  rw [isum_congr e2]
  unfold comp
  have e3 : ∀ j, j < k + 1 → conv f g j * pw c j k = isum (fun i => f i * g (j - i) * pw c j k) (j + 1) := fun j _ => (isum_mul_right _ _ _).symm
  rw [isum_congr e3, tri (fun j i => f i * g (j - i) * pw c j k) (k + 1)]
  apply isum_congr
  intro i _
  apply isum_congr
  intro m _
  show f i * g (i + m - i) * pw c (i + m) k = f i * g m * pw c (i + m) k
  rw [show i + m - i = m from by omega]
theorem comp_pw {c : Nat → Int} (h0 : c 0 = 0) (b : Nat → Int) (j : Nat) : comp (pw b j) c = pw (comp b c) j := by
  induction j with
  | zero => exact comp_dlt c
  | succ j ih => rw [pw, comp_conv h0, ih, pw]
theorem comp_assoc {b c : Nat → Int} (hb : b 0 = 0) (h0 : c 0 = 0) (a : Nat → Int) : comp (comp a b) c = comp a (comp b c) := by
  funext k
  have e1 : comp (comp a b) c k = isum (fun j => isum (fun i => a i * pw b i j * pw c j k) (k + 1)) (k + 1) := by
    apply isum_congr
    intro j hj
    rw [isum_mul_right]
    show comp a b j * pw c j k = _
    rw [← comp_ext hb (show j + 1 ≤ k + 1 by omega)]
  rw [e1, isum_swap]
  apply isum_congr
  intro i _
  have e2 : isum (fun j => a i * pw b i j * pw c j k) (k + 1) = a i * isum (fun j => pw b i j * pw c j k) (k + 1) := by
    rw [← isum_mul]
    exact isum_congr fun j _ => Int.mul_assoc _ _ _
  rw [e2]
  show a i * comp (pw b i) c k = _
  rw [comp_pw h0]
theorem der_dlt (k : Nat) : der dlt k = 0 := by simp [der, dlt]
theorem conv_smul (f g : Nat → Int) (x : Int) (k : Nat) : conv f (fun i => x * g i) k = x * conv f g k := by
  unfold conv
  rw [← isum_mul]
  exact isum_congr fun i _ => Int.mul_left_comm _ _ _
theorem der_pw (c : Nat → Int) (j k : Nat) : der (pw c (j + 1)) k = ((j : Int) + 1) * conv (pw c j) (der c) k := by
  induction j generalizing k with
  | zero =>
    rw [show pw c (0 + 1) = conv c dlt from rfl, der_conv, show pw c 0 = dlt from rfl, conv_dlt, conv_dlt']
    have e : conv c (der dlt) k = 0 := isum_all0 fun i _ => by rw [der_dlt, Int.mul_zero]
    rw [e]; simp
  | succ j ih =>
    rw [pw, der_conv]
    have e1 : conv (der c) (pw c (j + 1)) k = conv (pw c (j + 1)) (der c) k := conv_comm _ _ k
    have e2 : conv c (der (pw c (j + 1))) k = ((j : Int) + 1) * conv (pw c (j + 1)) (der c) k := by
      rw [conv_congr (f' := c) (g' := fun i => ((j : Int) + 1) * conv (pw c j) (der c) i) (fun _ _ => rfl) (fun i _ => ih i), conv_smul, ← conv_assoc c (pw c j) (der c) k]
      rfl
    rw [e1, e2]
    show _ = (((j + 1 : Nat) : Int) + 1) * conv (pw c (j + 1)) (der c) k
    generalize conv (pw c (j + 1)) (der c) k = z
    rw [show (((j + 1 : Nat) : Int) + 1) = ((j : Int) + 1) + 1 from by omega, Int.add_mul ((j : Int) + 1) 1 z, Int.one_mul, Int.add_comm]
theorem chain {c : Nat → Int} (h0 : c 0 = 0) (f : Nat → Int) (k : Nat) : der (comp f c) k = conv (comp (der f) c) (der c) k := by
  have e1 : der (comp f c) k = isum (fun j => der f j * conv (pw c j) (der c) k) (k + 1) := by
    show ((k : Int) + 1) * isum (fun j => f j * pw c j (k + 1)) (k + 1 + 1) = _
    rw [← isum_mul, isum_head]
    have z : ((k : Int) + 1) * (f 0 * pw c 0 (k + 1)) = 0 := by simp [pw, dlt]
    rw [z, Int.zero_add]
    apply isum_congr
    intro j _
    have hd := der_pw c j k
    have e : der (pw c (j + 1)) k = ((k : Int) + 1) * pw c (j + 1) (k + 1) := rfl
    rw [e] at hd
    show ((k : Int) + 1) * (f (j + 1) * pw c (j + 1) (k + 1)) = ((j : Int) + 1) * f (j + 1) * conv (pw c j) (der c) k
    rw [Int.mul_left_comm, hd, ← Int.mul_assoc, Int.mul_comm (f (j + 1))]
  have e2 : conv (comp (der f) c) (der c) k = conv (fun m => isum (fun i => der f i * pw c i m) (k + 1)) (der c) k :=
    conv_congr (fun i hi => (comp_ext h0 (by omega)).symm) (fun _ _ => rfl)
  rw [e1, e2]
  unfold conv
  have e3 : ∀ m, m < k + 1 → isum (fun i => der f i * pw c i m) (k + 1) * der c (k - m) = isum (fun i => der f i * (pw c i m * der c (k - m))) (k + 1) := by
    intro m _
    rw [← isum_mul_right]
    exact isum_congr fun i _ => Int.mul_assoc _ _ _
  rw [isum_congr e3, isum_swap]
  exact isum_congr fun i _ => (isum_mul _ _ _).symm

/-- equal modulo 1000003 below n -/
def Eqm (n : Nat) (f g : Nat → Int) : Prop := ∀ k, k < n → f k % 1000003 = g k % 1000003
theorem Eqm.refl (n : Nat) (f : Nat → Int) : Eqm n f f := fun _ _ => rfl
theorem Eqm.symm {n : Nat} {f g : Nat → Int} (h : Eqm n f g) : Eqm n g f := fun k hk => (h k hk).symm
theorem Eqm.trans {n : Nat} {f g h : Nat → Int} (a : Eqm n f g) (b : Eqm n g h) : Eqm n f h := fun k hk => (a k hk).trans (b k hk)
theorem Eqm.mono {n m : Nat} {f g : Nat → Int} (h : Eqm n f g) (hm : m ≤ n) : Eqm m f g := fun k hk => h k (by omega)
theorem Eqm.conv {n : Nat} {f f' g g' : Nat → Int} (hf : Eqm n f f') (hg : Eqm n g g') : Eqm n (conv f g) (conv f' g') :=
  fun k hk => conv_mod (fun i hi => hf i (by omega)) (fun i hi => hg i (by omega))
theorem Eqm.pw {n : Nat} {c c' : Nat → Int} (h : Eqm n c c') (j : Nat) : Eqm n (pw c j) (pw c' j) := by
  induction j with
  | zero => exact Eqm.refl _ _
  | succ j ih => exact h.conv ih
theorem mul_mod {a a' b b' : Int} (h : a % 1000003 = a' % 1000003) (k : b % 1000003 = b' % 1000003) : (a * b) % 1000003 = (a' * b') % 1000003 := by
  rw [Int.mul_emod, h, k, ← Int.mul_emod]
theorem Eqm.comp {n : Nat} {f f' c c' : Nat → Int} (hf : Eqm n f f') (hc : Eqm n c c') : Eqm n (comp f c) (comp f' c') :=
  fun k hk => isum_mod fun i hi => mul_mod (hf i (by omega)) (hc.pw i k hk)
theorem Eqm.der {n : Nat} {f f' : Nat → Int} (hf : Eqm (n + 1) f f') : Eqm n (der f) (der f') :=
  fun k hk => mul_mod rfl (hf (k + 1) (by omega))

def tt (k : Nat) : Int := if k = 1 then 1 else 0
theorem conv_tt_zero (f : Nat → Int) : conv tt f 0 = 0 := by simp [conv, isum, tt]
theorem conv_tt (f : Nat → Int) (k : Nat) : conv tt f (k + 1) = f k := by
  unfold conv
  rw [isum_head, isum_head, isum_all0 (fun i _ => by simp [tt])]
  simp [tt]
theorem pw_one (c : Nat → Int) : pw c 1 = c := by rw [pw, pw, conv_dlt]
theorem comp_tt {c : Nat → Int} (h0 : c 0 = 0) : comp tt c = c := by
  funext k
  cases k with
  | zero => rw [comp_zero, h0]; rfl
  | succ k =>
    unfold comp
    rw [isum_head, isum_head, isum_all0 (fun i _ => by simp [tt]), pw_one]
    simp [tt]
theorem pw_tt (j k : Nat) : pw tt j k = if k = j then 1 else 0 := by
  induction j generalizing k with
  | zero => rfl
  | succ j ih =>
    rw [pw]
    cases k with
    | zero => rw [conv_tt_zero]; simp
    | succ k => rw [conv_tt, ih]; simp
theorem tt_comp (f : Nat → Int) : comp f tt = f := by
  funext k
  unfold comp
  rw [isum, isum_all0 (fun i hi => by rw [pw_tt, if_neg (by omega), Int.mul_zero]), pw_tt, if_pos rfl]
  omega

/-- a unit undoes a product -/
theorem conv_cancel {N : Nat} {φ g X Y : Nat → Int} (hu : Eqm N (conv φ g) dlt) (h : Eqm N (conv X g) (conv Y g)) : Eqm N X Y := by
  have e : ∀ Z : Nat → Int, Eqm N (conv (conv Z g) φ) Z := fun Z => by
    rw [conv_assoc', conv_comm' g φ]
    have := Eqm.conv (Eqm.refl N Z) hu
    rw [conv_dlt] at this
    exact this
  exact ((e X).symm.trans (h.conv (Eqm.refl N φ))).trans (e Y)
theorem pw_unit {N : Nat} {φ g : Nat → Int} (hu : Eqm N (conv φ g) dlt) (m j : Nat) : Eqm N (conv (pw g j) (pw φ (m + j))) (pw φ m) := by
  induction j with
  | zero =>
    show Eqm N (conv dlt (pw φ (m + 0))) (pw φ m)
    rw [conv_dlt']; exact Eqm.refl _ _
  | succ j ih =>
    have e : conv (pw g (j + 1)) (pw φ (m + (j + 1))) = conv (conv φ g) (conv (pw g j) (pw φ (m + j))) := by
      rw [show m + (j + 1) = (m + j) + 1 from rfl, pw, pw, conv_comm' g (pw g j), conv_assoc', conv_assoc', ← conv_assoc' g φ, ← conv_assoc' g (pw g j), ← conv_assoc' (pw g j), conv_comm' g φ, conv_comm' (pw g j), conv_assoc' , conv_assoc', conv_assoc']
    rw [e]
    have h := hu.conv ih
    rw [conv_dlt'] at h
    exact h
theorem der_unit {N : Nat} {φ g : Nat → Int} (hN : 1 ≤ N) (hu : Eqm N (conv φ g) dlt) : Eqm (N - 1) (fun k => conv (der φ) g k + conv φ (der g) k) (fun _ => 0) := by
  intro k hk
  show (conv (der φ) g k + conv φ (der g) k) % 1000003 = 0 % 1000003
  rw [← der_conv]
  have := Eqm.der (n := N - 1) (f := conv φ g) (f' := dlt) (by rw [show N - 1 + 1 = N from by omega]; exact hu) k hk
  rw [this, der_dlt]
/-- m times the coefficients: (phi^m) m + (g' phi^(m+1)) (m-1) is 0 -/
theorem lag_key {N : Nat} {φ g : Nat → Int} (hu : Eqm N (conv φ g) dlt) (m : Nat) (hm : m + 1 < N) (hN : N ≤ 1000000) :
    (pw φ (m + 1) (m + 1) + conv (der g) (pw φ (m + 2)) m) % 1000003 = 0 := by
  have hN1 : 1 ≤ N := by omega
  have e1 : der (pw φ (m + 1)) m = ((m : Int) + 1) * pw φ (m + 1) (m + 1) := rfl
  have e2 : der (pw φ (m + 1)) m = ((m : Int) + 1) * conv (pw φ m) (der φ) m := der_pw φ m m
  -- phi' = - phi^2 g'
  have h1 : Eqm (N - 1) (fun k => der φ k + conv (pw φ 2) (der g) k) (fun _ => 0) := by
    have hd := der_unit hN1 hu
    have hu' := hu.mono (show N - 1 ≤ N by omega)
    have h2 := Eqm.conv (Eqm.refl (N - 1) φ) hd
    have e3 : conv φ (fun k => conv (der φ) g k + conv φ (der g) k) = fun k => conv (der φ) (conv φ g) k + conv (pw φ 2) (der g) k := by
      funext k
      rw [conv_add]
      congr 1
      · rw [← conv_assoc φ (der φ) g k, conv_comm' φ (der φ), conv_assoc]
      · rw [← conv_assoc, show pw φ 2 = conv φ (pw φ 1) from rfl, pw_one]
    rw [e3] at h2
    intro k hk
    have h3 := h2 k hk
    have h4 := (Eqm.conv (Eqm.refl (N - 1) (der φ)) hu') k hk
    rw [conv_dlt] at h4
    have h5 : conv φ (fun _ => 0) k = 0 := isum_all0 fun i _ => Int.mul_zero _
    rw [h5] at h3
    show (der φ k + conv (pw φ 2) (der g) k) % 1000003 = 0 % 1000003
    have h3' : (conv (der φ) (conv φ g) k + conv (pw φ 2) (der g) k) % 1000003 = 0 % 1000003 := h3
    omega
  have h6 : (conv (pw φ m) (der φ) m + conv (der g) (pw φ (m + 2)) m) % 1000003 = 0 := by
    have h7 := (Eqm.conv (Eqm.refl (N - 1) (pw φ m)) h1) m (by omega)
    rw [conv_add, ← conv_assoc, pw_add] at h7
    rw [isum_all0 (f := fun i => pw φ m i * (fun _ => 0) (m - i)) (n := m + 1) (fun i _ => Int.mul_zero _) |> fun h => (show conv (pw φ m) (fun _ => 0) m = 0 from h)] at h7
    rw [conv_comm (der g)]
    exact h7
  have h8 : pw φ (m + 1) (m + 1) % 1000003 = conv (pw φ m) (der φ) m % 1000003 := cancel_idx m (by omega) (by rw [← e1, ← e2])
  omega

/-- Lagrange: the series r with k r_k = [t^(k-1)] phi^k is undone by a = t / phi. -/
theorem lagrange {N : Nat} {a g φ r : Nat → Int} (hN : N ≤ 1000000) (ha0 : a 0 = 0) (hag : ∀ i, a (i + 1) = g i) (hu : Eqm N (conv φ g) dlt) (hr0 : r 0 = 0)
    (hr : ∀ k, k < N → (((k : Int) + 1) * r (k + 1)) % 1000003 = pw φ (k + 1) k % 1000003) : Eqm (N + 1) (comp r a) tt := by
  have hag' : a = conv tt g := by
    funext k
    cases k with
    | zero => rw [ha0, conv_tt_zero]
    | succ k => rw [hag, conv_tt]
  -- powers of a are shifted powers of g
  have hpa : ∀ j k, pw a j (k + j) = pw g j k := by
    intro j
    induction j with
    | zero => intro k; rfl
    | succ j ih =>
      intro k
      rw [pw, pw]
      rw [hag', conv_assoc', show k + (j + 1) = (k + j) + 1 from rfl, conv_tt, ← hag', conv_comm]
      rw [conv_comm g]
      unfold conv
      rw [← isum_rev, ← isum_rev (fun i => pw g j i * g (k - i))]
      rw [isum_more (n := k + 1) (m := k + j + 1) (by omega) (fun i h1 h2 => by rw [pw_low ha0 j _ (by omega), Int.zero_mul])]
      apply isum_congr
      intro i hi
      rw [show k + j + 1 - 1 - i = (k - i) + j from by omega, ih, show k + j - (k - i + j) = i from by omega, show k + 1 - 1 - i = k - i from by omega, show k - (k - i) = i from by omega]
  -- convolution with a power of a is a shifted one
  have hsh : ∀ j (X : Nat → Int) k, conv (pw a j) X (k + j) = conv (pw g j) X k := by
    intro j X k
    rw [conv_comm, conv_comm (pw g j)]
    unfold conv
    rw [isum_more (n := k + 1) (m := k + j + 1) (by omega) (fun i h1 h2 => by rw [pw_low ha0 j _ (by omega), Int.mul_zero])]
    apply isum_congr
    intro i hi
    rw [show k + j - i = (k - i) + j from by omega, hpa]
  have hder : ∀ (X : Nat → Int) m, conv (der a) X m = conv g X m + (if m = 0 then 0 else conv (der g) X (m - 1)) := by
    intro X m
    have e : der a = fun k => conv dlt g k + conv tt (der g) k := by
      funext k
      rw [hag', der_conv]
      congr 1
      apply conv_congr
      · intro i _
        by_cases e : i = 0 <;> simp [der, tt, dlt, e]
      · intro i _; rfl
    rw [e, conv_comm, conv_add, conv_dlt', conv_comm X g]
    congr 1
    rw [conv_comm, conv_assoc]
    cases m with
    | zero => rw [conv_tt_zero]; rfl
    | succ m => rw [conv_tt, if_neg (by omega)]; rfl
  -- the coefficients of a^(j-1) a' phi^k
  have key : ∀ j k, j ≤ k → k < N → conv (conv (pw a j) (der a)) (pw φ (k + 1)) k % 1000003 = (if j = k then 1 else 0) % 1000003 := by
    intro j k hjk hk
    obtain ⟨m, rfl⟩ : ∃ m, k = m + j := ⟨k - j, by omega⟩
    rw [conv_assoc, hsh]
    have e1 : conv (pw g j) (conv (der a) (pw φ (m + j + 1))) m = conv (der a) (conv (pw g j) (pw φ ((m + 1) + j))) m := by
      rw [← conv_assoc (pw g j), conv_comm' (pw g j) (der a), conv_assoc, show m + j + 1 = m + 1 + j from by omega]
    rw [e1]
    have e2 : conv (der a) (conv (pw g j) (pw φ ((m + 1) + j))) m % 1000003 = conv (der a) (pw φ (m + 1)) m % 1000003 :=
      (Eqm.conv (Eqm.refl N (der a)) (pw_unit hu (m + 1) j)) m (by omega)
    rw [e2, hder]
    have e3 : conv g (pw φ (m + 1)) m % 1000003 = pw φ m m % 1000003 := by
      have := pw_unit hu m 1 m (by omega)
      rw [pw_one] at this
      exact this
    cases m with
    | zero =>
      rw [if_pos rfl, if_pos (by omega), Int.add_zero, e3]; rfl
    | succ m =>
      rw [if_neg (by omega), if_neg (by omega), show m + 1 - 1 = m from rfl, Int.add_emod, e3, ← Int.add_emod]
      exact lag_key hu m (by omega) hN
  -- the derivative of r(a(t)) is 1
  have hS : Eqm N (der (comp r a)) dlt := by
    have main : ∀ k, k < N → ∀ i, i ≤ k → der (comp r a) i % 1000003 = dlt i % 1000003 := by
      intro k
      induction k using Nat.strongRecOn with
      | ind k ih =>
        intro hk i hi
        by_cases e : i < k
        · exact ih i e (by omega) i (Nat.le_refl _)
        obtain rfl : i = k := by omega
        clear e hi
        have h1 : conv (der (comp r a)) (pw φ (i + 1)) i % 1000003 = pw φ (i + 1) i % 1000003 := by
          have e1 : conv (der (comp r a)) (pw φ (i + 1)) i = conv (fun m => isum (fun j => der r j * conv (pw a j) (der a) m) (i + 1)) (pw φ (i + 1)) i := by
            refine conv_congr (fun m hm => ?_) (fun _ _ => rfl)
            rw [chain ha0, ]
            have e2 : conv (comp (der r) a) (der a) m = conv (fun q => isum (fun j => der r j * pw a j q) (i + 1)) (der a) m :=
              conv_congr (fun q hq => (comp_ext ha0 (by omega)).symm) (fun _ _ => rfl)
            rw [e2]
            unfold conv
            rw [isum_congr (fun q _ => (isum_mul_right (fun j => der r j * pw a j q) (der a (m - q)) (i + 1)).symm), isum_swap]
            apply isum_congr
            intro j _
            rw [← isum_mul]
            exact isum_congr fun q _ => Int.mul_assoc _ _ _
          rw [e1]
          have e3 : conv (fun m => isum (fun j => der r j * conv (pw a j) (der a) m) (i + 1)) (pw φ (i + 1)) i = isum (fun j => der r j * conv (conv (pw a j) (der a)) (pw φ (i + 1)) i) (i + 1) := by
            show isum (fun q => isum (fun j => der r j * conv (pw a j) (der a) q) (i + 1) * pw φ (i + 1) (i - q)) (i + 1) = _
            rw [isum_congr (fun q _ => (isum_mul_right (fun j => der r j * conv (pw a j) (der a) q) (pw φ (i + 1) (i - q)) (i + 1)).symm), isum_swap]
            apply isum_congr
            intro j _
            rw [show conv (conv (pw a j) (der a)) (pw φ (i + 1)) i = isum (fun q => conv (pw a j) (der a) q * pw φ (i + 1) (i - q)) (i + 1) from rfl, ← isum_mul]
            exact isum_congr fun q _ => Int.mul_assoc _ _ _
          rw [e3]
          have e4 : isum (fun j => der r j * conv (conv (pw a j) (der a)) (pw φ (i + 1)) i) (i + 1) % 1000003 = isum (fun j => if j = i then der r i else 0) (i + 1) % 1000003 := by
            apply isum_mod
            intro j hj
            rw [mul_mod (a := der r j) rfl (key j i (by omega) hk)]
            by_cases e : j = i
            · subst e; simp
            · simp [e]
          rw [e4, isum, isum_all0 (fun j hj => by rw [if_neg (by omega)]), if_pos rfl, Int.zero_add]
          exact hr i hk
        -- the same for 1
        have h2 : conv (der (comp r a)) (pw φ (i + 1)) i % 1000003 = conv dlt (pw φ (i + 1)) i % 1000003 := by rw [h1, conv_dlt']
        have h3 : isum (fun q => der (comp r a) q * pw φ (i + 1) (i - q)) i % 1000003 = isum (fun q => dlt q * pw φ (i + 1) (i - q)) i % 1000003 :=
          isum_mod fun q hq => mul_mod (ih q hq (by omega) q (Nat.le_refl _)) rfl
        have h4 : (der (comp r a) i * pw φ (i + 1) 0) % 1000003 = (dlt i * pw φ (i + 1) 0) % 1000003 := by
          have a1 : conv (der (comp r a)) (pw φ (i + 1)) i = isum (fun q => der (comp r a) q * pw φ (i + 1) (i - q)) i + der (comp r a) i * pw φ (i + 1) 0 := by
            show isum (fun q => der (comp r a) q * pw φ (i + 1) (i - q)) i + der (comp r a) i * pw φ (i + 1) (i - i) = _
            rw [Nat.sub_self]
          have a2 : conv dlt (pw φ (i + 1)) i = isum (fun q => dlt q * pw φ (i + 1) (i - q)) i + dlt i * pw φ (i + 1) 0 := by
            show isum (fun q => dlt q * pw φ (i + 1) (i - q)) i + dlt i * pw φ (i + 1) (i - i) = _
            rw [Nat.sub_self]
          rw [a1, a2] at h2
          omega
        have h5 : (pw φ (i + 1) 0 * pw g (i + 1) 0) % 1000003 = 1 := by
          have := pw_unit hu 0 (i + 1) 0 (by omega)
          rw [Nat.zero_add] at this
          have e : conv (pw g (i + 1)) (pw φ (i + 1)) 0 = pw g (i + 1) 0 * pw φ (i + 1) 0 := by
            simp [conv, isum]
          rw [e, Int.mul_comm] at this
          exact this
        have h6 := mul_mod h4 (rfl : pw g (i + 1) 0 % 1000003 = pw g (i + 1) 0 % 1000003)
        rw [Int.mul_assoc, Int.mul_assoc, mul_mod (a := der (comp r a) i) rfl (show (pw φ (i + 1) 0 * pw g (i + 1) 0) % 1000003 = 1 % 1000003 from h5), mul_mod (a := dlt i) rfl (show (pw φ (i + 1) 0 * pw g (i + 1) 0) % 1000003 = 1 % 1000003 from h5), Int.mul_one, Int.mul_one] at h6
        exact h6
    exact fun k hk => main k hk k (Nat.le_refl _)
  intro k hk
  cases k with
  | zero => rw [comp_zero, hr0]; rfl
  | succ k =>
    have h := hS k (by omega)
    have e : der tt k = dlt k := by by_cases e : k = 0 <;> simp [der, tt, dlt, e]
    rw [← e] at h
    exact cancel_idx k (by omega) h

end Go.Proofs.YtldbhhocoolloaaGreat
