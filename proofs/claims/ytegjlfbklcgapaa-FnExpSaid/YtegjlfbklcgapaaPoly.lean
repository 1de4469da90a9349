/- Products of lists of residues are those of polynomials: commutative, distributive, and undone by quotients. -/
import Derived.Test.YtegjlfbklcgapaaLogM
namespace Go.Proofs.Ytegjlfbklcgapaa

/-- the sum of f 0, .., f (n - 1), as integers -/
def isum (f : Nat → Int) : Nat → Int
  | 0 => 0
  | n + 1 => isum f n + f n
theorem psum_isum (f : Nat → Int) (n : Nat) : psum f n = isum f n % 1000003 := by
  induction n with
  | zero => rfl
  | succ n ih => rw [psum, isum, ih]; unfold pls; omega
theorem isum_congr {f g : Nat → Int} {n : Nat} (h : ∀ i, i < n → f i = g i) : isum f n = isum g n := by
  induction n with
  | zero => rfl
  | succ n ih => simp only [isum]; rw [ih (fun i hi => h i (by omega)), h n (by omega)]
theorem isum_mod {f g : Nat → Int} {n : Nat} (h : ∀ i, i < n → f i % 1000003 = g i % 1000003) : isum f n % 1000003 = isum g n % 1000003 := by
  induction n with
  | zero => rfl
  | succ n ih => simp only [isum]; rw [Int.add_emod, ih (fun i hi => h i (by omega)), h n (by omega), ← Int.add_emod]
theorem isum_add (f g : Nat → Int) (n : Nat) : isum (fun i => f i + g i) n = isum f n + isum g n := by
  induction n with
  | zero => rfl
  | succ n ih => simp only [isum, ih]; omega
theorem isum_head (f : Nat → Int) (n : Nat) : isum f (n + 1) = f 0 + isum (fun i => f (i + 1)) n := by
  induction n with
  | zero => simp [isum]
  | succ n ih => rw [isum, ih]; simp only [isum]; omega
theorem isum_rev (f : Nat → Int) (n : Nat) : isum (fun i => f (n - 1 - i)) n = isum f n := by
  induction n with
  | zero => rfl
  | succ n ih =>
    rw [isum_head]
    have e : isum (fun i => f (n + 1 - 1 - (i + 1))) n = isum (fun i => f (n - 1 - i)) n := isum_congr fun i hi => by rw [show n + 1 - 1 - (i + 1) = n - 1 - i from by omega]
    rw [e, ih, isum, show n + 1 - 1 - 0 = n from by omega]
    omega

/-- the coefficient of a product, before it is brought modulo 1000003 -/
def cf (a b : List Int) (k : Nat) : Int := isum (fun i => a.getD i 0 * b.getD (k - i) 0) (k + 1)
theorem mulc_cf (a b : List Int) (k : Nat) : mulc a b k = cf a b k % 1000003 := by
  unfold mulc cf
  rw [psum_isum]
  exact isum_mod fun i _ => by unfold tms; rw [Int.emod_emod]
theorem cf_comm (a b : List Int) (k : Nat) : cf a b k = cf b a k := by
  unfold cf
  rw [← isum_rev]
  exact isum_congr fun i hi => by rw [show k + 1 - 1 - i = k - i from by omega, show k - (k - i) = i from by omega, Int.mul_comm]
theorem mulc_comm (a b : List Int) (k : Nat) : mulc a b k = mulc b a k := by rw [mulc_cf, mulc_cf, cf_comm]
theorem mull_comm {a b : List Int} (h : a.length = b.length) : mull a b = mull b a := by
  unfold mull
  rw [h]
  exact List.map_congr_left fun k _ => mulc_comm a b k
theorem addl_at {a b : List Int} {k : Nat} (h : k < a.length) : (addl a b).getD k 0 = pls (a.getD k 0) (b.getD k 0) := by
  unfold addl; rw [tab_at h]
theorem mull_at {a b : List Int} {k : Nat} (h : k < a.length) : (mull a b).getD k 0 = mulc a b k := by
  unfold mull; rw [tab_at h]
theorem mulc_add {a b c : List Int} {k : Nat} (hb : k < b.length) : mulc a (addl b c) k = pls (mulc a b k) (mulc a c k) := by
  rw [mulc_cf, mulc_cf, mulc_cf]
  have e : cf a (addl b c) k % 1000003 = (cf a b k + cf a c k) % 1000003 := by
    unfold cf
    rw [← isum_add]
    apply isum_mod
    intro i hi
    rw [addl_at (by omega)]
    unfold pls
    rw [Int.mul_emod, Int.emod_emod, ← Int.mul_emod, Int.mul_add]
  rw [e]
  unfold pls
  omega
theorem ring_law {a b c : List Int} (hb : b.length = a.length) (hc : c.length = a.length) : mull a (addl b c) = addl (mull c a) (mull a b) := by
  have h1 : mull a (addl b c) = tab (mulc a (addl b c)) a.length := rfl
  have h2 : addl (mull c a) (mull a b) = tab (fun k => pls ((mull c a).getD k 0) ((mull a b).getD k 0)) a.length := by unfold addl; rw [mull_len, hc]
  rw [h1, h2]
  apply List.map_congr_left
  intro k hk
  have hk : k < a.length := by simpa using hk
  show mulc a (addl b c) k = pls ((mull c a).getD k 0) ((mull a b).getD k 0)
  rw [mulc_add (by omega), mull_at (by omega), mull_at (by omega), mulc_comm c a]
  unfold pls
  omega

theorem msub_isum (r : Int) (f : Nat → Int) (n : Nat) (hr : 0 ≤ r ∧ r < 1000003) : msub r f n = (r - isum f n) % 1000003 := by
  induction n with
  | zero => simp only [msub, isum]; omega
  | succ n ih => rw [msub, isum, ih]; unfold mns; omega
theorem tab_eq {f : Nat → Int} {l : List Int} (h : ∀ k, k < l.length → f k = l.getD k 0) : tab f l.length = l := by
  apply List.ext_getElem
  · rw [tab_len]
  · intro k h1 h2
    have e1 := tab_at (f := f) (n := l.length) (k := k) h2
    rw [List.getD_eq_getElem?_getD, List.getElem?_eq_getElem h1] at e1
    have e2 := h k h2
    rw [List.getD_eq_getElem?_getD, List.getElem?_eq_getElem h2] at e2
    simp only [Option.getD_some] at e1 e2
    rw [e1, e2]
theorem div_law {a b : List Int} (ha : Nums a) (hb : Nums b) (h0 : b.getD 0 0 ≠ 0) : mull (divl a b) b = a := by
  unfold mull
  rw [divl_len]
  apply tab_eq
  intro k hk
  have hq : (divl a b).getD k 0 = tms (msub (a.getD k 0) (fun i => tms ((divl a b).getD i 0) (b.getD (k - i) 0)) k) (inv (b.getD 0 0)) := by
    have e : (divl a b).getD k 0 = _ := dvs_at a b (inv (b.getD 0 0)) hk
    rw [e]
    congr 1
    exact msub_congr fun i hi => by
      have : (divl a b).getD i 0 = (dvs a b (inv (b.getD 0 0)) k).getD i 0 := dvs_pre _ _ _ hi (by omega)
      rw [this]
  rw [mulc_cf, cf, isum]
  rw [msub_isum _ _ _ (ha.at k)] at hq
  have hbb := hb.at 0
  have hi : tms (b.getD 0 0) (inv (b.getD 0 0)) = 1 := tms_inv (by rw [res_id hbb.1 hbb.2]; exact h0)
  have hs : isum (fun i => tms ((divl a b).getD i 0) (b.getD (k - i) 0)) k % 1000003 = isum (fun i => (divl a b).getD i 0 * b.getD (k - i) 0) k % 1000003 :=
    isum_mod fun i _ => by unfold tms; rw [Int.emod_emod]
  rw [hq, Nat.sub_self]
  generalize isum (fun i => tms ((divl a b).getD i 0) (b.getD (k - i) 0)) k = S at hs
  generalize isum (fun i => (divl a b).getD i 0 * b.getD (k - i) 0) k = T at hs
  generalize inv (b.getD 0 0) = v at hi
  generalize b.getD 0 0 = u at hi
  have hak := ha.at k
  generalize a.getD k 0 = x at hak
  have e : (tms ((x - S) % 1000003) v * u) % 1000003 = (x - S) % 1000003 := by
    unfold tms at hi ⊢
    rw [Int.mul_emod, Int.emod_emod, ← Int.mul_emod, Int.mul_assoc, Int.mul_comm v u, Int.mul_emod, hi]
    omega
  rw [Int.add_emod, e]
  omega

end Go.Proofs.Ytegjlfbklcgapaa
