/- Two ways to the logarithm of a series: a quotient that is integrated, and a recursion. -/
import Derived.Test.YtegjlfbklcgapaaExpI
import Derived.Test.YtegjlfbklcgapaaFermat
namespace Go.Proofs.Ytegjlfbklcgapaa
open Go.RowKit

def lterm (l xs : List Int) (k i : Nat) : Int := tms (tms ((i : Int) + 1) (xs.getD (i + 1) 0)) (l.getD (k - i) 0)
def lgs (l : List Int) : Nat → List Int
  | 0 => [0]
  | k + 1 => lgs l k ++ [tms (msub (tms ((k : Int) + 1) (l.getD (k + 1) 0)) (lterm l (lgs l k) k) k) (inv ((k : Int) + 1))]
def logl (l : List Int) : List Int := lgs l (l.length - 1)
theorem lgs_len (l : List Int) (k : Nat) : (lgs l k).length = k + 1 := by
  induction k with
  | zero => rfl
  | succ k ih => simp [lgs, ih]
theorem logl_len {l : List Int} (h : 1 ≤ l.length) : (logl l).length = l.length := by rw [logl, lgs_len]; omega
theorem lgs_nms (l : List Int) (k : Nat) : Nums (lgs l k) := by
  induction k with
  | zero => intro n hn; simp [lgs] at hn; omega
  | succ k ih => rw [lgs]; exact nms_snoc ih (tms_bd _ _)

theorem msub_congr {r : Int} {f g : Nat → Int} {n : Nat} (h : ∀ i, i < n → f i = g i) : msub r f n = msub r g n := by
  induction n with
  | zero => rfl
  | succ n ih => simp only [msub]; rw [ih (fun i hi => h i (by omega)), h n (by omega)]
theorem getD_snoc_lt {xs : List Int} {x : Int} {i : Nat} (h : i < xs.length) : (xs ++ [x]).getD i 0 = xs.getD i 0 := by
  rw [List.getD_eq_getElem?_getD, List.getD_eq_getElem?_getD, List.getElem?_append_left h]
theorem getD_snoc_eq {xs : List Int} {x : Int} : (xs ++ [x]).getD xs.length 0 = x := by
  simp [List.getD_eq_getElem?_getD]
theorem dvs_pre (a b : List Int) (f : Int) {i k n : Nat} (h : i < k) (hk : k ≤ n) : (dvs a b f n).getD i 0 = (dvs a b f k).getD i 0 := by
  induction n with
  | zero => omega
  | succ n ih =>
    by_cases e : k = n + 1
    · rw [e]
    · rw [dvs, getD_snoc_lt (by rw [dvs_len]; omega)]; exact ih (by omega)
theorem dvs_at (a b : List Int) (f : Int) {k n : Nat} (h : k < n) : (dvs a b f n).getD k 0 = tms (msub (a.getD k 0) (fun i => tms ((dvs a b f k).getD i 0) (b.getD (k - i) 0)) k) f := by
  rw [dvs_pre a b f (k := k + 1) (by omega) (by omega), dvs]
  have := getD_snoc_eq (xs := dvs a b f k) (x := tms (msub (a.getD k 0) (fun i => tms ((dvs a b f k).getD i 0) (b.getD (k - i) 0)) k) f)
  rw [dvs_len] at this
  exact this
theorem inv_one : inv 1 = 1 := by unfold inv pwr; rw [Int.one_pow]; rfl
theorem tms_one {x : Int} (h : 0 ≤ x ∧ x < 1000003) : tms x 1 = x := by unfold tms; rw [Int.mul_one]; omega
theorem tms_cancel {x : Int} (k : Nat) (hk : k < 1000000) (h : 0 ≤ x ∧ x < 1000003) : tms ((k : Int) + 1) (tms x (inv ((k : Int) + 1))) = x := by
  have hi : tms ((k : Int) + 1) (inv ((k : Int) + 1)) = 1 := tms_inv (by unfold res; omega)
  unfold tms at hi ⊢
  rw [Int.mul_emod, Int.emod_emod, ← Int.mul_emod, Int.mul_left_comm, Int.mul_emod, hi]
  omega
theorem cons_tab_at {f : Nat → Int} {n i : Nat} (h : i < n) : ((0 : Int) :: tab f n).getD (i + 1) 0 = f i := by
  rw [List.getD_cons_succ, tab_at h]
theorem dls_at {l : List Int} {k : Nat} (h : k + 1 < l.length) : (dls l).getD k 0 = tms ((k : Int) + 1) (l.getD (k + 1) 0) := by
  unfold dls
  rw [fillz_low (by rw [tab_len]; omega), tab_at (by omega)]; rfl

theorem log_step {l : List Int} (hl : l.length ≤ 1000) (h1 : l.getD 0 0 = 1) (k : Nat) (hk : k + 1 ≤ l.length) :
    lgs l k = 0 :: tab (itm (divl (dls l) l)) k := by
  have hlen : (dls l).length = l.length := dls_len l
  induction k with
  | zero => rfl
  | succ k ih =>
    have ih := ih (by omega)
    rw [lgs, ih, tab_succ, List.cons_append]
    congr 2
    congr 1
    have hq : ∀ i, i < l.length → (divl (dls l) l).getD i 0 = tms (msub ((dls l).getD i 0) (fun j => tms ((dvs (dls l) l (inv (l.getD 0 0)) i).getD j 0) (l.getD (i - j) 0)) i) (inv (l.getD 0 0)) := by
      intro i hi
      unfold divl
      rw [hlen]
      exact dvs_at _ _ _ hi
    have hqb : ∀ i, 0 ≤ (divl (dls l) l).getD i 0 ∧ (divl (dls l) l).getD i 0 < 1000003 := fun i => Nums.at (dvs_nms _ _ _ _) i
    rw [show itm (divl (dls l) l) k = tms ((divl (dls l) l).getD k 0) (inv ((k : Int) + 1)) from rfl]
    congr 1
    have hf : ∀ i, i < k → lterm l (0 :: tab (itm (divl (dls l) l)) k) k i = tms ((dvs (dls l) l (inv (l.getD 0 0)) k).getD i 0) (l.getD (k - i) 0) := by
      intro i hi
      unfold lterm
      rw [cons_tab_at hi]
      unfold itm
      rw [tms_cancel i (by omega) (hqb i)]
      congr 1
      unfold divl
      rw [hlen]
      exact dvs_pre _ _ _ hi (by omega)
    rw [msub_congr hf, hq k (by omega), dls_at (by omega), h1, inv_one]
    exact (tms_one (msub_bd _ _ (tms_bd _ _))).symm
theorem log_eq {l : List Int} (h0 : 1 ≤ l.length) (hl : l.length ≤ 1000) (h1 : l.getD 0 0 = 1) : ils (divl (dls l) l) = logl l := by
  unfold ils logl
  rw [divl_len, dls_len, log_step hl h1 (l.length - 1) (by omega)]

end Go.Proofs.Ytegjlfbklcgapaa
