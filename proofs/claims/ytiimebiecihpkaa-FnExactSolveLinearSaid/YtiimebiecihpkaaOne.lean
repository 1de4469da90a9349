/- Derivatives and integrals of series: the model. Derivatives and integrals of series: the program. DerivativeOf: what it answers; the model; the method behind the program's checks. DerivativeOf, by the program. IntegralOf: what it answers; the model; the method behind the program's checks. IntegralOf, by the program. Exponentials of series: the model. Exponentials of series: the program's method. ExpSeries, by the program. Two ways to the logarithm of a series: a quotient that is integrated, and a recursion. Logarithms of series: the program's method. Logarithms of series: the model. LogSeries, by the program. -/
import Derived.Test.YtiimebiecihpkaaOps
namespace Go.Proofs.Ytiimebiecihpkaa
open Go.RowKit

def dtm (l : List Int) (k : Nat) : Int := tms ((k : Int) + 1) (l.getD (k + 1) 0)
def itm (l : List Int) (k : Nat) : Int := tms (l.getD k 0) (inv ((k : Int) + 1))
def dls (l : List Int) : List Int := fillz l.length (tab (dtm l) (l.length - 1))
def ils (l : List Int) : List Int := 0 :: tab (itm l) (l.length - 1)
theorem dls_len (l : List Int) : (dls l).length = l.length := fillz_len (by rw [tab_len]; omega)
theorem ils_len {l : List Int} (h : 1 ≤ l.length) : (ils l).length = l.length := by simp [ils, tab_len]; omega
theorem fillz_nil_zero {n : Nat} (h : 1 ≤ n) : List.replicate n (0 : Int) = fillz n [0] := by
  rw [← fillz_zero, fillz_snoc0 (by simp; omega)]; rfl
theorem fillz_set' {n k : Nat} {xs : List Int} (hx : xs.length = k) (h : k < n) (v : Int) : (fillz n xs).set k v = fillz n (xs ++ [v]) := by
  subst hx; exact fillz_set h v

end Go.Proofs.Ytiimebiecihpkaa

namespace Go.Proofs.Ytiimebiecihpkaa
open Go.RowKit

end Go.Proofs.Ytiimebiecihpkaa

namespace Go.Proofs.Ytiimebiecihpkaa
open Go.RowKit
set_option linter.unusedVariables false

def resDerivativeOf (l : List Int) : List Int := dls l
def codDerivativeOf (_ : List Int) : Int := 0
def allDerivativeOf (l : List Int) : List Int := if okS l = true then resDerivativeOf l else []
def alcDerivativeOf (l : List Int) : Int := if okS l = true then codDerivativeOf l else 1
theorem resDerivativeOf_len (l : List Int) : (resDerivativeOf l).length ≤ l.length := by unfold resDerivativeOf; rw [dls_len]; exact Nat.le_refl _

end Go.Proofs.Ytiimebiecihpkaa

namespace Go.Proofs.Ytiimebiecihpkaa
open Go.RowKit
set_option linter.unusedVariables false

theorem resLen_DerivativeOf (l : List Int) (hl : l.length ≤ 1048576) : (allDerivativeOf l).length ≤ 1048576 := by
  unfold allDerivativeOf; split
  · exact Nat.le_trans (resDerivativeOf_len l) hl
  · simp

end Go.Proofs.Ytiimebiecihpkaa

namespace Go.Proofs.Ytiimebiecihpkaa
open Go.RowKit
set_option linter.unusedVariables false

def resIntegralOf (l : List Int) : List Int := ils l
def codIntegralOf (_ : List Int) : Int := 0
def allIntegralOf (l : List Int) : List Int := if okS l = true then resIntegralOf l else []
def alcIntegralOf (l : List Int) : Int := if okS l = true then codIntegralOf l else 1
theorem resIntegralOf_len (l : List Int) (h0 : 1 ≤ l.length) : (resIntegralOf l).length ≤ l.length := by unfold resIntegralOf; rw [ils_len h0]; exact Nat.le_refl _

end Go.Proofs.Ytiimebiecihpkaa

namespace Go.Proofs.Ytiimebiecihpkaa
open Go.RowKit
set_option linter.unusedVariables false

theorem resLen_IntegralOf (l : List Int) (hl : l.length ≤ 1048576) : (allIntegralOf l).length ≤ 1048576 := by
  unfold allIntegralOf; split
  · rename_i h; exact Nat.le_trans (resIntegralOf_len l (okS_t h).1) hl
  · simp

end Go.Proofs.Ytiimebiecihpkaa

namespace Go.Proofs.Ytiimebiecihpkaa
open Go.RowKit
attribute [local go_sem ↓] Go.wp_at_zero Go.wp_at_succ

theorem exs_nms (a : List Int) (k : Nat) : Nums (exs a k) := by
  induction k with
  | zero => intro n hn; simp [exs] at hn; omega
  | succ k ih => rw [exs]; exact nms_snoc ih (tms_bd _ _)
def eterm (l xs : List Int) (k i : Nat) : Int := tms (tms ((i : Int) + 1) (l.getD (i + 1) 0)) (xs.getD (k - i) 0)
theorem exs_succ (l : List Int) (k : Nat) : exs l (k + 1) = exs l k ++ [tms (psum (eterm l (exs l k) k) (k + 1)) (inv ((k : Int) + 1))] := rfl

def resExpSeries (l : List Int) : List Int := if l.getD 0 0 = 0 then expl l else []
def codExpSeries (l : List Int) : Int := if l.getD 0 0 = 0 then 0 else 4
def allExpSeries (l : List Int) : List Int := if okS l = true then resExpSeries l else []
def alcExpSeries (l : List Int) : Int := if okS l = true then codExpSeries l else 1
theorem resExpSeries_len (l : List Int) (h0 : 1 ≤ l.length) : (resExpSeries l).length ≤ l.length := by
  unfold resExpSeries; split
  · rw [expl_len h0]; exact Nat.le_refl _
  · simp

end Go.Proofs.Ytiimebiecihpkaa

namespace Go.Proofs.Ytiimebiecihpkaa
open Go.RowKit

end Go.Proofs.Ytiimebiecihpkaa

namespace Go.Proofs.Ytiimebiecihpkaa
open Go.RowKit
set_option linter.unusedVariables false

theorem resLen_ExpSeries (l : List Int) (hl : l.length ≤ 1048576) : (allExpSeries l).length ≤ 1048576 := by
  unfold allExpSeries; split
  · rename_i h; exact Nat.le_trans (resExpSeries_len l (okS_t h).1) hl
  · simp

end Go.Proofs.Ytiimebiecihpkaa

namespace Go.Proofs.Ytiimebiecihpkaa
open Go.RowKit

def lterm (l xs : List Int) (k i : Nat) : Int := tms (tms ((i : Int) + 1) (xs.getD (i + 1) 0)) (l.getD (k - i) 0)
def lgs (l : List Int) : Nat → List Int
  | 0 => [0]
  | k + 1 => lgs l k ++ [tms (msub (tms ((k : Int) + 1) (l.getD (k + 1) 0)) (lterm l (lgs l k) k) k) (inv ((k : Int) + 1))]
def logl (l : List Int) : List Int := lgs l (l.length - 1)
theorem lgs_len (l : List Int) (k : Nat) : (lgs l k).length = k + 1 := by
  induction k with
  | zero => rfl
  | succ k ih => simp [lgs, ih]
theorem logl_len {l : List Int} (h : 1 ≤ l.length) : (logl l).length = l.length := by rw [logl, lgs_len]; omega
theorem lgs_nms (l : List Int) (k : Nat) : Nums (lgs l k) := by
  induction k with
  | zero => intro n hn; simp [lgs] at hn; omega
  | succ k ih => rw [lgs]; exact nms_snoc ih (tms_bd _ _)

theorem msub_congr {r : Int} {f g : Nat → Int} {n : Nat} (h : ∀ i, i < n → f i = g i) : msub r f n = msub r g n := by
  induction n with
  | zero => rfl
  | succ n ih => simp only [msub]; rw [ih (fun i hi => h i (by omega)), h n (by omega)]
theorem getD_snoc_lt {xs : List Int} {x : Int} {i : Nat} (h : i < xs.length) : (xs ++ [x]).getD i 0 = xs.getD i 0 := by
  rw [List.getD_eq_getElem?_getD, List.getD_eq_getElem?_getD, List.getElem?_append_left h]
theorem getD_snoc_eq {xs : List Int} {x : Int} : (xs ++ [x]).getD xs.length 0 = x := by
  simp [List.getD_eq_getElem?_getD]
theorem dvs_pre (a b : List Int) (f : Int) {i k n : Nat} (h : i < k) (hk : k ≤ n) : (dvs a b f n).getD i 0 = (dvs a b f k).getD i 0 := by
  induction n with
  | zero => omega
  | succ n ih =>
    by_cases e : k = n + 1
    · rw [e]
    · rw [dvs, getD_snoc_lt (by rw [dvs_len]; omega)]; exact ih (by omega)
theorem dvs_at (a b : List Int) (f : Int) {k n : Nat} (h : k < n) : (dvs a b f n).getD k 0 = tms (msub (a.getD k 0) (fun i => tms ((dvs a b f k).getD i 0) (b.getD (k - i) 0)) k) f := by
  rw [dvs_pre a b f (k := k + 1) (by omega) (by omega), dvs]
  have := getD_snoc_eq (xs := dvs a b f k) (x := tms (msub (a.getD k 0) (fun i => tms ((dvs a b f k).getD i 0) (b.getD (k - i) 0)) k) f)
  rw [dvs_len] at this
  exact this
theorem inv_one : inv 1 = 1 := by unfold inv pwr; rw [Int.one_pow]; rfl
theorem tms_one {x : Int} (h : 0 ≤ x ∧ x < 1000003) : tms x 1 = x := by unfold tms; rw [Int.mul_one]; omega
theorem tms_cancel {x : Int} (k : Nat) (hk : k < 1000000) (h : 0 ≤ x ∧ x < 1000003) : tms ((k : Int) + 1) (tms x (inv ((k : Int) + 1))) = x := by
  have hi : tms ((k : Int) + 1) (inv ((k : Int) + 1)) = 1 := tms_inv (by unfold res; omega)
  unfold tms at hi ⊢
  rw [Int.mul_emod, Int.emod_emod, ← Int.mul_emod, Int.mul_left_comm, Int.mul_emod, hi]
  omega
theorem cons_tab_at {f : Nat → Int} {n i : Nat} (h : i < n) : ((0 : Int) :: tab f n).getD (i + 1) 0 = f i := by
  rw [List.getD_cons_succ, tab_at h]
theorem dls_at {l : List Int} {k : Nat} (h : k + 1 < l.length) : (dls l).getD k 0 = tms ((k : Int) + 1) (l.getD (k + 1) 0) := by
  unfold dls
  rw [fillz_low (by rw [tab_len]; omega), tab_at (by omega)]; rfl

theorem log_step {l : List Int} (hl : l.length ≤ 1000) (h1 : l.getD 0 0 = 1) (k : Nat) (hk : k + 1 ≤ l.length) :
    lgs l k = 0 :: tab (itm (divl (dls l) l)) k := by
  have hlen : (dls l).length = l.length := dls_len l
  induction k with
  | zero => rfl
  | succ k ih =>
    have ih := ih (by omega)
    rw [lgs, ih, tab_succ, List.cons_append]
    congr 2
    congr 1
    have hq : ∀ i, i < l.length → (divl (dls l) l).getD i 0 = tms (msub ((dls l).getD i 0) (fun j => tms ((dvs (dls l) l (inv (l.getD 0 0)) i).getD j 0) (l.getD (i - j) 0)) i) (inv (l.getD 0 0)) := by
      intro i hi
      unfold divl
      rw [hlen]
      exact dvs_at _ _ _ hi
    have hqb : ∀ i, 0 ≤ (divl (dls l) l).getD i 0 ∧ (divl (dls l) l).getD i 0 < 1000003 := fun i => Nums.at (dvs_nms _ _ _ _) i
    rw [show itm (divl (dls l) l) k = tms ((divl (dls l) l).getD k 0) (inv ((k : Int) + 1)) from rfl]
    congr 1
    have hf : ∀ i, i < k → lterm l (0 :: tab (itm (divl (dls l) l)) k) k i = tms ((dvs (dls l) l (inv (l.getD 0 0)) k).getD i 0) (l.getD (k - i) 0) := by
      intro i hi
      unfold lterm
      rw [cons_tab_at hi]
      unfold itm
      rw [tms_cancel i (by omega) (hqb i)]
      congr 1
      unfold divl
      rw [hlen]
      exact dvs_pre _ _ _ hi (by omega)
    rw [msub_congr hf, hq k (by omega), dls_at (by omega), h1, inv_one]
    exact (tms_one (msub_bd _ _ (tms_bd _ _))).symm
theorem log_eq {l : List Int} (h0 : 1 ≤ l.length) (hl : l.length ≤ 1000) (h1 : l.getD 0 0 = 1) : ils (divl (dls l) l) = logl l := by
  unfold ils logl
  rw [divl_len, dls_len, log_step hl h1 (l.length - 1) (by omega)]

end Go.Proofs.Ytiimebiecihpkaa

namespace Go.Proofs.Ytiimebiecihpkaa
open Go.RowKit

def resLogSeries (l : List Int) : List Int := if l.getD 0 0 = 1 then logl l else []
def codLogSeries (l : List Int) : Int := if l.getD 0 0 = 1 then 0 else 4
def allLogSeries (l : List Int) : List Int := if okS l = true then resLogSeries l else []
def alcLogSeries (l : List Int) : Int := if okS l = true then codLogSeries l else 1
theorem resLogSeries_len (l : List Int) (h0 : 1 ≤ l.length) : (resLogSeries l).length ≤ l.length := by
  unfold resLogSeries; split
  · rw [logl_len h0]; exact Nat.le_refl _
  · simp

end Go.Proofs.Ytiimebiecihpkaa

namespace Go.Proofs.Ytiimebiecihpkaa
open Go.RowKit

theorem dls_nms (l : List Int) : Nums (dls l) := by
  intro n hn
  unfold dls fillz at hn
  rw [List.mem_append] at hn
  rcases hn with hn | hn
  · exact tab_nms _ (fun k => tms_bd _ _) n hn
  · rw [List.mem_replicate] at hn; omega

end Go.Proofs.Ytiimebiecihpkaa

namespace Go.Proofs.Ytiimebiecihpkaa
open Go.RowKit
set_option linter.unusedVariables false

theorem resLen_LogSeries (l : List Int) (hl : l.length ≤ 1048576) : (allLogSeries l).length ≤ 1048576 := by
  unfold allLogSeries; split
  · rename_i h; exact Nat.le_trans (resLogSeries_len l (okS_t h).1) hl
  · simp

end Go.Proofs.Ytiimebiecihpkaa
