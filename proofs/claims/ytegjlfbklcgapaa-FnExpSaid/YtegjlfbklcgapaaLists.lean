/- The functions on lists of residues that the model and the program compute. -/
import Derived.Test.YtegjlfbklcgapaaMath
namespace Go.Proofs.Ytegjlfbklcgapaa

def psum (f : Nat → Int) : Nat → Int
  | 0 => 0
  | n + 1 => pls (psum f n) (f n)
def msub (r : Int) (f : Nat → Int) : Nat → Int
  | 0 => r
  | n + 1 => mns (msub r f n) (f n)
def tab (f : Nat → Int) (n : Nat) : List Int := (List.range n).map f
def addl (a b : List Int) : List Int := tab (fun k => pls (a.getD k 0) (b.getD k 0)) a.length
def mulc (a b : List Int) (k : Nat) : Int := psum (fun i => tms (a.getD i 0) (b.getD (k - i) 0)) (k + 1)
def mull (a b : List Int) : List Int := tab (mulc a b) a.length
def dvs (a b : List Int) (f : Int) : Nat → List Int
  | 0 => []
  | k + 1 => dvs a b f k ++ [tms (msub (a.getD k 0) (fun i => tms ((dvs a b f k).getD i 0) (b.getD (k - i) 0)) k) f]
def divl (a b : List Int) : List Int := dvs a b (inv (b.getD 0 0)) a.length
/-- a number added to the first one -/
def addh (l : List Int) (x : Int) : List Int := l.set 0 (pls (l.getD 0 0) x)
def cmps (a b : List Int) : Nat → List Int
  | 0 => List.replicate a.length 0
  | j + 1 => addh (mull (cmps a b j) b) (a.getD (a.length - 1 - j) 0)
def cmpl (a b : List Int) : List Int := cmps a b a.length
def derl (a : List Int) : List Int := tab (fun k => if k + 1 < a.length then tms ((k : Int) + 1) (a.getD (k + 1) 0) else 0) a.length
def intl (a : List Int) : List Int := tab (fun k => if k = 0 then 0 else tms (a.getD (k - 1) 0) (inv (k : Int))) a.length
def exs (a : List Int) : Nat → List Int
  | 0 => [1]
  | k + 1 => exs a k ++ [tms (psum (fun i => tms (tms ((i : Int) + 1) (a.getD (i + 1) 0)) ((exs a k).getD (k - i) 0)) (k + 1)) (inv ((k : Int) + 1))]
def expl (a : List Int) : List Int := exs a (a.length - 1)
/-- the value, by Horner's rule -/
def hor (t : Int) : List Int → Int
  | [] => 0
  | x :: r => pls (tms (hor t r) t) x

theorem tab_len (f : Nat → Int) (n : Nat) : (tab f n).length = n := by simp [tab]
theorem tab_succ (f : Nat → Int) (n : Nat) : tab f (n + 1) = tab f n ++ [f n] := by simp [tab, List.range_succ]
theorem tab_at {f : Nat → Int} {n k : Nat} (h : k < n) : (tab f n).getD k 0 = f k := by simp [tab, List.getD_eq_getElem?_getD, h]
theorem addl_len (a b : List Int) : (addl a b).length = a.length := tab_len _ _
theorem mull_len (a b : List Int) : (mull a b).length = a.length := tab_len _ _
theorem dvs_len (a b : List Int) (f : Int) (k : Nat) : (dvs a b f k).length = k := by
  induction k with
  | zero => rfl
  | succ k ih => simp [dvs, ih]
theorem divl_len (a b : List Int) : (divl a b).length = a.length := dvs_len _ _ _ _
theorem addh_len (l : List Int) (x : Int) : (addh l x).length = l.length := by simp [addh]
theorem cmps_len (a b : List Int) (j : Nat) : (cmps a b j).length = a.length := by
  induction j with
  | zero => simp [cmps]
  | succ j ih => rw [cmps, addh_len, mull_len, ih]
theorem cmpl_len (a b : List Int) : (cmpl a b).length = a.length := cmps_len _ _ _
theorem derl_len (a : List Int) : (derl a).length = a.length := tab_len _ _
theorem intl_len (a : List Int) : (intl a).length = a.length := tab_len _ _
theorem exs_len (a : List Int) (k : Nat) : (exs a k).length = k + 1 := by
  induction k with
  | zero => rfl
  | succ k ih => simp [exs, ih]
theorem expl_len {a : List Int} (h : 1 ≤ a.length) : (expl a).length = a.length := by rw [expl, exs_len]; omega

theorem psum_bd (f : Nat → Int) (n : Nat) : 0 ≤ psum f n ∧ psum f n < 1000003 := by
  cases n with
  | zero => simp [psum]
  | succ n => exact pls_bd _ _
theorem hor_bd (t : Int) (l : List Int) : 0 ≤ hor t l ∧ hor t l < 1000003 := by
  cases l with
  | nil => simp [hor]
  | cons x r => exact pls_bd _ _

def Nms (l : List Int) : Prop := ∀ n ∈ l, 0 ≤ n ∧ n < 1000003
theorem nms_snoc {l : List Int} {x : Int} (h : Nms l) (hx : 0 ≤ x ∧ x < 1000003) : Nms (l ++ [x]) := by
  intro n hn
  rw [List.mem_append] at hn
  rcases hn with hn | hn
  · exact h n hn
  · rw [List.mem_singleton] at hn; rw [hn]; exact hx
theorem dvs_nms (a b : List Int) (f : Int) (k : Nat) : Nms (dvs a b f k) := by
  induction k with
  | zero => intro n hn; simp [dvs] at hn
  | succ k ih => rw [dvs]; exact nms_snoc ih (tms_bd _ _)
theorem tab_nms {f : Nat → Int} (n : Nat) (h : ∀ k, 0 ≤ f k ∧ f k < 1000003) : Nms (tab f n) := by
  intro x hx
  unfold tab at hx
  rw [List.mem_map] at hx
  obtain ⟨k, _, rfl⟩ := hx
  exact h k
theorem msub_bd {r : Int} (f : Nat → Int) (n : Nat) (hr : 0 ≤ r ∧ r < 1000003) : 0 ≤ msub r f n ∧ msub r f n < 1000003 := by
  cases n with
  | zero => exact hr
  | succ n => exact mns_bd _ _

end Go.Proofs.Ytegjlfbklcgapaa
