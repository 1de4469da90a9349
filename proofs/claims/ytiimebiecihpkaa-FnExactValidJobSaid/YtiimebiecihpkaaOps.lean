/- Sums of series. The program's sum of two series. Two series of one order, or what is wrong with them; the sum of two series. The model's product of two series. The program's product of two series. The product, behind the checks. MulSeries, by the model and by the program. The model's quotient of two series. The program's quotient of two series. The quotient, behind the checks. DivSeries, by the model and by the program. The model's composition of two series. The program's composition of two series, behind the checks. ComposeSeries, by the model and by the program. -/
import Derived.StillTactics
import Derived.WalkSpells
import Derived.Laws.Pointers
import Derived.Deep.RegionHeld3
import Derived.Deep.AppendLies
import Derived.Deep.DrawnRows
import Derived.KernelRfl
import Derived.StillTailTactics
import Derived.Laws.EntriesVeiled
import Derived.Test.YtiimebiecihpkaaBase
namespace Go.Proofs.Ytiimebiecihpkaa
open Go.RowKit
attribute [local go_sem ↓] Go.wp_at_zero Go.wp_at_succ

theorem flip {P : Program} {f : FuncId} {args : Array Value} {w : World} {v : Value}
    (h : Calls P f args w fun e w' => e = .returned v ∧ w = w') : Calls P f args w fun e w'' => e = .returned v ∧ w'' = w :=
  h.mono fun _ _ ⟨he, hm⟩ => ⟨he, hm.symm⟩

theorem own_appended {B : Nat} {w : World} {g cap : Nat} {xs : List Int} {x : Int} (h : w.ownsRow B 2 1 (.slice (some ⟨g, 0, none⟩) (xs.length + 1) cap) (xs.length + 1) (xs.map (Value.int .i64) ++ [Value.int .i64 x])) :
    Own B w g cap (xs ++ [x]) := by
  unfold Own
  rw [List.length_append, List.map_append]
  exact h
theorem own_none (w : World) (B : Nat) (hB : B ≤ w.heap.size) : Own B (w.alloc (.cells #[] 2)) w.heap.size 0 [] := by
  unfold Own
  exact World.ownsRow_made w #[] 0 hB (by unfold maxLen; omega) rfl

theorem ret_slice {a : Option Addr} {n m c : Nat} (h : n = m) : Ending.returned (.slice a n c) = .returned (.slice a m c) := by rw [h]

end Go.Proofs.Ytiimebiecihpkaa

namespace Go.Proofs.Ytiimebiecihpkaa
open Go.RowKit

/-- The call answers a slice of its own that reads as l, and a code; nothing that was there has turned. -/
def Fresh2 (w : World) (l : List Int) (c : Int) (e : Ending) (w' : World) : Prop :=
  ∃ g cap, e = .returned (.tuple #[.slice (some ⟨g, 0, none⟩) l.length cap, .int .i64 c]) ∧ Own w.heap.size w' g cap l ∧ Below w.heap.size w w'

theorem ret_slice2 {a : Option Addr} {n m c : Nat} {z : Int} (h : n = m) : Ending.returned (.tuple #[.slice a n c, .int .i64 z]) = .returned (.tuple #[.slice a m c, .int .i64 z]) := by rw [h]

end Go.Proofs.Ytiimebiecihpkaa

namespace Go.Proofs.Ytiimebiecihpkaa
open Go.RowKit

def two (l m : List Int) : Int := if okS l = true ∧ okS m = true then (if l.length = m.length then 0 else 2) else 1
theorem two_bad1 {l m : List Int} (h : okS l = false) : two l m = 1 := by unfold two; rw [if_neg (by rw [h]; simp)]
theorem two_bad2 {l m : List Int} (h : okS m = false) : two l m = 1 := by unfold two; rw [if_neg (by rw [h]; simp)]
theorem two_len {l m : List Int} (h1 : okS l = true) (h2 : okS m = true) (h : l.length ≠ m.length) : two l m = 2 := by unfold two; rw [if_pos ⟨h1, h2⟩, if_neg h]
theorem two_ok {l m : List Int} (h1 : okS l = true) (h2 : okS m = true) (h : l.length = m.length) : two l m = 0 := by unfold two; rw [if_pos ⟨h1, h2⟩, if_pos h]

/-- The call answers a slice of its own, or one that holds nothing, that reads as l, and a code; nothing that was there has turned. -/
def Res2 (w : World) (l : List Int) (c : Int) (e : Ending) (w' : World) : Prop :=
  ∃ a cap, e = .returned (.tuple #[.slice a l.length cap, .int .i64 c]) ∧ OwnA w.heap.size w' a cap l ∧ Below w.heap.size w w'

theorem res2_of_fresh {w w1 : World} {l l' : List Int} {c c' : Int} {e : Ending} (hl : l = l') (hc : c = c') (h : Fresh2 w l c e w1) : Res2 w l' c' e w1 := by
  subst hl; subst hc
  obtain ⟨g, cap, he, ho, hb⟩ := h
  exact ⟨_, cap, he, ho.a, hb⟩

theorem At.alloc {w : World} {a : Option Addr} {l : List Int} (h : At w a l) (o : Obj) : At (w.alloc o) a l := h.below ((Below.refl _ _).alloc (Nat.le_refl _) o) (Nat.le_refl _)
theorem res2_alloc {w w1 : World} {o : Obj} {l : List Int} {c : Int} {e : Ending} (h : Res2 (w.alloc o) l c e w1) : Res2 w l c e w1 := by
  obtain ⟨a, cap, he, ho, hb⟩ := h
  have hs : w.heap.size ≤ (w.alloc o).heap.size := by simp
  refine ⟨a, cap, he, ?_, ((Below.refl _ _).alloc (Nat.le_refl _) o).trans (hb.mono hs)⟩
  rcases ho with h | ⟨g, h1, h2⟩
  · exact .inl h
  · exact .inr ⟨g, h1, h2.mono hs⟩

/-- What an operation on two series of one order gives, if there is nothing wrong with them. -/
def ifTwo (l m r : List Int) : List Int := if two l m = 0 then r else []
theorem two_cases (l m : List Int) : (two l m = 0 ∧ okS l = true ∧ okS m = true ∧ l.length = m.length) ∨ (two l m = 1 ∧ (okS l = false ∨ okS l = true ∧ okS m = false)) ∨ (two l m = 2 ∧ okS l = true ∧ okS m = true ∧ l.length ≠ m.length) := by
  cases h1 : okS l with
  | false => exact .inr (.inl ⟨two_bad1 h1, .inl rfl⟩)
  | true =>
    cases h2 : okS m with
    | false => exact .inr (.inl ⟨two_bad2 h2, .inr ⟨rfl, rfl⟩⟩)
    | true =>
      by_cases h : l.length = m.length
      · exact .inl ⟨two_ok h1 h2 h, rfl, rfl, h⟩
      · exact .inr (.inr ⟨two_len h1 h2 h, rfl, rfl, h⟩)

theorem ifTwo_len {l m r : List Int} {n : Nat} (h : r.length ≤ n) : (ifTwo l m r).length ≤ n := by
  unfold ifTwo; split
  · exact h
  · simp
theorem resLen_AddSeries (l m : List Int) (hl : l.length ≤ 1048576) (_ : m.length ≤ 1048576) : (ifTwo l m (addl l m)).length ≤ 1048576 := ifTwo_len (by rw [addl_len]; exact hl)

end Go.Proofs.Ytiimebiecihpkaa

namespace Go.Proofs.Ytiimebiecihpkaa
open Go.RowKit
attribute [local go_sem ↓] Go.wp_at_zero Go.wp_at_succ

end Go.Proofs.Ytiimebiecihpkaa

namespace Go.Proofs.Ytiimebiecihpkaa
open Go.RowKit

end Go.Proofs.Ytiimebiecihpkaa

namespace Go.Proofs.Ytiimebiecihpkaa
open Go.RowKit

def resMul (l m : List Int) : List Int := mull l m
def codMul (_ _ : List Int) : Int := 0
def allMul (l m : List Int) : List Int := ifTwo l m (resMul l m)
def alcMul (l m : List Int) : Int := if two l m = 0 then codMul l m else two l m
theorem resMul_len (l m : List Int) : (resMul l m).length ≤ l.length := by unfold resMul; rw [mull_len]; exact Nat.le_refl _

theorem okS_rng {l : List Int} (h : Hid (okS l = true)) : Rng l ∧ l.length ≤ 1048576 ∧ 1 ≤ l.length ∧ l.length ≤ 13 ∧ Nums l := by
  have := okS_t h.out
  exact ⟨this.2.2.rng, by omega, this.1, this.2.1, this.2.2⟩

end Go.Proofs.Ytiimebiecihpkaa

namespace Go.Proofs.Ytiimebiecihpkaa
open Go.RowKit
set_option linter.unusedVariables false

theorem resLen_MulSeries (l m : List Int) (hl : l.length ≤ 1048576) (_ : m.length ≤ 1048576) : (allMul l m).length ≤ 1048576 := ifTwo_len (Nat.le_trans (resMul_len l m) hl)

end Go.Proofs.Ytiimebiecihpkaa

namespace Go.Proofs.Ytiimebiecihpkaa
open Go.RowKit
attribute [local go_sem ↓] Go.wp_at_zero Go.wp_at_succ

set_option maxHeartbeats 400000 in
theorem sMinus (a b : Int) (ha : 0 ≤ a ∧ a < 1000003) (hb : 0 ≤ b ∧ b < 1000003) (w : World) :
    Calls Try.prog 208 #[.int .i64 a, .int .i64 b] w fun e w' => e = .returned (.int .i64 (mns a b)) ∧ w = w' := by
  go_enter Try.func208, Try.ntmps208
  go_wp2_with fail
  refine (sResidue _ (by omega) (by omega) _).mono ?_; rintro e w' ⟨rfl, rfl⟩
  go_wp2_with fail
  go_ret
  exact ⟨rfl, rfl⟩

end Go.Proofs.Ytiimebiecihpkaa

namespace Go.Proofs.Ytiimebiecihpkaa
open Go.RowKit

end Go.Proofs.Ytiimebiecihpkaa

namespace Go.Proofs.Ytiimebiecihpkaa
open Go.RowKit

def resDiv (l m : List Int) : List Int := if m.getD 0 0 = 0 then [] else divl l m
def codDiv (_ m : List Int) : Int := if m.getD 0 0 = 0 then 6 else 0
def allDiv (l m : List Int) : List Int := ifTwo l m (resDiv l m)
def alcDiv (l m : List Int) : Int := if two l m = 0 then codDiv l m else two l m
theorem resDiv_len (l m : List Int) : (resDiv l m).length ≤ l.length := by
  unfold resDiv; split
  · simp
  · rw [divl_len]; exact Nat.le_refl _

end Go.Proofs.Ytiimebiecihpkaa

namespace Go.Proofs.Ytiimebiecihpkaa
open Go.RowKit
set_option linter.unusedVariables false

theorem resLen_DivSeries (l m : List Int) (hl : l.length ≤ 1048576) (_ : m.length ≤ 1048576) : (allDiv l m).length ≤ 1048576 := ifTwo_len (Nat.le_trans (resDiv_len l m) hl)

end Go.Proofs.Ytiimebiecihpkaa

namespace Go.Proofs.Ytiimebiecihpkaa
open Go.RowKit

theorem set_nms {l : List Int} {k : Nat} {x : Int} (h : Nums l) (hx : 0 ≤ x ∧ x < 1000003) : Nums (l.set k x) := by
  intro n hn
  rcases List.mem_or_eq_of_mem_set hn with hn | hn
  · exact h n hn
  · rw [hn]; exact hx
theorem rep_nms (n : Nat) : Nums (List.replicate n 0) := by
  intro x hx
  rw [List.mem_replicate] at hx
  omega
theorem mull_nms (a b : List Int) : Nums (mull a b) := tab_nms _ fun _ => psum_bd _ _
theorem cmps_nms (a b : List Int) (j : Nat) : Nums (cmps a b j) := by
  cases j with
  | zero => exact rep_nms _
  | succ j => exact set_nms (mull_nms _ _) (pls_bd _ _)

/-- n numbers, the first one x, all others 0 -/
def cstl (x : Int) (n : Nat) : List Int := (List.replicate n 0).set 0 x
theorem cstl_len (x : Int) (n : Nat) : (cstl x n).length = n := by simp [cstl]

theorem cstl_zero (n : Nat) : cstl 0 n = List.replicate n 0 := by
  unfold cstl
  cases n with
  | zero => rfl
  | succ n => rw [List.replicate_succ, List.set_cons_zero]

end Go.Proofs.Ytiimebiecihpkaa

namespace Go.Proofs.Ytiimebiecihpkaa
open Go.RowKit

def resCompose (l m : List Int) : List Int := if m.getD 0 0 = 0 then cmpl l m else []
def codCompose (_ m : List Int) : Int := if m.getD 0 0 = 0 then 0 else 4
def allCompose (l m : List Int) : List Int := ifTwo l m (resCompose l m)
def alcCompose (l m : List Int) : Int := if two l m = 0 then codCompose l m else two l m
theorem resCompose_len (l m : List Int) : (resCompose l m).length ≤ l.length := by
  unfold resCompose; split
  · rw [cmpl_len]; exact Nat.le_refl _
  · simp

end Go.Proofs.Ytiimebiecihpkaa

namespace Go.Proofs.Ytiimebiecihpkaa
open Go.RowKit
set_option linter.unusedVariables false

theorem resLen_ComposeSeries (l m : List Int) (hl : l.length ≤ 1048576) (_ : m.length ≤ 1048576) : (allCompose l m).length ≤ 1048576 := ifTwo_len (Nat.le_trans (resCompose_len l m) hl)

end Go.Proofs.Ytiimebiecihpkaa
