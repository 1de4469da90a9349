/- SolveLinear by the program. -/
import Derived.Test.YtiimebiecihpkaaMxp
namespace Go.Proofs.Ytiimebiecihpkaa
open Go.RowKit
set_option linter.unusedVariables false

def slB (ls : List (List Int)) (l : List Int) : Bool := sqB ls && areB l (ls.length : Int)
def slR (ls : List (List Int)) (l : List Int) : List Int := if slB ls l = true then slP ls.length ls l else []
def slC (ls : List (List Int)) (l : List Int) : Int := if slB ls l = true then slD ls.length ls l else 1
theorem sl_no {ls : List (List Int)} {l : List Int} (h : slB ls l = false) : slR ls l = [] ∧ slC ls l = 1 := by unfold slR slC; rw [if_neg (by rw [h]; simp), if_neg (by rw [h]; simp)]; exact ⟨rfl, rfl⟩
theorem sl_yes {ls : List (List Int)} {l : List Int} (h : slB ls l = true) : slR ls l = slP ls.length ls l ∧ slC ls l = slD ls.length ls l := by unfold slR slC; rw [if_pos h, if_pos h]; exact ⟨rfl, rfl⟩
theorem slB_t {ls : List (List Int)} {l : List Int} (h : slB ls l = true) : sqB ls = true ∧ l.length = ls.length ∧ okNums l = true := by
  unfold slB at h; rw [Bool.and_eq_true] at h
  refine ⟨h.1, ?_, ?_⟩
  · have h2 := h.2; unfold areB at h2; rw [Bool.and_eq_true] at h2; have := of_decide_eq_true h2.1; omega
  · have h2 := h.2; unfold areB at h2; rw [Bool.and_eq_true] at h2; exact h2.2
/-- a list, held or not, and a code -/
def Res2A (w : World) (l : List Int) (c : Int) (e : Ending) (w' : World) : Prop := ∃ a cap, e = .returned (.tuple #[.slice a l.length cap, .int .i64 c]) ∧ OwnA w.heap.size w' a cap l ∧ Below w.heap.size w w'

set_option maxRecDepth 100000 in
set_option maxHeartbeats 3200000 in
theorem iSolveLinear (a : Option Addr) (ca : Nat) (b : Option Addr) (cb : Nat) (ls : List (List Int)) (l : List Int) (w : World) (ha : Mat w a ls) (hb : At w b l) (hs : mSz ls ≤ 1048576) (hl : l.length ≤ 1048576) (hcb : l.length ≤ cb) (hcb2 : cb ≤ 9223372036854775807) :
    Calls Try.prog 19 #[.slice a ls.length ca, .slice b l.length cb] w (Res2A w (slR ls l) (slC ls l)) := by
  have HQ := Lib.hid (iSquare a ca ls w ha hs)
  have HB := Lib.hid (iAre b cb l (ls.length : Int) w hb hl)
  cases hq : sqB ls with
  | false =>
    have HR := Lib.hid (sl_no (ls := ls) (l := l) (by unfold slB; rw [hq]; rfl))
    rw [hq] at HQ
    clear hq ha hb
    go_enter Try.func19, Try.ntmps19
    go_wp2_with fail
    refine HQ.out.mono ?_; rintro e w1 ⟨rfl, rfl⟩
    go_wp2_with fail
    go_ret2
    exact ⟨none, 0, ret_slc (by rw [HR.out.1]; rfl) HR.out.2.symm, .inl HR.out.1, Below.refl _ _⟩
  | true =>
    rw [hq] at HQ
    cases hr : areB l (ls.length : Int) with
    | false =>
      have HR := Lib.hid (sl_no (ls := ls) (l := l) (by unfold slB; rw [hr, Bool.and_false]))
      rw [hr] at HB
      clear hq hr ha hb
      go_enter Try.func19, Try.ntmps19
      go_wp2_with fail
      refine HQ.out.mono ?_; rintro e w1 ⟨rfl, rfl⟩
      go_wp2_with fail
      refine HB.out.mono ?_; rintro e w1 ⟨rfl, rfl⟩
      go_wp2_with fail
      go_ret2
      exact ⟨none, 0, ret_slc (by rw [HR.out.1]; rfl) HR.out.2.symm, .inl HR.out.1, Below.refl _ _⟩
    | true =>
      have hsl : slB ls l = true := by unfold slB; rw [hq, hr]; rfl
      have HR := Lib.hid (sl_yes hsl)
      obtain ⟨_, hll, hok⟩ := slB_t hsl
      have HS := Lib.hid (iSolution a ca b cb ls.length ls l w ha hb (sq_of hq) hll (okNums_nums hok) (by omega) hcb2)
      have HLL := Lib.hid hll
      rw [hr] at HB
      rw [hll] at HB ⊢
      clear hq hr ha hb hsl hok hll
      go_enter Try.func19, Try.ntmps19
      go_wp2_with fail
      refine HQ.out.mono ?_; rintro e w1 ⟨rfl, rfl⟩
      go_wp2_with fail
      refine HB.out.mono ?_; rintro e w1 ⟨rfl, rfl⟩
      go_wp2_with fail
      refine HS.out.mono ?_; rintro e w2 ⟨g, cap, rfl, ho, hb2⟩
      go_wp2_with fail
      go_ret2
      exact ⟨some ⟨g, 0, none⟩, cap, ret_slc (by rw [HR.out.1]) HR.out.2.symm, by rw [HR.out.1]; exact ho.a, hb2⟩

end Go.Proofs.Ytiimebiecihpkaa
