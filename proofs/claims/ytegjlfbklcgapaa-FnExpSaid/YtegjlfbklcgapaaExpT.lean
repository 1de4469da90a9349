/- ExpSeries, by the program. -/
import Derived.Test.YtegjlfbklcgapaaExpI
namespace Go.Proofs.Ytegjlfbklcgapaa
open Go.RowKit
set_option linter.unusedVariables false

set_option maxRecDepth 100000 in
set_option maxHeartbeats 1600000 in
theorem itransform3 (a : Option Addr) (ca : Nat) (l : List Int) (w : World) (ha : At w a l) (hl : l.length ≤ 1048576) :
    Calls Try.prog 82 #[.int .i64 3, .slice a l.length ca] w (Res2 w (allExpSeries l) (alcExpSeries l)) := by
  cases h1 : okS l with
  | true =>
    have hif := Lib.hid (show resExpSeries l = allExpSeries l by unfold allExpSeries; rw [if_pos h1])
    have hic := Lib.hid (show codExpSeries l = alcExpSeries l by unfold alcExpSeries; rw [if_pos h1])
    have H1 := Lib.hid h1
    clear h1
    go_enter Try.func82, Try.ntmps82
    go_wp2_with fail
    refine (iValid a ca l _ ha (by omega)).mono ?_; rintro e w' ⟨rfl, rfl⟩
    rw [H1.out]
    go_wp2_with fail
    refine (iExpSeriesR a ca l _ (by exact ha.alloc _) H1).mono ?_; rintro e w1 ⟨g, cap, rfl, ho, hbel⟩
    go_wp2_with fail
    go_ret2
    rw [← hif.out, ← hic.out]
    exact res2_alloc ⟨g, cap, rfl, ho, hbel⟩
  | false =>
    have hif := Lib.hid (show ([] : List Int) = allExpSeries l by unfold allExpSeries; rw [if_neg (by rw [h1]; simp)])
    have hic := Lib.hid (show (1 : Int) = alcExpSeries l by unfold alcExpSeries; rw [if_neg (by rw [h1]; simp)])
    have H1 := Lib.hid h1
    clear h1
    go_enter Try.func82, Try.ntmps82
    go_wp2_with fail
    refine (iValid a ca l _ ha (by omega)).mono ?_; rintro e w' ⟨rfl, rfl⟩
    rw [H1.out]
    go_wp2_with fail
    go_ret2
    rw [← hif.out, ← hic.out]
    exact ⟨none, 0, rfl, .inl rfl, Below.refl _ _⟩

set_option maxHeartbeats 800000 in
theorem iExpSeries (a : Option Addr) (ca : Nat) (l : List Int) (w : World) (ha : At w a l) (_ : Rng l) (hl : l.length ≤ 1048576) :
    Calls Try.prog 44 #[.slice a l.length ca] w (Res2 w (allExpSeries l) (alcExpSeries l)) := by
  go_enter Try.func44, Try.ntmps44
  go_wp2_with fail
  refine (itransform3 a ca l _ ha hl).mono ?_; rintro e w1 ⟨g, cap, rfl, ho, hbel⟩
  go_wp2_with fail
  go_ret2
  exact ⟨g, cap, rfl, ho, hbel⟩

theorem resLen_ExpSeries (l : List Int) (hl : l.length ≤ 1048576) : (allExpSeries l).length ≤ 1048576 := by
  unfold allExpSeries; split
  · rename_i h; exact Nat.le_trans (resExpSeries_len l (okS_t h).1) hl
  · simp

end Go.Proofs.Ytegjlfbklcgapaa
