/- LogSeries, by the program. -/
import Derived.Test.YtegjlfbklcgapaaLogP
namespace Go.Proofs.Ytegjlfbklcgapaa
open Go.RowKit
set_option linter.unusedVariables false

set_option maxRecDepth 100000 in
set_option maxHeartbeats 1600000 in
theorem itransform4 (a : Option Addr) (ca : Nat) (l : List Int) (w : World) (ha : At w a l) (hl : l.length ≤ 1048576) :
    Calls Try.prog 82 #[.int .i64 4, .slice a l.length ca] w (Res2 w (allLogSeries l) (alcLogSeries l)) := by
  cases h1 : okS l with
  | true =>
    have hif := Lib.hid (show resLogSeries l = allLogSeries l by unfold allLogSeries; rw [if_pos h1])
    have hic := Lib.hid (show codLogSeries l = alcLogSeries l by unfold alcLogSeries; rw [if_pos h1])
    have H1 := Lib.hid h1
    clear h1
    go_enter Try.func82, Try.ntmps82
    go_wp2_with fail
    refine (iValid a ca l _ ha (by omega)).mono ?_; rintro e w' ⟨rfl, rfl⟩
    rw [H1.out]
    go_wp2_with fail
    refine (iLogSeriesR a ca l _ (by exact ha.alloc _) H1).mono ?_; rintro e w1 ⟨g, cap, rfl, ho, hbel⟩
    go_wp2_with fail
    go_ret2
    rw [← hif.out, ← hic.out]
    exact res2_alloc ⟨g, cap, rfl, ho, hbel⟩
  | false =>
    have hif := Lib.hid (show ([] : List Int) = allLogSeries l by unfold allLogSeries; rw [if_neg (by rw [h1]; simp)])
    have hic := Lib.hid (show (1 : Int) = alcLogSeries l by unfold alcLogSeries; rw [if_neg (by rw [h1]; simp)])
    have H1 := Lib.hid h1
    clear h1
    go_enter Try.func82, Try.ntmps82
    go_wp2_with fail
    refine (iValid a ca l _ ha (by omega)).mono ?_; rintro e w' ⟨rfl, rfl⟩
    rw [H1.out]
    go_wp2_with fail
    go_ret2
    rw [← hif.out, ← hic.out]
    exact ⟨none, 0, rfl, .inl rfl, Below.refl _ _⟩

set_option maxHeartbeats 800000 in
theorem iLogSeries (a : Option Addr) (ca : Nat) (l : List Int) (w : World) (ha : At w a l) (_ : Rng l) (hl : l.length ≤ 1048576) :
    Calls Try.prog 46 #[.slice a l.length ca] w (Res2 w (allLogSeries l) (alcLogSeries l)) := by
  go_enter Try.func46, Try.ntmps46
  go_wp2_with fail
  refine (itransform4 a ca l _ ha hl).mono ?_; rintro e w1 ⟨g, cap, rfl, ho, hbel⟩
  go_wp2_with fail
  go_ret2
  exact ⟨g, cap, rfl, ho, hbel⟩

theorem resLen_LogSeries (l : List Int) (hl : l.length ≤ 1048576) : (allLogSeries l).length ≤ 1048576 := by
  unfold allLogSeries; split
  · rename_i h; exact Nat.le_trans (resLogSeries_len l (okS_t h).1) hl
  · simp

end Go.Proofs.Ytegjlfbklcgapaa
