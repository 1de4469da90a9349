/- What each function on single numbers answers. -/
import Derived.Test.YtegjlfbklcgapaaProg
import Derived.WalkKit
import Derived.WalkLawsBesides
import Derived.Lib.Hide
import Derived.Outline
import Derived.Test.YtegjlfbklcgapaaMath
namespace Go.Proofs.Ytegjlfbklcgapaa
open Go.RowKit

theorem ret_int {k : IntKind} {a b : Int} (h : a = b) : Ending.returned (.int k a) = .returned (.int k b) := by rw [h]

theorem tmod_neg {n : Int} (h : n < 0) : -1000003 < n.tmod 1000003 ∧ n.tmod 1000003 ≤ 0 ∧ (n.tmod 1000003 < 0 → n.tmod 1000003 + 1000003 = res n) ∧ (n.tmod 1000003 = 0 → res n = 0) := by
  unfold res
  have e : n.tmod 1000003 = -((-n) % 1000003) := by
    rw [← Int.tmod_eq_emod_of_nonneg (by omega), Int.neg_tmod, Int.neg_neg]
  rw [e]
  omega

set_option maxHeartbeats 400000 in
theorem iResidue (n : Int) (hlo : -9223372036854775808 ≤ n) (hhi : n ≤ 9223372036854775807) (w : World) :
    Calls Try.prog 31 #[.int .i64 n] w fun e w' => e = .returned (.int .i64 (res n)) ∧ w = w' := by
  by_cases h : 0 ≤ n
  · have hm : 0 ≤ n % 1000003 := by omega
    go_enter Try.func31, Try.ntmps31
    go_wp2
    go_ret
    exact ⟨rfl, rfl⟩
  · obtain ⟨h1, h2, h3, h4⟩ := tmod_neg (n := n) (by omega)
    by_cases ht : n.tmod 1000003 < 0
    · have H3 := Lib.hid (h3 ht)
      clear h3 h4
      go_enter Try.func31, Try.ntmps31
      go_wp2
      go_ret
      exact ⟨ret_int H3.out, rfl⟩
    · have h5 : n.tmod 1000003 = 0 := by omega
      have H4 := Lib.hid (h4 h5)
      have H5 := Lib.hid h5
      clear h3 h4 h5
      go_enter Try.func31, Try.ntmps31
      go_wp2
      go_ret
      exact ⟨ret_int (by rw [H4.out, H5.out]), rfl⟩

set_option maxHeartbeats 400000 in
theorem sResidue (n : Int) (hlo : -9223372036854775808 ≤ n) (hhi : n ≤ 9223372036854775807) (w : World) :
    Calls Try.prog 50 #[.int .i64 n] w fun e w' => e = .returned (.int .i64 (res n)) ∧ w = w' := by
  by_cases h : 0 ≤ n
  · have hm : 0 ≤ n % 1000003 := by omega
    go_enter Try.func50, Try.ntmps50
    go_wp2
    go_ret
    exact ⟨rfl, rfl⟩
  · obtain ⟨h1, h2, h3, h4⟩ := tmod_neg (n := n) (by omega)
    by_cases ht : n.tmod 1000003 < 0
    · have H3 := Lib.hid (h3 ht)
      clear h3 h4
      go_enter Try.func50, Try.ntmps50
      go_wp2
      go_ret
      exact ⟨ret_int H3.out, rfl⟩
    · have h5 : n.tmod 1000003 = 0 := by omega
      have H4 := Lib.hid (h4 h5)
      have H5 := Lib.hid h5
      clear h3 h4 h5
      go_enter Try.func50, Try.ntmps50
      go_wp2
      go_ret
      exact ⟨ret_int (by rw [H4.out, H5.out]), rfl⟩

set_option maxHeartbeats 400000 in
theorem iPlus (a b : Int) (ha : -9223372036854775808 ≤ a ∧ a ≤ 9223372036854775807) (hb : -9223372036854775808 ≤ b ∧ b ≤ 9223372036854775807) (w : World) :
    Calls Try.prog 28 #[.int .i64 a, .int .i64 b] w fun e w' => e = .returned (.int .i64 (pls a b)) ∧ w = w' := by
  have b1 := res_bd a
  have b2 := res_bd b
  go_enter Try.func28, Try.ntmps28
  go_wp2_with fail
  refine (iResidue _ (by omega) (by omega) _).mono ?_; rintro e w' ⟨rfl, rfl⟩
  go_wp2_with fail
  refine (iResidue _ (by omega) (by omega) _).mono ?_; rintro e w' ⟨rfl, rfl⟩
  go_wp2_with fail
  refine (iResidue _ (by omega) (by omega) _).mono ?_; rintro e w' ⟨rfl, rfl⟩
  go_wp2_with fail
  go_ret
  exact ⟨ret_int (pls_res' a b), rfl⟩

set_option maxHeartbeats 400000 in
theorem imns (a b : Int) (ha : -9223372036854775808 ≤ a ∧ a ≤ 9223372036854775807) (hb : -9223372036854775808 ≤ b ∧ b ≤ 9223372036854775807) (w : World) :
    Calls Try.prog 121 #[.int .i64 a, .int .i64 b] w fun e w' => e = .returned (.int .i64 (mns a b)) ∧ w = w' := by
  have b1 := res_bd a
  have b2 := res_bd b
  go_enter Try.func121, Try.ntmps121
  go_wp2_with fail
  refine (iResidue _ (by omega) (by omega) _).mono ?_; rintro e w' ⟨rfl, rfl⟩
  go_wp2_with fail
  refine (iResidue _ (by omega) (by omega) _).mono ?_; rintro e w' ⟨rfl, rfl⟩
  go_wp2_with fail
  refine (iResidue _ (by omega) (by omega) _).mono ?_; rintro e w' ⟨rfl, rfl⟩
  go_wp2_with fail
  go_ret
  exact ⟨ret_int (mns_res' a b), rfl⟩

set_option maxHeartbeats 400000 in
theorem iTimes (a b : Int) (ha : -9223372036854775808 ≤ a ∧ a ≤ 9223372036854775807) (hb : -9223372036854775808 ≤ b ∧ b ≤ 9223372036854775807) (w : World) :
    Calls Try.prog 29 #[.int .i64 a, .int .i64 b] w fun e w' => e = .returned (.int .i64 (tms a b)) ∧ w = w' := by
  have b1 := res_bd a
  have b2 := res_bd b
  have b3 := res_mul_bd b1 b2
  go_enter Try.func29, Try.ntmps29
  go_wp2_with fail
  refine (iResidue _ (by omega) (by omega) _).mono ?_; rintro e w' ⟨rfl, rfl⟩
  go_wp2_with fail
  refine (iResidue _ (by omega) (by omega) _).mono ?_; rintro e w' ⟨rfl, rfl⟩
  go_wp2_with fail
  refine (iResidue _ (by omega) (by omega) _).mono ?_; rintro e w' ⟨rfl, rfl⟩
  go_wp2_with fail
  go_ret
  exact ⟨ret_int (tms_res' a b), rfl⟩

set_option maxHeartbeats 400000 in
theorem sPlus (a b : Int) (ha : -9223372036854775808 ≤ a ∧ a ≤ 9223372036854775807) (hb : -9223372036854775808 ≤ b ∧ b ≤ 9223372036854775807) (w : World) :
    Calls Try.prog 51 #[.int .i64 a, .int .i64 b] w fun e w' => e = .returned (.int .i64 (pls a b)) ∧ w = w' := by
  have b1 := res_bd a
  have b2 := res_bd b
  go_enter Try.func51, Try.ntmps51
  go_wp2_with fail
  refine (sResidue _ (by omega) (by omega) _).mono ?_; rintro e w' ⟨rfl, rfl⟩
  go_wp2_with fail
  refine (sResidue _ (by omega) (by omega) _).mono ?_; rintro e w' ⟨rfl, rfl⟩
  go_wp2_with fail
  go_ret
  exact ⟨ret_int (pls_res' a b), rfl⟩

set_option maxHeartbeats 400000 in
theorem sTimes (a b : Int) (ha : -9223372036854775808 ≤ a ∧ a ≤ 9223372036854775807) (hb : -9223372036854775808 ≤ b ∧ b ≤ 9223372036854775807) (w : World) :
    Calls Try.prog 52 #[.int .i64 a, .int .i64 b] w fun e w' => e = .returned (.int .i64 (tms a b)) ∧ w = w' := by
  have b1 := res_bd a
  have b2 := res_bd b
  have b3 := res_mul_bd b1 b2
  go_enter Try.func52, Try.ntmps52
  go_wp2_with fail
  refine (sResidue _ (by omega) (by omega) _).mono ?_; rintro e w' ⟨rfl, rfl⟩
  go_wp2_with fail
  refine (sResidue _ (by omega) (by omega) _).mono ?_; rintro e w' ⟨rfl, rfl⟩
  go_wp2_with fail
  go_ret
  exact ⟨ret_int (tms_res' a b), rfl⟩

end Go.Proofs.Ytegjlfbklcgapaa
