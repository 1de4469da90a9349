/- Powers, inverses, and the small functions over an index. -/
import Derived.Test.YtegjlfbklcgapaaScalar
namespace Go.Proofs.Ytegjlfbklcgapaa
open Go.RowKit

set_option maxHeartbeats 800000 in
theorem iPower (a : Int) (n : Nat) (ha : -9223372036854775808 ≤ a ∧ a ≤ 9223372036854775807) (hn : n ≤ 9223372036854775807) (w : World) :
    Calls Try.prog 32 #[.int .i64 a, .int .i64 n] w fun e w' => e = .returned (.int .i64 (pwr a n)) ∧ w = w' := by
  have b1 := res_bd a
  have hs := pinv_start a n
  go_enter Try.func32, Try.ntmps32
  go_wp2_with fail
  refine (iResidue _ (by omega) (by omega) _).mono ?_; rintro e w' ⟨rfl, rfl⟩
  go_wp2_with fail
  go_loop [1, 5, 6] (fun i r s => ∃ (m : Nat) (x y : Int), i = .int .i64 m ∧ r = .int .i64 x ∧ s = .int .i64 y ∧ m ≤ 9223372036854775807 ∧ (0 ≤ x ∧ x < 1000003) ∧ (0 ≤ y ∧ y < 1000003) ∧ Pinv x y m a n) (fun i _ _ => (intOf i).toNat)
  case atStart => exact ⟨n, 1, res a, rfl, rfl, rfl, hn, by omega, b1, hs⟩
  case round =>
    obtain ⟨m, x, y, rfl, rfl, rfl, hm, hx, hy, hp⟩ := hrel
    by_cases h0 : m = 0
    · subst h0
      have HE := Lib.hid (pinv_end hx.1 hx.2 hp)
      clear hs hp
      go_wp2_with fail
      go_ret
      exact ⟨ret_int HE.out, rfl⟩
    · have h0' : (0 : Int) < m := by omega
      have t1 := tms_bd x y
      have t2 := tms_bd y y
      by_cases h1 : m % 2 = 1
      · have h1' : ((m : Int) % 2 == 1) = true := by rw [beq_iff_eq]; omega
        have hq := pinv_odd h1 hp
        clear hs hp h1
        go_wp2_with fail
        refine (iTimes _ _ (by omega) (by omega) _).mono ?_; rintro e w' ⟨rfl, rfl⟩
        go_wp2_with fail
        refine (iTimes _ _ (by omega) (by omega) _).mono ?_; rintro e w' ⟨rfl, rfl⟩
        go_wp2_with fail
        go_round
        case rel => exact ⟨m / 2, _, _, by go_num, rfl, rfl, by omega, t1, t2, hq⟩
        case measure => simp [intOf]; omega
      · have h1' : ((m : Int) % 2 == 1) = false := by rw [beq_eq_false_iff_ne]; omega
        have hq := pinv_even (by omega) hp
        clear hs hp h1
        go_wp2_with fail
        refine (iTimes _ _ (by omega) (by omega) _).mono ?_; rintro e w' ⟨rfl, rfl⟩
        go_wp2_with fail
        go_round
        case rel => exact ⟨m / 2, _, _, by go_num, rfl, rfl, by omega, hx, t2, hq⟩
        case measure => simp [intOf]; omega

set_option maxHeartbeats 400000 in
theorem iPowerNeg (a n : Int) (hn : n < 0) (w : World) :
    Calls Try.prog 32 #[.int .i64 a, .int .i64 n] w fun e w' => e = .returned (.int .i64 0) ∧ w = w' := by
  go_enter Try.func32, Try.ntmps32
  go_wp2_with fail
  go_ret
  exact ⟨rfl, rfl⟩

set_option maxHeartbeats 800000 in
theorem sPower (a : Int) (n : Nat) (ha : -9223372036854775808 ≤ a ∧ a ≤ 9223372036854775807) (hn : n ≤ 9223372036854775807) (w : World) :
    Calls Try.prog 53 #[.int .i64 a, .int .i64 n] w fun e w' => e = .returned (.int .i64 (pwr a n)) ∧ w = w' := by
  have b1 := res_bd a
  have hs := pinv_start a n
  go_enter Try.func53, Try.ntmps53
  go_wp2_with fail
  refine (sResidue _ (by omega) (by omega) _).mono ?_; rintro e w' ⟨rfl, rfl⟩
  go_wp2_with fail
  go_loop [1, 5, 6] (fun i r s => ∃ (m : Nat) (x y : Int), i = .int .i64 m ∧ r = .int .i64 x ∧ s = .int .i64 y ∧ m ≤ 9223372036854775807 ∧ (0 ≤ x ∧ x < 1000003) ∧ (0 ≤ y ∧ y < 1000003) ∧ Pinv x y m a n) (fun i _ _ => (intOf i).toNat)
  case atStart => exact ⟨n, 1, res a, rfl, rfl, rfl, hn, by omega, b1, hs⟩
  case round =>
    obtain ⟨m, x, y, rfl, rfl, rfl, hm, hx, hy, hp⟩ := hrel
    by_cases h0 : m = 0
    · subst h0
      have HE := Lib.hid (pinv_end hx.1 hx.2 hp)
      clear hs hp
      go_wp2_with fail
      go_ret
      exact ⟨ret_int HE.out, rfl⟩
    · have h0' : (0 : Int) < m := by omega
      have t1 := tms_bd x y
      have t2 := tms_bd y y
      by_cases h1 : m % 2 = 1
      · have h1' : ((m : Int) % 2 == 1) = true := by rw [beq_iff_eq]; omega
        have hq := pinv_odd h1 hp
        clear hs hp h1
        go_wp2_with fail
        refine (sTimes _ _ (by omega) (by omega) _).mono ?_; rintro e w' ⟨rfl, rfl⟩
        go_wp2_with fail
        refine (sTimes _ _ (by omega) (by omega) _).mono ?_; rintro e w' ⟨rfl, rfl⟩
        go_wp2_with fail
        go_round
        case rel => exact ⟨m / 2, _, _, by go_num, rfl, rfl, by omega, t1, t2, hq⟩
        case measure => simp [intOf]; omega
      · have h1' : ((m : Int) % 2 == 1) = false := by rw [beq_eq_false_iff_ne]; omega
        have hq := pinv_even (by omega) hp
        clear hs hp h1
        go_wp2_with fail
        refine (sTimes _ _ (by omega) (by omega) _).mono ?_; rintro e w' ⟨rfl, rfl⟩
        go_wp2_with fail
        go_round
        case rel => exact ⟨m / 2, _, _, by go_num, rfl, rfl, by omega, hx, t2, hq⟩
        case measure => simp [intOf]; omega

set_option maxHeartbeats 400000 in
theorem sPowerNeg (a n : Int) (hn : n < 0) (w : World) :
    Calls Try.prog 53 #[.int .i64 a, .int .i64 n] w fun e w' => e = .returned (.int .i64 0) ∧ w = w' := by
  go_enter Try.func53, Try.ntmps53
  go_wp2_with fail
  go_ret
  exact ⟨rfl, rfl⟩

end Go.Proofs.Ytegjlfbklcgapaa
