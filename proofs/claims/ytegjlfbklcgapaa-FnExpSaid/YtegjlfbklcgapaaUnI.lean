/- Derivatives and integrals of series: the program. -/
import Derived.Test.YtegjlfbklcgapaaUnS
namespace Go.Proofs.Ytegjlfbklcgapaa
open Go.RowKit

set_option maxHeartbeats 400000 in
theorem imult (k : Nat) (x : Int) (hk : k ≤ 1048576) (hx : -9223372036854775808 ≤ x ∧ x ≤ 9223372036854775807) (w : World) :
    Calls Try.prog 120 #[.int .i64 ((k : Int) + 1), .int .i64 x] w fun e w' => e = .returned (.int .i64 (tms ((k : Int) + 1) x)) ∧ w = w' := by
  go_enter Try.func120, Try.ntmps120
  go_wp2_with fail
  refine (iTimes ((k : Int) + 1) x (by omega) hx _).mono ?_; rintro e w' ⟨rfl, rfl⟩
  go_wp2_with fail
  go_ret
  exact ⟨rfl, rfl⟩

set_option maxHeartbeats 400000 in
theorem ishare (k : Nat) (x : Int) (hk : k ≤ 1048576) (hx : -9223372036854775808 ≤ x ∧ x ≤ 9223372036854775807) (w : World) :
    Calls Try.prog 119 #[.int .i64 x, .int .i64 ((k : Int) + 1)] w fun e w' => e = .returned (.int .i64 (tms x (inv ((k : Int) + 1)))) ∧ w = w' := by
  have ib := pwr_bd ((k : Int) + 1) 1000001
  have ib2 : 0 ≤ inv ((k : Int) + 1) ∧ inv ((k : Int) + 1) < 1000003 := ib
  clear ib
  go_enter Try.func119, Try.ntmps119
  go_wp2_with fail
  refine (iinv ((k : Int) + 1) (by omega) _).mono ?_; rintro e w' ⟨rfl, rfl⟩
  go_wp2_with fail
  refine (iTimes x (inv ((k : Int) + 1)) hx (by omega) _).mono ?_; rintro e w' ⟨rfl, rfl⟩
  go_wp2_with fail
  go_ret
  exact ⟨rfl, rfl⟩

set_option maxRecDepth 100000 in
set_option maxHeartbeats 3200000 in
theorem iDer (a : Option Addr) (ca : Nat) (l : List Int) (w : World) (ha : At w a l) (hr : Rng l) (hl0 : 1 ≤ l.length) (hl : l.length ≤ 1048576) :
    Calls Try.prog 107 #[.slice a l.length ca] w (Fresh2 w (dls l) 0) := by
  obtain ⟨b1, o1, rfl, hbl1, hc1⟩ := (ha.resolve_left (by intro e; rw [e] at hl0; simp at hl0))
  have HC1 := Lib.hid hc1
  obtain ⟨i0, hi, hz0, hz1, hz2⟩ := info_parts info64
  clear hc1 ha
  go_enter Try.func107, Try.ntmps107
  go_wp2_with (refine wpList_make_full _ rfl _ _ 69 rfl w.heap.size 2 i0 (.int .i64 0) 1 Try.underlying69 hi hz0 hz1 .i64 .i64 _ _ l.length rfl rfl rfl rfl ?c2 ?c3 (Nat.le_refl _) ?_)
  case c2 => rw [hz2]; omega
  case c3 => unfold maxLen; omega
  intro w1 ho1 hg1
  have hb1 := (Below.refl w.heap.size w).grown hg1 (Nat.le_refl _) (by intro k hk; cases hk)
  have ho2 := made_own ho1
  clear ho1 hg1 hi hz0 hz1 hz2
  go_wp2
  go_loopw [5] (fun i wr => ∃ (k : Nat) (xs : List Int), k + 1 ≤ l.length ∧ i = .int .i64 ((k : Int) + 1) ∧ xs.length = k ∧ Hid (xs = tab (dtm l) k) ∧ Own w.heap.size wr w.heap.size l.length (fillz l.length xs) ∧ Below w.heap.size w wr) (fun i _ => l.length - (intOf i).toNat)
  case atStart => exact ⟨0, [], hl0, rfl, rfl, rfl, ho2, hb1⟩
  case round =>
    obtain ⟨k, xs, hk, rfl, hxl, hxs, ho, hw⟩ := hrel
    have hfl : Hid ((fillz l.length xs).length = l.length) := fillz_len (by omega)
    by_cases hlt : k + 1 < l.length
    · have h1 : wr.cell? ⟨b1, o1 + (k + 1), none⟩ = some (.int .i64 (l.getD (k + 1) 0)) := (hw.cell (p := ⟨b1, o1 + (k + 1), none⟩) hbl1).trans (HC1.out (k + 1) hlt)
      have r1 := hr.at (k + 1)
      have hs2 : Hid (xs ++ [tms ((k : Int) + 1) (l.getD (k + 1) 0)] = tab (dtm l) (k + 1)) := by rw [tab_succ, hxs.out]; rfl
      have hcs := ho.cellAt k (by rw [hfl.out]; omega)
      have hfr := ho.frz k
      have hset := ho.set k (tms ((k : Int) + 1) (l.getD (k + 1) 0))
      rw [fillz_set' hxl (by omega)] at hset
      have hb2 := hw.setCell (p := ⟨w.heap.size, k, none⟩) (Nat.le_refl _) (.int .i64 (tms ((k : Int) + 1) (l.getD (k + 1) 0)))
      have hl2 : Hid ((xs ++ [tms ((k : Int) + 1) (l.getD (k + 1) 0)]).length = k + 1) := by show _ = _; simp [hxl]
      have hi1 : (k : Int) + 1 < (l.length : Int) := by omega
      clear ho hxs hxl hb1 ho2
      generalize l.getD (k + 1) 0 = x at h1 r1 hs2 hset hb2 hl2
      generalize (fillz l.length xs).getD k 0 = z at hcs
      go_wp2_with fail
      refine (imult k x (by omega) r1 _).mono ?_; rintro e w' ⟨rfl, rfl⟩
      generalize tms ((k : Int) + 1) x = y at hs2 hset hb2 hl2
      go_wp2
      go_roundw
      case rel => exact ⟨k + 1, xs ++ [y], by omega, by go_num, hl2.out, hs2, hset, hb2⟩
      case measure => simp [intOf]; omega
    · have hfin : Hid (fillz l.length xs = dls l) := by show _ = _; unfold dls; rw [hxs.out, show k = l.length - 1 from by omega]
      clear hxl hxs
      go_wp2
      go_ret2
      exact ⟨_, l.length, ret_slice2 (dls_len l).symm, by rw [← hfin.out]; exact ho, hw⟩

set_option maxRecDepth 100000 in
set_option maxHeartbeats 3200000 in
theorem iInt (a : Option Addr) (ca : Nat) (l : List Int) (w : World) (ha : At w a l) (hr : Rng l) (hl0 : 1 ≤ l.length) (hl : l.length ≤ 1048576) :
    Calls Try.prog 108 #[.slice a l.length ca] w (Fresh2 w (ils l) 0) := by
  obtain ⟨b1, o1, rfl, hbl1, hc1⟩ := (ha.resolve_left (by intro e; rw [e] at hl0; simp at hl0))
  have HC1 := Lib.hid hc1
  obtain ⟨i0, hi, hz0, hz1, hz2⟩ := info_parts info64
  clear hc1 ha
  go_enter Try.func108, Try.ntmps108
  go_wp2_with (refine wpList_make_full _ rfl _ _ 69 rfl w.heap.size 2 i0 (.int .i64 0) 1 Try.underlying69 hi hz0 hz1 .i64 .i64 _ _ l.length rfl rfl rfl rfl ?c2 ?c3 (Nat.le_refl _) ?_)
  case c2 => rw [hz2]; omega
  case c3 => unfold maxLen; omega
  intro w1 ho1 hg1
  have hb1 := (Below.refl w.heap.size w).grown hg1 (Nat.le_refl _) (by intro k hk; cases hk)
  have ho2 := made_own ho1
  rw [fillz_zero, fillz_nil_zero hl0] at ho2
  clear ho1 hg1 hi hz0 hz1 hz2
  go_wp2
  go_loopw [5] (fun i wr => ∃ (k : Nat) (xs : List Int), k + 1 ≤ l.length ∧ i = .int .i64 ((k : Int) + 1) ∧ xs.length = k + 1 ∧ Hid (xs = 0 :: tab (itm l) k) ∧ Own w.heap.size wr w.heap.size l.length (fillz l.length xs) ∧ Below w.heap.size w wr) (fun i _ => l.length - (intOf i).toNat)
  case atStart => exact ⟨0, [0], hl0, rfl, rfl, rfl, ho2, hb1⟩
  case round =>
    obtain ⟨k, xs, hk, rfl, hxl, hxs, ho, hw⟩ := hrel
    have hfl : Hid ((fillz l.length xs).length = l.length) := fillz_len (by omega)
    by_cases hlt : k + 1 < l.length
    · have h1 : wr.cell? ⟨b1, o1 + k, none⟩ = some (.int .i64 (l.getD k 0)) := (hw.cell (p := ⟨b1, o1 + k, none⟩) hbl1).trans (HC1.out k (by omega))
      have r1 := hr.at k
      have hs2 : Hid (xs ++ [tms (l.getD k 0) (inv ((k : Int) + 1))] = 0 :: tab (itm l) (k + 1)) := by rw [tab_succ, hxs.out]; rfl
      have hcs := ho.cellAt (k + 1) (by rw [hfl.out]; omega)
      have hfr := ho.frz (k + 1)
      have hset := ho.set (k + 1) (tms (l.getD k 0) (inv ((k : Int) + 1)))
      rw [fillz_set' hxl (by omega)] at hset
      have hb2 := hw.setCell (p := ⟨w.heap.size, k + 1, none⟩) (Nat.le_refl _) (.int .i64 (tms (l.getD k 0) (inv ((k : Int) + 1))))
      have hl2 : Hid ((xs ++ [tms (l.getD k 0) (inv ((k : Int) + 1))]).length = k + 1 + 1) := by show _ = _; simp [hxl]
      have hi1 : (k : Int) + 1 < (l.length : Int) := by omega
      clear ho hxs hxl hb1 ho2
      generalize l.getD k 0 = x at h1 r1 hs2 hset hb2 hl2
      generalize (fillz l.length xs).getD (k + 1) 0 = z at hcs
      have hki : (k : Int) < (l.length : Int) := by omega
      go_wp2_with fail
      refine (ishare k x (by omega) r1 _).mono ?_; rintro e w' ⟨rfl, rfl⟩
      generalize tms x (inv ((k : Int) + 1)) = y at hs2 hset hb2 hl2
      go_wp2
      go_roundw
      case rel => exact ⟨k + 1, xs ++ [y], by omega, by go_num, hl2.out, hs2, hset, hb2⟩
      case measure => simp [intOf]; omega
    · have hfin : Hid (fillz l.length xs = ils l) := by show _ = _; unfold ils; rw [fillz_full (by omega), hxs.out, show k = l.length - 1 from by omega]
      clear hxl hxs
      go_wp2
      go_ret2
      exact ⟨_, l.length, ret_slice2 (ils_len hl0).symm, by rw [← hfin.out]; exact ho, hw⟩

end Go.Proofs.Ytegjlfbklcgapaa
