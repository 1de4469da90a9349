/- Derivatives and integrals of series: the model. -/
import Derived.Test.YtegjlfbklcgapaaCmpT
namespace Go.Proofs.Ytegjlfbklcgapaa
open Go.RowKit

def dtm (l : List Int) (k : Nat) : Int := tms ((k : Int) + 1) (l.getD (k + 1) 0)
def itm (l : List Int) (k : Nat) : Int := tms (l.getD k 0) (inv ((k : Int) + 1))
def dls (l : List Int) : List Int := fillz l.length (tab (dtm l) (l.length - 1))
def ils (l : List Int) : List Int := 0 :: tab (itm l) (l.length - 1)
theorem dls_len (l : List Int) : (dls l).length = l.length := fillz_len (by rw [tab_len]; omega)
theorem ils_len {l : List Int} (h : 1 ≤ l.length) : (ils l).length = l.length := by simp [ils, tab_len]; omega
theorem fillz_nil_zero {n : Nat} (h : 1 ≤ n) : List.replicate n (0 : Int) = fillz n [0] := by
  rw [← fillz_zero, fillz_snoc0 (by simp; omega)]; rfl
theorem fillz_set' {n k : Nat} {xs : List Int} (hx : xs.length = k) (h : k < n) (v : Int) : (fillz n xs).set k v = fillz n (xs ++ [v]) := by
  subst hx; exact fillz_set h v

set_option maxRecDepth 100000 in
set_option maxHeartbeats 3200000 in
theorem sDer (a : Option Addr) (ca : Nat) (l : List Int) (w : World) (ha : At w a l) (hr : Rng l) (hl0 : 1 ≤ l.length) (hl : l.length ≤ 1048576) :
    Calls Try.prog 94 #[.slice a l.length ca] w (Fresh w (dls l)) := by
  obtain ⟨b1, o1, rfl, hbl1, hc1⟩ := (ha.resolve_left (by intro e; rw [e] at hl0; simp at hl0))
  have HC1 := Lib.hid hc1
  clear hc1 ha
  go_enter Try.func94, Try.ntmps94
  go_wp2_with fail
  refine (sConst 0 l.length _ hl).mono ?_
  rintro e w1 ⟨g1, c1, rfl, ho1, hb1⟩
  have ho1' : Own w.heap.size w1 g1 c1 (fillz l.length []) := by rw [cstl_zero] at ho1; rw [fillz_zero]; exact ho1
  rw [cstl_len]
  clear ho1
  go_wp2_with fail
  go_loopw [4] (fun i wr => ∃ (k : Nat) (xs : List Int), k + 1 ≤ l.length ∧ i = .int .i64 k ∧ xs.length = k ∧ Hid (xs = tab (dtm l) k) ∧ Own w.heap.size wr g1 c1 (fillz l.length xs) ∧ Below w.heap.size w wr) (fun i _ => l.length - (intOf i).toNat)
  case atStart => exact ⟨0, [], hl0, rfl, rfl, rfl, ho1', hb1⟩
  case round =>
    obtain ⟨k, xs, hk, rfl, hxl, hxs, ho, hw⟩ := hrel
    have HX := Lib.hid hxl
    have hfl : Hid ((fillz l.length xs).length = l.length) := fillz_len (by omega)
    by_cases hlt : k + 1 < l.length
    · have h1 : wr.cell? ⟨b1, o1 + (k + 1), none⟩ = some (.int .i64 (l.getD (k + 1) 0)) := (hw.cell (p := ⟨b1, o1 + (k + 1), none⟩) hbl1).trans (HC1.out (k + 1) hlt)
      have r1 := hr.at (k + 1)
      have hs2 : Hid (xs ++ [tms ((k : Int) + 1) (l.getD (k + 1) 0)] = tab (dtm l) (k + 1)) := by rw [tab_succ, hxs.out]; rfl
      have hcs := ho.cellAt k (by rw [hfl.out]; omega)
      have hfr := ho.frz k
      have hset := ho.set k (tms ((k : Int) + 1) (l.getD (k + 1) 0))
      rw [fillz_set' hxl (by omega)] at hset
      have hb2 := hw.setCell (p := ⟨g1, k, none⟩) ho.base.1 (.int .i64 (tms ((k : Int) + 1) (l.getD (k + 1) 0)))
      have hl2 : Hid ((xs ++ [tms ((k : Int) + 1) (l.getD (k + 1) 0)]).length = k + 1) := by show _ = _; simp [hxl]
      have hi1 : (k : Int) + 1 < (l.length : Int) := by omega
      clear ho hxs hxl hb1 ho1'
      generalize l.getD (k + 1) 0 = x at h1 r1 hs2 hset hb2 hl2
      generalize (fillz l.length xs).getD k 0 = z at hcs
      go_wp2_with fail
      refine (sTimes ((k : Int) + 1) x (by omega) r1 _).mono ?_; rintro e w' ⟨rfl, rfl⟩
      generalize tms ((k : Int) + 1) x = y at hs2 hset hb2 hl2
      go_wp2
      go_roundw
      case rel => exact ⟨k + 1, xs ++ [y], by omega, by go_num, hl2.out, hs2, hset, hb2⟩
      case measure => simp [intOf]; omega
    · have hfin : Hid (fillz l.length xs = dls l) := by show _ = _; unfold dls; rw [hxs.out, show k = l.length - 1 from by omega]
      clear hxl hxs
      go_wp2
      go_ret
      exact ⟨g1, c1, ret_slice (dls_len l).symm, by rw [← hfin.out]; exact ho, hw⟩

set_option maxRecDepth 100000 in
set_option maxHeartbeats 3200000 in
theorem sInt (a : Option Addr) (ca : Nat) (l : List Int) (w : World) (ha : At w a l) (hr : Rng l) (hl0 : 1 ≤ l.length) (hl : l.length ≤ 1048576) :
    Calls Try.prog 95 #[.slice a l.length ca] w (Fresh w (ils l)) := by
  obtain ⟨b1, o1, rfl, hbl1, hc1⟩ := (ha.resolve_left (by intro e; rw [e] at hl0; simp at hl0))
  have HC1 := Lib.hid hc1
  clear hc1 ha
  go_enter Try.func95, Try.ntmps95
  go_wp2_with fail
  refine (sConst 0 l.length _ hl).mono ?_
  rintro e w1 ⟨g1, c1, rfl, ho1, hb1⟩
  have ho1' : Own w.heap.size w1 g1 c1 (fillz l.length [0]) := by rw [cstl_zero, fillz_nil_zero hl0] at ho1; exact ho1
  rw [cstl_len]
  clear ho1
  go_wp2_with fail
  go_loopw [4] (fun i wr => ∃ (k : Nat) (xs : List Int), k + 1 ≤ l.length ∧ i = .int .i64 ((k : Int) + 1) ∧ xs.length = k + 1 ∧ Hid (xs = 0 :: tab (itm l) k) ∧ Own w.heap.size wr g1 c1 (fillz l.length xs) ∧ Below w.heap.size w wr) (fun i _ => l.length - (intOf i).toNat)
  case atStart => exact ⟨0, [0], hl0, rfl, rfl, rfl, ho1', hb1⟩
  case round =>
    obtain ⟨k, xs, hk, rfl, hxl, hxs, ho, hw⟩ := hrel
    have hfl : Hid ((fillz l.length xs).length = l.length) := fillz_len (by omega)
    by_cases hlt : k + 1 < l.length
    · have h1 : wr.cell? ⟨b1, o1 + k, none⟩ = some (.int .i64 (l.getD k 0)) := (hw.cell (p := ⟨b1, o1 + k, none⟩) hbl1).trans (HC1.out k (by omega))
      have r1 := hr.at k
      have ib := pwr_bd ((k : Int) + 1) 1000001
      have ib2 : 0 ≤ inv ((k : Int) + 1) ∧ inv ((k : Int) + 1) < 1000003 := ib
      have hs2 : Hid (xs ++ [tms (l.getD k 0) (inv ((k : Int) + 1))] = 0 :: tab (itm l) (k + 1)) := by rw [tab_succ, hxs.out]; rfl
      have hcs := ho.cellAt (k + 1) (by rw [hfl.out]; omega)
      have hfr := ho.frz (k + 1)
      have hset := ho.set (k + 1) (tms (l.getD k 0) (inv ((k : Int) + 1)))
      rw [fillz_set' hxl (by omega)] at hset
      have hb2 := hw.setCell (p := ⟨g1, k + 1, none⟩) ho.base.1 (.int .i64 (tms (l.getD k 0) (inv ((k : Int) + 1))))
      have hl2 : Hid ((xs ++ [tms (l.getD k 0) (inv ((k : Int) + 1))]).length = k + 1 + 1) := by show _ = _; simp [hxl]
      have hi1 : (k : Int) + 1 < (l.length : Int) := by omega
      have hwrap : IntKind.i64.wrap (k : Int) = (k : Int) := IntWalk.i64_in _ (by omega)
      clear ho hxs hxl hb1 ho1' ib
      generalize l.getD k 0 = x at h1 r1 hs2 hset hb2 hl2
      generalize (fillz l.length xs).getD (k + 1) 0 = z at hcs
      have hki : (k : Int) < (l.length : Int) := by omega
      have hk0 : (0 : Int) ≤ (k : Int) + 1 := by omega
      have htn : ((k : Int) + 1).toNat = k + 1 := by omega
      go_wp2
      refine wp_region_still_tail 11 (by kernel_rfl) (by kernel_rfl) ?_
      simp only [List.take_succ_cons, List.take_zero, List.drop_succ_cons, List.drop_zero]
      repeat still_step
      still_call (flip (sinv ((k : Int) + 1) (by omega) _))
      repeat still_step
      still_call (flip (sTimes x (inv ((k : Int) + 1)) r1 (by omega) _))
      repeat still_step
      refine wpStill_nil ?_
      change wpList _ _ _ _ _ wr.drew
      generalize tms x (inv ((k : Int) + 1)) = y at hs2 hset hb2 hl2 ⊢
      go_wp2
      go_roundw
      case rel => exact ⟨k + 1, xs ++ [y], by omega, by go_num, hl2.out, hs2, hset, hb2.drew⟩
      case measure => simp [intOf]; omega
    · have hfin : Hid (fillz l.length xs = ils l) := by show _ = _; unfold ils; rw [fillz_full (by omega), hxs.out, show k = l.length - 1 from by omega]
      clear hxl hxs
      go_wp2
      go_ret
      exact ⟨g1, c1, ret_slice (ils_len hl0).symm, by rw [← hfin.out]; exact ho, hw⟩

end Go.Proofs.Ytegjlfbklcgapaa
