/- Derivatives and integrals of series: the model. Derivatives and integrals of series: the program. DerivativeOf: what it answers; the model; the method behind the program's checks. DerivativeOf, by the program. IntegralOf: what it answers; the model; the method behind the program's checks. IntegralOf, by the program. Exponentials of series: the model. Exponentials of series: the program's method. ExpSeries, by the program. Two ways to the logarithm of a series: a quotient that is integrated, and a recursion. Logarithms of series: the program's method. Logarithms of series: the model. LogSeries, by the program. -/
import Derived.Test.YtldbhhocoolloaaGreatOps
namespace Go.Proofs.YtldbhhocoolloaaGreat
open Go.RowKit

def dtm (l : List Int) (k : Nat) : Int := tms ((k : Int) + 1) (l.getD (k + 1) 0)
def itm (l : List Int) (k : Nat) : Int := tms (l.getD k 0) (inv ((k : Int) + 1))
def dls (l : List Int) : List Int := fillz l.length (tab (dtm l) (l.length - 1))
def ils (l : List Int) : List Int := 0 :: tab (itm l) (l.length - 1)
theorem dls_len (l : List Int) : (dls l).length = l.length := fillz_len (by rw [tab_len]; omega)
theorem ils_len {l : List Int} (h : 1 ≤ l.length) : (ils l).length = l.length := by simp [ils, tab_len]; omega
theorem fillz_nil_zero {n : Nat} (h : 1 ≤ n) : List.replicate n (0 : Int) = fillz n [0] := by
  rw [← fillz_zero, fillz_snoc0 (by simp; omega)]; rfl
theorem fillz_set' {n k : Nat} {xs : List Int} (hx : xs.length = k) (h : k < n) (v : Int) : (fillz n xs).set k v = fillz n (xs ++ [v]) := by
  subst hx; exact fillz_set h v

set_option maxRecDepth 100000 in
set_option maxHeartbeats 3200000 in
theorem sDer (a : Option Addr) (ca : Nat) (l : List Int) (w : World) (ha : At w a l) (hr : Rng l) (hl0 : 1 ≤ l.length) (hl : l.length ≤ 1048576) :
    Calls Tryz.prog 76 #[.slice a l.length ca] w (Fresh w (dls l)) := by
  obtain ⟨b1, o1, rfl, hbl1, hc1⟩ := (ha.resolve_left (by intro e; rw [e] at hl0; simp at hl0))
  have HC1 := Lib.hid hc1
  clear hc1 ha
  go_enter Tryz.func76, Tryz.ntmps76
  go_wp2_with fail
  refine (sConst 0 l.length _ hl).mono ?_
  rintro e w1 ⟨g1, c1, rfl, ho1, hb1⟩
  have ho1' : Own w.heap.size w1 g1 c1 (fillz l.length []) := by rw [cstl_zero] at ho1; rw [fillz_zero]; exact ho1
  rw [cstl_len]
  clear ho1
  go_wp2_with fail
  go_loopw [4] (fun i wr => ∃ (k : Nat) (xs : List Int), k + 1 ≤ l.length ∧ i = .int .i64 k ∧ xs.length = k ∧ Hid (xs = tab (dtm l) k) ∧ Own w.heap.size wr g1 c1 (fillz l.length xs) ∧ Below w.heap.size w wr) (fun i _ => l.length - (intOf i).toNat)
  case atStart => exact ⟨0, [], hl0, rfl, rfl, rfl, ho1', hb1⟩
  case round =>
    obtain ⟨k, xs, hk, rfl, hxl, hxs, ho, hw⟩ := hrel
    have HX := Lib.hid hxl
    have hfl : Hid ((fillz l.length xs).length = l.length) := fillz_len (by omega)
    by_cases hlt : k + 1 < l.length
    · have h1 : wr.cell? ⟨b1, o1 + (k + 1), none⟩ = some (.int .i64 (l.getD (k + 1) 0)) := (hw.cell (p := ⟨b1, o1 + (k + 1), none⟩) hbl1).trans (HC1.out (k + 1) hlt)
      have r1 := hr.at (k + 1)
      have hs2 : Hid (xs ++ [tms ((k : Int) + 1) (l.getD (k + 1) 0)] = tab (dtm l) (k + 1)) := by rw [tab_succ, hxs.out]; rfl
      have hcs := ho.cellAt k (by rw [hfl.out]; omega)
      have hfr := ho.frz k
      have hset := ho.set k (tms ((k : Int) + 1) (l.getD (k + 1) 0))
      rw [fillz_set' hxl (by omega)] at hset
      have hb2 := hw.setCell (p := ⟨g1, k, none⟩) ho.base.1 (.int .i64 (tms ((k : Int) + 1) (l.getD (k + 1) 0)))
      have hl2 : Hid ((xs ++ [tms ((k : Int) + 1) (l.getD (k + 1) 0)]).length = k + 1) := by show _ = _; simp [hxl]
      have hi1 : (k : Int) + 1 < (l.length : Int) := by omega
      clear ho hxs hxl hb1 ho1'
      generalize l.getD (k + 1) 0 = x at h1 r1 hs2 hset hb2 hl2
      generalize (fillz l.length xs).getD k 0 = z at hcs
      go_wp2_with fail
      refine (sTimes ((k : Int) + 1) x (by omega) r1 _).mono ?_; rintro e w' ⟨rfl, rfl⟩
      generalize tms ((k : Int) + 1) x = y at hs2 hset hb2 hl2
      go_wp2
      go_roundw
      case rel => exact ⟨k + 1, xs ++ [y], by omega, by go_num, hl2.out, hs2, hset, hb2⟩
      case measure => simp [intOf]; omega
    · have hfin : Hid (fillz l.length xs = dls l) := by show _ = _; unfold dls; rw [hxs.out, show k = l.length - 1 from by omega]
      clear hxl hxs
      go_wp2
      go_ret
      exact ⟨g1, c1, ret_slice (dls_len l).symm, by rw [← hfin.out]; exact ho, hw⟩

end Go.Proofs.YtldbhhocoolloaaGreat

namespace Go.Proofs.YtldbhhocoolloaaGreat
open Go.RowKit

set_option maxHeartbeats 400000 in
theorem imult (k : Nat) (x : Int) (hk : k ≤ 1048576) (hx : -9223372036854775808 ≤ x ∧ x ≤ 9223372036854775807) (w : World) :
    Calls Tryz.prog 150 #[.int .i64 ((k : Int) + 1), .int .i64 x] w fun e w' => e = .returned (.int .i64 (tms ((k : Int) + 1) x)) ∧ w = w' := by
  go_enter Tryz.func150, Tryz.ntmps150
  go_wp2_with fail
  refine (iTimes ((k : Int) + 1) x (by omega) hx _).mono ?_; rintro e w' ⟨rfl, rfl⟩
  go_wp2_with fail
  go_ret
  exact ⟨rfl, rfl⟩

set_option maxHeartbeats 400000 in
theorem ishare (k : Nat) (x : Int) (hk : k ≤ 1048576) (hx : -9223372036854775808 ≤ x ∧ x ≤ 9223372036854775807) (w : World) :
    Calls Tryz.prog 149 #[.int .i64 x, .int .i64 ((k : Int) + 1)] w fun e w' => e = .returned (.int .i64 (tms x (inv ((k : Int) + 1)))) ∧ w = w' := by
  have ib := pwr_bd ((k : Int) + 1) 1000001
  have ib2 : 0 ≤ inv ((k : Int) + 1) ∧ inv ((k : Int) + 1) < 1000003 := ib
  clear ib
  go_enter Tryz.func149, Tryz.ntmps149
  go_wp2_with fail
  refine (iinv ((k : Int) + 1) (by omega) _).mono ?_; rintro e w' ⟨rfl, rfl⟩
  go_wp2_with fail
  refine (iTimes x (inv ((k : Int) + 1)) hx (by omega) _).mono ?_; rintro e w' ⟨rfl, rfl⟩
  go_wp2_with fail
  go_ret
  exact ⟨rfl, rfl⟩

set_option maxRecDepth 100000 in
set_option maxHeartbeats 3200000 in
theorem iDer (a : Option Addr) (ca : Nat) (l : List Int) (w : World) (ha : At w a l) (hr : Rng l) (hl0 : 1 ≤ l.length) (hl : l.length ≤ 1048576) :
    Calls Tryz.prog 120 #[.slice a l.length ca] w (Fresh2 w (dls l) 0) := by
  obtain ⟨b1, o1, rfl, hbl1, hc1⟩ := (ha.resolve_left (by intro e; rw [e] at hl0; simp at hl0))
  have HC1 := Lib.hid hc1
  obtain ⟨i0, hi, hz0, hz1, hz2⟩ := info_parts info64
  clear hc1 ha
  go_enter Tryz.func120, Tryz.ntmps120
  go_wp2_with (refine wpList_make_full _ rfl _ _ 98 rfl w.heap.size 2 i0 (.int .i64 0) 1 Tryz.underlying98 hi hz0 hz1 .i64 .i64 _ _ l.length rfl rfl rfl rfl ?c2 ?c3 (Nat.le_refl _) ?_)
  case c2 => rw [hz2]; omega
  case c3 => unfold maxLen; omega
  intro w1 ho1 hg1
  have hb1 := (Below.refl w.heap.size w).grown hg1 (Nat.le_refl _) (by intro k hk; cases hk)
  have ho2 := made_own ho1
  clear ho1 hg1 hi hz0 hz1 hz2
  go_wp2
  go_loopw [5] (fun i wr => ∃ (k : Nat) (xs : List Int), k + 1 ≤ l.length ∧ i = .int .i64 ((k : Int) + 1) ∧ xs.length = k ∧ Hid (xs = tab (dtm l) k) ∧ Own w.heap.size wr w.heap.size l.length (fillz l.length xs) ∧ Below w.heap.size w wr) (fun i _ => l.length - (intOf i).toNat)
  case atStart => exact ⟨0, [], hl0, rfl, rfl, rfl, ho2, hb1⟩
  case round =>
    obtain ⟨k, xs, hk, rfl, hxl, hxs, ho, hw⟩ := hrel
    have hfl : Hid ((fillz l.length xs).length = l.length) := fillz_len (by omega)
    by_cases hlt : k + 1 < l.length
    · have h1 : wr.cell? ⟨b1, o1 + (k + 1), none⟩ = some (.int .i64 (l.getD (k + 1) 0)) := (hw.cell (p := ⟨b1, o1 + (k + 1), none⟩) hbl1).trans (HC1.out (k + 1) hlt)
      have r1 := hr.at (k + 1)
      have hs2 : Hid (xs ++ [tms ((k : Int) + 1) (l.getD (k + 1) 0)] = tab (dtm l) (k + 1)) := by rw [tab_succ, hxs.out]; rfl
      have hcs := ho.cellAt k (by rw [hfl.out]; omega)
      have hfr := ho.frz k
      have hset := ho.set k (tms ((k : Int) + 1) (l.getD (k + 1) 0))
      rw [fillz_set' hxl (by omega)] at hset
      have hb2 := hw.setCell (p := ⟨w.heap.size, k, none⟩) (Nat.le_refl _) (.int .i64 (tms ((k : Int) + 1) (l.getD (k + 1) 0)))
      have hl2 : Hid ((xs ++ [tms ((k : Int) + 1) (l.getD (k + 1) 0)]).length = k + 1) := by show _ = _; simp [hxl]
      have hi1 : (k : Int) + 1 < (l.length : Int) := by omega
      clear ho hxs hxl hb1 ho2
      generalize l.getD (k + 1) 0 = x at h1 r1 hs2 hset hb2 hl2
      generalize (fillz l.length xs).getD k 0 = z at hcs
      go_wp2_with fail
      refine (imult k x (by omega) r1 _).mono ?_; rintro e w' ⟨rfl, rfl⟩
      generalize tms ((k : Int) + 1) x = y at hs2 hset hb2 hl2
      go_wp2
      go_roundw
      case rel => exact ⟨k + 1, xs ++ [y], by omega, by go_num, hl2.out, hs2, hset, hb2⟩
      case measure => simp [intOf]; omega
    · have hfin : Hid (fillz l.length xs = dls l) := by show _ = _; unfold dls; rw [hxs.out, show k = l.length - 1 from by omega]
      clear hxl hxs
      go_wp2
      go_ret2
      exact ⟨_, l.length, ret_slice2 (dls_len l).symm, by rw [← hfin.out]; exact ho, hw⟩

set_option maxRecDepth 100000 in
set_option maxHeartbeats 3200000 in
theorem iInt (a : Option Addr) (ca : Nat) (l : List Int) (w : World) (ha : At w a l) (hr : Rng l) (hl0 : 1 ≤ l.length) (hl : l.length ≤ 1048576) :
    Calls Tryz.prog 121 #[.slice a l.length ca] w (Fresh2 w (ils l) 0) := by
  obtain ⟨b1, o1, rfl, hbl1, hc1⟩ := (ha.resolve_left (by intro e; rw [e] at hl0; simp at hl0))
  have HC1 := Lib.hid hc1
  obtain ⟨i0, hi, hz0, hz1, hz2⟩ := info_parts info64
  clear hc1 ha
  go_enter Tryz.func121, Tryz.ntmps121
  go_wp2_with (refine wpList_make_full _ rfl _ _ 98 rfl w.heap.size 2 i0 (.int .i64 0) 1 Tryz.underlying98 hi hz0 hz1 .i64 .i64 _ _ l.length rfl rfl rfl rfl ?c2 ?c3 (Nat.le_refl _) ?_)
  case c2 => rw [hz2]; omega
  case c3 => unfold maxLen; omega
  intro w1 ho1 hg1
  have hb1 := (Below.refl w.heap.size w).grown hg1 (Nat.le_refl _) (by intro k hk; cases hk)
  have ho2 := made_own ho1
  rw [fillz_zero, fillz_nil_zero hl0] at ho2
  clear ho1 hg1 hi hz0 hz1 hz2
  go_wp2
  go_loopw [5] (fun i wr => ∃ (k : Nat) (xs : List Int), k + 1 ≤ l.length ∧ i = .int .i64 ((k : Int) + 1) ∧ xs.length = k + 1 ∧ Hid (xs = 0 :: tab (itm l) k) ∧ Own w.heap.size wr w.heap.size l.length (fillz l.length xs) ∧ Below w.heap.size w wr) (fun i _ => l.length - (intOf i).toNat)
  case atStart => exact ⟨0, [0], hl0, rfl, rfl, rfl, ho2, hb1⟩
  case round =>
    obtain ⟨k, xs, hk, rfl, hxl, hxs, ho, hw⟩ := hrel
    have hfl : Hid ((fillz l.length xs).length = l.length) := fillz_len (by omega)
    by_cases hlt : k + 1 < l.length
    · have h1 : wr.cell? ⟨b1, o1 + k, none⟩ = some (.int .i64 (l.getD k 0)) := (hw.cell (p := ⟨b1, o1 + k, none⟩) hbl1).trans (HC1.out k (by omega))
      have r1 := hr.at k
      have hs2 : Hid (xs ++ [tms (l.getD k 0) (inv ((k : Int) + 1))] = 0 :: tab (itm l) (k + 1)) := by rw [tab_succ, hxs.out]; rfl
      have hcs := ho.cellAt (k + 1) (by rw [hfl.out]; omega)
      have hfr := ho.frz (k + 1)
      have hset := ho.set (k + 1) (tms (l.getD k 0) (inv ((k : Int) + 1)))
      rw [fillz_set' hxl (by omega)] at hset
      have hb2 := hw.setCell (p := ⟨w.heap.size, k + 1, none⟩) (Nat.le_refl _) (.int .i64 (tms (l.getD k 0) (inv ((k : Int) + 1))))
      have hl2 : Hid ((xs ++ [tms (l.getD k 0) (inv ((k : Int) + 1))]).length = k + 1 + 1) := by show _ = _; simp [hxl]
      have hi1 : (k : Int) + 1 < (l.length : Int) := by omega
      clear ho hxs hxl hb1 ho2
      generalize l.getD k 0 = x at h1 r1 hs2 hset hb2 hl2
      generalize (fillz l.length xs).getD (k + 1) 0 = z at hcs
      have hki : (k : Int) < (l.length : Int) := by omega
      go_wp2_with fail
      refine (ishare k x (by omega) r1 _).mono ?_; rintro e w' ⟨rfl, rfl⟩
      generalize tms x (inv ((k : Int) + 1)) = y at hs2 hset hb2 hl2
      go_wp2
      go_roundw
      case rel => exact ⟨k + 1, xs ++ [y], by omega, by go_num, hl2.out, hs2, hset, hb2⟩
      case measure => simp [intOf]; omega
    · have hfin : Hid (fillz l.length xs = ils l) := by show _ = _; unfold ils; rw [fillz_full (by omega), hxs.out, show k = l.length - 1 from by omega]
      clear hxl hxs
      go_wp2
      go_ret2
      exact ⟨_, l.length, ret_slice2 (ils_len hl0).symm, by rw [← hfin.out]; exact ho, hw⟩

end Go.Proofs.YtldbhhocoolloaaGreat

namespace Go.Proofs.YtldbhhocoolloaaGreat
open Go.RowKit
set_option linter.unusedVariables false

def resDerivativeOf (l : List Int) : List Int := dls l
def codDerivativeOf (_ : List Int) : Int := 0
def allDerivativeOf (l : List Int) : List Int := if okS l = true then resDerivativeOf l else []
def alcDerivativeOf (l : List Int) : Int := if okS l = true then codDerivativeOf l else 1
theorem resDerivativeOf_len (l : List Int) : (resDerivativeOf l).length ≤ l.length := by unfold resDerivativeOf; rw [dls_len]; exact Nat.le_refl _

theorem iDerivativeOfR (a : Option Addr) (ca : Nat) (l : List Int) (w : World) (ha : At w a l) (h1 : Hid (okS l = true)) :
    Calls Tryz.prog 120 #[.slice a l.length ca] w (Res2 w (resDerivativeOf l) (codDerivativeOf l)) :=
  (iDer a ca l w ha (okS_rng h1).1 (okS_rng h1).2.2.1 (okS_rng h1).2.1).mono fun _ _ h => res2_of_fresh (c := 0) rfl rfl h

end Go.Proofs.YtldbhhocoolloaaGreat

namespace Go.Proofs.YtldbhhocoolloaaGreat
open Go.RowKit
set_option linter.unusedVariables false

set_option maxRecDepth 100000 in
set_option maxHeartbeats 1600000 in
theorem itransform1 (a : Option Addr) (ca : Nat) (l : List Int) (w : World) (ha : At w a l) (hl : l.length ≤ 1048576) :
    Calls Tryz.prog 106 #[.int .i64 1, .slice a l.length ca] w (Res2 w (allDerivativeOf l) (alcDerivativeOf l)) := by
  cases h1 : okS l with
  | true =>
    have hif := Lib.hid (show resDerivativeOf l = allDerivativeOf l by unfold allDerivativeOf; rw [if_pos h1])
    have hic := Lib.hid (show codDerivativeOf l = alcDerivativeOf l by unfold alcDerivativeOf; rw [if_pos h1])
    have H1 := Lib.hid h1
    clear h1
    go_enter Tryz.func106, Tryz.ntmps106
    go_wp2_with fail
    refine (iValid a ca l _ ha (by omega)).mono ?_; rintro e w' ⟨rfl, rfl⟩
    rw [H1.out]
    go_wp2_with fail
    refine (iDerivativeOfR a ca l _ (by exact ha.alloc _) H1).mono ?_; rintro e w1 ⟨g, cap, rfl, ho, hbel⟩
    go_wp2_with fail
    go_ret2
    rw [← hif.out, ← hic.out]
    exact res2_alloc ⟨g, cap, rfl, ho, hbel⟩
  | false =>
    have hif := Lib.hid (show ([] : List Int) = allDerivativeOf l by unfold allDerivativeOf; rw [if_neg (by rw [h1]; simp)])
    have hic := Lib.hid (show (1 : Int) = alcDerivativeOf l by unfold alcDerivativeOf; rw [if_neg (by rw [h1]; simp)])
    have H1 := Lib.hid h1
    clear h1
    go_enter Tryz.func106, Tryz.ntmps106
    go_wp2_with fail
    refine (iValid a ca l _ ha (by omega)).mono ?_; rintro e w' ⟨rfl, rfl⟩
    rw [H1.out]
    go_wp2_with fail
    go_ret2
    rw [← hif.out, ← hic.out]
    exact ⟨none, 0, rfl, .inl rfl, Below.refl _ _⟩

set_option maxHeartbeats 800000 in
theorem iDerivativeOf (a : Option Addr) (ca : Nat) (l : List Int) (w : World) (ha : At w a l) (_ : Rng l) (hl : l.length ≤ 1048576) :
    Calls Tryz.prog 78 #[.slice a l.length ca] w (Res2 w (allDerivativeOf l) (alcDerivativeOf l)) := by
  go_enter Tryz.func78, Tryz.ntmps78
  go_wp2_with fail
  refine (itransform1 a ca l _ ha hl).mono ?_; rintro e w1 ⟨g, cap, rfl, ho, hbel⟩
  go_wp2_with fail
  go_ret2
  exact ⟨g, cap, rfl, ho, hbel⟩

theorem resLen_DerivativeOf (l : List Int) (hl : l.length ≤ 1048576) : (allDerivativeOf l).length ≤ 1048576 := by
  unfold allDerivativeOf; split
  · exact Nat.le_trans (resDerivativeOf_len l) hl
  · simp

end Go.Proofs.YtldbhhocoolloaaGreat

namespace Go.Proofs.YtldbhhocoolloaaGreat
open Go.RowKit
set_option linter.unusedVariables false

def resIntegralOf (l : List Int) : List Int := ils l
def codIntegralOf (_ : List Int) : Int := 0
def allIntegralOf (l : List Int) : List Int := if okS l = true then resIntegralOf l else []
def alcIntegralOf (l : List Int) : Int := if okS l = true then codIntegralOf l else 1
theorem resIntegralOf_len (l : List Int) (h0 : 1 ≤ l.length) : (resIntegralOf l).length ≤ l.length := by unfold resIntegralOf; rw [ils_len h0]; exact Nat.le_refl _

theorem iIntegralOfR (a : Option Addr) (ca : Nat) (l : List Int) (w : World) (ha : At w a l) (h1 : Hid (okS l = true)) :
    Calls Tryz.prog 121 #[.slice a l.length ca] w (Res2 w (resIntegralOf l) (codIntegralOf l)) :=
  (iInt a ca l w ha (okS_rng h1).1 (okS_rng h1).2.2.1 (okS_rng h1).2.1).mono fun _ _ h => res2_of_fresh (c := 0) rfl rfl h

end Go.Proofs.YtldbhhocoolloaaGreat

namespace Go.Proofs.YtldbhhocoolloaaGreat
open Go.RowKit
set_option linter.unusedVariables false

set_option maxRecDepth 100000 in
set_option maxHeartbeats 1600000 in
theorem itransform2 (a : Option Addr) (ca : Nat) (l : List Int) (w : World) (ha : At w a l) (hl : l.length ≤ 1048576) :
    Calls Tryz.prog 106 #[.int .i64 2, .slice a l.length ca] w (Res2 w (allIntegralOf l) (alcIntegralOf l)) := by
  cases h1 : okS l with
  | true =>
    have hif := Lib.hid (show resIntegralOf l = allIntegralOf l by unfold allIntegralOf; rw [if_pos h1])
    have hic := Lib.hid (show codIntegralOf l = alcIntegralOf l by unfold alcIntegralOf; rw [if_pos h1])
    have H1 := Lib.hid h1
    clear h1
    go_enter Tryz.func106, Tryz.ntmps106
    go_wp2_with fail
    refine (iValid a ca l _ ha (by omega)).mono ?_; rintro e w' ⟨rfl, rfl⟩
    rw [H1.out]
    go_wp2_with fail
    refine (iIntegralOfR a ca l _ (by exact ha.alloc _) H1).mono ?_; rintro e w1 ⟨g, cap, rfl, ho, hbel⟩
    go_wp2_with fail
    go_ret2
    rw [← hif.out, ← hic.out]
    exact res2_alloc ⟨g, cap, rfl, ho, hbel⟩
  | false =>
    have hif := Lib.hid (show ([] : List Int) = allIntegralOf l by unfold allIntegralOf; rw [if_neg (by rw [h1]; simp)])
    have hic := Lib.hid (show (1 : Int) = alcIntegralOf l by unfold alcIntegralOf; rw [if_neg (by rw [h1]; simp)])
    have H1 := Lib.hid h1
    clear h1
    go_enter Tryz.func106, Tryz.ntmps106
    go_wp2_with fail
    refine (iValid a ca l _ ha (by omega)).mono ?_; rintro e w' ⟨rfl, rfl⟩
    rw [H1.out]
    go_wp2_with fail
    go_ret2
    rw [← hif.out, ← hic.out]
    exact ⟨none, 0, rfl, .inl rfl, Below.refl _ _⟩

theorem resLen_IntegralOf (l : List Int) (hl : l.length ≤ 1048576) : (allIntegralOf l).length ≤ 1048576 := by
  unfold allIntegralOf; split
  · rename_i h; exact Nat.le_trans (resIntegralOf_len l (okS_t h).1) hl
  · simp

end Go.Proofs.YtldbhhocoolloaaGreat

namespace Go.Proofs.YtldbhhocoolloaaGreat
open Go.RowKit
attribute [local go_sem ↓] Go.wp_at_zero Go.wp_at_succ

theorem exs_nms (a : List Int) (k : Nat) : Nums (exs a k) := by
  induction k with
  | zero => intro n hn; simp [exs] at hn; omega
  | succ k ih => rw [exs]; exact nms_snoc ih (tms_bd _ _)
def eterm (l xs : List Int) (k i : Nat) : Int := tms (tms ((i : Int) + 1) (l.getD (i + 1) 0)) (xs.getD (k - i) 0)
theorem exs_succ (l : List Int) (k : Nat) : exs l (k + 1) = exs l k ++ [tms (psum (eterm l (exs l k) k) (k + 1)) (inv ((k : Int) + 1))] := rfl

def resExpSeries (l : List Int) : List Int := if l.getD 0 0 = 0 then expl l else []
def codExpSeries (l : List Int) : Int := if l.getD 0 0 = 0 then 0 else 4
def allExpSeries (l : List Int) : List Int := if okS l = true then resExpSeries l else []
def alcExpSeries (l : List Int) : Int := if okS l = true then codExpSeries l else 1
theorem resExpSeries_len (l : List Int) (h0 : 1 ≤ l.length) : (resExpSeries l).length ≤ l.length := by
  unfold resExpSeries; split
  · rw [expl_len h0]; exact Nat.le_refl _
  · simp

end Go.Proofs.YtldbhhocoolloaaGreat

namespace Go.Proofs.YtldbhhocoolloaaGreat
open Go.RowKit

set_option maxRecDepth 100000 in
set_option maxHeartbeats 6400000 in
theorem iExpSeriesR (a : Option Addr) (ca : Nat) (l : List Int) (w : World) (ha : At w a l) (H1 : Hid (okS l = true)) :
    Calls Tryz.prog 122 #[.slice a l.length ca] w (Res2 w (resExpSeries l) (codExpSeries l)) := by
  have hr := (okS_rng H1).1
  have hl := (okS_rng H1).2.1
  have hl0 := (okS_rng H1).2.2.1
  obtain ⟨b1, o1, rfl, hbl1, hc1⟩ := (ha.resolve_left (by intro e; rw [e] at hl0; simp at hl0))
  have hz : w.cell? ⟨b1, o1, none⟩ = some (.int .i64 (l.getD 0 0)) := by have := hc1 0 hl0; rwa [Nat.add_zero] at this
  have hmi : (0 : Int) < (l.length : Int) := by omega
  have hmin : 0 < l.length := by omega
  have HC1 := Lib.hid hc1
  clear hc1 ha
  by_cases h0 : l.getD 0 0 = 0
  · have hif := Lib.hid (show expl l = resExpSeries l by unfold resExpSeries; rw [if_pos h0])
    have hic := Lib.hid (show (0 : Int) = codExpSeries l by unfold codExpSeries; rw [if_pos h0])
    rw [h0] at hz
    clear h0
    obtain ⟨i0, hi, hz0, hz1, hz2⟩ := info_parts info64
    go_enter Tryz.func122, Tryz.ntmps122
    go_wp2_with (refine wpList_make_full _ rfl _ _ 98 rfl w.heap.size 2 i0 (.int .i64 0) 1 Tryz.underlying98 hi hz0 hz1 .i64 .i64 _ _ l.length rfl rfl rfl rfl ?c2 ?c3 (Nat.le_refl _) ?_)
    case c2 => rw [hz2]; omega
    case c3 => unfold maxLen; omega
    intro w1 ho1 hg1
    have hb1' := (Below.refl w.heap.size w).grown hg1 (Nat.le_refl _) (by intro k hk; cases hk)
    have ho2 := made_own ho1
    have hcs0 := ho2.cellAt 0 (by rw [fillz_len (by simp)]; exact hl0)
    have hfr0 := ho2.frz 0
    have ho1' := ho2.set 0 1
    have he1 : (fillz l.length ([] : List Int)).set 0 1 = fillz l.length [1] := fillz_set' (n := l.length) (k := 0) (xs := []) rfl hl0 1
    rw [he1] at ho1'
    clear he1
    have hb1 := hb1'.setCell (p := ⟨w.heap.size, 0, none⟩) (Nat.le_refl _) (.int .i64 1)
    clear ho1 hg1 hi hz0 hz1 hz2 hz ho2 hb1'
    generalize (fillz l.length ([] : List Int)).getD 0 0 = z0 at hcs0
    go_wp2
    go_loopw [5, 6, 7] (fun i _ _ wr => ∃ (k : Nat) (xs : List Int), k + 1 ≤ l.length ∧ i = .int .i64 ((k : Int) + 1) ∧ xs.length = k + 1 ∧ Hid (xs = exs l k) ∧ Own w.heap.size wr w.heap.size l.length (fillz l.length xs) ∧ Below w.heap.size w wr) (fun i _ _ _ => l.length - (intOf i).toNat)
    case atStart => exact ⟨0, [1], hl0, rfl, rfl, rfl, ho1', hb1⟩
    case round =>
      obtain ⟨k, xs, hk, rfl, hxl0, hxs, ho, hw⟩ := hrel
      by_cases hlt : k + 1 < l.length
      · have hxl := Lib.hid hxl0
        have hxn : Nums xs := by rw [hxs.out]; exact exs_nms _ _
        have hi3 : (k : Int) + 1 < (l.length : Int) := by omega
        clear hb1 ho1' hxl0
        go_wp2
        obtain ⟨wo, hwo⟩ : ∃ wo : World, wo = wr := ⟨_, rfl⟩
        rw [← hwo] at ho hw ⊢
        clear hwo
        go_loopw [6, 7] (fun q i wi => ∃ (j : Nat) (s : Int), j ≤ k + 1 ∧ i = .int .i64 ((j : Int) + 1) ∧ q = .int .i64 s ∧ Hid (s = psum (eterm l xs k) j) ∧ Own w.heap.size wi w.heap.size l.length (fillz l.length xs) ∧ Below w.heap.size w wi) (fun _ i _ => k + 2 - (intOf i).toNat)
        case atStart => exact ⟨0, 0, Nat.zero_le _, rfl, rfl, rfl, ho, hw⟩
        case round =>
          obtain ⟨j, s, hj, rfl, rfl, hs, hoi, hwi⟩ := hrel
          by_cases hjl : j ≤ k
          · obtain ⟨d, hd⟩ : ∃ d : Nat, d = k - j := ⟨_, rfl⟩
            have h1 : wr.cell? ⟨b1, o1 + (j + 1), none⟩ = some (.int .i64 (l.getD (j + 1) 0)) := (hwi.cell (p := ⟨b1, o1 + (j + 1), none⟩) hbl1).trans (HC1.out (j + 1) (by omega))
            have h2 : wr.cell? ⟨w.heap.size, d, none⟩ = some (.int .i64 (xs.getD d 0)) := by
              rw [hoi.cellAt d (by rw [fillz_len (by rw [hxl.out]; omega)]; omega), fillz_low (by rw [hxl.out]; omega)]
            have hwrap : IntKind.i64.wrap ((k : Int) + 1 - ((j : Int) + 1)) = (d : Int) := by rw [show ((k : Int) + 1 - ((j : Int) + 1)) = (d : Int) from by omega]; exact IntWalk.i64_in _ (by omega)
            have hwrap2 : IntKind.i64.wrap ((k : Int) - (j : Int)) = (d : Int) := by rw [show ((k : Int) - (j : Int)) = (d : Int) from by omega]; exact IntWalk.i64_in _ (by omega)
            have hi1 : (j : Int) + 1 < (l.length : Int) := by omega
            have hj0 : (0 : Int) ≤ (j : Int) + 1 := by omega
            have htn : ((j : Int) + 1).toNat = j + 1 := by omega
            have hi2 : (d : Int) < (l.length : Int) := by omega
            have r1 := hr.at (j + 1)
            have r2 := hxn.at d
            have bs : 0 ≤ s ∧ s < 1000003 := by rw [hs.out]; exact psum_bd _ _
            have hs2' : Hid (pls s (tms (tms ((j : Int) + 1) (l.getD (j + 1) 0)) (xs.getD d 0)) = psum (eterm l xs k) (j + 1)) := by
              rw [hs.out, hd]; rfl
            have bt := tms_bd ((j : Int) + 1) (l.getD (j + 1) 0)
            have bt2 := tms_bd (tms ((j : Int) + 1) (l.getD (j + 1) 0)) (xs.getD d 0)
            have hjs : j ≤ 1048576 := by omega
            clear hs hd
            generalize l.getD (j + 1) 0 = x at h1 r1 hs2' bt bt2
            generalize xs.getD d 0 = y at h2 r2 hs2' bt2
            go_wp2
            go_quiet ((first | (go_at_call 150; exact quiet_same (imult j x hjs r1 _)) | (go_at_call 74; exact quiet_same (iTimes _ _ (by omega) (by omega) _)) | (go_at_call 82; exact quiet_same (iPlus _ _ (by omega) (by omega) _))))
            go_wp2
            go_roundw
            case rel => exact ⟨j + 1, _, by omega, by go_num, rfl, hs2', hoi, below_drewN hwi _⟩
            case measure => simp [intOf]; omega
          · have hjk : j = k + 1 := by omega
            subst hjk
            have bs : 0 ≤ s ∧ s < 1000003 := by rw [hs.out]; exact psum_bd _ _
            have hs3 : Hid (xs ++ [tms s (inv ((k : Int) + 1))] = exs l (k + 1)) := by rw [exs_succ, ← hxs.out, hs.out]; rfl
            have hcs := hoi.cellAt (k + 1) (by rw [fillz_len (by rw [hxl.out]; omega)]; omega)
            have hfr := hoi.frz (k + 1)
            have hset := hoi.set (k + 1) (tms s (inv ((k : Int) + 1)))
            rw [fillz_set' hxl.out (by omega)] at hset
            have hb2 := hwi.setCell (p := ⟨w.heap.size, k + 1, none⟩) (Nat.le_refl _) (.int .i64 (tms s (inv ((k : Int) + 1))))
            have hl2 : Hid ((xs ++ [tms s (inv ((k : Int) + 1))]).length = k + 1 + 1) := by show _ = _; simp [hxl.out]
            clear hs hxs ho hw hoi
            generalize (fillz l.length xs).getD (k + 1) 0 = z at hcs
            go_wp2_with fail
            refine (ishare k s (by omega) (by omega) _).mono ?_; rintro e w' ⟨rfl, rfl⟩
            generalize tms s (inv ((k : Int) + 1)) = s2 at hs3 hset hb2 hl2
            go_wp2
            go_roundw
            case rel => exact ⟨k + 1, xs ++ [s2], by omega, by go_num, hl2.out, hs3, hset, hb2⟩
            case measure => simp [intOf]; omega
      · have hfin : Hid (fillz l.length xs = expl l) := by show _ = _; unfold expl; rw [fillz_full (by omega), hxs.out, show k = l.length - 1 from by omega]
        clear hxl0 hxs
        go_wp2
        go_ret2
        exact res2_of_fresh (c := 0) hif.out hic.out ⟨_, l.length, ret_slice2 (expl_len hl0).symm, by rw [← hfin.out]; exact ho, hw⟩
  · have hif := Lib.hid (show ([] : List Int) = resExpSeries l by unfold resExpSeries; rw [if_neg h0])
    have hic := Lib.hid (show (4 : Int) = codExpSeries l by unfold codExpSeries; rw [if_neg h0])
    have hq : (l.getD 0 0 != 0) = true := by rw [bne_iff_ne]; exact h0
    clear h0
    obtain ⟨f0, hf0⟩ : ∃ f0, l.getD 0 0 = f0 := ⟨_, rfl⟩
    rw [hf0] at hz hq
    clear hf0
    go_enter Tryz.func122, Tryz.ntmps122
    go_wp2_with fail
    go_ret2
    rw [← hif.out, ← hic.out]
    exact ⟨none, 0, rfl, .inl rfl, Below.refl _ _⟩

end Go.Proofs.YtldbhhocoolloaaGreat

namespace Go.Proofs.YtldbhhocoolloaaGreat
open Go.RowKit
set_option linter.unusedVariables false

set_option maxRecDepth 100000 in
set_option maxHeartbeats 1600000 in
theorem itransform3 (a : Option Addr) (ca : Nat) (l : List Int) (w : World) (ha : At w a l) (hl : l.length ≤ 1048576) :
    Calls Tryz.prog 106 #[.int .i64 3, .slice a l.length ca] w (Res2 w (allExpSeries l) (alcExpSeries l)) := by
  cases h1 : okS l with
  | true =>
    have hif := Lib.hid (show resExpSeries l = allExpSeries l by unfold allExpSeries; rw [if_pos h1])
    have hic := Lib.hid (show codExpSeries l = alcExpSeries l by unfold alcExpSeries; rw [if_pos h1])
    have H1 := Lib.hid h1
    clear h1
    go_enter Tryz.func106, Tryz.ntmps106
    go_wp2_with fail
    refine (iValid a ca l _ ha (by omega)).mono ?_; rintro e w' ⟨rfl, rfl⟩
    rw [H1.out]
    go_wp2_with fail
    refine (iExpSeriesR a ca l _ (by exact ha.alloc _) H1).mono ?_; rintro e w1 ⟨g, cap, rfl, ho, hbel⟩
    go_wp2_with fail
    go_ret2
    rw [← hif.out, ← hic.out]
    exact res2_alloc ⟨g, cap, rfl, ho, hbel⟩
  | false =>
    have hif := Lib.hid (show ([] : List Int) = allExpSeries l by unfold allExpSeries; rw [if_neg (by rw [h1]; simp)])
    have hic := Lib.hid (show (1 : Int) = alcExpSeries l by unfold alcExpSeries; rw [if_neg (by rw [h1]; simp)])
    have H1 := Lib.hid h1
    clear h1
    go_enter Tryz.func106, Tryz.ntmps106
    go_wp2_with fail
    refine (iValid a ca l _ ha (by omega)).mono ?_; rintro e w' ⟨rfl, rfl⟩
    rw [H1.out]
    go_wp2_with fail
    go_ret2
    rw [← hif.out, ← hic.out]
    exact ⟨none, 0, rfl, .inl rfl, Below.refl _ _⟩

theorem resLen_ExpSeries (l : List Int) (hl : l.length ≤ 1048576) : (allExpSeries l).length ≤ 1048576 := by
  unfold allExpSeries; split
  · rename_i h; exact Nat.le_trans (resExpSeries_len l (okS_t h).1) hl
  · simp

end Go.Proofs.YtldbhhocoolloaaGreat

namespace Go.Proofs.YtldbhhocoolloaaGreat
open Go.RowKit

def lterm (l xs : List Int) (k i : Nat) : Int := tms (tms ((i : Int) + 1) (xs.getD (i + 1) 0)) (l.getD (k - i) 0)
def lgs (l : List Int) : Nat → List Int
  | 0 => [0]
  | k + 1 => lgs l k ++ [tms (msub (tms ((k : Int) + 1) (l.getD (k + 1) 0)) (lterm l (lgs l k) k) k) (inv ((k : Int) + 1))]
def logl (l : List Int) : List Int := lgs l (l.length - 1)
theorem lgs_len (l : List Int) (k : Nat) : (lgs l k).length = k + 1 := by
  induction k with
  | zero => rfl
  | succ k ih => simp [lgs, ih]
theorem logl_len {l : List Int} (h : 1 ≤ l.length) : (logl l).length = l.length := by rw [logl, lgs_len]; omega
theorem lgs_nms (l : List Int) (k : Nat) : Nums (lgs l k) := by
  induction k with
  | zero => intro n hn; simp [lgs] at hn; omega
  | succ k ih => rw [lgs]; exact nms_snoc ih (tms_bd _ _)

theorem msub_congr {r : Int} {f g : Nat → Int} {n : Nat} (h : ∀ i, i < n → f i = g i) : msub r f n = msub r g n := by
  induction n with
  | zero => rfl
  | succ n ih => simp only [msub]; rw [ih (fun i hi => h i (by omega)), h n (by omega)]
theorem getD_snoc_lt {xs : List Int} {x : Int} {i : Nat} (h : i < xs.length) : (xs ++ [x]).getD i 0 = xs.getD i 0 := by
  rw [List.getD_eq_getElem?_getD, List.getD_eq_getElem?_getD, List.getElem?_append_left h]
theorem getD_snoc_eq {xs : List Int} {x : Int} : (xs ++ [x]).getD xs.length 0 = x := by
  simp [List.getD_eq_getElem?_getD]
theorem dvs_pre (a b : List Int) (f : Int) {i k n : Nat} (h : i < k) (hk : k ≤ n) : (dvs a b f n).getD i 0 = (dvs a b f k).getD i 0 := by
  induction n with
  | zero => omega
  | succ n ih =>
    by_cases e : k = n + 1
    · rw [e]
    · rw [dvs, getD_snoc_lt (by rw [dvs_len]; omega)]; exact ih (by omega)
theorem dvs_at (a b : List Int) (f : Int) {k n : Nat} (h : k < n) : (dvs a b f n).getD k 0 = tms (msub (a.getD k 0) (fun i => tms ((dvs a b f k).getD i 0) (b.getD (k - i) 0)) k) f := by
  rw [dvs_pre a b f (k := k + 1) (by omega) (by omega), dvs]
  have := getD_snoc_eq (xs := dvs a b f k) (x := tms (msub (a.getD k 0) (fun i => tms ((dvs a b f k).getD i 0) (b.getD (k - i) 0)) k) f)
  rw [dvs_len] at this
  exact this
theorem inv_one : inv 1 = 1 := by unfold inv pwr; rw [Int.one_pow]; rfl
theorem tms_one {x : Int} (h : 0 ≤ x ∧ x < 1000003) : tms x 1 = x := by unfold tms; rw [Int.mul_one]; omega
theorem tms_cancel {x : Int} (k : Nat) (hk : k < 1000000) (h : 0 ≤ x ∧ x < 1000003) : tms ((k : Int) + 1) (tms x (inv ((k : Int) + 1))) = x := by
  have hi : tms ((k : Int) + 1) (inv ((k : Int) + 1)) = 1 := tms_inv (by unfold res; omega)
  unfold tms at hi ⊢
  rw [Int.mul_emod, Int.emod_emod, ← Int.mul_emod, Int.mul_left_comm, Int.mul_emod, hi]
  omega
theorem cons_tab_at {f : Nat → Int} {n i : Nat} (h : i < n) : ((0 : Int) :: tab f n).getD (i + 1) 0 = f i := by
  rw [List.getD_cons_succ, tab_at h]
theorem dls_at {l : List Int} {k : Nat} (h : k + 1 < l.length) : (dls l).getD k 0 = tms ((k : Int) + 1) (l.getD (k + 1) 0) := by
  unfold dls
  rw [fillz_low (by rw [tab_len]; omega), tab_at (by omega)]; rfl

theorem log_step {l : List Int} (hl : l.length ≤ 1000) (h1 : l.getD 0 0 = 1) (k : Nat) (hk : k + 1 ≤ l.length) :
    lgs l k = 0 :: tab (itm (divl (dls l) l)) k := by
  have hlen : (dls l).length = l.length := dls_len l
  induction k with
  | zero => rfl
  | succ k ih =>
    have ih := ih (by omega)
    rw [lgs, ih, tab_succ, List.cons_append]
    congr 2
    congr 1
    have hq : ∀ i, i < l.length → (divl (dls l) l).getD i 0 = tms (msub ((dls l).getD i 0) (fun j => tms ((dvs (dls l) l (inv (l.getD 0 0)) i).getD j 0) (l.getD (i - j) 0)) i) (inv (l.getD 0 0)) := by
      intro i hi
      unfold divl
      rw [hlen]
      exact dvs_at _ _ _ hi
    have hqb : ∀ i, 0 ≤ (divl (dls l) l).getD i 0 ∧ (divl (dls l) l).getD i 0 < 1000003 := fun i => Nums.at (dvs_nms _ _ _ _) i
    rw [show itm (divl (dls l) l) k = tms ((divl (dls l) l).getD k 0) (inv ((k : Int) + 1)) from rfl]
    congr 1
    have hf : ∀ i, i < k → lterm l (0 :: tab (itm (divl (dls l) l)) k) k i = tms ((dvs (dls l) l (inv (l.getD 0 0)) k).getD i 0) (l.getD (k - i) 0) := by
      intro i hi
      unfold lterm
      rw [cons_tab_at hi]
      unfold itm
      rw [tms_cancel i (by omega) (hqb i)]
      congr 1
      unfold divl
      rw [hlen]
      exact dvs_pre _ _ _ hi (by omega)
    rw [msub_congr hf, hq k (by omega), dls_at (by omega), h1, inv_one]
    exact (tms_one (msub_bd _ _ (tms_bd _ _))).symm
theorem log_eq {l : List Int} (h0 : 1 ≤ l.length) (hl : l.length ≤ 1000) (h1 : l.getD 0 0 = 1) : ils (divl (dls l) l) = logl l := by
  unfold ils logl
  rw [divl_len, dls_len, log_step hl h1 (l.length - 1) (by omega)]

end Go.Proofs.YtldbhhocoolloaaGreat

namespace Go.Proofs.YtldbhhocoolloaaGreat
open Go.RowKit

def resLogSeries (l : List Int) : List Int := if l.getD 0 0 = 1 then logl l else []
def codLogSeries (l : List Int) : Int := if l.getD 0 0 = 1 then 0 else 4
def allLogSeries (l : List Int) : List Int := if okS l = true then resLogSeries l else []
def alcLogSeries (l : List Int) : Int := if okS l = true then codLogSeries l else 1
theorem resLogSeries_len (l : List Int) (h0 : 1 ≤ l.length) : (resLogSeries l).length ≤ l.length := by
  unfold resLogSeries; split
  · rw [logl_len h0]; exact Nat.le_refl _
  · simp

set_option maxRecDepth 100000 in
set_option maxHeartbeats 6400000 in
theorem iLogSeriesR (a : Option Addr) (ca : Nat) (l : List Int) (w : World) (ha : At w a l) (H1 : Hid (okS l = true)) :
    Calls Tryz.prog 123 #[.slice a l.length ca] w (Res2 w (resLogSeries l) (codLogSeries l)) := by
  have hr := (okS_rng H1).1
  have hl := (okS_rng H1).2.1
  have hl0 := (okS_rng H1).2.2.1
  obtain ⟨b1, o1, rfl, hbl1, hc1⟩ := (ha.resolve_left (by intro e; rw [e] at hl0; simp at hl0))
  have hz : w.cell? ⟨b1, o1, none⟩ = some (.int .i64 (l.getD 0 0)) := by have := hc1 0 hl0; rwa [Nat.add_zero] at this
  have hmi : (0 : Int) < (l.length : Int) := by omega
  have hmin : 0 < l.length := by omega
  have HC1 := Lib.hid hc1
  clear hc1 ha
  by_cases h0 : l.getD 0 0 = 1
  · have hif := Lib.hid (show logl l = resLogSeries l by unfold resLogSeries; rw [if_pos h0])
    have hic := Lib.hid (show (0 : Int) = codLogSeries l by unfold codLogSeries; rw [if_pos h0])
    rw [h0] at hz
    clear h0
    obtain ⟨i0, hi, hz0, hz1, hz2⟩ := info_parts info64
    go_enter Tryz.func123, Tryz.ntmps123
    go_wp2_with (refine wpList_make_full _ rfl _ _ 98 rfl w.heap.size 2 i0 (.int .i64 0) 1 Tryz.underlying98 hi hz0 hz1 .i64 .i64 _ _ l.length rfl rfl rfl rfl ?c2 ?c3 (Nat.le_refl _) ?_)
    case c2 => rw [hz2]; omega
    case c3 => unfold maxLen; omega
    intro w1 ho1 hg1
    have hb1 := (Below.refl w.heap.size w).grown hg1 (Nat.le_refl _) (by intro k hk; cases hk)
    have ho1' := made_own ho1
    rw [fillz_zero, fillz_nil_zero hl0] at ho1'
    clear ho1 hg1 hi hz0 hz1 hz2 hz
    go_wp2
    go_loopw [5, 6, 7] (fun i _ _ wr => ∃ (k : Nat) (xs : List Int), k + 1 ≤ l.length ∧ i = .int .i64 ((k : Int) + 1) ∧ xs.length = k + 1 ∧ Hid (xs = lgs l k) ∧ Own w.heap.size wr w.heap.size l.length (fillz l.length xs) ∧ Below w.heap.size w wr) (fun i _ _ _ => l.length - (intOf i).toNat)
    case atStart => exact ⟨0, [0], hl0, rfl, rfl, rfl, ho1', hb1⟩
    case round =>
      obtain ⟨k, xs, hk, rfl, hxl0, hxs, ho, hw⟩ := hrel
      by_cases hlt : k + 1 < l.length
      · have hxl := Lib.hid hxl0
        have hxn : Nums xs := by rw [hxs.out]; exact lgs_nms _ _
        have hi3 : (k : Int) + 1 < (l.length : Int) := by omega
        have h1 : wr.cell? ⟨b1, o1 + (k + 1), none⟩ = some (.int .i64 (l.getD (k + 1) 0)) := (hw.cell (p := ⟨b1, o1 + (k + 1), none⟩) hbl1).trans (HC1.out (k + 1) hlt)
        have rk := hr.at (k + 1)
        obtain ⟨x0, hx0⟩ : ∃ x0, l.getD (k + 1) 0 = x0 := ⟨_, rfl⟩
        rw [hx0] at h1 rk
        have HX0 := Lib.hid hx0
        clear hb1 ho1' hxl0 hx0
        go_wp2_with fail
        refine (imult k x0 (by omega) rk _).mono ?_; rintro e w' ⟨rfl, rfl⟩
        obtain ⟨y0, hy0⟩ : ∃ y0, tms ((k : Int) + 1) x0 = y0 := ⟨_, rfl⟩
        have by0 : 0 ≤ y0 ∧ y0 < 1000003 := by rw [← hy0]; exact tms_bd _ _
        rw [hy0]
        have HY0 := Lib.hid hy0
        clear hy0 h1
        go_wp2
        obtain ⟨wo, hwo⟩ : ∃ wo : World, wo = wr := ⟨_, rfl⟩
        rw [← hwo] at ho hw ⊢
        clear hwo
        go_loopw [6, 7] (fun q i wi => ∃ (j : Nat) (s : Int), j ≤ k ∧ i = .int .i64 ((j : Int) + 1) ∧ q = .int .i64 s ∧ Hid (s = msub y0 (lterm l xs k) j) ∧ Own w.heap.size wi w.heap.size l.length (fillz l.length xs) ∧ Below w.heap.size w wi) (fun _ i _ => k + 1 - (intOf i).toNat)
        case atStart => exact ⟨0, y0, Nat.zero_le _, rfl, rfl, rfl, ho, hw⟩
        case round =>
          obtain ⟨j, s, hj, rfl, rfl, hs, hoi, hwi⟩ := hrel
          by_cases hjl : j < k
          · obtain ⟨d, hd⟩ : ∃ d : Nat, d = k - j := ⟨_, rfl⟩
            have h1 : wr.cell? ⟨w.heap.size, j + 1, none⟩ = some (.int .i64 (xs.getD (j + 1) 0)) := by
              rw [hoi.cellAt (j + 1) (by rw [fillz_len (by rw [hxl.out]; omega)]; omega), fillz_low (by rw [hxl.out]; omega)]
            have h2 : wr.cell? ⟨b1, o1 + d, none⟩ = some (.int .i64 (l.getD d 0)) := (hwi.cell (p := ⟨b1, o1 + d, none⟩) hbl1).trans (HC1.out d (by omega))
            have hwrap : IntKind.i64.wrap ((k : Int) + 1 - ((j : Int) + 1)) = (d : Int) := by rw [show ((k : Int) + 1 - ((j : Int) + 1)) = (d : Int) from by omega]; exact IntWalk.i64_in _ (by omega)
            have hwrap2 : IntKind.i64.wrap ((k : Int) - (j : Int)) = (d : Int) := by rw [show ((k : Int) - (j : Int)) = (d : Int) from by omega]; exact IntWalk.i64_in _ (by omega)
            have hi1 : (j : Int) + 1 < (l.length : Int) := by omega
            have hj0 : (0 : Int) ≤ (j : Int) + 1 := by omega
            have htn : ((j : Int) + 1).toNat = j + 1 := by omega
            have hi2 : (d : Int) < (l.length : Int) := by omega
            have r1 := hxn.rng.at (j + 1)
            have r2 := hr.at d
            have bs : 0 ≤ s ∧ s < 1000003 := by rw [hs.out]; exact msub_bd _ _ by0
            have hs2' : Hid (mns s (tms (tms ((j : Int) + 1) (xs.getD (j + 1) 0)) (l.getD d 0)) = msub y0 (lterm l xs k) (j + 1)) := by
              rw [hs.out, hd]; rfl
            have bt := tms_bd ((j : Int) + 1) (xs.getD (j + 1) 0)
            have bt2 := tms_bd (tms ((j : Int) + 1) (xs.getD (j + 1) 0)) (l.getD d 0)
            have hjs : j ≤ 1048576 := by omega
            clear hs hd
            generalize xs.getD (j + 1) 0 = x at h1 r1 hs2' bt bt2
            generalize l.getD d 0 = y at h2 r2 hs2' bt2
            go_wp2
            go_quiet ((first | (go_at_call 150; exact quiet_same (imult j x hjs r1 _)) | (go_at_call 74; exact quiet_same (iTimes _ _ (by omega) (by omega) _)) | (go_at_call 151; exact quiet_same (imns _ _ (by omega) (by omega) _))))
            go_wp2
            go_roundw
            case rel => exact ⟨j + 1, _, by omega, by go_num, rfl, hs2', hoi, below_drewN hwi _⟩
            case measure => simp [intOf]; omega
          · have hjk : j = k := by omega
            subst hjk
            have bs : 0 ≤ s ∧ s < 1000003 := by rw [hs.out]; exact msub_bd _ _ by0
            have hs3 : Hid (xs ++ [tms s (inv ((j : Int) + 1))] = lgs l (j + 1)) := by rw [lgs, ← hxs.out, HX0.out, HY0.out, hs.out]; rfl
            have hcs := hoi.cellAt (j + 1) (by rw [fillz_len (by rw [hxl.out]; omega)]; omega)
            have hfr := hoi.frz (j + 1)
            have hset := hoi.set (j + 1) (tms s (inv ((j : Int) + 1)))
            rw [fillz_set' hxl.out (by omega)] at hset
            have hb2 := hwi.setCell (p := ⟨w.heap.size, j + 1, none⟩) (Nat.le_refl _) (.int .i64 (tms s (inv ((j : Int) + 1))))
            have hl2 : Hid ((xs ++ [tms s (inv ((j : Int) + 1))]).length = j + 1 + 1) := by show _ = _; simp [hxl.out]
            clear hs hxs ho hw hoi
            generalize (fillz l.length xs).getD (j + 1) 0 = z at hcs
            go_wp2_with fail
            refine (ishare j s (by omega) (by omega) _).mono ?_; rintro e w' ⟨rfl, rfl⟩
            generalize tms s (inv ((j : Int) + 1)) = s2 at hs3 hset hb2 hl2
            go_wp2
            go_roundw
            case rel => exact ⟨j + 1, xs ++ [s2], by omega, by go_num, hl2.out, hs3, hset, hb2⟩
            case measure => simp [intOf]; omega
      · have hfin : Hid (fillz l.length xs = logl l) := by show _ = _; unfold logl; rw [fillz_full (by omega), hxs.out, show k = l.length - 1 from by omega]
        clear hxl0 hxs
        go_wp2
        go_ret2
        exact res2_of_fresh (c := 0) hif.out hic.out ⟨_, l.length, ret_slice2 (logl_len hl0).symm, by rw [← hfin.out]; exact ho, hw⟩
  · have hif := Lib.hid (show ([] : List Int) = resLogSeries l by unfold resLogSeries; rw [if_neg h0])
    have hic := Lib.hid (show (4 : Int) = codLogSeries l by unfold codLogSeries; rw [if_neg h0])
    have hq : (l.getD 0 0 != 1) = true := by rw [bne_iff_ne]; exact h0
    clear h0
    obtain ⟨f0, hf0⟩ : ∃ f0, l.getD 0 0 = f0 := ⟨_, rfl⟩
    rw [hf0] at hz hq
    clear hf0
    go_enter Tryz.func123, Tryz.ntmps123
    go_wp2_with fail
    go_ret2
    rw [← hif.out, ← hic.out]
    exact ⟨none, 0, rfl, .inl rfl, Below.refl _ _⟩

end Go.Proofs.YtldbhhocoolloaaGreat

namespace Go.Proofs.YtldbhhocoolloaaGreat
open Go.RowKit

theorem dls_nms (l : List Int) : Nums (dls l) := by
  intro n hn
  unfold dls fillz at hn
  rw [List.mem_append] at hn
  rcases hn with hn | hn
  · exact tab_nms _ (fun k => tms_bd _ _) n hn
  · rw [List.mem_replicate] at hn; omega

end Go.Proofs.YtldbhhocoolloaaGreat

namespace Go.Proofs.YtldbhhocoolloaaGreat
open Go.RowKit
set_option linter.unusedVariables false

set_option maxRecDepth 100000 in
set_option maxHeartbeats 1600000 in
theorem itransform4 (a : Option Addr) (ca : Nat) (l : List Int) (w : World) (ha : At w a l) (hl : l.length ≤ 1048576) :
    Calls Tryz.prog 106 #[.int .i64 4, .slice a l.length ca] w (Res2 w (allLogSeries l) (alcLogSeries l)) := by
  cases h1 : okS l with
  | true =>
    have hif := Lib.hid (show resLogSeries l = allLogSeries l by unfold allLogSeries; rw [if_pos h1])
    have hic := Lib.hid (show codLogSeries l = alcLogSeries l by unfold alcLogSeries; rw [if_pos h1])
    have H1 := Lib.hid h1
    clear h1
    go_enter Tryz.func106, Tryz.ntmps106
    go_wp2_with fail
    refine (iValid a ca l _ ha (by omega)).mono ?_; rintro e w' ⟨rfl, rfl⟩
    rw [H1.out]
    go_wp2_with fail
    refine (iLogSeriesR a ca l _ (by exact ha.alloc _) H1).mono ?_; rintro e w1 ⟨g, cap, rfl, ho, hbel⟩
    go_wp2_with fail
    go_ret2
    rw [← hif.out, ← hic.out]
    exact res2_alloc ⟨g, cap, rfl, ho, hbel⟩
  | false =>
    have hif := Lib.hid (show ([] : List Int) = allLogSeries l by unfold allLogSeries; rw [if_neg (by rw [h1]; simp)])
    have hic := Lib.hid (show (1 : Int) = alcLogSeries l by unfold alcLogSeries; rw [if_neg (by rw [h1]; simp)])
    have H1 := Lib.hid h1
    clear h1
    go_enter Tryz.func106, Tryz.ntmps106
    go_wp2_with fail
    refine (iValid a ca l _ ha (by omega)).mono ?_; rintro e w' ⟨rfl, rfl⟩
    rw [H1.out]
    go_wp2_with fail
    go_ret2
    rw [← hif.out, ← hic.out]
    exact ⟨none, 0, rfl, .inl rfl, Below.refl _ _⟩

theorem resLen_LogSeries (l : List Int) (hl : l.length ≤ 1048576) : (allLogSeries l).length ≤ 1048576 := by
  unfold allLogSeries; split
  · rename_i h; exact Nat.le_trans (resLogSeries_len l (okS_t h).1) hl
  · simp

end Go.Proofs.YtldbhhocoolloaaGreat
