/- Exponentials of series: the model. -/
import Derived.Test.YtegjlfbklcgapaaUnI
namespace Go.Proofs.Ytegjlfbklcgapaa
open Go.RowKit
attribute [local go_sem ↓] Go.wp_at_zero Go.wp_at_succ

theorem exs_nms (a : List Int) (k : Nat) : Nums (exs a k) := by
  induction k with
  | zero => intro n hn; simp [exs] at hn; omega
  | succ k ih => rw [exs]; exact nms_snoc ih (tms_bd _ _)
def eterm (l xs : List Int) (k i : Nat) : Int := tms (tms ((i : Int) + 1) (l.getD (i + 1) 0)) (xs.getD (k - i) 0)
theorem exs_succ (l : List Int) (k : Nat) : exs l (k + 1) = exs l k ++ [tms (psum (eterm l (exs l k) k) (k + 1)) (inv ((k : Int) + 1))] := rfl

def resExpSeries (l : List Int) : List Int := if l.getD 0 0 = 0 then expl l else []
def codExpSeries (l : List Int) : Int := if l.getD 0 0 = 0 then 0 else 4
def allExpSeries (l : List Int) : List Int := if okS l = true then resExpSeries l else []
def alcExpSeries (l : List Int) : Int := if okS l = true then codExpSeries l else 1
theorem resExpSeries_len (l : List Int) (h0 : 1 ≤ l.length) : (resExpSeries l).length ≤ l.length := by
  unfold resExpSeries; split
  · rw [expl_len h0]; exact Nat.le_refl _
  · simp

set_option maxRecDepth 100000 in
set_option maxHeartbeats 6400000 in
theorem sExpSeries (a : Option Addr) (ca : Nat) (l : List Int) (w : World) (ha : At w a l) (hr : Rng l) (hl : l.length ≤ 1048576) :
    Calls Try.prog 70 #[.slice a l.length ca] w (Res2 w (allExpSeries l) (alcExpSeries l)) := by
  cases h1 : okS l with
  | true =>
    have H1 := Lib.hid h1
    have hl0 := (okS_rng H1).2.2.1
    have hal : Hid (allExpSeries l = resExpSeries l) := by show _ = _; unfold allExpSeries; rw [if_pos h1]
    have hac : Hid (alcExpSeries l = codExpSeries l) := by show _ = _; unfold alcExpSeries; rw [if_pos h1]
    have ha' := ha
    obtain ⟨b1, o1, rfl, hbl1, hc1⟩ := (ha.resolve_left (by intro e; rw [e] at hl0; simp at hl0))
    have hz : w.cell? ⟨b1, o1, none⟩ = some (.int .i64 (l.getD 0 0)) := by have := hc1 0 hl0; rwa [Nat.add_zero] at this
    have hmi : (0 : Int) < (l.length : Int) := by omega
    have hmin : 0 < l.length := by omega
    have HC1 := Lib.hid hc1
    clear hc1 ha h1
    by_cases h0 : l.getD 0 0 = 0
    · have hif := Lib.hid (show expl l = allExpSeries l by rw [hal.out]; unfold resExpSeries; rw [if_pos h0])
      have hic := Lib.hid (show (0 : Int) = alcExpSeries l by rw [hac.out]; unfold codExpSeries; rw [if_pos h0])
      rw [h0] at hz
      clear h0
      go_enter Try.func70, Try.ntmps70
      go_wp2_with fail
      refine (sOk _ ca l _ ha' (by omega)).mono ?_; rintro e w' ⟨rfl, rfl⟩
      rw [H1.out]
      go_wp2_with fail
      refine (sConst 1 l.length _ hl).mono ?_
      rintro e w1 ⟨g1, c1, rfl, ho1, hb1⟩
      have ho1' : Own w.heap.size w1 g1 c1 (fillz l.length [1]) := by
        have e1 : cstl 1 l.length = fillz l.length [1] := by
          unfold cstl
          rw [← fillz_zero]
          exact fillz_set' (n := l.length) (xs := []) rfl hl0 1
        rw [← e1]; exact ho1
      rw [cstl_len]
      clear ho1 hz ha'
      go_wp2_with fail
      go_loopw [5, 6, 7] (fun i _ _ wr => ∃ (k : Nat) (xs : List Int), k + 1 ≤ l.length ∧ i = .int .i64 ((k : Int) + 1) ∧ xs.length = k + 1 ∧ Hid (xs = exs l k) ∧ Own w.heap.size wr g1 c1 (fillz l.length xs) ∧ Below w.heap.size w wr) (fun i _ _ _ => l.length - (intOf i).toNat)
      case atStart => exact ⟨0, [1], hl0, rfl, rfl, rfl, ho1', hb1⟩
      case round =>
        obtain ⟨k, xs, hk, rfl, hxl0, hxs, ho, hw⟩ := hrel
        by_cases hlt : k + 1 < l.length
        · have hxl := Lib.hid hxl0
          have hxn : Nums xs := by rw [hxs.out]; exact exs_nms _ _
          have hi3 : (k : Int) + 1 < (l.length : Int) := by omega
          clear hb1 ho1' hxl0
          go_wp2
          obtain ⟨wo, hwo⟩ : ∃ wo : World, wo = wr := ⟨_, rfl⟩
          rw [← hwo] at ho hw ⊢
          clear hwo
          go_loopw [6, 7] (fun q i wi => ∃ (j : Nat) (s : Int), j ≤ k + 1 ∧ i = .int .i64 ((j : Int) + 1) ∧ q = .int .i64 s ∧ Hid (s = psum (eterm l xs k) j) ∧ Own w.heap.size wi g1 c1 (fillz l.length xs) ∧ Below w.heap.size w wi) (fun _ i _ => k + 2 - (intOf i).toNat)
          case atStart => exact ⟨0, 0, Nat.zero_le _, rfl, rfl, rfl, ho, hw⟩
          case round =>
            obtain ⟨j, s, hj, rfl, rfl, hs, hoi, hwi⟩ := hrel
            by_cases hjl : j ≤ k
            · obtain ⟨d, hd⟩ : ∃ d : Nat, d = k - j := ⟨_, rfl⟩
              have h1 : wr.cell? ⟨b1, o1 + (j + 1), none⟩ = some (.int .i64 (l.getD (j + 1) 0)) := (hwi.cell (p := ⟨b1, o1 + (j + 1), none⟩) hbl1).trans (HC1.out (j + 1) (by omega))
              have h2 : wr.cell? ⟨g1, d, none⟩ = some (.int .i64 (xs.getD d 0)) := by
                rw [hoi.cellAt d (by rw [fillz_len (by rw [hxl.out]; omega)]; omega), fillz_low (by rw [hxl.out]; omega)]
              have hwrap : IntKind.i64.wrap ((k : Int) + 1 - ((j : Int) + 1)) = (d : Int) := by rw [show ((k : Int) + 1 - ((j : Int) + 1)) = (d : Int) from by omega]; exact IntWalk.i64_in _ (by omega)
              have hwrap2 : IntKind.i64.wrap ((k : Int) - (j : Int)) = (d : Int) := by rw [show ((k : Int) - (j : Int)) = (d : Int) from by omega]; exact IntWalk.i64_in _ (by omega)
              have hi1 : (j : Int) + 1 < (l.length : Int) := by omega
              have hj0 : (0 : Int) ≤ (j : Int) + 1 := by omega
              have htn : ((j : Int) + 1).toNat = j + 1 := by omega
              have hi2 : (d : Int) < (l.length : Int) := by omega
              have r1 := hr.at (j + 1)
              have r2 := hxn.at d
              have bs : 0 ≤ s ∧ s < 1000003 := by rw [hs.out]; exact psum_bd _ _
              have hs2' : Hid (pls s (tms (tms ((j : Int) + 1) (l.getD (j + 1) 0)) (xs.getD d 0)) = psum (eterm l xs k) (j + 1)) := by
                rw [hs.out, hd]; rfl
              have bt := tms_bd ((j : Int) + 1) (l.getD (j + 1) 0)
              have bt2 := tms_bd (tms ((j : Int) + 1) (l.getD (j + 1) 0)) (xs.getD d 0)
              have hjs : j ≤ 1048576 := by omega
              clear hs hd
              generalize l.getD (j + 1) 0 = x at h1 r1 hs2' bt bt2
              generalize xs.getD d 0 = y at h2 r2 hs2' bt2
              go_wp2
              go_quiet ((first | (go_at_call 52; exact quiet_same (sTimes _ _ (by omega) (by omega) _)) | (go_at_call 51; exact quiet_same (sPlus _ _ (by omega) (by omega) _))))
              go_wp2
              go_roundw
              case rel => exact ⟨j + 1, _, by omega, by go_num, rfl, hs2', hoi, below_drewN hwi _⟩
              case measure => simp [intOf]; omega
            · have hjk : j = k + 1 := by omega
              subst hjk
              have bs : 0 ≤ s ∧ s < 1000003 := by rw [hs.out]; exact psum_bd _ _
              have ib := pwr_bd ((k : Int) + 1) 1000001
              have ib2 : 0 ≤ inv ((k : Int) + 1) ∧ inv ((k : Int) + 1) < 1000003 := ib
              have hs3 : Hid (xs ++ [tms s (inv ((k : Int) + 1))] = exs l (k + 1)) := by rw [exs_succ, ← hxs.out, hs.out]; rfl
              have hcs := hoi.cellAt (k + 1) (by rw [fillz_len (by rw [hxl.out]; omega)]; omega)
              have hfr := hoi.frz (k + 1)
              have hset := hoi.set (k + 1) (tms s (inv ((k : Int) + 1)))
              rw [fillz_set' hxl.out (by omega)] at hset
              have hb2 := hwi.setCell (p := ⟨g1, k + 1, none⟩) hoi.base.1 (.int .i64 (tms s (inv ((k : Int) + 1))))
              have hl2 : Hid ((xs ++ [tms s (inv ((k : Int) + 1))]).length = k + 1 + 1) := by show _ = _; simp [hxl.out]
              clear hs hxs ho hw hoi ib
              generalize (fillz l.length xs).getD (k + 1) 0 = z at hcs
              go_wp2_with fail
              refine (sinv ((k : Int) + 1) (by omega) _).mono ?_; rintro e w' ⟨rfl, rfl⟩
              go_wp2_with fail
              refine (sTimes s (inv ((k : Int) + 1)) (by omega) (by omega) _).mono ?_; rintro e w' ⟨rfl, rfl⟩
              generalize tms s (inv ((k : Int) + 1)) = s2 at hs3 hset hb2 hl2
              go_wp2
              go_roundw
              case rel => exact ⟨k + 1, xs ++ [s2], by omega, by go_num, hl2.out, hs3, hset, hb2⟩
              case measure => simp [intOf]; omega
        · have hfin : Hid (fillz l.length xs = expl l) := by show _ = _; unfold expl; rw [fillz_full (by omega), hxs.out, show k = l.length - 1 from by omega]
          clear hxl0 hxs
          go_wp2
          go_ret2
          exact res2_of_fresh (c := 0) hif.out hic.out ⟨g1, c1, ret_slice2 (expl_len hl0).symm, by rw [← hfin.out]; exact ho, hw⟩
    · have hif := Lib.hid (show ([] : List Int) = allExpSeries l by rw [hal.out]; unfold resExpSeries; rw [if_neg h0])
      have hic := Lib.hid (show (4 : Int) = alcExpSeries l by rw [hac.out]; unfold codExpSeries; rw [if_neg h0])
      have hq : (l.getD 0 0 != 0) = true := by rw [bne_iff_ne]; exact h0
      clear h0
      obtain ⟨f0, hf0⟩ : ∃ f0, l.getD 0 0 = f0 := ⟨_, rfl⟩
      rw [hf0] at hz hq
      clear hf0
      go_enter Try.func70, Try.ntmps70
      go_wp2_with fail
      refine (sOk _ ca l _ ha' (by omega)).mono ?_; rintro e w' ⟨rfl, rfl⟩
      rw [H1.out]
      go_wp2_with fail
      go_ret2
      rw [← hif.out, ← hic.out]
      exact ⟨_, _, rfl, .inl rfl, (Below.refl _ _).alloc (Nat.le_refl _) _⟩
  | false =>
    have hif := Lib.hid (show ([] : List Int) = allExpSeries l by unfold allExpSeries; rw [if_neg (by rw [h1]; simp)])
    have hic := Lib.hid (show (1 : Int) = alcExpSeries l by unfold alcExpSeries; rw [if_neg (by rw [h1]; simp)])
    have H1 := Lib.hid h1
    clear h1
    go_enter Try.func70, Try.ntmps70
    go_wp2_with fail
    refine (sOk a ca l _ ha (by omega)).mono ?_; rintro e w' ⟨rfl, rfl⟩
    rw [H1.out]
    go_wp2_with fail
    go_ret2
    rw [← hif.out, ← hic.out]
    exact ⟨_, _, rfl, .inl rfl, (Below.refl _ _).alloc (Nat.le_refl _) _⟩

end Go.Proofs.Ytegjlfbklcgapaa
