/- Logarithms of series: the program's method. -/
import Derived.Test.YtegjlfbklcgapaaLogM
namespace Go.Proofs.Ytegjlfbklcgapaa
open Go.RowKit

def resLogSeries (l : List Int) : List Int := if l.getD 0 0 = 1 then logl l else []
def codLogSeries (l : List Int) : Int := if l.getD 0 0 = 1 then 0 else 4
def allLogSeries (l : List Int) : List Int := if okS l = true then resLogSeries l else []
def alcLogSeries (l : List Int) : Int := if okS l = true then codLogSeries l else 1
theorem resLogSeries_len (l : List Int) (h0 : 1 ≤ l.length) : (resLogSeries l).length ≤ l.length := by
  unfold resLogSeries; split
  · rw [logl_len h0]; exact Nat.le_refl _
  · simp

set_option maxRecDepth 100000 in
set_option maxHeartbeats 6400000 in
theorem iLogSeriesR (a : Option Addr) (ca : Nat) (l : List Int) (w : World) (ha : At w a l) (H1 : Hid (okS l = true)) :
    Calls Try.prog 110 #[.slice a l.length ca] w (Res2 w (resLogSeries l) (codLogSeries l)) := by
  have hr := (okS_rng H1).1
  have hl := (okS_rng H1).2.1
  have hl0 := (okS_rng H1).2.2.1
  obtain ⟨b1, o1, rfl, hbl1, hc1⟩ := (ha.resolve_left (by intro e; rw [e] at hl0; simp at hl0))
  have hz : w.cell? ⟨b1, o1, none⟩ = some (.int .i64 (l.getD 0 0)) := by have := hc1 0 hl0; rwa [Nat.add_zero] at this
  have hmi : (0 : Int) < (l.length : Int) := by omega
  have hmin : 0 < l.length := by omega
  have HC1 := Lib.hid hc1
  clear hc1 ha
  by_cases h0 : l.getD 0 0 = 1
  · have hif := Lib.hid (show logl l = resLogSeries l by unfold resLogSeries; rw [if_pos h0])
    have hic := Lib.hid (show (0 : Int) = codLogSeries l by unfold codLogSeries; rw [if_pos h0])
    rw [h0] at hz
    clear h0
    obtain ⟨i0, hi, hz0, hz1, hz2⟩ := info_parts info64
    go_enter Try.func110, Try.ntmps110
    go_wp2_with (refine wpList_make_full _ rfl _ _ 69 rfl w.heap.size 2 i0 (.int .i64 0) 1 Try.underlying69 hi hz0 hz1 .i64 .i64 _ _ l.length rfl rfl rfl rfl ?c2 ?c3 (Nat.le_refl _) ?_)
    case c2 => rw [hz2]; omega
    case c3 => unfold maxLen; omega
    intro w1 ho1 hg1
    have hb1 := (Below.refl w.heap.size w).grown hg1 (Nat.le_refl _) (by intro k hk; cases hk)
    have ho1' := made_own ho1
    rw [fillz_zero, fillz_nil_zero hl0] at ho1'
    clear ho1 hg1 hi hz0 hz1 hz2 hz
    go_wp2
    go_loopw [5, 6, 7] (fun i _ _ wr => ∃ (k : Nat) (xs : List Int), k + 1 ≤ l.length ∧ i = .int .i64 ((k : Int) + 1) ∧ xs.length = k + 1 ∧ Hid (xs = lgs l k) ∧ Own w.heap.size wr w.heap.size l.length (fillz l.length xs) ∧ Below w.heap.size w wr) (fun i _ _ _ => l.length - (intOf i).toNat)
    case atStart => exact ⟨0, [0], hl0, rfl, rfl, rfl, ho1', hb1⟩
    case round =>
      obtain ⟨k, xs, hk, rfl, hxl0, hxs, ho, hw⟩ := hrel
      by_cases hlt : k + 1 < l.length
      · have hxl := Lib.hid hxl0
        have hxn : Nums xs := by rw [hxs.out]; exact lgs_nms _ _
        have hi3 : (k : Int) + 1 < (l.length : Int) := by omega
        have h1 : wr.cell? ⟨b1, o1 + (k + 1), none⟩ = some (.int .i64 (l.getD (k + 1) 0)) := (hw.cell (p := ⟨b1, o1 + (k + 1), none⟩) hbl1).trans (HC1.out (k + 1) hlt)
        have rk := hr.at (k + 1)
        obtain ⟨x0, hx0⟩ : ∃ x0, l.getD (k + 1) 0 = x0 := ⟨_, rfl⟩
        rw [hx0] at h1 rk
        have HX0 := Lib.hid hx0
        clear hb1 ho1' hxl0 hx0
        go_wp2_with fail
        refine (imult k x0 (by omega) rk _).mono ?_; rintro e w' ⟨rfl, rfl⟩
        obtain ⟨y0, hy0⟩ : ∃ y0, tms ((k : Int) + 1) x0 = y0 := ⟨_, rfl⟩
        have by0 : 0 ≤ y0 ∧ y0 < 1000003 := by rw [← hy0]; exact tms_bd _ _
        rw [hy0]
        have HY0 := Lib.hid hy0
        clear hy0 h1
        go_wp2
        obtain ⟨wo, hwo⟩ : ∃ wo : World, wo = wr := ⟨_, rfl⟩
        rw [← hwo] at ho hw ⊢
        clear hwo
        go_loopw [6, 7] (fun q i wi => ∃ (j : Nat) (s : Int), j ≤ k ∧ i = .int .i64 ((j : Int) + 1) ∧ q = .int .i64 s ∧ Hid (s = msub y0 (lterm l xs k) j) ∧ Own w.heap.size wi w.heap.size l.length (fillz l.length xs) ∧ Below w.heap.size w wi) (fun _ i _ => k + 1 - (intOf i).toNat)
        case atStart => exact ⟨0, y0, Nat.zero_le _, rfl, rfl, rfl, ho, hw⟩
        case round =>
          obtain ⟨j, s, hj, rfl, rfl, hs, hoi, hwi⟩ := hrel
          by_cases hjl : j < k
          · obtain ⟨d, hd⟩ : ∃ d : Nat, d = k - j := ⟨_, rfl⟩
            have h1 : wr.cell? ⟨w.heap.size, j + 1, none⟩ = some (.int .i64 (xs.getD (j + 1) 0)) := by
              rw [hoi.cellAt (j + 1) (by rw [fillz_len (by rw [hxl.out]; omega)]; omega), fillz_low (by rw [hxl.out]; omega)]
            have h2 : wr.cell? ⟨b1, o1 + d, none⟩ = some (.int .i64 (l.getD d 0)) := (hwi.cell (p := ⟨b1, o1 + d, none⟩) hbl1).trans (HC1.out d (by omega))
            have hwrap : IntKind.i64.wrap ((k : Int) + 1 - ((j : Int) + 1)) = (d : Int) := by rw [show ((k : Int) + 1 - ((j : Int) + 1)) = (d : Int) from by omega]; exact IntWalk.i64_in _ (by omega)
            have hwrap2 : IntKind.i64.wrap ((k : Int) - (j : Int)) = (d : Int) := by rw [show ((k : Int) - (j : Int)) = (d : Int) from by omega]; exact IntWalk.i64_in _ (by omega)
            have hi1 : (j : Int) + 1 < (l.length : Int) := by omega
            have hj0 : (0 : Int) ≤ (j : Int) + 1 := by omega
            have htn : ((j : Int) + 1).toNat = j + 1 := by omega
            have hi2 : (d : Int) < (l.length : Int) := by omega
            have r1 := hxn.rng.at (j + 1)
            have r2 := hr.at d
            have bs : 0 ≤ s ∧ s < 1000003 := by rw [hs.out]; exact msub_bd _ _ by0
            have hs2' : Hid (mns s (tms (tms ((j : Int) + 1) (xs.getD (j + 1) 0)) (l.getD d 0)) = msub y0 (lterm l xs k) (j + 1)) := by
              rw [hs.out, hd]; rfl
            have bt := tms_bd ((j : Int) + 1) (xs.getD (j + 1) 0)
            have bt2 := tms_bd (tms ((j : Int) + 1) (xs.getD (j + 1) 0)) (l.getD d 0)
            have hjs : j ≤ 1048576 := by omega
            clear hs hd
            generalize xs.getD (j + 1) 0 = x at h1 r1 hs2' bt bt2
            generalize l.getD d 0 = y at h2 r2 hs2' bt2
            go_wp2
            go_quiet ((first | (go_at_call 120; exact quiet_same (imult j x hjs r1 _)) | (go_at_call 29; exact quiet_same (iTimes _ _ (by omega) (by omega) _)) | (go_at_call 121; exact quiet_same (imns _ _ (by omega) (by omega) _))))
            go_wp2
            go_roundw
            case rel => exact ⟨j + 1, _, by omega, by go_num, rfl, hs2', hoi, below_drewN hwi _⟩
            case measure => simp [intOf]; omega
          · have hjk : j = k := by omega
            subst hjk
            have bs : 0 ≤ s ∧ s < 1000003 := by rw [hs.out]; exact msub_bd _ _ by0
            have hs3 : Hid (xs ++ [tms s (inv ((j : Int) + 1))] = lgs l (j + 1)) := by rw [lgs, ← hxs.out, HX0.out, HY0.out, hs.out]; rfl
            have hcs := hoi.cellAt (j + 1) (by rw [fillz_len (by rw [hxl.out]; omega)]; omega)
            have hfr := hoi.frz (j + 1)
            have hset := hoi.set (j + 1) (tms s (inv ((j : Int) + 1)))
            rw [fillz_set' hxl.out (by omega)] at hset
            have hb2 := hwi.setCell (p := ⟨w.heap.size, j + 1, none⟩) (Nat.le_refl _) (.int .i64 (tms s (inv ((j : Int) + 1))))
            have hl2 : Hid ((xs ++ [tms s (inv ((j : Int) + 1))]).length = j + 1 + 1) := by show _ = _; simp [hxl.out]
            clear hs hxs ho hw hoi
            generalize (fillz l.length xs).getD (j + 1) 0 = z at hcs
            go_wp2_with fail
            refine (ishare j s (by omega) (by omega) _).mono ?_; rintro e w' ⟨rfl, rfl⟩
            generalize tms s (inv ((j : Int) + 1)) = s2 at hs3 hset hb2 hl2
            go_wp2
            go_roundw
            case rel => exact ⟨j + 1, xs ++ [s2], by omega, by go_num, hl2.out, hs3, hset, hb2⟩
            case measure => simp [intOf]; omega
      · have hfin : Hid (fillz l.length xs = logl l) := by show _ = _; unfold logl; rw [fillz_full (by omega), hxs.out, show k = l.length - 1 from by omega]
        clear hxl0 hxs
        go_wp2
        go_ret2
        exact res2_of_fresh (c := 0) hif.out hic.out ⟨_, l.length, ret_slice2 (logl_len hl0).symm, by rw [← hfin.out]; exact ho, hw⟩
  · have hif := Lib.hid (show ([] : List Int) = resLogSeries l by unfold resLogSeries; rw [if_neg h0])
    have hic := Lib.hid (show (4 : Int) = codLogSeries l by unfold codLogSeries; rw [if_neg h0])
    have hq : (l.getD 0 0 != 1) = true := by rw [bne_iff_ne]; exact h0
    clear h0
    obtain ⟨f0, hf0⟩ : ∃ f0, l.getD 0 0 = f0 := ⟨_, rfl⟩
    rw [hf0] at hz hq
    clear hf0
    go_enter Try.func110, Try.ntmps110
    go_wp2_with fail
    go_ret2
    rw [← hif.out, ← hic.out]
    exact ⟨none, 0, rfl, .inl rfl, Below.refl _ _⟩

end Go.Proofs.Ytegjlfbklcgapaa
