/- Exponentials of series: the program's method. -/
import Derived.Test.YtegjlfbklcgapaaExpP
namespace Go.Proofs.Ytegjlfbklcgapaa
open Go.RowKit

set_option maxRecDepth 100000 in
set_option maxHeartbeats 6400000 in
theorem iExpSeriesR (a : Option Addr) (ca : Nat) (l : List Int) (w : World) (ha : At w a l) (H1 : Hid (okS l = true)) :
    Calls Try.prog 109 #[.slice a l.length ca] w (Res2 w (resExpSeries l) (codExpSeries l)) := by
  have hr := (okS_rng H1).1
  have hl := (okS_rng H1).2.1
  have hl0 := (okS_rng H1).2.2.1
  obtain ⟨b1, o1, rfl, hbl1, hc1⟩ := (ha.resolve_left (by intro e; rw [e] at hl0; simp at hl0))
  have hz : w.cell? ⟨b1, o1, none⟩ = some (.int .i64 (l.getD 0 0)) := by have := hc1 0 hl0; rwa [Nat.add_zero] at this
  have hmi : (0 : Int) < (l.length : Int) := by omega
  have hmin : 0 < l.length := by omega
  have HC1 := Lib.hid hc1
  clear hc1 ha
  by_cases h0 : l.getD 0 0 = 0
  · have hif := Lib.hid (show expl l = resExpSeries l by unfold resExpSeries; rw [if_pos h0])
    have hic := Lib.hid (show (0 : Int) = codExpSeries l by unfold codExpSeries; rw [if_pos h0])
    rw [h0] at hz
    clear h0
    obtain ⟨i0, hi, hz0, hz1, hz2⟩ := info_parts info64
    go_enter Try.func109, Try.ntmps109
    go_wp2_with (refine wpList_make_full _ rfl _ _ 69 rfl w.heap.size 2 i0 (.int .i64 0) 1 Try.underlying69 hi hz0 hz1 .i64 .i64 _ _ l.length rfl rfl rfl rfl ?c2 ?c3 (Nat.le_refl _) ?_)
    case c2 => rw [hz2]; omega
    case c3 => unfold maxLen; omega
    intro w1 ho1 hg1
    have hb1' := (Below.refl w.heap.size w).grown hg1 (Nat.le_refl _) (by intro k hk; cases hk)
    have ho2 := made_own ho1
    have hcs0 := ho2.cellAt 0 (by rw [fillz_len (by simp)]; exact hl0)
    have hfr0 := ho2.frz 0
    have ho1' := ho2.set 0 1
    have he1 : (fillz l.length ([] : List Int)).set 0 1 = fillz l.length [1] := fillz_set' (n := l.length) (k := 0) (xs := []) rfl hl0 1
    rw [he1] at ho1'
    clear he1
    have hb1 := hb1'.setCell (p := ⟨w.heap.size, 0, none⟩) (Nat.le_refl _) (.int .i64 1)
    clear ho1 hg1 hi hz0 hz1 hz2 hz ho2 hb1'
    generalize (fillz l.length ([] : List Int)).getD 0 0 = z0 at hcs0
    go_wp2
    go_loopw [5, 6, 7] (fun i _ _ wr => ∃ (k : Nat) (xs : List Int), k + 1 ≤ l.length ∧ i = .int .i64 ((k : Int) + 1) ∧ xs.length = k + 1 ∧ Hid (xs = exs l k) ∧ Own w.heap.size wr w.heap.size l.length (fillz l.length xs) ∧ Below w.heap.size w wr) (fun i _ _ _ => l.length - (intOf i).toNat)
    case atStart => exact ⟨0, [1], hl0, rfl, rfl, rfl, ho1', hb1⟩
    case round =>
      obtain ⟨k, xs, hk, rfl, hxl0, hxs, ho, hw⟩ := hrel
      by_cases hlt : k + 1 < l.length
      · have hxl := Lib.hid hxl0
        have hxn : Nums xs := by rw [hxs.out]; exact exs_nms _ _
        have hi3 : (k : Int) + 1 < (l.length : Int) := by omega
        clear hb1 ho1' hxl0
        go_wp2
        obtain ⟨wo, hwo⟩ : ∃ wo : World, wo = wr := ⟨_, rfl⟩
        rw [← hwo] at ho hw ⊢
        clear hwo
        go_loopw [6, 7] (fun q i wi => ∃ (j : Nat) (s : Int), j ≤ k + 1 ∧ i = .int .i64 ((j : Int) + 1) ∧ q = .int .i64 s ∧ Hid (s = psum (eterm l xs k) j) ∧ Own w.heap.size wi w.heap.size l.length (fillz l.length xs) ∧ Below w.heap.size w wi) (fun _ i _ => k + 2 - (intOf i).toNat)
        case atStart => exact ⟨0, 0, Nat.zero_le _, rfl, rfl, rfl, ho, hw⟩
        case round =>
          obtain ⟨j, s, hj, rfl, rfl, hs, hoi, hwi⟩ := hrel
          by_cases hjl : j ≤ k
          · obtain ⟨d, hd⟩ : ∃ d : Nat, d = k - j := ⟨_, rfl⟩
            have h1 : wr.cell? ⟨b1, o1 + (j + 1), none⟩ = some (.int .i64 (l.getD (j + 1) 0)) := (hwi.cell (p := ⟨b1, o1 + (j + 1), none⟩) hbl1).trans (HC1.out (j + 1) (by omega))
            have h2 : wr.cell? ⟨w.heap.size, d, none⟩ = some (.int .i64 (xs.getD d 0)) := by
              rw [hoi.cellAt d (by rw [fillz_len (by rw [hxl.out]; omega)]; omega), fillz_low (by rw [hxl.out]; omega)]
            have hwrap : IntKind.i64.wrap ((k : Int) + 1 - ((j : Int) + 1)) = (d : Int) := by rw [show ((k : Int) + 1 - ((j : Int) + 1)) = (d : Int) from by omega]; exact IntWalk.i64_in _ (by omega)
            have hwrap2 : IntKind.i64.wrap ((k : Int) - (j : Int)) = (d : Int) := by rw [show ((k : Int) - (j : Int)) = (d : Int) from by omega]; exact IntWalk.i64_in _ (by omega)
            have hi1 : (j : Int) + 1 < (l.length : Int) := by omega
            have hj0 : (0 : Int) ≤ (j : Int) + 1 := by omega
            have htn : ((j : Int) + 1).toNat = j + 1 := by omega
            have hi2 : (d : Int) < (l.length : Int) := by omega
            have r1 := hr.at (j + 1)
            have r2 := hxn.at d
            have bs : 0 ≤ s ∧ s < 1000003 := by rw [hs.out]; exact psum_bd _ _
            have hs2' : Hid (pls s (tms (tms ((j : Int) + 1) (l.getD (j + 1) 0)) (xs.getD d 0)) = psum (eterm l xs k) (j + 1)) := by
              rw [hs.out, hd]; rfl
            have bt := tms_bd ((j : Int) + 1) (l.getD (j + 1) 0)
            have bt2 := tms_bd (tms ((j : Int) + 1) (l.getD (j + 1) 0)) (xs.getD d 0)
            have hjs : j ≤ 1048576 := by omega
            clear hs hd
            generalize l.getD (j + 1) 0 = x at h1 r1 hs2' bt bt2
            generalize xs.getD d 0 = y at h2 r2 hs2' bt2
            go_wp2
            go_quiet ((first | (go_at_call 120; exact quiet_same (imult j x hjs r1 _)) | (go_at_call 29; exact quiet_same (iTimes _ _ (by omega) (by omega) _)) | (go_at_call 28; exact quiet_same (iPlus _ _ (by omega) (by omega) _))))
            go_wp2
            go_roundw
            case rel => exact ⟨j + 1, _, by omega, by go_num, rfl, hs2', hoi, below_drewN hwi _⟩
            case measure => simp [intOf]; omega
          · have hjk : j = k + 1 := by omega
            subst hjk
            have bs : 0 ≤ s ∧ s < 1000003 := by rw [hs.out]; exact psum_bd _ _
            have hs3 : Hid (xs ++ [tms s (inv ((k : Int) + 1))] = exs l (k + 1)) := by rw [exs_succ, ← hxs.out, hs.out]; rfl
            have hcs := hoi.cellAt (k + 1) (by rw [fillz_len (by rw [hxl.out]; omega)]; omega)
            have hfr := hoi.frz (k + 1)
            have hset := hoi.set (k + 1) (tms s (inv ((k : Int) + 1)))
            rw [fillz_set' hxl.out (by omega)] at hset
            have hb2 := hwi.setCell (p := ⟨w.heap.size, k + 1, none⟩) (Nat.le_refl _) (.int .i64 (tms s (inv ((k : Int) + 1))))
            have hl2 : Hid ((xs ++ [tms s (inv ((k : Int) + 1))]).length = k + 1 + 1) := by show _ = _; simp [hxl.out]
            clear hs hxs ho hw hoi
            generalize (fillz l.length xs).getD (k + 1) 0 = z at hcs
            go_wp2_with fail
            refine (ishare k s (by omega) (by omega) _).mono ?_; rintro e w' ⟨rfl, rfl⟩
            generalize tms s (inv ((k : Int) + 1)) = s2 at hs3 hset hb2 hl2
            go_wp2
            go_roundw
            case rel => exact ⟨k + 1, xs ++ [s2], by omega, by go_num, hl2.out, hs3, hset, hb2⟩
            case measure => simp [intOf]; omega
      · have hfin : Hid (fillz l.length xs = expl l) := by show _ = _; unfold expl; rw [fillz_full (by omega), hxs.out, show k = l.length - 1 from by omega]
        clear hxl0 hxs
        go_wp2
        go_ret2
        exact res2_of_fresh (c := 0) hif.out hic.out ⟨_, l.length, ret_slice2 (expl_len hl0).symm, by rw [← hfin.out]; exact ho, hw⟩
  · have hif := Lib.hid (show ([] : List Int) = resExpSeries l by unfold resExpSeries; rw [if_neg h0])
    have hic := Lib.hid (show (4 : Int) = codExpSeries l by unfold codExpSeries; rw [if_neg h0])
    have hq : (l.getD 0 0 != 0) = true := by rw [bne_iff_ne]; exact h0
    clear h0
    obtain ⟨f0, hf0⟩ : ∃ f0, l.getD 0 0 = f0 := ⟨_, rfl⟩
    rw [hf0] at hz hq
    clear hf0
    go_enter Try.func109, Try.ntmps109
    go_wp2_with fail
    go_ret2
    rw [← hif.out, ← hic.out]
    exact ⟨none, 0, rfl, .inl rfl, Below.refl _ _⟩

end Go.Proofs.Ytegjlfbklcgapaa
