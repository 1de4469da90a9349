/- Logarithms of series: the model. -/
import Derived.Test.YtegjlfbklcgapaaLogI
namespace Go.Proofs.Ytegjlfbklcgapaa
open Go.RowKit

theorem dls_nms (l : List Int) : Nums (dls l) := by
  intro n hn
  unfold dls fillz at hn
  rw [List.mem_append] at hn
  rcases hn with hn | hn
  · exact tab_nms _ (fun k => tms_bd _ _) n hn
  · rw [List.mem_replicate] at hn; omega

set_option maxRecDepth 100000 in
set_option maxHeartbeats 3200000 in
theorem sLogSeries (a : Option Addr) (ca : Nat) (l : List Int) (w : World) (ha : At w a l) (hr : Rng l) (hl : l.length ≤ 1048576) :
    Calls Try.prog 71 #[.slice a l.length ca] w (Res2 w (allLogSeries l) (alcLogSeries l)) := by
  cases h1 : okS l with
  | true =>
    have H1 := Lib.hid h1
    have hk := okS_rng H1
    have hl0 := hk.2.2.1
    have hal : Hid (allLogSeries l = resLogSeries l) := by show _ = _; unfold allLogSeries; rw [if_pos h1]
    have hac : Hid (alcLogSeries l = codLogSeries l) := by show _ = _; unfold alcLogSeries; rw [if_pos h1]
    have ha' := ha
    obtain ⟨b1, o1, rfl, hbl1, hc1⟩ := (ha.resolve_left (by intro e; rw [e] at hl0; simp at hl0))
    have hz : w.cell? ⟨b1, o1, none⟩ = some (.int .i64 (l.getD 0 0)) := by have := hc1 0 hl0; rwa [Nat.add_zero] at this
    have hmi : (0 : Int) < (l.length : Int) := by omega
    have hmin : 0 < l.length := by omega
    clear hc1 ha h1
    by_cases h0 : l.getD 0 0 = 1
    · have hif := Lib.hid (show ils (divl (dls l) l) = allLogSeries l by rw [hal.out]; unfold resLogSeries; rw [if_pos h0, log_eq hl0 (by omega) h0])
      have hic := Lib.hid (show (0 : Int) = alcLogSeries l by rw [hac.out]; unfold codLogSeries; rw [if_pos h0])
      rw [h0] at hz
      clear h0
      go_enter Try.func71, Try.ntmps71
      go_wp2_with fail
      refine (sOk _ ca l _ ha' (by omega)).mono ?_; rintro e w' ⟨rfl, rfl⟩
      rw [H1.out]
      go_wp2_with fail
      refine (sDer _ ca l _ ha' hr hl0 hl).mono ?_
      rintro e w1 ⟨g1, c1, rfl, ho1, hb1⟩
      go_wp2_with fail
      have hdl : Hid ((dls l).length = l.length) := dls_len l
      refine (sDiv _ _ c1 ca (dls l) l _ ho1.at (ha'.below hb1 (Nat.le_refl _)) (dls_nms l) hk.2.2.2.2 hdl.out.symm (by rw [hdl.out]; exact hl0) (by rw [hdl.out]; exact hl)).mono ?_
      rintro e w2 ⟨g2, c2, rfl, ho2, hb2⟩
      go_wp2_with fail
      have hql : Hid ((divl (dls l) l).length = l.length) := by show _ = _; rw [divl_len, hdl.out]
      refine (sInt _ c2 (divl (dls l) l) _ ho2.at (Nums.rng (dvs_nms _ _ _ _)) (by rw [hql.out]; exact hl0) (by rw [hql.out]; exact hl)).mono ?_
      rintro e w3 ⟨g3, c3, rfl, ho3, hb3⟩
      go_wp2_with fail
      go_ret2
      exact res2_of_fresh (c := 0) hif.out hic.out ⟨g3, c3, rfl, ho3.mono (Nat.le_trans hb1.size hb2.size), (hb1.trans (hb2.mono hb1.size)).trans (hb3.mono (Nat.le_trans hb1.size hb2.size))⟩
    · have hif := Lib.hid (show ([] : List Int) = allLogSeries l by rw [hal.out]; unfold resLogSeries; rw [if_neg h0])
      have hic := Lib.hid (show (4 : Int) = alcLogSeries l by rw [hac.out]; unfold codLogSeries; rw [if_neg h0])
      have hq : (l.getD 0 0 != 1) = true := by rw [bne_iff_ne]; exact h0
      clear h0
      obtain ⟨f0, hf0⟩ : ∃ f0, l.getD 0 0 = f0 := ⟨_, rfl⟩
      rw [hf0] at hz hq
      clear hf0
      go_enter Try.func71, Try.ntmps71
      go_wp2_with fail
      refine (sOk _ ca l _ ha' (by omega)).mono ?_; rintro e w' ⟨rfl, rfl⟩
      rw [H1.out]
      go_wp2_with fail
      go_ret2
      rw [← hif.out, ← hic.out]
      exact ⟨_, _, rfl, .inl rfl, (Below.refl _ _).alloc (Nat.le_refl _) _⟩
  | false =>
    have hif := Lib.hid (show ([] : List Int) = allLogSeries l by unfold allLogSeries; rw [if_neg (by rw [h1]; simp)])
    have hic := Lib.hid (show (1 : Int) = alcLogSeries l by unfold alcLogSeries; rw [if_neg (by rw [h1]; simp)])
    have H1 := Lib.hid h1
    clear h1
    go_enter Try.func71, Try.ntmps71
    go_wp2_with fail
    refine (sOk a ca l _ ha (by omega)).mono ?_; rintro e w' ⟨rfl, rfl⟩
    rw [H1.out]
    go_wp2_with fail
    go_ret2
    rw [← hif.out, ← hic.out]
    exact ⟨_, _, rfl, .inl rfl, (Below.refl _ _).alloc (Nat.le_refl _) _⟩

end Go.Proofs.Ytegjlfbklcgapaa
