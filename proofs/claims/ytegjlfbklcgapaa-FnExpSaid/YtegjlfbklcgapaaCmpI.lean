/- The program's composition of two series, behind the checks. -/
import Derived.Test.YtegjlfbklcgapaaCmpS
namespace Go.Proofs.Ytegjlfbklcgapaa
open Go.RowKit

def resCompose (l m : List Int) : List Int := if m.getD 0 0 = 0 then cmpl l m else []
def codCompose (_ m : List Int) : Int := if m.getD 0 0 = 0 then 0 else 4
def allCompose (l m : List Int) : List Int := ifTwo l m (resCompose l m)
def alcCompose (l m : List Int) : Int := if two l m = 0 then codCompose l m else two l m
theorem resCompose_len (l m : List Int) : (resCompose l m).length ≤ l.length := by
  unfold resCompose; split
  · rw [cmpl_len]; exact Nat.le_refl _
  · simp

set_option maxRecDepth 100000 in
set_option maxHeartbeats 6400000 in
theorem iComposeR (a b : Option Addr) (ca cb : Nat) (l m : List Int) (w : World) (ha : At w a l) (hb : At w b m) (h1 : Hid (okS l = true)) (h2 : Hid (okS m = true)) (hlm : Hid (m.length = l.length)) :
    Calls Try.prog 105 #[.slice a l.length ca, .slice b m.length cb] w (Res2 w (resCompose l m) (codCompose l m)) := by
  have hk := okS_rng h1
  have hr := hk.1
  have hr2 := (okS_rng h2).1
  have hl := hk.2.1
  have hl0 := hk.2.2.1
  have hm0 : 1 ≤ m.length := (okS_rng h2).2.2.1
  clear hk
  have hb' := hb
  obtain ⟨b2, o2, rfl, hbl2, hc2⟩ := (hb.resolve_left (by intro e; rw [e] at hm0; simp at hm0))
  have hz : w.cell? ⟨b2, o2, none⟩ = some (.int .i64 (m.getD 0 0)) := by have := hc2 0 hm0; rwa [Nat.add_zero] at this
  have hmi : (0 : Int) < (m.length : Int) := by omega
  clear hc2 hb
  by_cases h0 : m.getD 0 0 = 0
  · have hif := Lib.hid (show cmpl l m = resCompose l m by unfold resCompose; rw [if_pos h0])
    have hic := Lib.hid (show (0 : Int) = codCompose l m by unfold codCompose; rw [if_pos h0])
    rw [h0] at hz
    clear h0
    obtain ⟨i0, hi, hz0, hz1, hz2⟩ := info_parts info64
    go_enter Try.func105, Try.ntmps105
    go_wp2_with (refine wpList_make_full _ rfl _ _ 69 rfl w.heap.size 2 i0 (.int .i64 0) 1 Try.underlying69 hi hz0 hz1 .i64 .i64 _ _ l.length rfl rfl rfl rfl ?c2 ?c3 (Nat.le_refl _) ?_)
    case c2 => rw [hz2]; omega
    case c3 => unfold maxLen; omega
    intro w1 ho1 hg1
    have hb1 := (Below.refl w.heap.size w).grown hg1 (Nat.le_refl _) (by intro k hk; cases hk)
    have ho2 := made_own ho1
    rw [fillz_zero] at ho2
    clear ho1 hg1 hi hz0 hz1 hz2 hz
    go_wp2
    go_loopw [6, 7] (fun v i wr => ∃ (r g cap : Nat) (xs : List Int), r ≤ l.length ∧ i = .int .i64 ((r : Int) - 1) ∧ v = .slice (some ⟨g, 0, none⟩) l.length cap ∧ Hid (xs = cmps l m (l.length - r)) ∧ Own w.heap.size wr g cap xs ∧ Below w.heap.size w wr) (fun _ i _ => (intOf i + 1).toNat)
    case atStart => exact ⟨l.length, w.heap.size, l.length, List.replicate l.length 0, Nat.le_refl _, rfl, rfl, by show _ = _; rw [Nat.sub_self]; rfl, ho2, hb1⟩
    case round =>
      obtain ⟨r, g, cap, xs, hk, rfl, rfl, hxs, ho, hw⟩ := hrel
      have hxl : Hid (xs.length = l.length) := by rw [hxs.out]; exact cmps_len _ _ _
      cases r with
      | zero =>
        have hx2 := Lib.hid (show xs = cmpl l m from hxs.out)
        clear hxs
        go_wp2
        go_ret2
        exact res2_of_fresh (c := 0) hif.out hic.out ⟨g, cap, ret_slice2 (cmpl_len l m).symm, by rw [← hx2.out]; exact ho, hw⟩
      | succ j =>
        have hlt : j < l.length := by omega
        have e : (((j + 1 : Nat) : Int) - 1) = (j : Int) := by omega
        rw [e]
        clear e
        obtain ⟨b1, o1, rfl, hbl1, hc1⟩ := (ha.resolve_left (by intro e; rw [e] at hlt; simp at hlt))
        have hnx : Nums xs := by rw [hxs.out]; exact cmps_nms _ _ _
        have hx2 : Hid (addh (mull xs m) (l.getD j 0) = cmps l m (l.length - j)) := by
          show _ = _
          rw [show l.length - j = (l.length - (j + 1)) + 1 from by omega, cmps, ← hxs.out, show l.length - 1 - (l.length - (j + 1)) = j from by omega]
        have hmb := hb'.below hw (Nat.le_refl _)
        have hmx := ho.at
        have HC1 := Lib.hid hc1
        clear hc1 hxs
        go_wp2_with fail
        rw [← hxl.out]
        refine (iproduct _ _ cap cb xs m _ hmx hmb hnx.rng hr2 (by show _ = _; rw [hxl.out]; exact hlm.out) (by rw [hxl.out]; exact hl)).mono ?_
        rintro e w2 ⟨g2, c2, rfl, ho2, hb2⟩
        rw [mull_len, hxl.out]
        have hb3 := hw.trans (hb2.mono hw.size)
        have ho3 := ho2.mono hw.size
        have hml : (mull xs m).length = l.length := by rw [mull_len, hxl.out]
        have hcs := ho3.cellAt 0 (by rw [hml]; omega)
        have hfr := ho3.frz 0
        have hbs := (mull_nms xs m).at 0
        have r1 := hr.at j
        have h1 : w2.cell? ⟨b1, o1 + j, none⟩ = some (.int .i64 (l.getD j 0)) := (hb3.cell (p := ⟨b1, o1 + j, none⟩) hbl1).trans (HC1.out j hlt)
        have hset := ho3.set 0 (pls ((mull xs m).getD 0 0) (l.getD j 0))
        rw [show (mull xs m).set 0 (pls ((mull xs m).getD 0 0) (l.getD j 0)) = addh (mull xs m) (l.getD j 0) from rfl] at hset
        have hb4 := hb3.setCell (p := ⟨g2, 0, none⟩) ho3.base.1 (.int .i64 (pls ((mull xs m).getD 0 0) (l.getD j 0)))
        have hi1 : (j : Int) < (l.length : Int) := by omega
        have hi0 : (0 : Int) < (l.length : Int) := by omega
        have hin0 : 0 < l.length := by omega
        generalize addh (mull xs m) (l.getD j 0) = ys at hset hx2
        generalize (mull xs m).getD 0 0 = y at hcs hbs hset hb4
        generalize l.getD j 0 = x at h1 r1 hset hb4
        clear ho hmb hmx hb2 ho2 ho3 hml hw HC1
        go_wp2
        refine wp_region_still_tail 10 (by kernel_rfl) (by kernel_rfl) ?_
        simp only [List.take_succ_cons, List.take_zero, List.drop_succ_cons, List.drop_zero]
        repeat still_step
        still_call (flip (iPlus y x (by omega) r1 _))
        repeat still_step
        refine wpStill_nil ?_
        change wpList _ _ _ _ _ w2.drew
        go_wp2
        go_roundw
        case rel => exact ⟨j, g2, c2, ys, by omega, rfl, rfl, hx2, hset, hb4.drew⟩
        case measure => simp [intOf]
  · have hif := Lib.hid (show ([] : List Int) = resCompose l m by unfold resCompose; rw [if_neg h0])
    have hic := Lib.hid (show (4 : Int) = codCompose l m by unfold codCompose; rw [if_neg h0])
    have hq : (m.getD 0 0 != 0) = true := by rw [bne_iff_ne]; exact h0
    clear h0
    obtain ⟨f0, hf0⟩ : ∃ f0, m.getD 0 0 = f0 := ⟨_, rfl⟩
    rw [hf0] at hz hq
    clear hf0
    go_enter Try.func105, Try.ntmps105
    go_wp2_with fail
    go_ret2
    rw [← hif.out, ← hic.out]
    exact ⟨none, 0, rfl, .inl rfl, Below.refl _ _⟩

set_option maxHeartbeats 800000 in
theorem sComposeSeries (a b : Option Addr) (ca cb : Nat) (l m : List Int) (w : World) (ha : At w a l) (hb : At w b m) (hr : Rng l) (hr2 : Rng m) (hl : l.length ≤ 1048576) (hm : m.length ≤ 1048576) :
    Calls Try.prog 66 #[.slice a l.length ca, .slice b m.length cb] w (Res2 w (allCompose l m) (alcCompose l m)) := by
  by_cases h0 : two l m = 0
  · have hh : okS l = true ∧ okS m = true ∧ l.length = m.length := by
      rcases two_cases l m with h | h | h
      · exact h.2
      · omega
      · omega
    have h1 := Lib.hid hh.1
    have h2 := Lib.hid hh.2.1
    have hlm : Hid (m.length = l.length) := hh.2.2.symm
    have hk := okS_rng h1
    have hm0 : 1 ≤ m.length := (okS_rng h2).2.2.1
    have hb' := hb
    obtain ⟨b2, o2, rfl, hbl2, hc2⟩ := (hb.resolve_left (by intro e; rw [e] at hm0; simp at hm0))
    have hz : w.cell? ⟨b2, o2, none⟩ = some (.int .i64 (m.getD 0 0)) := by have := hc2 0 hm0; rwa [Nat.add_zero] at this
    have hmi : (0 : Int) < (m.length : Int) := by omega
    have H0 := Lib.hid h0
    have hal : Hid (allCompose l m = resCompose l m) := by show _ = _; unfold allCompose ifTwo; rw [if_pos h0]
    have hac : Hid (alcCompose l m = codCompose l m) := by show _ = _; unfold alcCompose; rw [if_pos h0]
    clear hc2 hh h0
    by_cases hm00 : m.getD 0 0 = 0
    · have hif := Lib.hid (show cmpl l m = allCompose l m by rw [hal.out]; unfold resCompose; rw [if_pos hm00])
      have hic := Lib.hid (show (0 : Int) = alcCompose l m by rw [hac.out]; unfold codCompose; rw [if_pos hm00])
      rw [hm00] at hz
      clear hm00
      go_enter Try.func66, Try.ntmps66
      go_wp2_with fail
      refine (sTwo a _ ca cb l m _ ha hb' hl hm).mono ?_; rintro e w' ⟨rfl, rfl⟩
      rw [H0.out]
      go_wp2_with fail
      refine (sCmp a _ ca cb l m _ ha hb' hr hr2 hlm hk.2.2.1 hl).mono ?_; rintro e w1 ⟨g, cap, rfl, ho, hbel⟩
      go_wp2_with fail
      go_ret2
      exact res2_of_fresh (c := 0) hif.out hic.out ⟨g, cap, rfl, ho, hbel⟩
    · have hif := Lib.hid (show ([] : List Int) = allCompose l m by rw [hal.out]; unfold resCompose; rw [if_neg hm00])
      have hic := Lib.hid (show (4 : Int) = alcCompose l m by rw [hac.out]; unfold codCompose; rw [if_neg hm00])
      have hq : (m.getD 0 0 != 0) = true := by rw [bne_iff_ne]; exact hm00
      clear hm00
      obtain ⟨f0, hf0⟩ : ∃ f0, m.getD 0 0 = f0 := ⟨_, rfl⟩
      rw [hf0] at hz hq
      clear hf0
      go_enter Try.func66, Try.ntmps66
      go_wp2_with fail
      refine (sTwo a _ ca cb l m _ ha hb' hl hm).mono ?_; rintro e w' ⟨rfl, rfl⟩
      rw [H0.out]
      go_wp2_with fail
      go_ret2
      rw [← hif.out, ← hic.out]
      exact ⟨_, _, rfl, .inl rfl, (Below.refl _ _).alloc (Nat.le_refl _) _⟩
  · have hif := Lib.hid (show ([] : List Int) = allCompose l m by unfold allCompose ifTwo; rw [if_neg h0])
    have hic := Lib.hid (show two l m = alcCompose l m by unfold alcCompose; rw [if_neg h0])
    have hq : (two l m != 0) = true := by rw [bne_iff_ne]; exact h0
    clear h0
    go_enter Try.func66, Try.ntmps66
    go_wp2_with fail
    refine (sTwo a b ca cb l m _ ha hb hl hm).mono ?_; rintro e w' ⟨rfl, rfl⟩
    go_wp2_with fail
    go_ret2
    rw [← hif.out, ← hic.out]
    exact ⟨_, _, rfl, .inl rfl, (Below.refl _ _).alloc (Nat.le_refl _) _⟩

end Go.Proofs.Ytegjlfbklcgapaa
