/- The law on directional derivatives. -/
import Derived.Deep.RegionHeld3
import Derived.Test.YtoedccgiahegnaaGreatGh
import Derived.Test.YtoedccgiahegnaaGreatMt
namespace Go.Proofs.YtoedccgiahegnaaGreat
open Go.RowKit
set_option linter.unusedVariables false

theorem OwnA.outAtG {L B B' : Nat} {w w' : World} {a : Option Addr} {cap : Nat} {l : List Int} (h : OwnA B' w a cap l) (ho : Out L B w w') (hB : B ≤ B') : OwnA B' w' a cap l := by
  by_cases hl : l = []
  · exact .inl hl
  · obtain ⟨g, rfl, hg⟩ := h.resolve_left hl
    have hb := hg.base
    have hblk := ho.block g hb.2 (by omega)
    obtain ⟨h1, h2⟩ := hg
    refine .inr ⟨g, rfl, h1, ?_⟩
    rcases h2 with ⟨e, _⟩ | ⟨g', cap', cur, hv, hg', hh, h3⟩
    · cases e
    · cases hv
      exact .inr ⟨g, cap, cur, rfl, hg', hblk.trans hh, h3⟩
theorem Out.belowG {L B : Nat} {w w' : World} (h : Out L B w w') (hL : L ≤ w.heap.size) : Below L w w' := ⟨h.os, h.tape, h.output, h.size, fun k hk => h.block k (by omega) (by omega)⟩
theorem blkLenG {a : Option Addr} {l l' : List Int} {g : Nat} (h : blk a l = some g) (hl : l'.length = l.length) : blk a l' = some g := by
  unfold blk at h ⊢
  by_cases e : l = []
  · rw [if_pos e] at h; cases h
  · rw [if_neg e] at h
    rw [if_neg (fun e2 => e (by rw [e2] at hl; exact List.eq_nil_of_length_eq_zero hl.symm))]; exact h
theorem marks_lenG (n k : Nat) : (marks n k).length = n := by simp [marks]
theorem row_capG {W : World} {base : Nat} {e : TypeId} {size : Nat} {g k cap : Nat} {xs : List Value} (h : W.ownsRow base e size (.slice (some ⟨g, 0, none⟩) k cap) k xs) : k ≤ cap ∧ cap ≤ 9223372036854775807 := by
  rcases h.2 with ⟨h1, _⟩ | ⟨g', cap', cur, hv, _, _, hc, hm, _⟩
  · cases h1
  · cases hv; unfold maxLen at hm; omega
theorem Own.cap2G {L g cap : Nat} {w : World} {l : List Int} (h : Own L w g cap l) : cap ≤ 9223372036854775807 := (row_capG h).2

theorem drL_len {fs : List Fn} {f : Int} {args dir : List Int} : (drA (drL fs f args dir)).length ≤ 1048576 ∧ (drB (drL fs f args dir)).length ≤ 1048576 := by
  by_cases hc : (drL fs f args dir).c = 0
  · have e1 : drA (drL fs f args dir) = (drL fs f args dir).l.map Prod.fst := if_pos hc
    have e2 : drB (drL fs f args dir) = (drL fs f args dir).l.map Prod.snd := if_pos hc
    rw [e1, e2, List.length_map, List.length_map]
    by_cases hp : drC fs f args dir = 0
    · obtain ⟨k1, k2, _⟩ := plC_known (drC_known hp).1
      have e : drL fs f args dir = lisE pA (evE pA fs 3001) (fs.getD f.toNat noFn).outs (args.zip dir) 0 (fs.getD f.toNat noFn).outs.len := drL_yes hp
      rw [e] at hc ⊢
      have h := lisE_len _ hc
      have := (fn_parts (progB_fn k1 (i := f.toNat) (by omega))).2.1.2
      rw [h]
      omega
    · rw [drL_no hp]; simp
  · rw [drA_no hc, drB_no hc]; simp

set_option maxRecDepth 100000 in
set_option maxHeartbeats 12800000 in
theorem wFnExactDirectional (v0 v1 v2 v3 : Value) (w : World) (h0 : IsProg w v0) (h1 : IsI64 w v1) (h2 : IsI64s w v2) (h3 : IsI64s w v3) :
    Calls Tryz.prog 4 #[v0, v1, v2, v3] w fun e w' => e = .returned (.bool true) ∧ Below w.heap.size w w' := by
  obtain ⟨a, cap, l, rfl, hP, hlen⟩ := h0
  obtain ⟨n0, rfl, hf0, hg0⟩ := h1
  clear hf0 hg0
  obtain ⟨aa1, ca1, x1, rfl, hA1, hrng1, hal91⟩ := h2
  clear hrng1
  obtain ⟨aa2, ca2, x2, rfl, hA2, hrng2, hal92⟩ := h3
  clear hrng2
  obtain ⟨w0, hw0⟩ : ∃ w0, w0 = w.alloc (.cells #[.slice a l.length cap] 24) := ⟨_, rfl⟩
  have hb0 : Below w.heap.size w w0 := by rw [hw0]; exact (Below.refl _ _).alloc (Nat.le_refl _) _
  have z0 : w0.heap.size = w.heap.size + 1 := by rw [hw0]; simp
  have c0 : w0.cell? ⟨w.heap.size, 0, none⟩ = some (.slice a l.length cap) := by rw [hw0]; simp [go_sem]
  have hP0 : Pat w0 0 w0.heap.size l a := (hP.below hb0).mono (Nat.le_refl _) hb0.size
  have hA0_1 := hA1.below hb0 (Nat.le_refl _)
  have hA0_2 := hA2.below hb0 (Nat.le_refl _)
  have hlm : l.length ≤ maxLen := hlen
  by_cases hbig1 : 1048576 < x1.length
  · have hbi1 : (1048576 : Int) < (x1.length : Int) := by omega
    clear hP hP0
    go_enter Tryz.func4, Tryz.ntmps4
    go_wp2_with fail
    rw [← hw0]
    go_ret
    exact ⟨rfl, hb0⟩
  have hal1 : x1.length ≤ 1048576 := by omega
  have hbi1 : ¬ (1048576 : Int) < (x1.length : Int) := by omega
  by_cases hbig2 : 1048576 < x2.length
  · have hbi2 : (1048576 : Int) < (x2.length : Int) := by omega
    clear hP hP0
    go_enter Tryz.func4, Tryz.ntmps4
    go_wp2_with fail
    rw [← hw0]
    go_ret
    exact ⟨rfl, hb0⟩
  have hal2 : x2.length ≤ 1048576 := by omega
  have hbi2 : ¬ (1048576 : Int) < (x2.length : Int) := by omega
  have HZ := Lib.hid (szProgram l a cap 1048576 w0 hP0 hlm (by omega) (by omega))
  by_cases hs : ((pgSize l : Nat) : Int) ≤ 1048576
  · have hsz : pgSize l ≤ 1048576 := by omega
    rw [szv_t hs] at HZ
    have hy : 0 ≤ 1048576 - ((pgSize l : Nat) : Int) := by omega
    have hd : decide (1048576 - ((pgSize l : Nat) : Int) < 0) = false := decide_eq_false (by omega)
    have hll : l.length ≤ 1048576 := by unfold pgSize at hsz; omega
    generalize 1048576 - ((pgSize l : Nat) : Int) = lv at HZ hy hd
    go_enter Tryz.func4, Tryz.ntmps4
    go_wp2_with fail
    rw [← hw0]
    clear hw0 hs
    refine (HZ.out).mono ?_; rintro e w1 ⟨rfl, hb1⟩
    have c1 := (hb1.cell (p := ⟨w.heap.size, 0, none⟩) (by show w.heap.size < _; omega)).trans c0
    have z1 := hb1.size
    have hP1 := (hP0.below hb1).mono (Nat.le_refl _) hb1.size
    have hA1_1 := hA0_1.below hb1 (Nat.le_refl _)
    have hA1_2 := hA0_2.below hb1 (Nat.le_refl _)
    clear HZ
    go_wp2_with fail
    refine (toProgram l a cap _ hP1 hsz).mono ?_; rintro e w2 ⟨g2, rfl, hQ2, hb2⟩
    have c2 := (hb2.cell (p := ⟨w.heap.size, 0, none⟩) (by show w.heap.size < _; omega)).trans c1
    have z2 := hb2.size
    have hP2 := (hP1.below hb2).mono (Nat.le_refl _) hb2.size
    have hQ2' := hQ2.mono (Nat.zero_le _) (Nat.le_refl _)
    have hA2_1 := hA1_1.below hb2 (Nat.le_refl _)
    have hA2_2 := hA1_2.below hb2 (Nat.le_refl _)
    have hbB2 := (hb0.trans (hb1.mono (by omega))).trans (hb2.mono (by omega))
    clear c1 hP1 hQ2
    go_wp2_with fail
    refine (toInt64S aa1 ca1 x1 _ hA2_1 hal1).mono ?_; rintro e wi1 ⟨gi1, kci1, rfl, oi1, hbi1⟩
    have ci1 := (hbi1.cell (p := ⟨w.heap.size, 0, none⟩) (by show w.heap.size < _; omega)).trans c2
    have zi1 := hbi1.size
    have hPi1 := (hP2.below hbi1).mono (Nat.le_refl _) hbi1.size
    have hQi1' := (hQ2'.below hbi1).mono (Nat.le_refl _) hbi1.size
    have hbBi1 := hbB2.trans (hbi1.mono (by omega))
    have hAi1_1 := hA2_1.below hbi1 (Nat.le_refl _)
    have hAi1_2 := hA2_2.below hbi1 (Nat.le_refl _)
    have oii1_1 := oi1.at
    clear c2 hP2 hQ2'
    go_wp2_with fail
    refine (toInt64S aa2 ca2 x2 _ hAi1_2 hal2).mono ?_; rintro e wi2 ⟨gi2, kci2, rfl, oi2, hbi2⟩
    have ci2 := (hbi2.cell (p := ⟨w.heap.size, 0, none⟩) (by show w.heap.size < _; omega)).trans ci1
    have zi2 := hbi2.size
    have hPi2 := (hPi1.below hbi2).mono (Nat.le_refl _) hbi2.size
    have hQi2' := (hQi1'.below hbi2).mono (Nat.le_refl _) hbi2.size
    have hbBi2 := hbBi1.trans (hbi2.mono (by omega))
    have hAi2_1 := hAi1_1.below hbi2 (Nat.le_refl _)
    have hAi2_2 := hAi1_2.below hbi2 (Nat.le_refl _)
    have oii2_1 := oii1_1.below hbi2 (Nat.le_refl _)
    have oii2_2 := oi2.at
    clear ci1 hPi1 hQi1'
    go_wp2_with fail
    obtain ⟨LS0, hLS0⟩ : ∃ LS0, drA (drL l n0 x1 x2) = LS0 := ⟨_, rfl⟩
    have hlLS0 : LS0.length ≤ 1048576 := by rw [← hLS0]; exact drL_len.1
    obtain ⟨LS1, hLS1⟩ : ∃ LS1, drB (drL l n0 x1 x2) = LS1 := ⟨_, rfl⟩
    have hlLS1 : LS1.length ≤ 1048576 := by rw [← hLS1]; exact drL_len.2
    obtain ⟨C2, hC2⟩ : ∃ C2, (drL l n0 x1 x2).c = C2 := ⟨_, rfl⟩
    have HIT := fun (A1 : Option Addr) (c1 : Nat) (A2 : Option Addr) (c2 : Nat) (g : Nat) (W : World) (hP : Pat W 0 W.heap.size l (some ⟨g, 0, none⟩)) (h1 : At W A1 x1) (c1_1 : x1.length ≤ c1) (c2_1 : c1 ≤ 9223372036854775807) (h2 : At W A2 x2) (c1_2 : x2.length ≤ c2) (c2_2 : c2 ≤ 9223372036854775807) => Lib.hid (show Calls Tryz.prog 21 #[.agg #[.slice (some ⟨g, 0, none⟩) l.length l.length], .int .i64 n0, .slice A1 x1.length c1, .slice A2 x2.length c2] W (fun e w' => ∃ pa0 pc0 pa1 pc1, e = .returned (.tuple #[.slice pa0 LS0.length pc0, .slice pa1 LS1.length pc1, .int .i64 C2]) ∧ OwnA W.heap.size w' pa0 pc0 LS0 ∧ OwnA W.heap.size w' pa1 pc1 LS1 ∧ (∀ g h, blk pa0 LS0 = some g → blk pa1 LS1 = some h → g ≠ h) ∧ Below W.heap.size W w') from by rw [← hLS0, ← hLS1, ← hC2]; exact iDirectional l (some ⟨g, 0, none⟩) l.length n0 A1 A2 c1 c2 x1 x2 W hP hsz (Nat.le_refl _) hll h1 hal1 c1_1 c2_1 h2 hal2)
    have HST := Lib.hid (show Calls Tryz.prog 20 #[.agg #[.slice (some ⟨g2, 0, none⟩) l.length l.length], .int .i64 n0, .slice (some ⟨gi1, 0, none⟩) x1.length kci1, .slice (some ⟨gi2, 0, none⟩) x2.length kci2] wi2 (fun e w' => ∃ pa0 pc0 pa1 pc1, e = .returned (.tuple #[.slice pa0 LS0.length pc0, .slice pa1 LS1.length pc1, .int .i64 C2]) ∧ At w' pa0 LS0 ∧ At w' pa1 LS1 ∧ Below wi2.heap.size wi2 w') from by rw [← hLS0, ← hLS1, ← hC2]; exact sDirectional l _ l.length n0 _ _ kci1 kci2 x1 x2 _ hQi2' hsz oii2_1 hal1 oii2_2 hal2)
    clear hLS0 hLS1 hC2
    refine HST.out.mono ?_; rintro e w3 ⟨aw0, cw0, aw1, cw1, rfl, HMW0, HMW1, hb3⟩
    have c3 := (hb3.cell (p := ⟨w.heap.size, 0, none⟩) (by show w.heap.size < _; omega)).trans ci2
    have z3 := hb3.size
    have hP3 := (hPi2.below hb3).mono (Nat.le_refl _) hb3.size
    have hbB := hbBi2.trans (hb3.mono (by omega))
    have hA3_1 := hAi2_1.below hb3 (Nat.le_refl _)
    have hA3_2 := hAi2_2.below hb3 (Nat.le_refl _)
    clear ci2 hPi2 hQi2' HST oi1 oii2_1 oi2 oii2_2
    go_wp2_with fail
    refine (toProgramW l a cap _ hP3 hsz).mono ?_; rintro e w4 ⟨g4, rfl, hQ4, hb4⟩
    have c4 := (hb4.cell (p := ⟨w.heap.size, 0, none⟩) (by show w.heap.size < _; omega)).trans c3
    have z4 := hb4.size
    obtain ⟨w5, hw5⟩ : ∃ w5, w5 = w4.alloc (.cells #[.slice (some ⟨g4, 0, none⟩) l.length l.length] 31) := ⟨_, rfl⟩
    have hb5 : Below w4.heap.size w4 w5 := by rw [hw5]; exact (Below.refl _ _).alloc (Nat.le_refl _) _
    have z5 : w5.heap.size = w4.heap.size + 1 := by rw [hw5]; simp
    have x5 : w5.cell? ⟨w4.heap.size, 0, none⟩ = some (.slice (some ⟨g4, 0, none⟩) l.length l.length) := by rw [hw5]; simp [go_sem]
    have hQ5 := (hQ4.pat.below hb5).mono (Nat.zero_le _) hb5.size
    have HB5 : Below w3.heap.size w3 w5 := hb4.trans (hb5.mono hb4.size)
    have hS4 := hQ4.spt hsz
    have hgb := hS4.1
    have H45 : Below w4.heap.size w4 w5 := hb5
    have hA5_1 := hA3_1.below HB5 (Nat.le_refl _)
    have hA5_2 := hA3_2.below HB5 (Nat.le_refl _)
    clear hQ4
    have lw : w.heap.size < w4.heap.size := by omega
    go_wp2_with fail
    rw [← hw5]
    clear hw5 c4
    refine (toInt64S aa1 ca1 x1 _ hA5_1 hal1).mono ?_; rintro e wx1 ⟨gx1, cx1, rfl, ox1, hbx1⟩
    have zx1 := hbx1.size
    have HBx1 : Below w3.heap.size w3 wx1 := HB5.trans (hbx1.mono HB5.size)
    have H4x1 : Below w4.heap.size w4 wx1 := H45.trans (hbx1.mono H45.size)
    have xx1_ := (hbx1.cell (p := ⟨w4.heap.size, 0, none⟩) (by show w4.heap.size < _; omega)).trans x5
    have hQx1 := (hQ5.below hbx1).mono (Nat.le_refl _) hbx1.size
    have hox1_1 := ox1.cap_le
    have hox2_1 := ox1.cap2G
    have oXx1_1 : OwnA w5.heap.size wx1 (some ⟨gx1, 0, none⟩) cx1 x1 := ox1.a
    have HXU1 : Hid (∀ g, blk (some ⟨gx1, 0, none⟩) x1 = some g → w5.heap.size ≤ g ∧ g < wx1.heap.size) := fun g hg => oXx1_1.lt g hg
    have hAx1_1 := hA5_1.below hbx1 (Nat.le_refl _)
    have hAx1_2 := hA5_2.below hbx1 (Nat.le_refl _)
    clear ox1 hQ5 x5
    go_wp2_with fail
    refine (toInt64S aa2 ca2 x2 _ hAx1_2 hal2).mono ?_; rintro e wx2 ⟨gx2, cx2, rfl, ox2, hbx2⟩
    have zx2 := hbx2.size
    have HBx2 : Below w3.heap.size w3 wx2 := HBx1.trans (hbx2.mono HBx1.size)
    have H4x2 : Below w4.heap.size w4 wx2 := H4x1.trans (hbx2.mono H4x1.size)
    have xx2_ := (hbx2.cell (p := ⟨w4.heap.size, 0, none⟩) (by show w4.heap.size < _; omega)).trans xx1_
    have hQx2 := (hQx1.below hbx2).mono (Nat.le_refl _) hbx2.size
    have hox1_2 := ox2.cap_le
    have hox2_2 := ox2.cap2G
    have oXx2_2 : OwnA wx1.heap.size wx2 (some ⟨gx2, 0, none⟩) cx2 x2 := ox2.a
    have HXU2 : Hid (∀ g, blk (some ⟨gx2, 0, none⟩) x2 = some g → wx1.heap.size ≤ g ∧ g < wx2.heap.size) := fun g hg => oXx2_2.lt g hg
    have hAx2_1 := hAx1_1.below hbx2 (Nat.le_refl _)
    have hAx2_2 := hAx1_2.below hbx2 (Nat.le_refl _)
    have oXx2_1 := oXx1_1.below hbx2
    clear ox2 hQx1 xx1_
    go_wp2_with fail
    have HI6 := HIT _ cx1 _ cx2 _ _ hQx2 oXx2_1.at hox1_1 hox2_1 oXx2_2.at hox1_2 hox2_2
    refine HI6.out.mono ?_; rintro e w6 ⟨a6_0, c6_0, a6_1, c6_1, rfl, hM6_0, hM6_1, hne6, hb6⟩
    have z6 := hb6.size
    have HB6 : Below w3.heap.size w3 w6 := HBx2.trans (hb6.mono HBx2.size)
    have H46 : Below w4.heap.size w4 w6 := H4x2.trans (hb6.mono H4x2.size)
    have hQ6 := (hQx2.below hb6).mono (Nat.le_refl _) hb6.size
    have x6 := (hb6.cell (p := ⟨w4.heap.size, 0, none⟩) (by show w4.heap.size < _; omega)).trans xx2_
    have oX6_1 := oXx2_1.below hb6
    have oX6_2 := oXx2_2.below hb6
    clear HI6 hQx2 xx2_ oXx2_1 oXx2_2
    have HNE := Lib.hid hne6
    clear hne6
    have hne2 : (C2 != C2) = false := by simp
    have hee2 : (C2 == C2) = true := by simp
    go_wp2_with fail
    refine (eqInt64S a6_0 aw0 c6_0 cw0 LS0 _ hM6_0.at (HMW0.below HB6 (Nat.le_refl _)) (by omega)).mono ?_; rintro e we0 ⟨rfl, hbe0⟩
    have HBe0 : Below w3.heap.size w3 we0 := HB6.trans (hbe0.mono HB6.size)
    have H4e0 : Below w4.heap.size w4 we0 := H46.trans (hbe0.mono H46.size)
    have hMe0_0 := hM6_0.below hbe0
    have hMe0_1 := hM6_1.below hbe0
    have oXe0_1 := oX6_1.below hbe0
    have oXe0_2 := oX6_2.below hbe0
    have hQe0 := (hQ6.below hbe0).mono (Nat.le_refl _) hbe0.size
    have xe0 := (hbe0.cell (p := ⟨w4.heap.size, 0, none⟩) (cell_lt x6)).trans x6
    clear hM6_0 hM6_1 oX6_1 oX6_2 hQ6 x6
    go_wp2_with fail
    refine (eqInt64S a6_1 aw1 c6_1 cw1 LS1 _ hMe0_1.at (HMW1.below HBe0 (Nat.le_refl _)) (by omega)).mono ?_; rintro e we1 ⟨rfl, hbe1⟩
    have HBe1 : Below w3.heap.size w3 we1 := HBe0.trans (hbe1.mono HBe0.size)
    have H4e1 : Below w4.heap.size w4 we1 := H4e0.trans (hbe1.mono H4e0.size)
    have hMe1_0 := hMe0_0.below hbe1
    have hMe1_1 := hMe0_1.below hbe1
    have oXe1_1 := oXe0_1.below hbe1
    have oXe1_2 := oXe0_2.below hbe1
    have hQe1 := (hQe0.below hbe1).mono (Nat.le_refl _) hbe1.size
    have xe1 := (hbe1.cell (p := ⟨w4.heap.size, 0, none⟩) (cell_lt xe0)).trans xe0
    clear hMe0_0 hMe0_1 oXe0_1 oXe0_2 hQe0 xe0
    have c7 := (HBe1.cell (p := ⟨w.heap.size, 0, none⟩) (by show w.heap.size < _; omega)).trans c3
    have hP7 := (hP3.below HBe1).mono (Nat.le_refl _) HBe1.size
    have HT := fun (W : World) (hW : Below we1.heap.size we1 W) => Lib.hid (toProgram l a cap W ((hP7.below hW).mono (Nat.le_refl _) hW.size) hsz)
    go_wp2_with fail
    have h7s := H4e1.size
    have l1 : w.heap.size < we1.heap.size := by omega
    have l2 : w4.heap.size < we1.heap.size := by have := hb6.size; have := H46.size; first | omega | (have := cell_lt xe1; omega)
    go_region_held3 (fun w' => w'.cell? ⟨w.heap.size, 0, none⟩ = some (.slice a l.length cap) ∧ w'.cell? ⟨w4.heap.size, 0, none⟩ = some (.slice (some ⟨g4, 0, none⟩) l.length l.length))
      (first
        | exact ⟨c7, xe1⟩
        | exact ⟨(hb9.cell (p := ⟨w.heap.size, 0, none⟩) l1).trans c7, (hb9.cell (p := ⟨w4.heap.size, 0, none⟩) l2).trans xe1⟩
        | exact ⟨(hb8.cell (p := ⟨w.heap.size, 0, none⟩) l1).trans c7, (hb8.cell (p := ⟨w4.heap.size, 0, none⟩) l2).trans xe1⟩
        | go_keep)
      (first
        | (go_at_call 12; refine (HT _ (below_drew (Below.refl _ _))).out.mono ?_; rintro e w8 ⟨g8, rfl, hQ8, hb8'⟩; have hb8 : Below we1.heap.size we1 w8 := ⟨hb8'.os, hb8'.tape, hb8'.output, hb8'.size, hb8'.block⟩)
        | (go_at_call 16; refine (eqProgram l _ _ _ _ _ ((hQe1.below hb8).mono (Nat.le_refl _) hb8.size) (hQ8.mono (Nat.zero_le _) (Nat.le_refl _)) hlm).mono ?_; rintro e w9 ⟨rfl, hb9'⟩; have hb9 : Below we1.heap.size we1 w9 := hb8.trans (hb9'.mono hb8.size)))
    all_goals
      have hz9 := hb9.size
      have HB9 : Below w3.heap.size w3 w9 := HBe1.trans (hb9.mono HBe1.size)
      have H49 : Below w4.heap.size w4 w9 := H4e1.trans (hb9.mono H4e1.size)
      have hM9_0 := hMe1_0.below hb9
      have hM9_1 := hMe1_1.below hb9
      have oX9_1 := oXe1_1.below hb9
      have oX9_2 := oXe1_2.below hb9
      have x9 := (hb9.cell (p := ⟨w4.heap.size, 0, none⟩) (cell_lt xe1)).trans xe1
      clear hMe1_0 hMe1_1 oXe1_1 oXe1_2 xe1
      clear HT hQe1 hQ8 hP7 c7 hb8' hb9' c0 hP0 hP
      go_wp2_with fail
      refine (toInt64S aa1 ca1 x1 _ (hA3_1.below HB9 (Nat.le_refl _)) hal1).mono ?_; rintro e wp1 ⟨gp1, cp1, rfl, op1, hbp1⟩
      have HBp1 : Below w3.heap.size w3 wp1 := HB9.trans (hbp1.mono HB9.size)
      have H4p1 : Below w4.heap.size w4 wp1 := H49.trans (hbp1.mono H49.size)
      have hMp1_0 := hM9_0.below hbp1
      have hMp1_1 := hM9_1.below hbp1
      have oXp1_1 := oX9_1.below hbp1
      have oXp1_2 := oX9_2.below hbp1
      have xp1 := (hbp1.cell (p := ⟨w4.heap.size, 0, none⟩) (cell_lt x9)).trans x9
      clear hM9_0 hM9_1 oX9_1 oX9_2 x9
      go_wp2_with fail
      refine (eqInt64S _ _ _ _ x1 _ oXp1_1.at op1.at (by omega)).mono ?_; rintro e wq1 ⟨rfl, hbq1⟩
      have HBq1 : Below w3.heap.size w3 wq1 := HBp1.trans (hbq1.mono HBp1.size)
      have H4q1 : Below w4.heap.size w4 wq1 := H4p1.trans (hbq1.mono H4p1.size)
      have hMq1_0 := hMp1_0.below hbq1
      have hMq1_1 := hMp1_1.below hbq1
      have oXq1_1 := oXp1_1.below hbq1
      have oXq1_2 := oXp1_2.below hbq1
      have xq1 := (hbq1.cell (p := ⟨w4.heap.size, 0, none⟩) (cell_lt xp1)).trans xp1
      clear hMp1_0 hMp1_1 oXp1_1 oXp1_2 xp1
      clear op1
      go_wp2_with fail
      refine (toInt64S aa2 ca2 x2 _ (hA3_2.below HBq1 (Nat.le_refl _)) hal2).mono ?_; rintro e wp2 ⟨gp2, cp2, rfl, op2, hbp2⟩
      have HBp2 : Below w3.heap.size w3 wp2 := HBq1.trans (hbp2.mono HBq1.size)
      have H4p2 : Below w4.heap.size w4 wp2 := H4q1.trans (hbp2.mono H4q1.size)
      have hMp2_0 := hMq1_0.below hbp2
      have hMp2_1 := hMq1_1.below hbp2
      have oXp2_1 := oXq1_1.below hbp2
      have oXp2_2 := oXq1_2.below hbp2
      have xp2 := (hbp2.cell (p := ⟨w4.heap.size, 0, none⟩) (cell_lt xq1)).trans xq1
      clear hMq1_0 hMq1_1 oXq1_1 oXq1_2 xq1
      go_wp2_with fail
      refine (eqInt64S _ _ _ _ x2 _ oXp2_2.at op2.at (by omega)).mono ?_; rintro e wq2 ⟨rfl, hbq2⟩
      have HBq2 : Below w3.heap.size w3 wq2 := HBp2.trans (hbq2.mono HBp2.size)
      have H4q2 : Below w4.heap.size w4 wq2 := H4p2.trans (hbq2.mono H4p2.size)
      have hMq2_0 := hMp2_0.below hbq2
      have hMq2_1 := hMp2_1.below hbq2
      have oXq2_1 := oXp2_1.below hbq2
      have oXq2_2 := oXp2_2.below hbq2
      have xq2 := (hbq2.cell (p := ⟨w4.heap.size, 0, none⟩) (cell_lt xp2)).trans xp2
      clear hMp2_0 hMp2_1 oXp2_1 oXp2_2 xp2
      clear op2
      have zz := H4q2.size
      have cz := (HBq2.cell (p := ⟨w.heap.size, 0, none⟩) (by show w.heap.size < _; omega)).trans c3
      have hM0 : Mp w3.heap.size w4.heap.size g4 w4 wq2 := Mp.of_below H4q2 (Nat.le_refl _) hgb.2
      have hSz : Spt wq2 w3.heap.size w4.heap.size l g4 := by
        obtain ⟨h1, h2, h3⟩ := hS4
        refine ⟨h1, fun o => (hM0.frz g4 o (by omega)).trans (h2 o), fun i hi => ?_⟩
        obtain ⟨q0, b', cap', q1, q2, q3, q4⟩ := h3 i hi
        exact ⟨q0, b', cap', hM0.strs _ q1, hM0.ints _ q2, hM0.outs _ _ q3, hM0.trees q4⟩
      have HMk := Lib.hid (markProgram w3.heap.size w4.heap.size l g4 l.length 1 wq2 hSz zz hsz (by omega))
      clear hS4 hSz hM0
      go_wp2_with fail
      refine (HMk.out).mono ?_; rintro e w10 ⟨x, rfl, hxm, hMpp⟩
      have HO := hMpp.out
      have z10 := HO.size
      have HB10 : Below w3.heap.size w3 w10 := HBq2.trans (HO.belowG HBq2.size)
      have c10 := (HB10.cell (p := ⟨w.heap.size, 0, none⟩) (by show w.heap.size < _; omega)).trans c3
      have hM10_0 := hMq2_0.outAtG HO (by omega)
      have hM10_1 := hMq2_1.outAtG HO (by omega)
      have oX10_1 := oXq2_1.outAtG HO (by omega)
      have oX10_2 := oXq2_2.outAtG HO (by omega)
      clear HMk hMpp cz xq2 hMq2_0 hMq2_1 oXq2_1 oXq2_2
      go_wp2_with fail
      refine (markAt _ _ _ x1 (x) ((x : Int)) _ (by omega) oX10_1 (by omega) (by omega)).mono ?_; rintro e wm1 ⟨rfl, hXm1, hgm1⟩
      have HBm1 := HB10.grown hgm1 HB10.size (fun g hg => Nat.le_trans (by omega) (oX10_1.lt g hg).1)
      have hMm1_0 := hM10_0.keptBy hgm1 (fun g h1 h2 => by have e1 := (hM10_0.lt g h1).1; have e2 := HXU1.out g h2; omega)
      have hMm1_1 := hM10_1.keptBy hgm1 (fun g h1 h2 => by have e1 := (hM10_1.lt g h1).1; have e2 := HXU1.out g h2; omega)
      have oXm1_2 := oX10_2.keptBy hgm1 (fun g h1 h2 => by have e1 := HXU2.out g h1; have e2 := HXU1.out g h2; omega)
      have cm1 := (HBm1.cell (p := ⟨w.heap.size, 0, none⟩) (by show w.heap.size < _; omega)).trans c3
      clear hXm1 hgm1 c10 oX10_1 hM10_0 hM10_1 oX10_2
      go_wp2_with fail
      refine (markAt _ _ _ x2 (x + x1.length) ((x : Int) + (x1.length : Int)) _ (by omega) oXm1_2 (by omega) (by omega)).mono ?_; rintro e wm2 ⟨rfl, hXm2, hgm2⟩
      have HBm2 := HBm1.grown hgm2 HBm1.size (fun g hg => Nat.le_trans (by omega) (oXm1_2.lt g hg).1)
      have hMm2_0 := hMm1_0.keptBy hgm2 (fun g h1 h2 => by have e1 := (hMm1_0.lt g h1).1; have e2 := HXU2.out g h2; omega)
      have hMm2_1 := hMm1_1.keptBy hgm2 (fun g h1 h2 => by have e1 := (hMm1_1.lt g h1).1; have e2 := HXU2.out g h2; omega)
      have cm2 := (HBm2.cell (p := ⟨w.heap.size, 0, none⟩) (by show w.heap.size < _; omega)).trans c3
      clear hXm2 hgm2 cm1 oXm1_2 hMm1_0 hMm1_1
      have hx0 : ¬ (x : Int) + (x1.length : Int) + (x2.length : Int) < 0 := by omega
      clear HXU1 HXU2
      go_wp2_with fail
      refine (eqInt64S a6_0 aw0 c6_0 cw0 LS0 _ hMm2_0.at (HMW0.below HBm2 (Nat.le_refl _)) (by omega)).mono ?_; rintro e wf0 ⟨rfl, hbf0⟩
      have HBf0 : Below w3.heap.size w3 wf0 := HBm2.trans (hbf0.mono HBm2.size)
      have hMf0_0 := hMm2_0.below hbf0
      have hMf0_1 := hMm2_1.below hbf0
      clear hMm2_0 hMm2_1
      go_wp2_with fail
      refine (eqInt64S a6_1 aw1 c6_1 cw1 LS1 _ hMf0_1.at (HMW1.below HBf0 (Nat.le_refl _)) (by omega)).mono ?_; rintro e wf1 ⟨rfl, hbf1⟩
      have HBf1 : Below w3.heap.size w3 wf1 := HBf0.trans (hbf1.mono HBf0.size)
      have hMf1_0 := hMf0_0.below hbf1
      have hMf1_1 := hMf0_1.below hbf1
      clear hMf0_0 hMf0_1
      have cf := (HBf1.cell (p := ⟨w.heap.size, 0, none⟩) (by show w.heap.size < _; omega)).trans c3
      go_wp2_with fail
      refine (markAt _ _ _ LS0 (1) ((1 : Int)) _ (by omega) hMf1_0 (by omega) (by omega)).mono ?_; rintro e wg0 ⟨rfl, hMg0_0, hgg0⟩
      have HBg0 := HBf1.grown hgg0 HBf1.size (fun g hg => Nat.le_trans (by omega) (hMf1_0.lt g hg).1)
      have hMg0_1 := hMf1_1.keptBy hgg0 (fun g h1 h2 => HNE.out g g h2 h1 rfl)
      clear hgg0 hMf1_0 hMf1_1
      go_wp2_with fail
      refine (markAt _ _ _ LS1 (1 + LS0.length) ((1 : Int) + (LS0.length : Int)) _ (by omega) hMg0_1 (by omega) (by omega)).mono ?_; rintro e wg1 ⟨rfl, hMg1_1, hgg1⟩
      have HBg1 := HBg0.grown hgg1 HBg0.size (fun g hg => Nat.le_trans (by omega) (hMg0_1.lt g hg).1)
      have hMg1_0 := hMg0_0.keptBy hgg1 (fun g h1 h2 => HNE.out g g (blkLenG h1 (marks_lenG _ _).symm) h2 rfl)
      clear hgg1 hMg0_0 hMg0_1
      have cg := (HBg1.cell (p := ⟨w.heap.size, 0, none⟩) (by show w.heap.size < _; omega)).trans c3
      have hq0 : ¬ (1 : Int) + (LS0.length : Int) < 0 := by omega
      have hq1 : ¬ (1 : Int) + (LS0.length : Int) + (LS1.length : Int) < 0 := by omega
      have htt : (((1 : Int) + (LS0.length : Int) + (LS1.length : Int)) != ((1 : Int) + (LS0.length : Int) + (LS1.length : Int))) = false := by simp
      have hte : (((1 : Int) + (LS0.length : Int) + (LS1.length : Int)) == ((1 : Int) + (LS0.length : Int) + (LS1.length : Int))) = true := by simp
      clear cf
      go_wp2_with fail
      refine (heldAt _ _ LS0.length (1) ((1 : Int)) _ (by omega) hMg1_0.at (by omega) (by omega)).mono ?_; rintro e w' ⟨rfl, rfl⟩
      go_wp2_with fail
      refine (heldAt _ _ LS1.length (1 + LS0.length) ((1 : Int) + (LS0.length : Int)) _ (by omega) hMg1_1.at (by omega) (by omega)).mono ?_; rintro e w' ⟨rfl, rfl⟩
      have hP14 := (hP3.below HBg1).mono (Nat.le_refl _) HBg1.size
      go_wp2_with fail
      refine (toProgram l a cap _ hP14 hsz).mono ?_; rintro e w15 ⟨g15, rfl, hQ15, hb15⟩
      have HB15 : Below w3.heap.size w3 w15 := HBg1.trans (hb15.mono HBg1.size)
      have hQh := hQ15.mono (Nat.zero_le _) (Nat.le_refl _)
      have hM15_0 := hMg1_0.below hb15
      have hM15_1 := hMg1_1.below hb15
      clear cg hP14 hQ15 hMg1_0 hMg1_1
      go_wp2_with fail
      refine (toInt64S aa1 ca1 x1 _ (hA3_1.below HB15 (Nat.le_refl _)) hal1).mono ?_; rintro e ws1 ⟨gs1, cs1, rfl, os1, hbs1⟩
      have HBs1 : Below w3.heap.size w3 ws1 := HB15.trans (hbs1.mono HB15.size)
      have hMs1_0 := hM15_0.below hbs1
      have hMs1_1 := hM15_1.below hbs1
      have hQs1 := (hQh.below hbs1).mono (Nat.le_refl _) hbs1.size
      have has1_1 := os1.at
      have hs1_1 := os1.cap_le
      have hs2_1 := os1.cap2G
      clear os1 hQh hM15_0 hM15_1
      go_wp2_with fail
      refine (toInt64S aa2 ca2 x2 _ (hA3_2.below HBs1 (Nat.le_refl _)) hal2).mono ?_; rintro e ws2 ⟨gs2, cs2, rfl, os2, hbs2⟩
      have HBs2 : Below w3.heap.size w3 ws2 := HBs1.trans (hbs2.mono HBs1.size)
      have hMs2_0 := hMs1_0.below hbs2
      have hMs2_1 := hMs1_1.below hbs2
      have hQs2 := (hQs1.below hbs2).mono (Nat.le_refl _) hbs2.size
      have has2_1 := has1_1.below hbs2 (Nat.le_refl _)
      have has2_2 := os2.at
      have hs1_2 := os2.cap_le
      have hs2_2 := os2.cap2G
      clear os2 hQs1 hMs1_0 hMs1_1
      have HI17 := HIT _ cs1 _ cs2 _ _ hQs2 has2_1 hs1_1 hs2_1 has2_2 hs1_2 hs2_2
      clear HIT hQs2
      go_wp2_with fail
      refine HI17.out.mono ?_; rintro e w18 ⟨a8_0, c8_0, a8_1, c8_1, rfl, hN_0, hN_1, _, hb18⟩
      have HB18 : Below w3.heap.size w3 w18 := HBs2.trans (hb18.mono HBs2.size)
      have hM18_0 := hMs2_0.below hb18
      have hM18_1 := hMs2_1.below hb18
      clear HI17 hMs2_0 hMs2_1
      go_wp2_with fail
      refine (eqInt64S a8_0 aw0 c8_0 cw0 LS0 _ hN_0.at (HMW0.below HB18 (Nat.le_refl _)) (by omega)).mono ?_; rintro e wh0 ⟨rfl, hbh0⟩
      have HBh0 : Below w3.heap.size w3 wh0 := HB18.trans (hbh0.mono HB18.size)
      have hMh0_0 := hM18_0.below hbh0
      have hMh0_1 := hM18_1.below hbh0
      have hN_1 := hN_1.below hbh0
      clear hM18_0 hM18_1
      go_wp2_with fail
      refine (eqInt64S a8_1 aw1 c8_1 cw1 LS1 _ hN_1.at (HMW1.below HBh0 (Nat.le_refl _)) (by omega)).mono ?_; rintro e wh1 ⟨rfl, hbh1⟩
      have HBh1 : Below w3.heap.size w3 wh1 := HBh0.trans (hbh1.mono HBh0.size)
      have hMh1_0 := hMh0_0.below hbh1
      have hMh1_1 := hMh0_1.below hbh1
      clear hMh0_0 hMh0_1
      go_wp2_with fail
      refine (heldAt _ _ LS0.length (1) ((1 : Int)) _ (by omega) hMh1_0.at (by omega) (by omega)).mono ?_; rintro e w' ⟨rfl, rfl⟩
      go_wp2_with fail
      refine (heldAt _ _ LS1.length (1 + LS0.length) ((1 : Int) + (LS0.length : Int)) _ (by omega) hMh1_1.at (by omega) (by omega)).mono ?_; rintro e w' ⟨rfl, rfl⟩
      go_wp2_with fail
      go_ret
      exact ⟨rfl, hbB.trans (HBh1.mono hbB.size)⟩
  · rw [szv_f hs] at HZ
    go_enter Tryz.func4, Tryz.ntmps4
    go_wp2_with fail
    rw [← hw0]
    clear hw0 hs
    refine (HZ.out).mono ?_; rintro e w1 ⟨rfl, hb1⟩
    go_wp2_with fail
    go_ret
    exact ⟨rfl, hb0.trans (hb1.mono (by omega))⟩

end Go.Proofs.YtoedccgiahegnaaGreat
