/- The law on gradients. -/
import Derived.Deep.RegionHeld3
import Derived.Test.YtoedccgiahegnaaGreatJn
import Derived.Test.YtoedccgiahegnaaGreatMt
namespace Go.Proofs.YtoedccgiahegnaaGreat
open Go.RowKit
set_option linter.unusedVariables false

theorem OwnA.outAtG {L B B' : Nat} {w w' : World} {a : Option Addr} {cap : Nat} {l : List Int} (h : OwnA B' w a cap l) (ho : Out L B w w') (hB : B ≤ B') : OwnA B' w' a cap l := by
  by_cases hl : l = []
  · exact .inl hl
  · obtain ⟨g, rfl, hg⟩ := h.resolve_left hl
    have hb := hg.base
    have hblk := ho.block g hb.2 (by omega)
    obtain ⟨h1, h2⟩ := hg
    refine .inr ⟨g, rfl, h1, ?_⟩
    rcases h2 with ⟨e, _⟩ | ⟨g', cap', cur, hv, hg', hh, h3⟩
    · cases e
    · cases hv
      exact .inr ⟨g, cap, cur, rfl, hg', hblk.trans hh, h3⟩
theorem Out.belowG {L B : Nat} {w w' : World} (h : Out L B w w') (hL : L ≤ w.heap.size) : Below L w w' := ⟨h.os, h.tape, h.output, h.size, fun k hk => h.block k (by omega) (by omega)⟩
theorem blkLenG {a : Option Addr} {l l' : List Int} {g : Nat} (h : blk a l = some g) (hl : l'.length = l.length) : blk a l' = some g := by
  unfold blk at h ⊢
  by_cases e : l = []
  · rw [if_pos e] at h; cases h
  · rw [if_neg e] at h
    rw [if_neg (fun e2 => e (by rw [e2] at hl; exact List.eq_nil_of_length_eq_zero hl.symm))]; exact h
theorem marks_lenG (n k : Nat) : (marks n k).length = n := by simp [marks]
theorem row_capG {W : World} {base : Nat} {e : TypeId} {size : Nat} {g k cap : Nat} {xs : List Value} (h : W.ownsRow base e size (.slice (some ⟨g, 0, none⟩) k cap) k xs) : k ≤ cap ∧ cap ≤ 9223372036854775807 := by
  rcases h.2 with ⟨h1, _⟩ | ⟨g', cap', cur, hv, _, _, hc, hm, _⟩
  · cases h1
  · cases hv; unfold maxLen at hm; omega
theorem Own.cap2G {L g cap : Nat} {w : World} {l : List Int} (h : Own L w g cap l) : cap ≤ 9223372036854775807 := (row_capG h).2

theorem lenK_bdJ {ls : List (List Int)} {n : Nat} (h : ∀ i, i < ls.length → (ls.getD i []).length ≤ n) : ∀ k, lenK ls k ≤ k * n
  | 0 => by simp [lenK]
  | k + 1 => by
    have ih := lenK_bdJ h k
    rw [lenK, Nat.succ_mul]
    by_cases hk : k < ls.length
    · have := h k hk; omega
    · rw [List.getD_eq_getElem?_getD, List.getElem?_eq_none (by omega)]; simp; omega
theorem jaR_row {f : Nat → Nat → Int} {mo n i : Nat} : ((jaR f mo n 0).getD i []).length ≤ n := by
  by_cases hi : i < mo
  · rw [jaR_at hi]; simp
  · rw [List.getD_eq_getElem?_getD, List.getElem?_eq_none (by rw [jaR_len]; omega)]; simp
theorem jcA_cases {fs : List Fn} {j : Nat} {args : List Int} : jcA fs j args = [] ∨ jcA fs j args = jaR (slU fs j args) (fs.getD j noFn).outs.len args.length 0 := by
  unfold jcA jaA
  by_cases h1 : (vaL fs j args).c = 0
  · rw [if_pos h1]
    by_cases h2 : jaC fs j args args.length = 0
    · rw [if_pos h2]; exact .inr rfl
    · rw [if_neg h2]; exact .inl rfl
  · rw [if_neg h1]; exact .inl rfl
theorem grL_len {fs : List Fn} {f pick : Int} {args : List Int} (h : args.length ≤ 1048576) : (grL fs f pick args).length ≤ 1048576 := by
  unfold grL
  by_cases hc : grC fs f pick args = 0
  · rw [if_pos hc]
    rcases jcA_cases (fs := fs) (j := f.toNat) (args := args) with e | e
    · rw [e]; simp
    · rw [e]; exact Nat.le_trans jaR_row h
  · rw [if_neg hc]; simp


set_option maxRecDepth 100000 in
set_option maxHeartbeats 12800000 in
theorem wFnExactGradientOf (v0 v1 v2 v3 : Value) (w : World) (h0 : IsProg w v0) (h1 : IsI64 w v1) (h2 : IsI64 w v2) (h3 : IsI64s w v3) :
    Calls Tryz.prog 8 #[v0, v1, v2, v3] w fun e w' => e = .returned (.bool true) ∧ Below w.heap.size w w' := by
  obtain ⟨a, cap, l, rfl, hP, hlen⟩ := h0
  obtain ⟨n0, rfl, hf0, hg0⟩ := h1
  clear hf0 hg0
  obtain ⟨n1, rfl, hf1, hg1⟩ := h2
  clear hf1 hg1
  obtain ⟨aa2, ca2, x2, rfl, hA2, hrng2, hal92⟩ := h3
  clear hrng2
  obtain ⟨w0, hw0⟩ : ∃ w0, w0 = w.alloc (.cells #[.slice a l.length cap] 24) := ⟨_, rfl⟩
  have hb0 : Below w.heap.size w w0 := by rw [hw0]; exact (Below.refl _ _).alloc (Nat.le_refl _) _
  have z0 : w0.heap.size = w.heap.size + 1 := by rw [hw0]; simp
  have c0 : w0.cell? ⟨w.heap.size, 0, none⟩ = some (.slice a l.length cap) := by rw [hw0]; simp [go_sem]
  have hP0 : Pat w0 0 w0.heap.size l a := (hP.below hb0).mono (Nat.le_refl _) hb0.size
  have hA0_2 := hA2.below hb0 (Nat.le_refl _)
  have hlm : l.length ≤ maxLen := hlen
  by_cases hbig2 : 1048576 < x2.length
  · have hbi2 : (1048576 : Int) < (x2.length : Int) := by omega
    clear hP hP0
    go_enter Tryz.func8, Tryz.ntmps8
    go_wp2_with fail
    rw [← hw0]
    go_ret
    exact ⟨rfl, hb0⟩
  have hal2 : x2.length ≤ 1048576 := by omega
  have hbi2 : ¬ (1048576 : Int) < (x2.length : Int) := by omega
  have HZ := Lib.hid (szProgram l a cap 1048576 w0 hP0 hlm (by omega) (by omega))
  by_cases hs : ((pgSize l : Nat) : Int) ≤ 1048576
  · have hsz : pgSize l ≤ 1048576 := by omega
    rw [szv_t hs] at HZ
    have hy : 0 ≤ 1048576 - ((pgSize l : Nat) : Int) := by omega
    have hd : decide (1048576 - ((pgSize l : Nat) : Int) < 0) = false := decide_eq_false (by omega)
    have hll : l.length ≤ 1048576 := by unfold pgSize at hsz; omega
    generalize 1048576 - ((pgSize l : Nat) : Int) = lv at HZ hy hd
    go_enter Tryz.func8, Tryz.ntmps8
    go_wp2_with fail
    rw [← hw0]
    clear hw0 hs
    refine (HZ.out).mono ?_; rintro e w1 ⟨rfl, hb1⟩
    have c1 := (hb1.cell (p := ⟨w.heap.size, 0, none⟩) (by show w.heap.size < _; omega)).trans c0
    have z1 := hb1.size
    have hP1 := (hP0.below hb1).mono (Nat.le_refl _) hb1.size
    have hA1_2 := hA0_2.below hb1 (Nat.le_refl _)
    clear HZ
    go_wp2_with fail
    refine (toProgram l a cap _ hP1 hsz).mono ?_; rintro e w2 ⟨g2, rfl, hQ2, hb2⟩
    have c2 := (hb2.cell (p := ⟨w.heap.size, 0, none⟩) (by show w.heap.size < _; omega)).trans c1
    have z2 := hb2.size
    have hP2 := (hP1.below hb2).mono (Nat.le_refl _) hb2.size
    have hQ2' := hQ2.mono (Nat.zero_le _) (Nat.le_refl _)
    have hA2_2 := hA1_2.below hb2 (Nat.le_refl _)
    have hbB2 := (hb0.trans (hb1.mono (by omega))).trans (hb2.mono (by omega))
    clear c1 hP1 hQ2
    go_wp2_with fail
    refine (toInt64S aa2 ca2 x2 _ hA2_2 hal2).mono ?_; rintro e wi2 ⟨gi2, kci2, rfl, oi2, hbi2⟩
    have ci2 := (hbi2.cell (p := ⟨w.heap.size, 0, none⟩) (by show w.heap.size < _; omega)).trans c2
    have zi2 := hbi2.size
    have hPi2 := (hP2.below hbi2).mono (Nat.le_refl _) hbi2.size
    have hQi2' := (hQ2'.below hbi2).mono (Nat.le_refl _) hbi2.size
    have hbBi2 := hbB2.trans (hbi2.mono (by omega))
    have hAi2_2 := hA2_2.below hbi2 (Nat.le_refl _)
    have oii2_2 := oi2.at
    clear c2 hP2 hQ2'
    go_wp2_with fail
    obtain ⟨LS0, hLS0⟩ : ∃ LS0, grL l n0 n1 x2 = LS0 := ⟨_, rfl⟩
    have hlLS0 : LS0.length ≤ 1048576 := by rw [← hLS0]; exact grL_len hal2
    obtain ⟨C1, hC1⟩ : ∃ C1, grC l n0 n1 x2 = C1 := ⟨_, rfl⟩
    have HIT := fun (A2 : Option Addr) (c2 : Nat) (g : Nat) (W : World) (hP : Pat W 0 W.heap.size l (some ⟨g, 0, none⟩)) (h2 : At W A2 x2) (c1_2 : x2.length ≤ c2) (c2_2 : c2 ≤ 9223372036854775807) => Lib.hid (show Calls Tryz.prog 32 #[.agg #[.slice (some ⟨g, 0, none⟩) l.length l.length], .int .i64 n0, .int .i64 n1, .slice A2 x2.length c2] W (fun e w' => ∃ pa0 pc0, e = .returned (.tuple #[.slice pa0 LS0.length pc0, .int .i64 C1]) ∧ OwnA W.heap.size w' pa0 pc0 LS0 ∧ Below W.heap.size W w') from by rw [← hLS0, ← hC1]; exact iGradientOf l (some ⟨g, 0, none⟩) l.length n0 n1 A2 c2 x2 W hP hsz (Nat.le_refl _) hll h2 hal2 c1_2 c2_2)
    have HST := Lib.hid (show Calls Tryz.prog 31 #[.agg #[.slice (some ⟨g2, 0, none⟩) l.length l.length], .int .i64 n0, .int .i64 n1, .slice (some ⟨gi2, 0, none⟩) x2.length kci2] wi2 (fun e w' => ∃ pa0 pc0, e = .returned (.tuple #[.slice pa0 LS0.length pc0, .int .i64 C1]) ∧ At w' pa0 LS0 ∧ Below wi2.heap.size wi2 w') from by rw [← hLS0, ← hC1]; exact sGradientOf l _ l.length n0 n1 _ kci2 x2 _ hQi2' hsz oii2_2 hal2)
    clear hLS0 hC1
    refine HST.out.mono ?_; rintro e w3 ⟨aw0, cw0, rfl, HMW0, hb3⟩
    have c3 := (hb3.cell (p := ⟨w.heap.size, 0, none⟩) (by show w.heap.size < _; omega)).trans ci2
    have z3 := hb3.size
    have hP3 := (hPi2.below hb3).mono (Nat.le_refl _) hb3.size
    have hbB := hbBi2.trans (hb3.mono (by omega))
    have hA3_2 := hAi2_2.below hb3 (Nat.le_refl _)
    clear ci2 hPi2 hQi2' HST oi2 oii2_2
    go_wp2_with fail
    refine (toProgramW l a cap _ hP3 hsz).mono ?_; rintro e w4 ⟨g4, rfl, hQ4, hb4⟩
    have c4 := (hb4.cell (p := ⟨w.heap.size, 0, none⟩) (by show w.heap.size < _; omega)).trans c3
    have z4 := hb4.size
    obtain ⟨w5, hw5⟩ : ∃ w5, w5 = w4.alloc (.cells #[.slice (some ⟨g4, 0, none⟩) l.length l.length] 31) := ⟨_, rfl⟩
    have hb5 : Below w4.heap.size w4 w5 := by rw [hw5]; exact (Below.refl _ _).alloc (Nat.le_refl _) _
    have z5 : w5.heap.size = w4.heap.size + 1 := by rw [hw5]; simp
    have x5 : w5.cell? ⟨w4.heap.size, 0, none⟩ = some (.slice (some ⟨g4, 0, none⟩) l.length l.length) := by rw [hw5]; simp [go_sem]
    have hQ5 := (hQ4.pat.below hb5).mono (Nat.zero_le _) hb5.size
    have HB5 : Below w3.heap.size w3 w5 := hb4.trans (hb5.mono hb4.size)
    have hS4 := hQ4.spt hsz
    have hgb := hS4.1
    have H45 : Below w4.heap.size w4 w5 := hb5
    have hA5_2 := hA3_2.below HB5 (Nat.le_refl _)
    clear hQ4
    have lw : w.heap.size < w4.heap.size := by omega
    go_wp2_with fail
    rw [← hw5]
    clear hw5 c4
    refine (toInt64S aa2 ca2 x2 _ hA5_2 hal2).mono ?_; rintro e wx2 ⟨gx2, cx2, rfl, ox2, hbx2⟩
    have zx2 := hbx2.size
    have HBx2 : Below w3.heap.size w3 wx2 := HB5.trans (hbx2.mono HB5.size)
    have H4x2 : Below w4.heap.size w4 wx2 := H45.trans (hbx2.mono H45.size)
    have xx2_ := (hbx2.cell (p := ⟨w4.heap.size, 0, none⟩) (by show w4.heap.size < _; omega)).trans x5
    have hQx2 := (hQ5.below hbx2).mono (Nat.le_refl _) hbx2.size
    have hox1_2 := ox2.cap_le
    have hox2_2 := ox2.cap2G
    have oXx2_2 : OwnA w5.heap.size wx2 (some ⟨gx2, 0, none⟩) cx2 x2 := ox2.a
    have HXU2 : Hid (∀ g, blk (some ⟨gx2, 0, none⟩) x2 = some g → w5.heap.size ≤ g ∧ g < wx2.heap.size) := fun g hg => oXx2_2.lt g hg
    have hAx2_2 := hA5_2.below hbx2 (Nat.le_refl _)
    clear ox2 hQ5 x5
    go_wp2_with fail
    have HI6 := HIT _ cx2 _ _ hQx2 oXx2_2.at hox1_2 hox2_2
    refine HI6.out.mono ?_; rintro e w6 ⟨a6_0, c6_0, rfl, hM6_0, hb6⟩
    have z6 := hb6.size
    have HB6 : Below w3.heap.size w3 w6 := HBx2.trans (hb6.mono HBx2.size)
    have H46 : Below w4.heap.size w4 w6 := H4x2.trans (hb6.mono H4x2.size)
    have hQ6 := (hQx2.below hb6).mono (Nat.le_refl _) hb6.size
    have x6 := (hb6.cell (p := ⟨w4.heap.size, 0, none⟩) (by show w4.heap.size < _; omega)).trans xx2_
    have oX6_2 := oXx2_2.below hb6
    clear HI6 hQx2 xx2_ oXx2_2
    have hne1 : (C1 != C1) = false := by simp
    have hee1 : (C1 == C1) = true := by simp
    go_wp2_with fail
    refine (eqInt64S a6_0 aw0 c6_0 cw0 LS0 _ hM6_0.at (HMW0.below HB6 (Nat.le_refl _)) (by omega)).mono ?_; rintro e we0 ⟨rfl, hbe0⟩
    have HBe0 : Below w3.heap.size w3 we0 := HB6.trans (hbe0.mono HB6.size)
    have H4e0 : Below w4.heap.size w4 we0 := H46.trans (hbe0.mono H46.size)
    have hMe0_0 := hM6_0.below hbe0
    have oXe0_2 := oX6_2.below hbe0
    have hQe0 := (hQ6.below hbe0).mono (Nat.le_refl _) hbe0.size
    have xe0 := (hbe0.cell (p := ⟨w4.heap.size, 0, none⟩) (cell_lt x6)).trans x6
    clear hM6_0 oX6_2 hQ6 x6
    have c7 := (HBe0.cell (p := ⟨w.heap.size, 0, none⟩) (by show w.heap.size < _; omega)).trans c3
    have hP7 := (hP3.below HBe0).mono (Nat.le_refl _) HBe0.size
    have HT := fun (W : World) (hW : Below we0.heap.size we0 W) => Lib.hid (toProgram l a cap W ((hP7.below hW).mono (Nat.le_refl _) hW.size) hsz)
    go_wp2_with fail
    have h7s := H4e0.size
    have l1 : w.heap.size < we0.heap.size := by omega
    have l2 : w4.heap.size < we0.heap.size := by have := hb6.size; have := H46.size; first | omega | (have := cell_lt xe0; omega)
    go_region_held3 (fun w' => w'.cell? ⟨w.heap.size, 0, none⟩ = some (.slice a l.length cap) ∧ w'.cell? ⟨w4.heap.size, 0, none⟩ = some (.slice (some ⟨g4, 0, none⟩) l.length l.length))
      (first
        | exact ⟨c7, xe0⟩
        | exact ⟨(hb9.cell (p := ⟨w.heap.size, 0, none⟩) l1).trans c7, (hb9.cell (p := ⟨w4.heap.size, 0, none⟩) l2).trans xe0⟩
        | exact ⟨(hb8.cell (p := ⟨w.heap.size, 0, none⟩) l1).trans c7, (hb8.cell (p := ⟨w4.heap.size, 0, none⟩) l2).trans xe0⟩
        | go_keep)
      (first
        | (go_at_call 12; refine (HT _ (below_drew (Below.refl _ _))).out.mono ?_; rintro e w8 ⟨g8, rfl, hQ8, hb8'⟩; have hb8 : Below we0.heap.size we0 w8 := ⟨hb8'.os, hb8'.tape, hb8'.output, hb8'.size, hb8'.block⟩)
        | (go_at_call 16; refine (eqProgram l _ _ _ _ _ ((hQe0.below hb8).mono (Nat.le_refl _) hb8.size) (hQ8.mono (Nat.zero_le _) (Nat.le_refl _)) hlm).mono ?_; rintro e w9 ⟨rfl, hb9'⟩; have hb9 : Below we0.heap.size we0 w9 := hb8.trans (hb9'.mono hb8.size)))
    all_goals
      have hz9 := hb9.size
      have HB9 : Below w3.heap.size w3 w9 := HBe0.trans (hb9.mono HBe0.size)
      have H49 : Below w4.heap.size w4 w9 := H4e0.trans (hb9.mono H4e0.size)
      have hM9_0 := hMe0_0.below hb9
      have oX9_2 := oXe0_2.below hb9
      have x9 := (hb9.cell (p := ⟨w4.heap.size, 0, none⟩) (cell_lt xe0)).trans xe0
      clear hMe0_0 oXe0_2 xe0
      clear HT hQe0 hQ8 hP7 c7 hb8' hb9' c0 hP0 hP
      go_wp2_with fail
      refine (toInt64S aa2 ca2 x2 _ (hA3_2.below HB9 (Nat.le_refl _)) hal2).mono ?_; rintro e wp2 ⟨gp2, cp2, rfl, op2, hbp2⟩
      have HBp2 : Below w3.heap.size w3 wp2 := HB9.trans (hbp2.mono HB9.size)
      have H4p2 : Below w4.heap.size w4 wp2 := H49.trans (hbp2.mono H49.size)
      have hMp2_0 := hM9_0.below hbp2
      have oXp2_2 := oX9_2.below hbp2
      have xp2 := (hbp2.cell (p := ⟨w4.heap.size, 0, none⟩) (cell_lt x9)).trans x9
      clear hM9_0 oX9_2 x9
      go_wp2_with fail
      refine (eqInt64S _ _ _ _ x2 _ oXp2_2.at op2.at (by omega)).mono ?_; rintro e wq2 ⟨rfl, hbq2⟩
      have HBq2 : Below w3.heap.size w3 wq2 := HBp2.trans (hbq2.mono HBp2.size)
      have H4q2 : Below w4.heap.size w4 wq2 := H4p2.trans (hbq2.mono H4p2.size)
      have hMq2_0 := hMp2_0.below hbq2
      have oXq2_2 := oXp2_2.below hbq2
      have xq2 := (hbq2.cell (p := ⟨w4.heap.size, 0, none⟩) (cell_lt xp2)).trans xp2
      clear hMp2_0 oXp2_2 xp2
      clear op2
      have zz := H4q2.size
      have cz := (HBq2.cell (p := ⟨w.heap.size, 0, none⟩) (by show w.heap.size < _; omega)).trans c3
      have hM0 : Mp w3.heap.size w4.heap.size g4 w4 wq2 := Mp.of_below H4q2 (Nat.le_refl _) hgb.2
      have hSz : Spt wq2 w3.heap.size w4.heap.size l g4 := by
        obtain ⟨h1, h2, h3⟩ := hS4
        refine ⟨h1, fun o => (hM0.frz g4 o (by omega)).trans (h2 o), fun i hi => ?_⟩
        obtain ⟨q0, b', cap', q1, q2, q3, q4⟩ := h3 i hi
        exact ⟨q0, b', cap', hM0.strs _ q1, hM0.ints _ q2, hM0.outs _ _ q3, hM0.trees q4⟩
      have HMk := Lib.hid (markProgram w3.heap.size w4.heap.size l g4 l.length 1 wq2 hSz zz hsz (by omega))
      clear hS4 hSz hM0
      go_wp2_with fail
      refine (HMk.out).mono ?_; rintro e w10 ⟨x, rfl, hxm, hMpp⟩
      have HO := hMpp.out
      have z10 := HO.size
      have HB10 : Below w3.heap.size w3 w10 := HBq2.trans (HO.belowG HBq2.size)
      have c10 := (HB10.cell (p := ⟨w.heap.size, 0, none⟩) (by show w.heap.size < _; omega)).trans c3
      have hM10_0 := hMq2_0.outAtG HO (by omega)
      have oX10_2 := oXq2_2.outAtG HO (by omega)
      clear HMk hMpp cz xq2 hMq2_0 oXq2_2
      go_wp2_with fail
      refine (markAt _ _ _ x2 (x) ((x : Int)) _ (by omega) oX10_2 (by omega) (by omega)).mono ?_; rintro e wm2 ⟨rfl, hXm2, hgm2⟩
      have HBm2 := HB10.grown hgm2 HB10.size (fun g hg => Nat.le_trans (by omega) (oX10_2.lt g hg).1)
      have hMm2_0 := hM10_0.keptBy hgm2 (fun g h1 h2 => by have e1 := (hM10_0.lt g h1).1; have e2 := HXU2.out g h2; omega)
      have cm2 := (HBm2.cell (p := ⟨w.heap.size, 0, none⟩) (by show w.heap.size < _; omega)).trans c3
      clear hXm2 hgm2 c10 oX10_2 hM10_0
      have hx0 : ¬ (x : Int) + (x2.length : Int) < 0 := by omega
      clear HXU2
      go_wp2_with fail
      refine (eqInt64S a6_0 aw0 c6_0 cw0 LS0 _ hMm2_0.at (HMW0.below HBm2 (Nat.le_refl _)) (by omega)).mono ?_; rintro e wf0 ⟨rfl, hbf0⟩
      have HBf0 : Below w3.heap.size w3 wf0 := HBm2.trans (hbf0.mono HBm2.size)
      have hMf0_0 := hMm2_0.below hbf0
      clear hMm2_0
      have cf := (HBf0.cell (p := ⟨w.heap.size, 0, none⟩) (by show w.heap.size < _; omega)).trans c3
      go_wp2_with fail
      refine (markAt _ _ _ LS0 (1) ((1 : Int)) _ (by omega) hMf0_0 (by omega) (by omega)).mono ?_; rintro e wg0 ⟨rfl, hMg0_0, hgg0⟩
      have HBg0 := HBf0.grown hgg0 HBf0.size (fun g hg => Nat.le_trans (by omega) (hMf0_0.lt g hg).1)
      clear hgg0 hMf0_0
      have cg := (HBg0.cell (p := ⟨w.heap.size, 0, none⟩) (by show w.heap.size < _; omega)).trans c3
      have hq0 : ¬ (1 : Int) + (LS0.length : Int) < 0 := by omega
      have htt : (((1 : Int) + (LS0.length : Int)) != ((1 : Int) + (LS0.length : Int))) = false := by simp
      have hte : (((1 : Int) + (LS0.length : Int)) == ((1 : Int) + (LS0.length : Int))) = true := by simp
      clear cf
      go_wp2_with fail
      refine (heldAt _ _ LS0.length (1) ((1 : Int)) _ (by omega) hMg0_0.at (by omega) (by omega)).mono ?_; rintro e w' ⟨rfl, rfl⟩
      have hP14 := (hP3.below HBg0).mono (Nat.le_refl _) HBg0.size
      go_wp2_with fail
      refine (toProgram l a cap _ hP14 hsz).mono ?_; rintro e w15 ⟨g15, rfl, hQ15, hb15⟩
      have HB15 : Below w3.heap.size w3 w15 := HBg0.trans (hb15.mono HBg0.size)
      have hQh := hQ15.mono (Nat.zero_le _) (Nat.le_refl _)
      have hM15_0 := hMg0_0.below hb15
      clear cg hP14 hQ15 hMg0_0
      go_wp2_with fail
      refine (toInt64S aa2 ca2 x2 _ (hA3_2.below HB15 (Nat.le_refl _)) hal2).mono ?_; rintro e ws2 ⟨gs2, cs2, rfl, os2, hbs2⟩
      have HBs2 : Below w3.heap.size w3 ws2 := HB15.trans (hbs2.mono HB15.size)
      have hMs2_0 := hM15_0.below hbs2
      have hQs2 := (hQh.below hbs2).mono (Nat.le_refl _) hbs2.size
      have has2_2 := os2.at
      have hs1_2 := os2.cap_le
      have hs2_2 := os2.cap2G
      clear os2 hQh hM15_0
      have HI17 := HIT _ cs2 _ _ hQs2 has2_2 hs1_2 hs2_2
      clear HIT hQs2
      go_wp2_with fail
      refine HI17.out.mono ?_; rintro e w18 ⟨a8_0, c8_0, rfl, hN_0, hb18⟩
      have HB18 : Below w3.heap.size w3 w18 := HBs2.trans (hb18.mono HBs2.size)
      have hM18_0 := hMs2_0.below hb18
      clear HI17 hMs2_0
      go_wp2_with fail
      refine (eqInt64S a8_0 aw0 c8_0 cw0 LS0 _ hN_0.at (HMW0.below HB18 (Nat.le_refl _)) (by omega)).mono ?_; rintro e wh0 ⟨rfl, hbh0⟩
      have HBh0 : Below w3.heap.size w3 wh0 := HB18.trans (hbh0.mono HB18.size)
      have hMh0_0 := hM18_0.below hbh0
      clear hM18_0
      go_wp2_with fail
      refine (heldAt _ _ LS0.length (1) ((1 : Int)) _ (by omega) hMh0_0.at (by omega) (by omega)).mono ?_; rintro e w' ⟨rfl, rfl⟩
      go_wp2_with fail
      go_ret
      exact ⟨rfl, hbB.trans (HBh0.mono hbB.size)⟩
  · rw [szv_f hs] at HZ
    go_enter Tryz.func8, Tryz.ntmps8
    go_wp2_with fail
    rw [← hw0]
    clear hw0 hs
    refine (HZ.out).mono ?_; rintro e w1 ⟨rfl, hb1⟩
    go_wp2_with fail
    go_ret
    exact ⟨rfl, hb0.trans (hb1.mono (by omega))⟩

end Go.Proofs.YtoedccgiahegnaaGreat
