/- The law on the states of a chain of rounds. -/
import Derived.Deep.RegionHeld3
import Derived.Test.YtoedccgiahegnaaGreatRse
import Derived.Test.YtoedccgiahegnaaGreatMq
import Derived.Test.YtoedccgiahegnaaGreatMt
namespace Go.Proofs.YtoedccgiahegnaaGreat
open Go.RowKit
set_option linter.unusedVariables false

theorem OwnA.outAtG {L B B' : Nat} {w w' : World} {a : Option Addr} {cap : Nat} {l : List Int} (h : OwnA B' w a cap l) (ho : Out L B w w') (hB : B ≤ B') : OwnA B' w' a cap l := by
  by_cases hl : l = []
  · exact .inl hl
  · obtain ⟨g, rfl, hg⟩ := h.resolve_left hl
    have hb := hg.base
    have hblk := ho.block g hb.2 (by omega)
    obtain ⟨h1, h2⟩ := hg
    refine .inr ⟨g, rfl, h1, ?_⟩
    rcases h2 with ⟨e, _⟩ | ⟨g', cap', cur, hv, hg', hh, h3⟩
    · cases e
    · cases hv
      exact .inr ⟨g, cap, cur, rfl, hg', hblk.trans hh, h3⟩
theorem Out.belowG {L B : Nat} {w w' : World} (h : Out L B w w') (hL : L ≤ w.heap.size) : Below L w w' := ⟨h.os, h.tape, h.output, h.size, fun k hk => h.block k (by omega) (by omega)⟩
theorem blkLenG {a : Option Addr} {l l' : List Int} {g : Nat} (h : blk a l = some g) (hl : l'.length = l.length) : blk a l' = some g := by
  unfold blk at h ⊢
  by_cases e : l = []
  · rw [if_pos e] at h; cases h
  · rw [if_neg e] at h
    rw [if_neg (fun e2 => e (by rw [e2] at hl; exact List.eq_nil_of_length_eq_zero hl.symm))]; exact h
theorem marks_lenG (n k : Nat) : (marks n k).length = n := by simp [marks]
theorem row_capG {W : World} {base : Nat} {e : TypeId} {size : Nat} {g k cap : Nat} {xs : List Value} (h : W.ownsRow base e size (.slice (some ⟨g, 0, none⟩) k cap) k xs) : k ≤ cap ∧ cap ≤ 9223372036854775807 := by
  rcases h.2 with ⟨h1, _⟩ | ⟨g', cap', cur, hv, _, _, hc, hm, _⟩
  · cases h1
  · cases hv; unfold maxLen at hm; omega
theorem Own.cap2G {L g cap : Nat} {w : World} {l : List Int} (h : Own L w g cap l) : cap ≤ 9223372036854775807 := (row_capG h).2

theorem lenK_bdJ {ls : List (List Int)} {n : Nat} (h : ∀ i, i < ls.length → (ls.getD i []).length ≤ n) : ∀ k, lenK ls k ≤ k * n
  | 0 => by simp [lenK]
  | k + 1 => by
    have ih := lenK_bdJ h k
    rw [lenK, Nat.succ_mul]
    by_cases hk : k < ls.length
    · have := h k hk; omega
    · rw [List.getD_eq_getElem?_getD, List.getElem?_eq_none (by omega)]; simp; omega
theorem stE_len {fs : List Fn} {j : Nat} {args : List Int} (hpa : (fs.getD j noFn).outs.len = args.length) : ∀ k, (stE fs j args k).c = 0 → (stE fs j args k).l.length = args.length
  | 0, _ => rfl
  | k + 1, h => by
    by_cases hk : (stE fs j args k).c = 0
    · rw [stE_go hk] at h ⊢
      have h2 : (vaL fs j (stE fs j args k).l).c = 0 := h
      show (vaL fs j (stE fs j args k).l).l.length = args.length
      rw [← hpa]
      exact lisE_len _ h2
    · rw [stE, if_neg hk] at h; exact absurd h hk
theorem rsA_sz {fs : List Fn} {f : Int} {args : List Int} {n : Int} : mSz (rsA fs f args n) ≤ 1048576 := by
  have h0 : mSz ([] : List (List Int)) ≤ 1048576 := by unfold mSz; simp [lenK]
  unfold rsA
  by_cases h1 : rcC fs f args n = 0
  · rw [if_pos h1]
    obtain ⟨hro, hq⟩ := rcC_known h1
    obtain ⟨hpl, hrp⟩ := roC_known hro
    obtain ⟨k1, k2, k3⟩ := plC_known hpl
    obtain ⟨hr1, hr2⟩ := repB_known hrp
    have hfp := fn_parts (progB_fn k1 (i := f.toNat) (by omega))
    have hln := areB_ln k3
    unfold stA
    by_cases h2 : (stE fs f.toNat args n.toNat).c = 0
    · rw [if_pos h2]
      have hrow : ∀ i, i < (stR (stE fs f.toNat args) (n.toNat + 1)).length → ((stR (stE fs f.toNat args) (n.toNat + 1)).getD i []).length ≤ 12 := fun i hi => by
        rw [stR_len] at hi
        rw [stR_at hi]
        have hc : (stE fs f.toNat args i).c = 0 := Classical.byContradiction fun h => by
          have := stE_bad h (n.toNat - i)
          rw [show i + (n.toNat - i) = n.toNat by omega] at this
          rw [this] at h2
          exact h h2
        rw [stE_len (by omega) i hc]
        omega
      have hb := lenK_bdJ hrow (n.toNat + 1)
      unfold mSz
      rw [stR_len]
      omega
    · rw [if_neg h2]; exact h0
  · rw [if_neg h1]; exact h0


set_option maxRecDepth 100000 in
set_option maxHeartbeats 12800000 in
theorem wFnExactRoundStates (v0 v1 v2 v3 : Value) (w : World) (h0 : IsProg w v0) (h1 : IsI64 w v1) (h2 : IsI64s w v2) (h3 : IsI64 w v3) :
    Calls Tryz.prog 7 #[v0, v1, v2, v3] w fun e w' => e = .returned (.bool true) ∧ Below w.heap.size w w' := by
  obtain ⟨a, cap, l, rfl, hP, hlen⟩ := h0
  obtain ⟨n0, rfl, hf0, hg0⟩ := h1
  clear hf0 hg0
  obtain ⟨aa1, ca1, x1, rfl, hA1, hrng1, hal91⟩ := h2
  clear hrng1
  obtain ⟨n2, rfl, hf2, hg2⟩ := h3
  clear hf2 hg2
  obtain ⟨w0, hw0⟩ : ∃ w0, w0 = w.alloc (.cells #[.slice a l.length cap] 24) := ⟨_, rfl⟩
  have hb0 : Below w.heap.size w w0 := by rw [hw0]; exact (Below.refl _ _).alloc (Nat.le_refl _) _
  have z0 : w0.heap.size = w.heap.size + 1 := by rw [hw0]; simp
  have c0 : w0.cell? ⟨w.heap.size, 0, none⟩ = some (.slice a l.length cap) := by rw [hw0]; simp [go_sem]
  have hP0 : Pat w0 0 w0.heap.size l a := (hP.below hb0).mono (Nat.le_refl _) hb0.size
  have hA0_1 := hA1.below hb0 (Nat.le_refl _)
  have hlm : l.length ≤ maxLen := hlen
  by_cases hbig1 : 1048576 < x1.length
  · have hbi1 : (1048576 : Int) < (x1.length : Int) := by omega
    clear hP hP0
    go_enter Tryz.func7, Tryz.ntmps7
    go_wp2_with fail
    rw [← hw0]
    go_ret
    exact ⟨rfl, hb0⟩
  have hal1 : x1.length ≤ 1048576 := by omega
  have hbi1 : ¬ (1048576 : Int) < (x1.length : Int) := by omega
  have HZ := Lib.hid (szProgram l a cap 1048576 w0 hP0 hlm (by omega) (by omega))
  by_cases hs : ((pgSize l : Nat) : Int) ≤ 1048576
  · have hsz : pgSize l ≤ 1048576 := by omega
    rw [szv_t hs] at HZ
    have hy : 0 ≤ 1048576 - ((pgSize l : Nat) : Int) := by omega
    have hd : decide (1048576 - ((pgSize l : Nat) : Int) < 0) = false := decide_eq_false (by omega)
    have hll : l.length ≤ 1048576 := by unfold pgSize at hsz; omega
    generalize 1048576 - ((pgSize l : Nat) : Int) = lv at HZ hy hd
    go_enter Tryz.func7, Tryz.ntmps7
    go_wp2_with fail
    rw [← hw0]
    clear hw0 hs
    refine (HZ.out).mono ?_; rintro e w1 ⟨rfl, hb1⟩
    have c1 := (hb1.cell (p := ⟨w.heap.size, 0, none⟩) (by show w.heap.size < _; omega)).trans c0
    have z1 := hb1.size
    have hP1 := (hP0.below hb1).mono (Nat.le_refl _) hb1.size
    have hA1_1 := hA0_1.below hb1 (Nat.le_refl _)
    clear HZ
    go_wp2_with fail
    refine (toProgram l a cap _ hP1 hsz).mono ?_; rintro e w2 ⟨g2, rfl, hQ2, hb2⟩
    have c2 := (hb2.cell (p := ⟨w.heap.size, 0, none⟩) (by show w.heap.size < _; omega)).trans c1
    have z2 := hb2.size
    have hP2 := (hP1.below hb2).mono (Nat.le_refl _) hb2.size
    have hQ2' := hQ2.mono (Nat.zero_le _) (Nat.le_refl _)
    have hA2_1 := hA1_1.below hb2 (Nat.le_refl _)
    have hbB2 := (hb0.trans (hb1.mono (by omega))).trans (hb2.mono (by omega))
    clear c1 hP1 hQ2
    go_wp2_with fail
    refine (toInt64S aa1 ca1 x1 _ hA2_1 hal1).mono ?_; rintro e wi1 ⟨gi1, kci1, rfl, oi1, hbi1⟩
    have ci1 := (hbi1.cell (p := ⟨w.heap.size, 0, none⟩) (by show w.heap.size < _; omega)).trans c2
    have zi1 := hbi1.size
    have hPi1 := (hP2.below hbi1).mono (Nat.le_refl _) hbi1.size
    have hQi1' := (hQ2'.below hbi1).mono (Nat.le_refl _) hbi1.size
    have hbBi1 := hbB2.trans (hbi1.mono (by omega))
    have hAi1_1 := hA2_1.below hbi1 (Nat.le_refl _)
    have oii1_1 := oi1.at
    clear c2 hP2 hQ2'
    go_wp2_with fail
    obtain ⟨LS0, hLS0⟩ : ∃ LS0, rsA l n0 x1 n2 = LS0 := ⟨_, rfl⟩
    have hlLS0 : mSz LS0 ≤ 1048576 := by rw [← hLS0]; exact rsA_sz
    obtain ⟨C1, hC1⟩ : ∃ C1, rsC l n0 x1 n2 = C1 := ⟨_, rfl⟩
    have HIT := fun (A1 : Option Addr) (c1 : Nat) (g : Nat) (W : World) (hP : Pat W 0 W.heap.size l (some ⟨g, 0, none⟩)) (h1 : At W A1 x1) (c1_1 : x1.length ≤ c1) (c2_1 : c1 ≤ 9223372036854775807) => Lib.hid (show Calls Tryz.prog 27 #[.agg #[.slice (some ⟨g, 0, none⟩) l.length l.length], .int .i64 n0, .slice A1 x1.length c1, .int .i64 n2] W (fun e w' => ∃ pa0 pc0, e = .returned (.tuple #[.slice pa0 LS0.length pc0, .int .i64 C1]) ∧ MqA w' W.heap.size pa0 pc0 LS0 ∧ Below W.heap.size W w') from by rw [← hLS0, ← hC1]; exact iRoundStates l (some ⟨g, 0, none⟩) l.length n0 A1 c1 x1 n2 W hP hsz (Nat.le_refl _) hll h1 hal1 c1_1 c2_1)
    have HST := Lib.hid (show Calls Tryz.prog 26 #[.agg #[.slice (some ⟨g2, 0, none⟩) l.length l.length], .int .i64 n0, .slice (some ⟨gi1, 0, none⟩) x1.length kci1, .int .i64 n2] wi1 (fun e w' => ∃ pa0 pc0, e = .returned (.tuple #[.slice pa0 LS0.length pc0, .int .i64 C1]) ∧ Mat w' pa0 LS0 ∧ Below wi1.heap.size wi1 w') from by rw [← hLS0, ← hC1]; exact sRoundStates l _ l.length n0 _ kci1 x1 n2 _ hQi1' hsz oii1_1 hal1)
    clear hLS0 hC1
    refine HST.out.mono ?_; rintro e w3 ⟨aw0, cw0, rfl, HMW0, hb3⟩
    have c3 := (hb3.cell (p := ⟨w.heap.size, 0, none⟩) (by show w.heap.size < _; omega)).trans ci1
    have z3 := hb3.size
    have hP3 := (hPi1.below hb3).mono (Nat.le_refl _) hb3.size
    have hbB := hbBi1.trans (hb3.mono (by omega))
    have hA3_1 := hAi1_1.below hb3 (Nat.le_refl _)
    clear ci1 hPi1 hQi1' HST oi1 oii1_1
    go_wp2_with fail
    refine (toProgramW l a cap _ hP3 hsz).mono ?_; rintro e w4 ⟨g4, rfl, hQ4, hb4⟩
    have c4 := (hb4.cell (p := ⟨w.heap.size, 0, none⟩) (by show w.heap.size < _; omega)).trans c3
    have z4 := hb4.size
    obtain ⟨w5, hw5⟩ : ∃ w5, w5 = w4.alloc (.cells #[.slice (some ⟨g4, 0, none⟩) l.length l.length] 31) := ⟨_, rfl⟩
    have hb5 : Below w4.heap.size w4 w5 := by rw [hw5]; exact (Below.refl _ _).alloc (Nat.le_refl _) _
    have z5 : w5.heap.size = w4.heap.size + 1 := by rw [hw5]; simp
    have x5 : w5.cell? ⟨w4.heap.size, 0, none⟩ = some (.slice (some ⟨g4, 0, none⟩) l.length l.length) := by rw [hw5]; simp [go_sem]
    have hQ5 := (hQ4.pat.below hb5).mono (Nat.zero_le _) hb5.size
    have HB5 : Below w3.heap.size w3 w5 := hb4.trans (hb5.mono hb4.size)
    have hS4 := hQ4.spt hsz
    have hgb := hS4.1
    have H45 : Below w4.heap.size w4 w5 := hb5
    have hA5_1 := hA3_1.below HB5 (Nat.le_refl _)
    clear hQ4
    have lw : w.heap.size < w4.heap.size := by omega
    go_wp2_with fail
    rw [← hw5]
    clear hw5 c4
    refine (toInt64S aa1 ca1 x1 _ hA5_1 hal1).mono ?_; rintro e wx1 ⟨gx1, cx1, rfl, ox1, hbx1⟩
    have zx1 := hbx1.size
    have HBx1 : Below w3.heap.size w3 wx1 := HB5.trans (hbx1.mono HB5.size)
    have H4x1 : Below w4.heap.size w4 wx1 := H45.trans (hbx1.mono H45.size)
    have xx1_ := (hbx1.cell (p := ⟨w4.heap.size, 0, none⟩) (by show w4.heap.size < _; omega)).trans x5
    have hQx1 := (hQ5.below hbx1).mono (Nat.le_refl _) hbx1.size
    have hox1_1 := ox1.cap_le
    have hox2_1 := ox1.cap2G
    have oXx1_1 : OwnA w5.heap.size wx1 (some ⟨gx1, 0, none⟩) cx1 x1 := ox1.a
    have HXU1 : Hid (∀ g, blk (some ⟨gx1, 0, none⟩) x1 = some g → w5.heap.size ≤ g ∧ g < wx1.heap.size) := fun g hg => oXx1_1.lt g hg
    have hAx1_1 := hA5_1.below hbx1 (Nat.le_refl _)
    clear ox1 hQ5 x5
    go_wp2_with fail
    have HI6 := HIT _ cx1 _ _ hQx1 oXx1_1.at hox1_1 hox2_1
    refine HI6.out.mono ?_; rintro e w6 ⟨a6_0, c6_0, rfl, hM6_0, hb6⟩
    have z6 := hb6.size
    have HB6 : Below w3.heap.size w3 w6 := HBx1.trans (hb6.mono HBx1.size)
    have H46 : Below w4.heap.size w4 w6 := H4x1.trans (hb6.mono H4x1.size)
    have hQ6 := (hQx1.below hb6).mono (Nat.le_refl _) hb6.size
    have x6 := (hb6.cell (p := ⟨w4.heap.size, 0, none⟩) (by show w4.heap.size < _; omega)).trans xx1_
    have oX6_1 := oXx1_1.below hb6
    clear HI6 hQx1 xx1_ oXx1_1
    have hne1 : (C1 != C1) = false := by simp
    have hee1 : (C1 == C1) = true := by simp
    go_wp2_with fail
    refine (eqMat a6_0 aw0 c6_0 cw0 LS0 _ hM6_0.mat (HMW0.below HB6 (Nat.le_refl _)) hlLS0).mono ?_; rintro e we0 ⟨rfl, hbe0⟩
    have HBe0 : Below w3.heap.size w3 we0 := HB6.trans (hbe0.mono HB6.size)
    have H4e0 : Below w4.heap.size w4 we0 := H46.trans (hbe0.mono H46.size)
    have hMe0_0 := hM6_0.next hbe0
    have oXe0_1 := oX6_1.below hbe0
    have hQe0 := (hQ6.below hbe0).mono (Nat.le_refl _) hbe0.size
    have xe0 := (hbe0.cell (p := ⟨w4.heap.size, 0, none⟩) (cell_lt x6)).trans x6
    clear hM6_0 oX6_1 hQ6 x6
    have c7 := (HBe0.cell (p := ⟨w.heap.size, 0, none⟩) (by show w.heap.size < _; omega)).trans c3
    have hP7 := (hP3.below HBe0).mono (Nat.le_refl _) HBe0.size
    have HT := fun (W : World) (hW : Below we0.heap.size we0 W) => Lib.hid (toProgram l a cap W ((hP7.below hW).mono (Nat.le_refl _) hW.size) hsz)
    go_wp2_with fail
    have h7s := H4e0.size
    have l1 : w.heap.size < we0.heap.size := by omega
    have l2 : w4.heap.size < we0.heap.size := by have := hb6.size; have := H46.size; first | omega | (have := cell_lt xe0; omega)
    go_region_held3 (fun w' => w'.cell? ⟨w.heap.size, 0, none⟩ = some (.slice a l.length cap) ∧ w'.cell? ⟨w4.heap.size, 0, none⟩ = some (.slice (some ⟨g4, 0, none⟩) l.length l.length))
      (first
        | exact ⟨c7, xe0⟩
        | exact ⟨(hb9.cell (p := ⟨w.heap.size, 0, none⟩) l1).trans c7, (hb9.cell (p := ⟨w4.heap.size, 0, none⟩) l2).trans xe0⟩
        | exact ⟨(hb8.cell (p := ⟨w.heap.size, 0, none⟩) l1).trans c7, (hb8.cell (p := ⟨w4.heap.size, 0, none⟩) l2).trans xe0⟩
        | go_keep)
      (first
        | (go_at_call 12; refine (HT _ (below_drew (Below.refl _ _))).out.mono ?_; rintro e w8 ⟨g8, rfl, hQ8, hb8'⟩; have hb8 : Below we0.heap.size we0 w8 := ⟨hb8'.os, hb8'.tape, hb8'.output, hb8'.size, hb8'.block⟩)
        | (go_at_call 16; refine (eqProgram l _ _ _ _ _ ((hQe0.below hb8).mono (Nat.le_refl _) hb8.size) (hQ8.mono (Nat.zero_le _) (Nat.le_refl _)) hlm).mono ?_; rintro e w9 ⟨rfl, hb9'⟩; have hb9 : Below we0.heap.size we0 w9 := hb8.trans (hb9'.mono hb8.size)))
    all_goals
      have hz9 := hb9.size
      have HB9 : Below w3.heap.size w3 w9 := HBe0.trans (hb9.mono HBe0.size)
      have H49 : Below w4.heap.size w4 w9 := H4e0.trans (hb9.mono H4e0.size)
      have hM9_0 := hMe0_0.next hb9
      have oX9_1 := oXe0_1.below hb9
      have x9 := (hb9.cell (p := ⟨w4.heap.size, 0, none⟩) (cell_lt xe0)).trans xe0
      clear hMe0_0 oXe0_1 xe0
      clear HT hQe0 hQ8 hP7 c7 hb8' hb9' c0 hP0 hP
      go_wp2_with fail
      refine (toInt64S aa1 ca1 x1 _ (hA3_1.below HB9 (Nat.le_refl _)) hal1).mono ?_; rintro e wp1 ⟨gp1, cp1, rfl, op1, hbp1⟩
      have HBp1 : Below w3.heap.size w3 wp1 := HB9.trans (hbp1.mono HB9.size)
      have H4p1 : Below w4.heap.size w4 wp1 := H49.trans (hbp1.mono H49.size)
      have hMp1_0 := hM9_0.next hbp1
      have oXp1_1 := oX9_1.below hbp1
      have xp1 := (hbp1.cell (p := ⟨w4.heap.size, 0, none⟩) (cell_lt x9)).trans x9
      clear hM9_0 oX9_1 x9
      go_wp2_with fail
      refine (eqInt64S _ _ _ _ x1 _ oXp1_1.at op1.at (by omega)).mono ?_; rintro e wq1 ⟨rfl, hbq1⟩
      have HBq1 : Below w3.heap.size w3 wq1 := HBp1.trans (hbq1.mono HBp1.size)
      have H4q1 : Below w4.heap.size w4 wq1 := H4p1.trans (hbq1.mono H4p1.size)
      have hMq1_0 := hMp1_0.next hbq1
      have oXq1_1 := oXp1_1.below hbq1
      have xq1 := (hbq1.cell (p := ⟨w4.heap.size, 0, none⟩) (cell_lt xp1)).trans xp1
      clear hMp1_0 oXp1_1 xp1
      clear op1
      have zz := H4q1.size
      have cz := (HBq1.cell (p := ⟨w.heap.size, 0, none⟩) (by show w.heap.size < _; omega)).trans c3
      have hM0 : Mp w3.heap.size w4.heap.size g4 w4 wq1 := Mp.of_below H4q1 (Nat.le_refl _) hgb.2
      have hSz : Spt wq1 w3.heap.size w4.heap.size l g4 := by
        obtain ⟨h1, h2, h3⟩ := hS4
        refine ⟨h1, fun o => (hM0.frz g4 o (by omega)).trans (h2 o), fun i hi => ?_⟩
        obtain ⟨q0, b', cap', q1, q2, q3, q4⟩ := h3 i hi
        exact ⟨q0, b', cap', hM0.strs _ q1, hM0.ints _ q2, hM0.outs _ _ q3, hM0.trees q4⟩
      have HMk := Lib.hid (markProgram w3.heap.size w4.heap.size l g4 l.length 1 wq1 hSz zz hsz (by omega))
      clear hS4 hSz hM0
      go_wp2_with fail
      refine (HMk.out).mono ?_; rintro e w10 ⟨x, rfl, hxm, hMpp⟩
      have HO := hMpp.out
      have z10 := HO.size
      have HB10 : Below w3.heap.size w3 w10 := HBq1.trans (HO.belowG HBq1.size)
      have c10 := (HB10.cell (p := ⟨w.heap.size, 0, none⟩) (by show w.heap.size < _; omega)).trans c3
      have hM10_0 := hMq1_0.keep (S := fun b => w3.heap.size ≤ b ∧ b < w4.heap.size) ⟨HO.os, HO.tape, HO.output, HO.size, HO.block⟩ (fun b hb => by omega)
      have oX10_1 := oXq1_1.outAtG HO (by omega)
      clear HMk hMpp cz xq1 hMq1_0 oXq1_1
      go_wp2_with fail
      refine (markAt _ _ _ x1 (x) ((x : Int)) _ (by omega) oX10_1 (by omega) (by omega)).mono ?_; rintro e wm1 ⟨rfl, hXm1, hgm1⟩
      have HBm1 := HB10.grown hgm1 HB10.size (fun g hg => Nat.le_trans (by omega) (oX10_1.lt g hg).1)
      have hMm1_0 := hM10_0.keep (S := fun b => blk (some ⟨gx1, 0, none⟩) x1 = some b) ⟨hgm1.os, hgm1.tape, hgm1.output, hgm1.size, fun i hi hn => hgm1.block i hi (fun e => hn e.symm)⟩ (fun b hb => by have := HXU1.out b hb; omega)
      have cm1 := (HBm1.cell (p := ⟨w.heap.size, 0, none⟩) (by show w.heap.size < _; omega)).trans c3
      clear hXm1 hgm1 c10 oX10_1 hM10_0
      have hx0 : ¬ (x : Int) + (x1.length : Int) < 0 := by omega
      clear HXU1
      go_wp2_with fail
      refine (eqMat a6_0 aw0 c6_0 cw0 LS0 _ hMm1_0.mat (HMW0.below HBm1 (Nat.le_refl _)) hlLS0).mono ?_; rintro e wf0 ⟨rfl, hbf0⟩
      have HBf0 : Below w3.heap.size w3 wf0 := HBm1.trans (hbf0.mono HBm1.size)
      have hMf0_0 := hMm1_0.next hbf0
      clear hMm1_0
      have cf := (HBf0.cell (p := ⟨w.heap.size, 0, none⟩) (by show w.heap.size < _; omega)).trans c3
      go_wp2_with fail
      refine (markMqA hMf0_0 (1) ((1 : Int)) (by omega) hlLS0 (by omega)).mono ?_; rintro e wg0 ⟨rfl, hMg0_0, hkg0⟩
      have HBg0 : Below w3.heap.size w3 wg0 := HBf0.trans (b := wf0) ⟨hkg0.os, hkg0.tape, hkg0.output, hkg0.size, fun q hq => hkg0.block q (Nat.lt_of_lt_of_le hq HBf0.size) (by omega)⟩
      clear hkg0 hMf0_0
      have cg := (HBg0.cell (p := ⟨w.heap.size, 0, none⟩) (by show w.heap.size < _; omega)).trans c3
      have hq0 : ¬ (1 : Int) + (lenK LS0 LS0.length : Int) < 0 := by omega
      have htt : (((1 : Int) + (lenK LS0 LS0.length : Int)) != ((1 : Int) + (lenK LS0 LS0.length : Int))) = false := by simp
      have hte : (((1 : Int) + (lenK LS0 LS0.length : Int)) == ((1 : Int) + (lenK LS0 LS0.length : Int))) = true := by simp
      clear cf
      go_wp2_with fail
      refine (heldMat a6_0 LS0 (1) ((1 : Int)) c6_0 _ (by omega) hMg0_0.mat hlLS0 (by omega)).mono ?_; rintro e w' ⟨rfl, rfl⟩
      have hP14 := (hP3.below HBg0).mono (Nat.le_refl _) HBg0.size
      go_wp2_with fail
      refine (toProgram l a cap _ hP14 hsz).mono ?_; rintro e w15 ⟨g15, rfl, hQ15, hb15⟩
      have HB15 : Below w3.heap.size w3 w15 := HBg0.trans (hb15.mono HBg0.size)
      have hQh := hQ15.mono (Nat.zero_le _) (Nat.le_refl _)
      have hM15_0 := hMg0_0.next hb15
      clear cg hP14 hQ15 hMg0_0
      go_wp2_with fail
      refine (toInt64S aa1 ca1 x1 _ (hA3_1.below HB15 (Nat.le_refl _)) hal1).mono ?_; rintro e ws1 ⟨gs1, cs1, rfl, os1, hbs1⟩
      have HBs1 : Below w3.heap.size w3 ws1 := HB15.trans (hbs1.mono HB15.size)
      have hMs1_0 := hM15_0.next hbs1
      have hQs1 := (hQh.below hbs1).mono (Nat.le_refl _) hbs1.size
      have has1_1 := os1.at
      have hs1_1 := os1.cap_le
      have hs2_1 := os1.cap2G
      clear os1 hQh hM15_0
      have HI17 := HIT _ cs1 _ _ hQs1 has1_1 hs1_1 hs2_1
      clear HIT hQs1
      go_wp2_with fail
      refine HI17.out.mono ?_; rintro e w18 ⟨a8_0, c8_0, rfl, hN_0, hb18⟩
      have HB18 : Below w3.heap.size w3 w18 := HBs1.trans (hb18.mono HBs1.size)
      have hM18_0 := hMs1_0.next hb18
      clear HI17 hMs1_0
      go_wp2_with fail
      refine (eqMat a8_0 aw0 c8_0 cw0 LS0 _ hN_0.mat (HMW0.below HB18 (Nat.le_refl _)) hlLS0).mono ?_; rintro e wh0 ⟨rfl, hbh0⟩
      have HBh0 : Below w3.heap.size w3 wh0 := HB18.trans (hbh0.mono HB18.size)
      have hMh0_0 := hM18_0.next hbh0
      clear hM18_0
      go_wp2_with fail
      refine (heldMat a6_0 LS0 (1) ((1 : Int)) c6_0 _ (by omega) hMh0_0.mat hlLS0 (by omega)).mono ?_; rintro e w' ⟨rfl, rfl⟩
      go_wp2_with fail
      go_ret
      exact ⟨rfl, hbB.trans (HBh0.mono hbB.size)⟩
  · rw [szv_f hs] at HZ
    go_enter Tryz.func7, Tryz.ntmps7
    go_wp2_with fail
    rw [← hw0]
    clear hw0 hs
    refine (HZ.out).mono ?_; rintro e w1 ⟨rfl, hb1⟩
    go_wp2_with fail
    go_ret
    exact ⟨rfl, hb0.trans (hb1.mono (by omega))⟩

end Go.Proofs.YtoedccgiahegnaaGreat
