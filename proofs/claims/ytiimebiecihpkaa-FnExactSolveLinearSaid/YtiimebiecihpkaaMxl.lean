/- Elimination by the program. -/
import Derived.Test.YtiimebiecihpkaaMxj
import Derived.Test.YtiimebiecihpkaaMxk
import Derived.Test.YtiimebiecihpkaaMxi
namespace Go.Proofs.Ytiimebiecihpkaa
open Go.RowKit
set_option linter.unusedVariables false

/-- the rows at the end -/
def rowP : Nat → Nat → List (List Int) → List (List Int)
  | 0, _, ls => ls
  | f + 1, c, ls => match fnz ls c with
    | none => ls
    | some r => rowP f (c + 1) (clP (swp ls c r) c ls.length)
theorem rowP_some {f c r : Nat} {ls : List (List Int)} (h : fnz ls c = some r) : rowP (f + 1) c ls = rowP f (c + 1) (clP (swp ls c r) c ls.length) := by rw [rowP, h]
theorem rowP_none {f c : Nat} {ls : List (List Int)} (h : fnz ls c = none) : rowP (f + 1) c ls = ls := by rw [rowP, h]
theorem detP_some {f c r : Nat} {ls : List (List Int)} {d : Int} (h : fnz ls c = some r) : detP (f + 1) c ls d = detP f (c + 1) (clP (swp ls c r) c ls.length) (tms (sgn c r d) (((swp ls c r).getD c []).getD c 0)) := by rw [detP, h]
theorem detP_none {f c : Nat} {ls : List (List Int)} {d : Int} (h : fnz ls c = none) : detP (f + 1) c ls d = 0 := by rw [detP, h]
theorem Wd.swp {n wd : Nat} {ls : List (List Int)} (h : Wd n wd ls) {c r : Nat} (hc : c < n) (hr : r < n) : Wd n wd (swp ls c r) := by
  have hl := h.len
  refine ⟨h.n6, h.w9, by rw [swp_len]; exact hl, fun i hi => ?_, fun i hi => ?_⟩
  · rw [swp_at (by omega) (by omega)]; split
    · exact h.row r hr
    · split
      · exact h.row c hc
      · exact h.row i hi
  · rw [swp_at (by omega) (by omega)]; split
    · exact h.nums r hr
    · split
      · exact h.nums c hc
      · exact h.nums i hi
theorem Wd.clP {n wd : Nat} {ls : List (List Int)} (h : Wd n wd ls) {c k : Nat} (hc : c < n) (hk : k ≤ n) : Wd n wd (clP ls c k) := by
  have hl := h.len
  refine ⟨h.n6, h.w9, by rw [clP_len]; exact hl, fun i hi => ?_, fun i hi => ?_⟩
  · rw [clP_at ls c i (by omega) k (by omega)]; split
    · rw [dv_len]; exact h.row c hc
    · split
      · rw [tk_len]; exact h.row i hi
      · exact h.row i hi
  · rw [clP_at ls c i (by omega) k (by omega)]; split
    · exact tab_nms _ (fun _ => tms_bd _ _)
    · split
      · exact tab_nms _ (fun _ => mns_bd _ _)
      · exact h.nums i hi
theorem swp_ne {ls : List (List Int)} {c r : Nat} (h : c ≠ r) : (ls.set c (ls.getD r [])).set r (ls.getD c []) = swp ls c r := by
  unfold swp; rw [if_neg (fun e => h e.symm), List.set_comm _ _ h]

/-- the blocks that turn: the list's own, and its rows' -/
def Rgk (g n : Nat) (R : Nat → Nat) (b : Nat) : Prop := b = g ∨ Rbk n R b
theorem Kp.rgk {w w' : World} {L g n : Nat} {R : Nat → Nat} (h : Kp (Rgk g n R) w w') (hL : L ≤ w.heap.size) (hg : L ≤ g) (hR : ∀ i, i < n → L ≤ R i) : Below L w w' :=
  h.below hL (fun b hb => by rcases hb with e | ⟨i, h1, h2⟩; omega; have := hR i h1; omega)
set_option maxRecDepth 100000 in
set_option maxHeartbeats 12800000 in
theorem iReduce (L g n wd : Nat) (ls : List (List Int)) (R K : Nat → Nat) (w : World) (h : Mo w L g n n n ls R K) (hs : Wd n wd ls) :
    Calls Try.prog 150 #[.agg #[.slice (some ⟨g, 0, none⟩) n n, ofN]] w fun e w' => e = .returned (.int .i64 (detP n 0 ls 1)) ∧ (∃ R K, Mo w' L g n n n (rowP n 0 ls) R K) ∧ Below L w w' ∧ Kp (Rgk g n R) w w' := by
  have hn6 := hs.n6
  have HS0 := Lib.hid hs
  have HM00 := Lib.hid h
  have hgb := h.base
  have RB : Hid (∀ i, i < n → L ≤ R i ∧ R i < w.heap.size) := fun i hi => (h.row i hi).base
  clear h hs
  have HNC := fun (a : Int) (W : World) => Lib.hid (nConst a W)
  go_enter Try.func150, Try.ntmps150
  go_wp2_with fail
  obtain ⟨w1, hw1⟩ : ∃ w1, w1 = w.alloc (.cells #[.slice (some ⟨g, 0, none⟩) n n, ofN] 133) := ⟨_, rfl⟩
  have B1 : Below w.heap.size w w1 := by rw [hw1]; exact (Below.refl _ _).alloc (Nat.le_refl _) _
  have z1 : w1.heap.size = w.heap.size + 1 := by rw [hw1]; simp
  have m0 : w1.cell? ⟨w.heap.size, 0, none⟩ = some (.slice (some ⟨g, 0, none⟩) n n) := by rw [hw1]; simp [go_sem]
  have m1 : w1.cell? ⟨w.heap.size, 1, none⟩ = some ofN := by rw [hw1]; simp [go_sem]
  rw [← hw1]
  clear hw1
  refine (HNC _ _).out.mono ?_; rintro e w2 ⟨rfl, hb2⟩
  have hw2 := B1.trans (hb2.mono B1.size)
  have HM0 : Hid (∃ Rx Kx, Mo w2 L g n n n ls Rx Kx ∧ ∀ i, i < n → Rbk n R (Rx i)) := ⟨R, K, HM00.out.next hw2, fun i hi => ⟨i, hi, rfl⟩⟩
  have HC0 := Lib.hid (And.intro ((hb2.cell (p := ⟨w.heap.size, 0, none⟩) (by show w.heap.size < _; omega)).trans m0) ((hb2.cell (p := ⟨w.heap.size, 1, none⟩) (by show w.heap.size < _; omega)).trans m1))
  have m02 := HC0.out.1
  have hz2 := hb2.size
  have HB0 : Hid (Kp (Rgk g n R) w w2) := Kp.of_below hw2
  clear hb2 m0 m1 B1 HM00 hw2
  go_wp2_with fail
  clear m02
  go_loopw [3, 13] (fun v q wr => ∃ (c : Nat) (d : Int) (M : List (List Int)), c ≤ n ∧ v = .int .i64 d ∧ q = .int .i64 c ∧ 0 ≤ d ∧ d < 1000003 ∧ Hid (detP n 0 ls 1 = detP (n - c) c M d) ∧ Hid (rowP n 0 ls = rowP (n - c) c M) ∧ Hid (Wd n wd M) ∧ Hid (∃ Rx Kx, Mo wr L g n n n M Rx Kx ∧ ∀ i, i < n → Rbk n R (Rx i)) ∧ Hid (wr.cell? ⟨w.heap.size, 0, none⟩ = some (.slice (some ⟨g, 0, none⟩) n n) ∧ wr.cell? ⟨w.heap.size, 1, none⟩ = some ofN) ∧ Hid (Kp (Rgk g n R) w wr)) (fun _ q _ => n - (intOf q).toNat)
  case atStart => exact ⟨0, 1, ls, Nat.zero_le _, rfl, rfl, by omega, by omega, rfl, rfl, HS0.out, HM0.out, HC0.out, HB0.out⟩
  case round =>
    obtain ⟨c, d, M, hc, rfl, rfl, d0, d1, HD, HRW, HS, HM, HC, HB⟩ := hrel
    clear HM0 HC0 HB0 HS0
    by_cases hlt : c < n
    · have hii : (c : Int) < (n : Int) := by omega
      obtain ⟨R2, K2, hM, hR2⟩ := HM.out
      obtain ⟨p0, p1⟩ := id HC.out
      have hwz : w.heap.size < wr.heap.size := cell_lt p0
      have hne : ¬ n = c := by omega
      have hcle : (c : Int) ≤ (n : Int) := by omega
      obtain ⟨w3, hw3⟩ : ∃ w3, w3 = wr.alloc (.cells #[.int .i64 c] 3) := ⟨_, rfl⟩
      have B3 : Below wr.heap.size wr w3 := by rw [hw3]; exact (Below.refl _ _).alloc (Nat.le_refl _) _
      have z3 : w3.heap.size = wr.heap.size + 1 := by rw [hw3]; simp
      have p03 := (B3.cell (p := ⟨w.heap.size, 0, none⟩) hwz).trans p0
      have p13 := (B3.cell (p := ⟨w.heap.size, 1, none⟩) hwz).trans p1
      have k03 : w3.cell? ⟨wr.heap.size, 0, none⟩ = some (.int .i64 c) := by rw [hw3]; simp [go_sem]
      have HSK := Lib.hid (iSeek L g n c w.heap.size wr.heap.size M R2 K2 (n - c) w3 (hM.next B3) HS.out.len (fun i hi => by rw [HS.out.row i hi]; have := HS.out.w9; omega) hlt hn6 p13 k03)
      go_wp2_with fail
      rw [← hw3]
      refine HSK.out.mono ?_; rintro e w5 ⟨rfl, hb5⟩
      have hB5 := B3.trans (hb5.mono B3.size)
      have hz5 := hB5.size
      have hzz := hb5.size
      have HB5 := Lib.hid (HB.out.trans (Kp.of_below hB5))
      have HM5 := Lib.hid (hM.next hB5)
      have p05 := (hB5.cell (p := ⟨w.heap.size, 0, none⟩) hwz).trans p0
      have p15 := (hB5.cell (p := ⟨w.heap.size, 1, none⟩) hwz).trans p1
      have k05 := (hb5.cell (p := ⟨wr.heap.size, 0, none⟩) (show wr.heap.size < w3.heap.size by omega)).trans k03
      have HR2 := Lib.hid hR2
      clear hw3 HSK hb5 hB5 p03 p13 k03 p0 p1 hM hR2 HM B3 hne hcle
      cases hf : fnz M c with
      | none =>
        have HSE := Lib.hid (seek_none hf)
        rw [HSE.out]
        have HE1 : Hid (detP n 0 ls 1 = 0) := by show _ = _; rw [HD.out, show n - c = (n - (c + 1)) + 1 by omega, detP_none hf]
        have HE2 : Hid (rowP n 0 ls = M) := by show _ = _; rw [HRW.out, show n - c = (n - (c + 1)) + 1 by omega, rowP_none hf]
        clear hf HD HRW HSE HC
        go_wp2_with fail
        refine (HNC _ _).out.mono ?_; rintro e w6 ⟨rfl, hb6⟩
        go_wp2_with fail
        go_ret
        exact ⟨ret_int HE1.out.symm, ⟨R2, K2, by rw [HE2.out]; exact HM5.out.next hb6⟩, (HB5.out.trans (Kp.of_below hb6)).rgk (by omega) (by omega) (fun i hi => (RB.out i hi).1), HB5.out.trans (Kp.of_below hb6)⟩
      | some r =>
        have hbd := fnz_bd (by have := HS.out.len; omega) hf
        rw [HS.out.len] at hbd
        have hcr := hbd.1
        have hrn := hbd.2.1
        obtain ⟨bh, hbh⟩ : ∃ bh : Nat, bh = r - c := ⟨_, rfl⟩
        have HSE : Hid (seekR M c = (bh : Int)) := by show _ = _; rw [seek_some hf, hbh]
        rw [HSE.out]
        have HDS0 : Hid (detP n 0 ls 1 = detP (n - (c + 1)) (c + 1) (clP (swp M c r) c n) (tms (sgn c r d) (((swp M c r).getD c []).getD c 0))) := by show _ = _; rw [HD.out, show n - c = (n - (c + 1)) + 1 by omega, detP_some hf, HS.out.len]
        have HRS0 : Hid (rowP n 0 ls = rowP (n - (c + 1)) (c + 1) (clP (swp M c r) c n)) := by show _ = _; rw [HRW.out, show n - c = (n - (c + 1)) + 1 by omega, rowP_some hf, HS.out.len]
        have HS30 := Lib.hid (HS.out.swp hlt hrn)
        clear hf HD HRW HSE hbd HC
        by_cases hb0 : 0 < bh
        · have hbi : (0 : Int) < (bh : Int) := by omega
          have hbn : ¬ ((bh : Int) < 0) := by omega
          have e1 : IntKind.i64.wrap ((c : Int) + (bh : Int)) = (r : Int) := by rw [IntWalk.i64_in _ (by omega)]; omega
          have HSW := Lib.hid (iSwap L g n c r M R2 K2 w5 HM5.out HS.out.len hlt hrn (by omega) hn6)
          have HSg : Hid (sgn c r d = mns 0 d) := by show _ = _; unfold sgn; rw [if_neg (by omega)]
          have hcne : c ≠ r := by omega
          rw [swp_ne hcne] at HSW
          rw [HSg.out] at HDS0
          have HNG := fun (W : World) => Lib.hid (nNeg d (by omega) W)
          have hdb := mns_bd 0 d
          generalize mns 0 d = dn at *
          obtain ⟨M2, hM2⟩ : ∃ M2, M2 = swp M c r := ⟨_, rfl⟩
          rw [← hM2] at HSW HDS0 HRS0 HS30
          have HBH := Lib.hid hbh
          clear hM2 hbh hb0 HSg
          go_wp2_with fail
          refine HSW.out.mono ?_; rintro e w6 ⟨rfl, ⟨R3, K3, hm6, hr6⟩, hk6⟩
          have hgl : g < w.heap.size := hgb.2
          have p06 := hk6.cell p05 (show ¬ w.heap.size = g by omega)
          have p16 := hk6.cell p15 (show ¬ w.heap.size = g by omega)
          have k06 := hk6.cell k05 (show ¬ wr.heap.size = g by omega)
          have hz6 := hk6.size
          clear HSW
          go_wp2_with fail
          refine (HNG _).out.mono ?_; rintro e w7 ⟨rfl, hb7⟩
          have hz7 := hb7.size
          have HM3 := Lib.hid (hm6.next hb7)
          have HR3 : Hid (∀ i, i < n → Rbk n R (R3 i)) := fun i hi => by obtain ⟨q, h1, h2⟩ := hr6 i hi; rw [h2]; exact HR2.out q h1
          have HS3 := HS30
          have HDS := HDS0
          have HRS := HRS0
          have p0W := (hb7.cell (p := ⟨w.heap.size, 0, none⟩) (show w.heap.size < w6.heap.size by omega)).trans p06
          have p1W := (hb7.cell (p := ⟨w.heap.size, 1, none⟩) (show w.heap.size < w6.heap.size by omega)).trans p16
          have kW := (hb7.cell (p := ⟨wr.heap.size, 0, none⟩) (show wr.heap.size < w6.heap.size by omega)).trans k06
          have HBW := Lib.hid ((HB5.out.trans (hk6.mono (fun b e => .inl e))).trans (Kp.of_below hb7))
          clear HNG hb7 hm6 hr6 hk6 p06 p16 k06 p05 p15 k05 HM5 HB5 HB HS30 HDS0 HRS0 HS
          have hkw : wr.heap.size < w7.heap.size := by omega
          obtain ⟨y0, y1⟩ : w7.cell? ⟨g, c, none⟩ = some (.slice (some ⟨R3 c, 0, none⟩) wd (K3 c)) ∧ w7.cell? ⟨R3 c, c, none⟩ = some (.int .i64 ((M2.getD c []).getD c 0)) := by
            have t0 := HM3.out.cell (Nat.le_refl _) c hlt
            rw [HS3.out.row c hlt] at t0
            exact ⟨t0, (HM3.out.row c hlt).cellAt c (by rw [HS3.out.row c hlt]; have := HS3.out.w9; omega)⟩
          have hpb := (HS3.out.nums c hlt).at c
          have hcw : (c : Int) < (wd : Int) := by have := HS3.out.w9; omega
          obtain ⟨pv, hpv⟩ : ∃ pv, pv = (M2.getD c []).getD c 0 := ⟨_, rfl⟩
          rw [← hpv] at y1 hpb HDS
          clear hpv
          have hgw : g < w7.heap.size := HM3.out.base.2
          have hRw : R3 c < w7.heap.size := (HM3.out.row c hlt).base.2
          have hBw : w.heap.size < w7.heap.size := by omega
          have HTM := fun (W : World) => Lib.hid (nTimes dn pv (by omega) hpb W)
          have htb := tms_bd dn pv
          generalize tms dn pv = dt at *
          have HP5 : Hid (∀ wx, Below w7.heap.size w7 wx → wx.cell? ⟨w.heap.size, 0, none⟩ = some (.slice (some ⟨g, 0, none⟩) n n) ∧ wx.cell? ⟨w.heap.size, 1, none⟩ = some ofN ∧ wx.cell? ⟨wr.heap.size, 0, none⟩ = some (.int .i64 c) ∧ wx.cell? ⟨g, c, none⟩ = some (.slice (some ⟨R3 c, 0, none⟩) wd (K3 c)) ∧ wx.cell? ⟨R3 c, c, none⟩ = some (.int .i64 pv)) := fun wx hbb =>
            ⟨(hbb.cell (p := ⟨w.heap.size, 0, none⟩) hBw).trans p0W, (hbb.cell (p := ⟨w.heap.size, 1, none⟩) hBw).trans p1W, (hbb.cell (p := ⟨wr.heap.size, 0, none⟩) hkw).trans kW, (hbb.cell (p := ⟨g, c, none⟩) hgw).trans y0, (hbb.cell (p := ⟨R3 c, c, none⟩) hRw).trans y1⟩
          have hnA := timAhead
          have hnM := timMeth
          go_wp2_with fail
          go_region_held3 (fun w' => w'.cell? ⟨w.heap.size, 0, none⟩ = some (.slice (some ⟨g, 0, none⟩) n n) ∧ w'.cell? ⟨w.heap.size, 1, none⟩ = some ofN ∧ w'.cell? ⟨wr.heap.size, 0, none⟩ = some (.int .i64 c) ∧ w'.cell? ⟨g, c, none⟩ = some (.slice (some ⟨R3 c, 0, none⟩) wd (K3 c)) ∧ w'.cell? ⟨R3 c, c, none⟩ = some (.int .i64 pv))
            (first
              | exact ⟨p08, p18, k08, y08, y18⟩
              | exact ⟨p0W, p1W, kW, y0, y1⟩
              | go_keep)
            ((go_at_call 248; refine (HTM _).out.mono ?_; rintro e w8 ⟨rfl, hb8⟩; have hb8' : Below w7.heap.size w7 w8 := ⟨hb8.os, hb8.tape, hb8.output, hb8.size, hb8.block⟩; obtain ⟨p08, p18, k08, y08, y18⟩ := HP5.out w8 hb8'))
          have HCL := Lib.hid (iClear L g n wd c M2 R3 K3 w8 (HM3.out.next hb8') HS3.out hlt)
          have hz8 := hb8'.size
          have HBW8 := Lib.hid (HBW.out.trans (Kp.of_below hb8'))
          have HLL3 : Hid (M2.length = n) := HS3.out.len
          clear HP5 HTM hb8 y0 y1 y08 y18 p0W p1W kW hnA hnM
          go_wp2_with fail
          refine HCL.out.mono ?_; rintro e w9 ⟨rfl, hm9, hk9⟩
          have hnb : ∀ b, w.heap.size ≤ b → ¬ Rbk n R3 b := fun b hb ⟨i, h1, h2⟩ => by obtain ⟨q, h3, h4⟩ := HR3.out i h1; have := RB.out q h3; omega
          have HC9 := Lib.hid (And.intro (hk9.cell p08 (hnb _ (Nat.le_refl _))) (hk9.cell p18 (hnb _ (Nat.le_refl _))))
          have HB9 := Lib.hid (HBW8.out.trans (hk9.mono (fun b ⟨i, h1, h2⟩ => .inr (by rw [h2]; exact HR3.out i h1))))
          have HM9 : Hid (∃ Rx Kx, Mo w9 L g n n n (clP M2 c n) Rx Kx ∧ ∀ i, i < n → Rbk n R (Rx i)) := ⟨R3, K3, hm9, HR3.out⟩
          have HS9 := Lib.hid (HS3.out.clP hlt (Nat.le_refl n))
          clear HCL hm9 hk9 hnb HBW8 p08 p18 k08
          go_wp2_with fail
          go_roundw
          case rel => exact ⟨c + 1, dt, clP M2 c n, by omega, rfl, by go_num, htb.1, htb.2, HDS.out, HRS.out, HS9.out, HM9.out, HC9.out, HB9.out⟩
          case measure => simp [intOf]; omega
        · have hbi : ¬ (0 : Int) < (bh : Int) := by omega
          have hbn : ¬ ((bh : Int) < 0) := by omega
          have hrc : r = c := by omega
          have HSg : Hid (sgn c r d = d) := by show _ = _; unfold sgn; rw [if_pos hrc]
          have esw : swp M c r = M := by unfold swp; rw [if_pos hrc]
          rw [HSg.out, esw] at HDS0
          rw [esw] at HRS0
          obtain ⟨M2, hM2⟩ : ∃ M2, M2 = M := ⟨_, rfl⟩
          rw [← hM2] at HDS0 HRS0 HS HM5
          obtain ⟨R3, hR3⟩ : ∃ R3, R3 = R2 := ⟨_, rfl⟩
          obtain ⟨K3, hK3⟩ : ∃ K3, K3 = K2 := ⟨_, rfl⟩
          rw [← hR3, ← hK3] at HM5
          rw [← hR3] at HR2
          have HR3 := HR2
          have HM3 := HM5
          have HS3 := HS
          have HDS := HDS0
          have HRS := HRS0
          have p0W := p05
          have p1W := p15
          have kW := k05
          have HBW := HB5
          have HBH := Lib.hid hbh
          clear hM2 hR3 hK3 hrc esw HSg p05 p15 k05 HM5 HB5 HB HS30 HDS0 HRS0 HS HR2 hbh hb0
          have hkw : wr.heap.size < w5.heap.size := by omega
          obtain ⟨y0, y1⟩ : w5.cell? ⟨g, c, none⟩ = some (.slice (some ⟨R3 c, 0, none⟩) wd (K3 c)) ∧ w5.cell? ⟨R3 c, c, none⟩ = some (.int .i64 ((M2.getD c []).getD c 0)) := by
            have t0 := HM3.out.cell (Nat.le_refl _) c hlt
            rw [HS3.out.row c hlt] at t0
            exact ⟨t0, (HM3.out.row c hlt).cellAt c (by rw [HS3.out.row c hlt]; have := HS3.out.w9; omega)⟩
          have hpb := (HS3.out.nums c hlt).at c
          have hcw : (c : Int) < (wd : Int) := by have := HS3.out.w9; omega
          obtain ⟨pv, hpv⟩ : ∃ pv, pv = (M2.getD c []).getD c 0 := ⟨_, rfl⟩
          rw [← hpv] at y1 hpb HDS
          clear hpv
          have hgw : g < w5.heap.size := HM3.out.base.2
          have hRw : R3 c < w5.heap.size := (HM3.out.row c hlt).base.2
          have hBw : w.heap.size < w5.heap.size := by omega
          have HTM := fun (W : World) => Lib.hid (nTimes d pv (by omega) hpb W)
          have htb := tms_bd d pv
          generalize tms d pv = dt at *
          have HP5 : Hid (∀ wx, Below w5.heap.size w5 wx → wx.cell? ⟨w.heap.size, 0, none⟩ = some (.slice (some ⟨g, 0, none⟩) n n) ∧ wx.cell? ⟨w.heap.size, 1, none⟩ = some ofN ∧ wx.cell? ⟨wr.heap.size, 0, none⟩ = some (.int .i64 c) ∧ wx.cell? ⟨g, c, none⟩ = some (.slice (some ⟨R3 c, 0, none⟩) wd (K3 c)) ∧ wx.cell? ⟨R3 c, c, none⟩ = some (.int .i64 pv)) := fun wx hbb =>
            ⟨(hbb.cell (p := ⟨w.heap.size, 0, none⟩) hBw).trans p0W, (hbb.cell (p := ⟨w.heap.size, 1, none⟩) hBw).trans p1W, (hbb.cell (p := ⟨wr.heap.size, 0, none⟩) hkw).trans kW, (hbb.cell (p := ⟨g, c, none⟩) hgw).trans y0, (hbb.cell (p := ⟨R3 c, c, none⟩) hRw).trans y1⟩
          have hnA := timAhead
          have hnM := timMeth
          go_wp2_with fail
          go_region_held3 (fun w' => w'.cell? ⟨w.heap.size, 0, none⟩ = some (.slice (some ⟨g, 0, none⟩) n n) ∧ w'.cell? ⟨w.heap.size, 1, none⟩ = some ofN ∧ w'.cell? ⟨wr.heap.size, 0, none⟩ = some (.int .i64 c) ∧ w'.cell? ⟨g, c, none⟩ = some (.slice (some ⟨R3 c, 0, none⟩) wd (K3 c)) ∧ w'.cell? ⟨R3 c, c, none⟩ = some (.int .i64 pv))
            (first
              | exact ⟨p08, p18, k08, y08, y18⟩
              | exact ⟨p0W, p1W, kW, y0, y1⟩
              | go_keep)
            ((go_at_call 248; refine (HTM _).out.mono ?_; rintro e w8 ⟨rfl, hb8⟩; have hb8' : Below w5.heap.size w5 w8 := ⟨hb8.os, hb8.tape, hb8.output, hb8.size, hb8.block⟩; obtain ⟨p08, p18, k08, y08, y18⟩ := HP5.out w8 hb8'))
          have HCL := Lib.hid (iClear L g n wd c M2 R3 K3 w8 (HM3.out.next hb8') HS3.out hlt)
          have hz8 := hb8'.size
          have HBW8 := Lib.hid (HBW.out.trans (Kp.of_below hb8'))
          have HLL3 : Hid (M2.length = n) := HS3.out.len
          clear HP5 HTM hb8 y0 y1 y08 y18 p0W p1W kW hnA hnM
          go_wp2_with fail
          refine HCL.out.mono ?_; rintro e w9 ⟨rfl, hm9, hk9⟩
          have hnb : ∀ b, w.heap.size ≤ b → ¬ Rbk n R3 b := fun b hb ⟨i, h1, h2⟩ => by obtain ⟨q, h3, h4⟩ := HR3.out i h1; have := RB.out q h3; omega
          have HC9 := Lib.hid (And.intro (hk9.cell p08 (hnb _ (Nat.le_refl _))) (hk9.cell p18 (hnb _ (Nat.le_refl _))))
          have HB9 := Lib.hid (HBW8.out.trans (hk9.mono (fun b ⟨i, h1, h2⟩ => .inr (by rw [h2]; exact HR3.out i h1))))
          have HM9 : Hid (∃ Rx Kx, Mo w9 L g n n n (clP M2 c n) Rx Kx ∧ ∀ i, i < n → Rbk n R (Rx i)) := ⟨R3, K3, hm9, HR3.out⟩
          have HS9 := Lib.hid (HS3.out.clP hlt (Nat.le_refl n))
          clear HCL hm9 hk9 hnb HBW8 p08 p18 k08
          go_wp2_with fail
          go_roundw
          case rel => exact ⟨c + 1, dt, clP M2 c n, by omega, rfl, by go_num, htb.1, htb.2, HDS.out, HRS.out, HS9.out, HM9.out, HC9.out, HB9.out⟩
          case measure => simp [intOf]; omega
    · have hii : ¬ (c : Int) < (n : Int) := by omega
      obtain rfl : c = n := by omega
      have HE1 : Hid (d = detP c 0 ls 1) := by show _ = _; rw [HD.out, Nat.sub_self]; rfl
      have HE2 : Hid (rowP c 0 ls = M) := by show _ = _; rw [HRW.out, Nat.sub_self]; rfl
      obtain ⟨R2, K2, hM, hR2⟩ := HM.out
      clear HD HRW HM HC
      go_wp2_with fail
      go_ret
      exact ⟨ret_int HE1.out, ⟨R2, K2, by rw [HE2.out]; exact hM⟩, HB.out.rgk (by omega) (by omega) (fun i hi => (RB.out i hi).1), HB.out⟩

end Go.Proofs.Ytiimebiecihpkaa
