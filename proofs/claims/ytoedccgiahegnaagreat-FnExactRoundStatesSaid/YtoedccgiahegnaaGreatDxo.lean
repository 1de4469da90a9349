/- The program's evaluation with pairs: operations. -/
import Derived.Deep.RegionHeld3
import Derived.StillTailTactics
import Derived.Test.YtoedccgiahegnaaGreatDx
namespace Go.Proofs.YtoedccgiahegnaaGreat
open Go.RowKit
set_option linter.unusedVariables false

namespace Pr
set_option maxRecDepth 100000 in
set_option maxHeartbeats 6400000 in
theorem iOperation {fs : List Fn} {ap : Option Addr} {capp bv B f : Nat} (hBv : B ≤ bv) (hV : PL fs ap capp bv B f) (fi : Nat) (k : Int) (ks : Fo) (a : Option Addr) (cap : Nat) (av : Option Addr) (cav : Nat) (vars : List (Int × Int)) (s : Nat) (w : World)
    (hf : 3000 < f + s) (hs : s ≤ 3000) (hfi : fi ≤ fs.length) (hE : EvAt w bv ap fs.length capp s) (hP : Pat w 0 B fs ap) (hL : Ls w bv av vars) (hN : Nums vars) (hvl : vars.length ≤ 412 + s) (hcv : vars.length ≤ cav) (hcv2 : cav ≤ 9223372036854775807)
    (hk9 : k ≠ 9) (kt : treeB fs (fi : Int) ks (vars.length : Int) k 0 = true) (kf : Fat w 0 B ks a) (kl : ks.len = 2) :
    Calls Tryz.prog 134 #[.pointer (some ⟨bv, 0, none⟩), .agg #[.int .i64 k, .slice a ks.len cap], .slice av vars.length cav] w (VRes bv ap fs.length capp w (bindL pA (lisE pA (evE pA fs f) ks vars s ks.len) fun l s => opE pA k l s)) := by
  obtain ⟨w1, hw1⟩ : ∃ w1, ((w.alloc (.cells #[.int .i64 k, .slice a ks.len cap] 172)).alloc (.cells #[.int .i64 0, .int .i64 0] 121)).alloc (.cells #[.int .i64 0, .int .i64 0] 121) = w1 := ⟨_, rfl⟩
  have b1 : Below w.heap.size w w1 := by rw [← hw1]; exact (((Below.refl _ _).alloc (Nat.le_refl _) _).alloc (by simp) _).alloc (by simp; omega) _
  have q1 : Kp (fun b => b = bv) w w1 := Kp.of_below b1
  have hbw := cell_lt hE.c0
  have hne : w.heap.size ≠ bv := by omega
  have hne2 : w.heap.size + 2 ≠ bv := by omega
  have hRb : w.heap.size + 1 ≠ bv := by omega
  have y0 : w1.cell? ⟨w.heap.size, 0, none⟩ = some (.int .i64 k) := by rw [← hw1]; simp [go_sem]
  have y1 : w1.cell? ⟨w.heap.size, 1, none⟩ = some (.slice a ks.len cap) := by rw [← hw1]; simp [go_sem]
  have PR : Hid (PB w1 (w.heap.size + 1)) := by
    show PB _ _
    rw [← hw1]
    exact ⟨by simp, ⟨0, by simp [go_sem]⟩, ⟨0, by simp [go_sem]⟩, by simp [go_sem], by simp [go_sem]⟩
  have m0 : w1.cell? ⟨w.heap.size + 1 + 1, 0, none⟩ = some (.int .i64 0) := by rw [← hw1]; simp [go_sem]
  have m1 : w1.cell? ⟨w.heap.size + 1 + 1, 1, none⟩ = some (.int .i64 0) := by rw [← hw1]; simp [go_sem]
  have z1 : Hid (w1.heap.size = w.heap.size + 1 + 1 + 1) := by show _ = _; rw [← hw1]; simp
  have HC := Lib.hid (hV fi k ks a cap av cav vars s w1 hf hs hfi hk9 kt (hE.next b1) (hP.keepE q1 hBv hbw) (kf.keepE q1 hBv hbw) (by omega) (hL.keep q1) hN hvl hcv hcv2)
  have HL := Lib.hid (lisE_len (A := pA) (E := evE pA fs f) (f := ks) (vars := vars) (s := s) ks.len)
  generalize lisE pA (evE pA fs f) ks vars s ks.len = r at HC HL
  have KL := Lib.hid kl
  clear hE hP hL kt kf kl
  go_enter Tryz.func134, Tryz.ntmps134
  go_wp2_with fail
  clear hw1
  refine HC.out.mono ?_; rintro e w2 ⟨q2, e2, ⟨hc, g, rfl, ho, hnm⟩ | ⟨hc, rfl⟩⟩
  rotate_left
  · have hbf : (r.c != 0) = true := by simp [hc]
    have HR : Hid ((bindL pA r fun l s => opE pA k l s) = ⟨(0, 0), r.s, r.c⟩) := by show _ = _; unfold bindL; rw [if_neg hc]; rfl
    clear HC HL
    replace m0 := q2.cell m0 hne2
    replace m1 := q2.cell m1 hne2
    obtain ⟨_, ⟨u0, r0⟩, ⟨u1, r1⟩, f0, f1⟩ := PR.out.keep q2 hRb
    go_wp2_with fail
    refine bodyPost_ret (v := .tuple #[.agg #[.int .i64 0, .int .i64 0], .int .i64 r.c]) (by simp [results, Tryz.results134, go_sem, r0, r1]) rfl ?_
    rw [HR.out]
    exact .mk (v := (0, 0)) (kp_pair (q1.trans q2) (by omega) _ _) (e2.pair hRb _ _) rfl (fun h => absurd h hc)
  have hln := (HL.out hc).trans KL.out
  have HR : Hid ((bindL pA r fun l s => opE pA k l s) = opE pA k r.l r.s) := by show _ = _; unfold bindL; rw [if_pos hc]
  have qq := q1.trans q2
  replace y0 := q2.cell y0 hne
  replace m0 := q2.cell m0 hne2
  replace m1 := q2.cell m1 hne2
  have P2 := PR.out.keep q2 hRb
  have g0 : w2.cell? ⟨g, 0, none⟩ = some (.int .i64 (r.l.getD 0 (0, 0)).1) := ho.cell0 0 (by omega)
  have g1 : w2.cell? ⟨g, 1, none⟩ = some (.int .i64 (r.l.getD 0 (0, 0)).2) := ho.cell1 0 (by omega)
  have g2 : w2.cell? ⟨g, 2, none⟩ = some (.int .i64 (r.l.getD 1 (0, 0)).1) := ho.cell0 1 (by omega)
  have g3 : w2.cell? ⟨g, 3, none⟩ = some (.int .i64 (r.l.getD 1 (0, 0)).2) := ho.cell1 1 (by omega)
  have n0 := hnm.at 0
  have n1 := hnm.at 1
  have hgb := ho.base
  have HO : Hid (opE pA k r.l r.s = if k = 3 then ⟨pA.add (r.l.getD 0 (0, 0)) (r.l.getD 1 (0, 0)), r.s, 0⟩ else if k = 4 then ⟨pA.sub (r.l.getD 0 (0, 0)) (r.l.getD 1 (0, 0)), r.s, 0⟩ else if k = 5 then ⟨pA.mul (r.l.getD 0 (0, 0)) (r.l.getD 1 (0, 0)), r.s, 0⟩ else if ((r.l.getD 1 (0, 0)).1 == 0) = true then ⟨(0, 0), r.s, 6⟩ else ⟨pA.div (r.l.getD 0 (0, 0)) (r.l.getD 1 (0, 0)), r.s, 0⟩) := rfl
  have h1n : 0 < r.l.length := by omega
  have h2n : 1 < r.l.length := by omega
  have h1l : (0 : Int) < (r.l.length : Int) := by omega
  have h2l : (1 : Int) < (r.l.length : Int) := by omega
  clear HC HL ho hnm q1 q2 b1 hln
  generalize r.l.getD 0 (0, 0) = x at *
  generalize r.l.getD 1 (0, 0) = y at *
  generalize opE pA k r.l r.s = R at HO HR
  generalize r.l.length = m at *
  have HS0 : Hid (w2.cell? ⟨g, 0, none⟩ = some (.int .i64 x.1) ∧ w2.cell? ⟨g, 1, none⟩ = some (.int .i64 x.2) ∧ w2.cell? ⟨g, 2, none⟩ = some (.int .i64 y.1) ∧ w2.cell? ⟨g, 3, none⟩ = some (.int .i64 y.2)) := ⟨g0, g1, g2, g3⟩
  go_wp2_with fail
  go_region_held3 (fun w' => w'.cell? ⟨g, 0, none⟩ = some (.int .i64 x.1) ∧ w'.cell? ⟨g, 1, none⟩ = some (.int .i64 x.2) ∧ w'.cell? ⟨g, 2, none⟩ = some (.int .i64 y.1) ∧ w'.cell? ⟨g, 3, none⟩ = some (.int .i64 y.2))
    (first
      | with_reducible exact HS0.out
      | go_keep)
    (fail)
  · clear HS0 g0 g1 g2 g3 h1n h2n h1l h2l hgb
    obtain ⟨w5, hw5⟩ : ∃ w5, ((w2.alloc (.cells #[.int .i64 x.1, .int .i64 x.2] 121)).alloc (.cells #[.int .i64 y.1, .int .i64 y.2] 121)).drew = w5 := ⟨_, rfl⟩
    have b5 : Below w2.heap.size w2 w5 := by rw [← hw5]; exact (((Below.refl _ _).alloc (Nat.le_refl _) _).alloc (by simp) _).drew
    have cx0 : w5.cell? ⟨w2.heap.size, 0, none⟩ = some (.int .i64 x.1) := by rw [← hw5]; simp [go_sem]
    have cx1 : w5.cell? ⟨w2.heap.size, 1, none⟩ = some (.int .i64 x.2) := by rw [← hw5]; simp [go_sem]
    have cy0 : w5.cell? ⟨w2.heap.size + 1, 0, none⟩ = some (.int .i64 y.1) := by rw [← hw5]; simp [go_sem]
    have cy1 : w5.cell? ⟨w2.heap.size + 1, 1, none⟩ = some (.int .i64 y.2) := by rw [← hw5]; simp [go_sem]
    rw [hw5]
    clear hw5
    have q5 := qq.more b5
    have e5 := e2.next b5
    have x0 := e5.c0
    have P5 := P2.next b5
    replace y0 := (b5.cell (p := ⟨w.heap.size, 0, none⟩) (cell_lt y0)).trans y0
    replace m0 := (b5.cell (p := ⟨w.heap.size + 1 + 1, 0, none⟩) (cell_lt m0)).trans m0
    replace m1 := (b5.cell (p := ⟨w.heap.size + 1 + 1, 1, none⟩) (cell_lt m1)).trans m1
    by_cases h3 : k = 3
    · subst h3
      have HR2 : Hid (R = ⟨pA.add x y, r.s, 0⟩) := by show _ = _; rw [HO.out]; rfl
      have nA1 := plsAhead
      have nA2 := plsMeth
      have HNG := fun W => Lib.hid (pPlus x.1 x.2 y.1 y.2 n0 n1 W)
      clear HO
      go_wp2_with fail
      go_still_tail 6, (by kernel_rfl)
      change wpList _ _ _ _ _ w5.drew
      go_wp2_with fail
      refine (HNG _).out.mono ?_; rintro e w3 ⟨rfl, b3'⟩
      have b3 := (Below.refl w5.heap.size w5).drew.trans b3'
      obtain ⟨hRl, ⟨u0, s0⟩, ⟨u1, s1⟩, f0, f1⟩ := P5.next b3
      all_goals go_wp2_with fail
      all_goals refine bodyPost_ret (v := .tuple #[.agg #[.int .i64 (pls x.1 y.1), .int .i64 (pls x.2 y.2)], .int .i64 0]) (by simp [results, Tryz.results134, go_sem, s0, s1]) rfl ?_
      all_goals rw [HR.out, HR2.out]
      all_goals exact .mk (v := ((pls x.1 y.1), (pls x.2 y.2))) (kp_pair (q5.more b3) (by omega) _ _) ((e5.next b3).pair hRb _ _) rfl (fun _ => ⟨rfl, pls_bd _ _, pls_bd _ _⟩)
    have d3 : (k == 3) = false := ne_beq h3
    by_cases h4 : k = 4
    · subst h4
      have HR2 : Hid (R = ⟨pA.sub x y, r.s, 0⟩) := by show _ = _; rw [HO.out]; rfl
      have nA1 := minAhead
      have nA2 := minMeth
      have HNG := fun W => Lib.hid (pMinus x.1 x.2 y.1 y.2 n0 n1 W)
      clear HO
      go_wp2_with fail
      go_still_tail 6, (by kernel_rfl)
      change wpList _ _ _ _ _ w5.drew
      go_wp2_with fail
      refine (HNG _).out.mono ?_; rintro e w3 ⟨rfl, b3'⟩
      have b3 := (Below.refl w5.heap.size w5).drew.trans b3'
      obtain ⟨hRl, ⟨u0, s0⟩, ⟨u1, s1⟩, f0, f1⟩ := P5.next b3
      all_goals go_wp2_with fail
      all_goals refine bodyPost_ret (v := .tuple #[.agg #[.int .i64 (mns x.1 y.1), .int .i64 (mns x.2 y.2)], .int .i64 0]) (by simp [results, Tryz.results134, go_sem, s0, s1]) rfl ?_
      all_goals rw [HR.out, HR2.out]
      all_goals exact .mk (v := ((mns x.1 y.1), (mns x.2 y.2))) (kp_pair (q5.more b3) (by omega) _ _) ((e5.next b3).pair hRb _ _) rfl (fun _ => ⟨rfl, mns_bd _ _, mns_bd _ _⟩)
    have d4 : (k == 4) = false := ne_beq h4
    by_cases h5 : k = 5
    · subst h5
      have HR2 : Hid (R = ⟨pA.mul x y, r.s, 0⟩) := by show _ = _; rw [HO.out]; rfl
      have nA1 := timAhead
      have nA2 := timMeth
      have HNG := fun W => Lib.hid (pTimes x.1 x.2 y.1 y.2 n0 n1 W)
      clear HO
      go_wp2_with fail
      go_still_tail 6, (by kernel_rfl)
      change wpList _ _ _ _ _ w5.drew
      go_wp2_with fail
      refine (HNG _).out.mono ?_; rintro e w3 ⟨rfl, b3'⟩
      have b3 := (Below.refl w5.heap.size w5).drew.trans b3'
      obtain ⟨hRl, ⟨u0, s0⟩, ⟨u1, s1⟩, f0, f1⟩ := P5.next b3
      all_goals go_wp2_with fail
      all_goals refine bodyPost_ret (v := .tuple #[.agg #[.int .i64 (tms x.1 y.1), .int .i64 (pls (tms x.2 y.1) (tms x.1 y.2))], .int .i64 0]) (by simp [results, Tryz.results134, go_sem, s0, s1]) rfl ?_
      all_goals rw [HR.out, HR2.out]
      all_goals exact .mk (v := ((tms x.1 y.1), (pls (tms x.2 y.1) (tms x.1 y.2)))) (kp_pair (q5.more b3) (by omega) _ _) ((e5.next b3).pair hRb _ _) rfl (fun _ => ⟨rfl, tms_bd _ _, pls_bd _ _⟩)
    have d5 : (k == 5) = false := ne_beq h5
    have HO2 : Hid (R = if (y.1 == 0) = true then ⟨(0, 0), r.s, 6⟩ else ⟨pA.div x y, r.s, 0⟩) := by show _ = _; rw [HO.out, if_neg h3, if_neg h4, if_neg h5]
    have nA1 := zerAhead
    have nA2 := zerMeth
    have HNG := fun W => Lib.hid (pZero y.1 y.2 W)
    clear HO
    by_cases hz : y.1 = 0
    · have hzb : (y.1 == 0) = true := by simp [hz]
      have HR2 : Hid (R = ⟨(0, 0), r.s, 6⟩) := by show _ = _; rw [HO2.out, if_pos hzb]
      rw [hzb] at HNG
      clear HO2 hz
      go_wp2_with fail
      go_still_tail 5, (by kernel_rfl)
      change wpList _ _ _ _ _ w5.drew
      go_wp2_with fail
      refine (HNG _).out.mono ?_; rintro e w3 ⟨rfl, b3'⟩
      have b3 := (Below.refl w5.heap.size w5).drew.trans b3'
      obtain ⟨hRl, ⟨u0, s0⟩, ⟨u1, s1⟩, f0, f1⟩ := P5.next b3
      have m03 := (b3.cell (p := ⟨w.heap.size + 1 + 1, 0, none⟩) (cell_lt m0)).trans m0
      have m13 := (b3.cell (p := ⟨w.heap.size + 1 + 1, 1, none⟩) (cell_lt m1)).trans m1
      all_goals go_wp2_with fail
      all_goals refine bodyPost_ret (v := .tuple #[.agg #[.int .i64 0, .int .i64 0], .int .i64 6]) (by simp [results, Tryz.results134, go_sem, s0, s1]) rfl ?_
      all_goals rw [HR.out, HR2.out]
      all_goals exact .mk (v := (0, 0)) (kp_pair (q5.more b3) (by omega) _ _) ((e5.next b3).pair hRb _ _) rfl (fun h => by cases h)
    · have hzb : (y.1 == 0) = false := by simp [hz]
      have HR2 : Hid (R = ⟨pA.div x y, r.s, 0⟩) := by show _ = _; rw [HO2.out, hzb]; rfl
      rw [hzb] at HNG
      clear HO2 hz
      go_wp2_with fail
      go_still_tail 5, (by kernel_rfl)
      change wpList _ _ _ _ _ w5.drew
      go_wp2_with fail
      refine (HNG _).out.mono ?_; rintro e w3 ⟨rfl, b3'⟩
      have b3 := (Below.refl w5.heap.size w5).drew.trans b3'
      all_goals
        have e3 := e5.next b3
        have q3 := q5.more b3
        have P3 := P5.next b3
        have x03 := e3.c0
        have cx03 := (b3.cell (p := ⟨w2.heap.size, 0, none⟩) (cell_lt cx0)).trans cx0
        have cx13 := (b3.cell (p := ⟨w2.heap.size, 1, none⟩) (cell_lt cx1)).trans cx1
        have cy03 := (b3.cell (p := ⟨w2.heap.size + 1, 0, none⟩) (cell_lt cy0)).trans cy0
        have cy13 := (b3.cell (p := ⟨w2.heap.size + 1, 1, none⟩) (cell_lt cy1)).trans cy1
        have nA3 := ovrAhead
        have nA4 := ovrMeth
        clear x0 cx0 cx1 cy0 cy1 y0 m0 m1 HNG
        have HNO := fun W => Lib.hid (pOver x.1 x.2 y.1 y.2 n0 n1 W)
        go_wp2_with fail
        go_still_tail 6, (by kernel_rfl)
        change wpList _ _ _ _ _ w3.drew
        go_wp2_with fail
        refine (HNO _).out.mono ?_; rintro e w4 ⟨rfl, b4'⟩
        have b4 := (Below.refl w3.heap.size w3).drew.trans b4'
        obtain ⟨hRl, ⟨u0, s0⟩, ⟨u1, s1⟩, f0, f1⟩ := P3.next b4
        all_goals go_wp2_with fail
        all_goals refine bodyPost_ret (v := .tuple #[.agg #[.int .i64 (tms x.1 (tms 1 (inv y.1))), .int .i64 (tms (mns x.2 (tms (tms x.1 (tms 1 (inv y.1))) y.2)) (tms 1 (inv y.1)))], .int .i64 0]) (by simp [results, Tryz.results134, go_sem, s0, s1]) rfl ?_
        all_goals rw [HR.out, HR2.out]
        all_goals exact .mk (v := ((tms x.1 (tms 1 (inv y.1))), (tms (mns x.2 (tms (tms x.1 (tms 1 (inv y.1))) y.2)) (tms 1 (inv y.1))))) (kp_pair (q3.more b4) (by omega) _ _) ((e3.next b4).pair hRb _ _) rfl (fun _ => ⟨rfl, tms_bd _ _, tms_bd _ _⟩)
  · clear HS0 g0 g1 g2 g3 h1n h2n h1l h2l hgb
    obtain ⟨w5, hw5⟩ : ∃ w5, ((w2.alloc (.cells #[.int .i64 y.1, .int .i64 y.2] 121)).alloc (.cells #[.int .i64 x.1, .int .i64 x.2] 121)).drew = w5 := ⟨_, rfl⟩
    have b5 : Below w2.heap.size w2 w5 := by rw [← hw5]; exact (((Below.refl _ _).alloc (Nat.le_refl _) _).alloc (by simp) _).drew
    have cx0 : w5.cell? ⟨w2.heap.size + 1, 0, none⟩ = some (.int .i64 x.1) := by rw [← hw5]; simp [go_sem]
    have cx1 : w5.cell? ⟨w2.heap.size + 1, 1, none⟩ = some (.int .i64 x.2) := by rw [← hw5]; simp [go_sem]
    have cy0 : w5.cell? ⟨w2.heap.size, 0, none⟩ = some (.int .i64 y.1) := by rw [← hw5]; simp [go_sem]
    have cy1 : w5.cell? ⟨w2.heap.size, 1, none⟩ = some (.int .i64 y.2) := by rw [← hw5]; simp [go_sem]
    rw [hw5]
    clear hw5
    have q5 := qq.more b5
    have e5 := e2.next b5
    have x0 := e5.c0
    have P5 := P2.next b5
    replace y0 := (b5.cell (p := ⟨w.heap.size, 0, none⟩) (cell_lt y0)).trans y0
    replace m0 := (b5.cell (p := ⟨w.heap.size + 1 + 1, 0, none⟩) (cell_lt m0)).trans m0
    replace m1 := (b5.cell (p := ⟨w.heap.size + 1 + 1, 1, none⟩) (cell_lt m1)).trans m1
    by_cases h3 : k = 3
    · subst h3
      have HR2 : Hid (R = ⟨pA.add x y, r.s, 0⟩) := by show _ = _; rw [HO.out]; rfl
      have nA1 := plsAhead
      have nA2 := plsMeth
      have HNG := fun W => Lib.hid (pPlus x.1 x.2 y.1 y.2 n0 n1 W)
      clear HO
      go_wp2_with fail
      go_still_tail 6, (by kernel_rfl)
      change wpList _ _ _ _ _ w5.drew
      go_wp2_with fail
      refine (HNG _).out.mono ?_; rintro e w3 ⟨rfl, b3'⟩
      have b3 := (Below.refl w5.heap.size w5).drew.trans b3'
      obtain ⟨hRl, ⟨u0, s0⟩, ⟨u1, s1⟩, f0, f1⟩ := P5.next b3
      all_goals go_wp2_with fail
      all_goals refine bodyPost_ret (v := .tuple #[.agg #[.int .i64 (pls x.1 y.1), .int .i64 (pls x.2 y.2)], .int .i64 0]) (by simp [results, Tryz.results134, go_sem, s0, s1]) rfl ?_
      all_goals rw [HR.out, HR2.out]
      all_goals exact .mk (v := ((pls x.1 y.1), (pls x.2 y.2))) (kp_pair (q5.more b3) (by omega) _ _) ((e5.next b3).pair hRb _ _) rfl (fun _ => ⟨rfl, pls_bd _ _, pls_bd _ _⟩)
    have d3 : (k == 3) = false := ne_beq h3
    by_cases h4 : k = 4
    · subst h4
      have HR2 : Hid (R = ⟨pA.sub x y, r.s, 0⟩) := by show _ = _; rw [HO.out]; rfl
      have nA1 := minAhead
      have nA2 := minMeth
      have HNG := fun W => Lib.hid (pMinus x.1 x.2 y.1 y.2 n0 n1 W)
      clear HO
      go_wp2_with fail
      go_still_tail 6, (by kernel_rfl)
      change wpList _ _ _ _ _ w5.drew
      go_wp2_with fail
      refine (HNG _).out.mono ?_; rintro e w3 ⟨rfl, b3'⟩
      have b3 := (Below.refl w5.heap.size w5).drew.trans b3'
      obtain ⟨hRl, ⟨u0, s0⟩, ⟨u1, s1⟩, f0, f1⟩ := P5.next b3
      all_goals go_wp2_with fail
      all_goals refine bodyPost_ret (v := .tuple #[.agg #[.int .i64 (mns x.1 y.1), .int .i64 (mns x.2 y.2)], .int .i64 0]) (by simp [results, Tryz.results134, go_sem, s0, s1]) rfl ?_
      all_goals rw [HR.out, HR2.out]
      all_goals exact .mk (v := ((mns x.1 y.1), (mns x.2 y.2))) (kp_pair (q5.more b3) (by omega) _ _) ((e5.next b3).pair hRb _ _) rfl (fun _ => ⟨rfl, mns_bd _ _, mns_bd _ _⟩)
    have d4 : (k == 4) = false := ne_beq h4
    by_cases h5 : k = 5
    · subst h5
      have HR2 : Hid (R = ⟨pA.mul x y, r.s, 0⟩) := by show _ = _; rw [HO.out]; rfl
      have nA1 := timAhead
      have nA2 := timMeth
      have HNG := fun W => Lib.hid (pTimes x.1 x.2 y.1 y.2 n0 n1 W)
      clear HO
      go_wp2_with fail
      go_still_tail 6, (by kernel_rfl)
      change wpList _ _ _ _ _ w5.drew
      go_wp2_with fail
      refine (HNG _).out.mono ?_; rintro e w3 ⟨rfl, b3'⟩
      have b3 := (Below.refl w5.heap.size w5).drew.trans b3'
      obtain ⟨hRl, ⟨u0, s0⟩, ⟨u1, s1⟩, f0, f1⟩ := P5.next b3
      all_goals go_wp2_with fail
      all_goals refine bodyPost_ret (v := .tuple #[.agg #[.int .i64 (tms x.1 y.1), .int .i64 (pls (tms x.2 y.1) (tms x.1 y.2))], .int .i64 0]) (by simp [results, Tryz.results134, go_sem, s0, s1]) rfl ?_
      all_goals rw [HR.out, HR2.out]
      all_goals exact .mk (v := ((tms x.1 y.1), (pls (tms x.2 y.1) (tms x.1 y.2)))) (kp_pair (q5.more b3) (by omega) _ _) ((e5.next b3).pair hRb _ _) rfl (fun _ => ⟨rfl, tms_bd _ _, pls_bd _ _⟩)
    have d5 : (k == 5) = false := ne_beq h5
    have HO2 : Hid (R = if (y.1 == 0) = true then ⟨(0, 0), r.s, 6⟩ else ⟨pA.div x y, r.s, 0⟩) := by show _ = _; rw [HO.out, if_neg h3, if_neg h4, if_neg h5]
    have nA1 := zerAhead
    have nA2 := zerMeth
    have HNG := fun W => Lib.hid (pZero y.1 y.2 W)
    clear HO
    by_cases hz : y.1 = 0
    · have hzb : (y.1 == 0) = true := by simp [hz]
      have HR2 : Hid (R = ⟨(0, 0), r.s, 6⟩) := by show _ = _; rw [HO2.out, if_pos hzb]
      rw [hzb] at HNG
      clear HO2 hz
      go_wp2_with fail
      go_still_tail 5, (by kernel_rfl)
      change wpList _ _ _ _ _ w5.drew
      go_wp2_with fail
      refine (HNG _).out.mono ?_; rintro e w3 ⟨rfl, b3'⟩
      have b3 := (Below.refl w5.heap.size w5).drew.trans b3'
      obtain ⟨hRl, ⟨u0, s0⟩, ⟨u1, s1⟩, f0, f1⟩ := P5.next b3
      have m03 := (b3.cell (p := ⟨w.heap.size + 1 + 1, 0, none⟩) (cell_lt m0)).trans m0
      have m13 := (b3.cell (p := ⟨w.heap.size + 1 + 1, 1, none⟩) (cell_lt m1)).trans m1
      all_goals go_wp2_with fail
      all_goals refine bodyPost_ret (v := .tuple #[.agg #[.int .i64 0, .int .i64 0], .int .i64 6]) (by simp [results, Tryz.results134, go_sem, s0, s1]) rfl ?_
      all_goals rw [HR.out, HR2.out]
      all_goals exact .mk (v := (0, 0)) (kp_pair (q5.more b3) (by omega) _ _) ((e5.next b3).pair hRb _ _) rfl (fun h => by cases h)
    · have hzb : (y.1 == 0) = false := by simp [hz]
      have HR2 : Hid (R = ⟨pA.div x y, r.s, 0⟩) := by show _ = _; rw [HO2.out, hzb]; rfl
      rw [hzb] at HNG
      clear HO2 hz
      go_wp2_with fail
      go_still_tail 5, (by kernel_rfl)
      change wpList _ _ _ _ _ w5.drew
      go_wp2_with fail
      refine (HNG _).out.mono ?_; rintro e w3 ⟨rfl, b3'⟩
      have b3 := (Below.refl w5.heap.size w5).drew.trans b3'
      all_goals
        have e3 := e5.next b3
        have q3 := q5.more b3
        have P3 := P5.next b3
        have x03 := e3.c0
        have cx03 := (b3.cell (p := ⟨w2.heap.size + 1, 0, none⟩) (cell_lt cx0)).trans cx0
        have cx13 := (b3.cell (p := ⟨w2.heap.size + 1, 1, none⟩) (cell_lt cx1)).trans cx1
        have cy03 := (b3.cell (p := ⟨w2.heap.size, 0, none⟩) (cell_lt cy0)).trans cy0
        have cy13 := (b3.cell (p := ⟨w2.heap.size, 1, none⟩) (cell_lt cy1)).trans cy1
        have nA3 := ovrAhead
        have nA4 := ovrMeth
        clear x0 cx0 cx1 cy0 cy1 y0 m0 m1 HNG
        have HNO := fun W => Lib.hid (pOver x.1 x.2 y.1 y.2 n0 n1 W)
        go_wp2_with fail
        go_still_tail 6, (by kernel_rfl)
        change wpList _ _ _ _ _ w3.drew
        go_wp2_with fail
        refine (HNO _).out.mono ?_; rintro e w4 ⟨rfl, b4'⟩
        have b4 := (Below.refl w3.heap.size w3).drew.trans b4'
        obtain ⟨hRl, ⟨u0, s0⟩, ⟨u1, s1⟩, f0, f1⟩ := P3.next b4
        all_goals go_wp2_with fail
        all_goals refine bodyPost_ret (v := .tuple #[.agg #[.int .i64 (tms x.1 (tms 1 (inv y.1))), .int .i64 (tms (mns x.2 (tms (tms x.1 (tms 1 (inv y.1))) y.2)) (tms 1 (inv y.1)))], .int .i64 0]) (by simp [results, Tryz.results134, go_sem, s0, s1]) rfl ?_
        all_goals rw [HR.out, HR2.out]
        all_goals exact .mk (v := ((tms x.1 (tms 1 (inv y.1))), (tms (mns x.2 (tms (tms x.1 (tms 1 (inv y.1))) y.2)) (tms 1 (inv y.1))))) (kp_pair (q3.more b4) (by omega) _ _) ((e3.next b4).pair hRb _ _) rfl (fun _ => ⟨rfl, tms_bd _ _, tms_bd _ _⟩)

end Pr

end Go.Proofs.YtoedccgiahegnaaGreat
