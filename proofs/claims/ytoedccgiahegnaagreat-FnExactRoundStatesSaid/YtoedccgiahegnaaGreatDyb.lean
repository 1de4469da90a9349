/- The program's evaluation with pairs: lets. -/
import Derived.Deep.RegionLawGrows
import Derived.Deep.RegionHeld3
import Derived.Deep.RegionWith
import Derived.Test.YtoedccgiahegnaaGreatDx
namespace Go.Proofs.YtoedccgiahegnaaGreat
open Go.RowKit
set_option linter.unusedVariables false

namespace Pr
set_option maxRecDepth 100000 in
theorem iClip (a : Option Addr) (n cap : Nat) (w : World) (hn : a = none → n = 0) (hc : n ≤ cap) (hc2 : cap ≤ 9223372036854775807) :
    Calls Tryz.prog 150 #[.slice a n cap] w fun e w' => e = .returned (.slice a n n) ∧ w = w' := by
  have h1 : (n : Int) ≤ (cap : Int) := by omega
  cases a with
  | none =>
    obtain rfl := hn rfl
    go_enter Tryz.func150, Tryz.ntmps150
    go_wp2_with fail
    go_ret
    exact ⟨rfl, rfl⟩
  | some p =>
    obtain ⟨b, o, s⟩ := p
    go_enter Tryz.func150, Tryz.ntmps150
    go_wp2_with fail
    go_ret
    exact ⟨rfl, rfl⟩

theorem cell_pair {w : World} {b b' o : Nat} {u v x : Value} (h : w.cell? ⟨b', o, none⟩ = some x) (hn : b' ≠ b) : ((w.setCell ⟨b, 0, none⟩ u).setCell ⟨b, 1, none⟩ v).cell? ⟨b', o, none⟩ = some x := by
  rw [World.cell?_setCell_other _ _ _ _ (by intro e; simp at e; try omega), World.cell?_setCell_other _ _ _ _ (by intro e; simp at e; try omega)]; exact h
set_option maxRecDepth 100000 in
set_option maxHeartbeats 6400000 in
theorem iBinding {fs : List Fn} {ap : Option Addr} {capp bv B f : Nat} (hBv : B ≤ bv) (hV : PV fs ap capp bv B f) (fi : Nat) (k0 n0 p0 c0 : Int) (kk0 : Fo) (a0 : Option Addr) (cap0 : Nat) (k1 n1 p1 c1 : Int) (kk1 : Fo) (a1 : Option Addr) (cap1 : Nat) (av : Option Addr) (cav : Nat) (vars : List (Int × Int)) (s : Nat) (w : World)
    (hf : 3000 < f + s) (hs : s ≤ 3000) (hfi : fi ≤ fs.length) (hE : EvAt w bv ap fs.length capp s) (hP : Pat w 0 B fs ap) (hL : Ls w bv av vars) (hN : Nums vars) (hvl1 : vars.length + 1 ≤ 412 + s) (hcv : vars.length ≤ cav) (hcv2 : cav ≤ 9223372036854775807)
    (kn0 : nodeB fs (vars.length : Int) (fi : Int) k0 n0 p0 c0 kk0.len = true) (kt0 : treeB fs (fi : Int) kk0 (vars.length : Int) k0 0 = true) (kf0 : Fat w 0 B kk0 a0) (kl0 : kk0.len ≤ maxLen)
    (kn1 : nodeB fs ((vars.length : Int) + 1) (fi : Int) k1 n1 p1 c1 kk1.len = true) (kt1 : treeB fs (fi : Int) kk1 ((vars.length : Int) + 1) k1 0 = true) (kf1 : Fat w 0 B kk1 a1) (kl1 : kk1.len ≤ maxLen) :
    Calls Tryz.prog 137 #[.pointer (some ⟨bv, 0, none⟩), .agg #[.int .i64 k0, .int .i64 n0, .int .i64 p0, .int .i64 c0, .slice a0 kk0.len cap0, .int .i64 k1, .int .i64 n1, .int .i64 p1, .int .i64 c1, .slice a1 kk1.len cap1], .slice av vars.length cav] w (VRes bv ap fs.length capp w (bindE (evE pA fs f k0 n0 p0 c0 kk0 vars s) fun v s => (evE pA fs f k1 n1 p1 c1 kk1 (vars ++ [v]) s))) := by
  obtain ⟨i0, hi, hz0, hz1, hz2⟩ := info_parts infoP
  obtain ⟨w1, hw1⟩ : ∃ w1, (w.alloc (.cells #[.int .i64 k0, .int .i64 n0, .int .i64 p0, .int .i64 c0, .slice a0 kk0.len cap0, .int .i64 k1, .int .i64 n1, .int .i64 p1, .int .i64 c1, .slice a1 kk1.len cap1] 181)).alloc (.cells #[.int .i64 0, .int .i64 0] 121) = w1 := ⟨_, rfl⟩
  have b1 : Below w.heap.size w w1 := by rw [← hw1]; exact ((Below.refl _ _).alloc (Nat.le_refl _) _).alloc (by simp) _
  have q1 : Kp (fun b => b = bv) w w1 := Kp.of_below b1
  have hbw := cell_lt hE.c0
  have hne : w.heap.size ≠ bv := by omega
  have y0 : w1.cell? ⟨w.heap.size, 5, none⟩ = some (.int .i64 k1) := by rw [← hw1]; simp [go_sem]
  have y1 : w1.cell? ⟨w.heap.size, 6, none⟩ = some (.int .i64 n1) := by rw [← hw1]; simp [go_sem]
  have y2 : w1.cell? ⟨w.heap.size, 7, none⟩ = some (.int .i64 p1) := by rw [← hw1]; simp [go_sem]
  have y3 : w1.cell? ⟨w.heap.size, 8, none⟩ = some (.int .i64 c1) := by rw [← hw1]; simp [go_sem]
  have y4 : w1.cell? ⟨w.heap.size, 9, none⟩ = some (.slice a1 kk1.len cap1) := by rw [← hw1]; simp [go_sem]
  have t0 : w1.cell? ⟨w.heap.size, 0, none⟩ = some (.int .i64 k0) := by rw [← hw1]; simp [go_sem]
  have t1 : w1.cell? ⟨w.heap.size, 1, none⟩ = some (.int .i64 n0) := by rw [← hw1]; simp [go_sem]
  have t2 : w1.cell? ⟨w.heap.size, 2, none⟩ = some (.int .i64 p0) := by rw [← hw1]; simp [go_sem]
  have t3 : w1.cell? ⟨w.heap.size, 3, none⟩ = some (.int .i64 c0) := by rw [← hw1]; simp [go_sem]
  have t4 : w1.cell? ⟨w.heap.size, 4, none⟩ = some (.slice a0 kk0.len cap0) := by rw [← hw1]; simp [go_sem]
  have PR : Hid (PB w1 (w.heap.size + 1)) := by
    show PB _ _
    rw [← hw1]
    exact ⟨by simp, ⟨0, by simp [go_sem]⟩, ⟨0, by simp [go_sem]⟩, by simp [go_sem], by simp [go_sem]⟩
  have hst := evE_stp (A := pA) fs f s hf k0 n0 p0 c0 kk0 vars s (Nat.le_refl _) hs
  have HC := Lib.hid (hV fi k0 n0 p0 c0 kk0 a0 cap0 av cav vars s w1 hf hs hfi kn0 kt0 (hE.next b1) (hP.keepE q1 hBv hbw) (kf0.keepE q1 hBv hbw) kl0 (hL.keep q1) hN (by omega) hcv hcv2)
  have HLV := Lib.hid hL
  have HK1 := fun (W : World) (s : Nat) (x : Int × Int) (g cg : Nat) (hx : Num2 x) (hss : 3000 < f + s ∧ s ≤ 3000 ∧ vars.length + 1 ≤ 412 + s) (hk : Kp (fun b => b = bv) w W) (he : EvAt W bv ap fs.length capp s) (ho : Own w.heap.size W g cg (vars ++ [x])) (hcg : cg ≤ 9223372036854775807) => Lib.hid (show Calls Tryz.prog 122 #[.pointer (some ⟨bv, 0, none⟩), .agg #[.int .i64 k1, .int .i64 n1, .int .i64 p1, .int .i64 c1, .slice a1 kk1.len cap1], .slice (some ⟨g, 0, none⟩) (vars.length + 1) cg] W (VRes bv ap fs.length capp W (evE pA fs f k1 n1 p1 c1 kk1 (vars ++ [x]) s)) from by have h := hV fi k1 n1 p1 c1 kk1 a1 cap1 (some ⟨g, 0, none⟩) cg (vars ++ [x]) s W hss.1 hss.2.1 hfi (by rw [List.length_append]; exact kn1) (by rw [List.length_append]; exact kt1) he (hP.keepE hk hBv hbw) (kf1.keepE hk hBv hbw) kl1 (ho.ls hbw) (nums_snoc hN hx) (by rw [List.length_append]; exact hss.2.2) ho.cap_le hcg; rw [List.length_append] at h; exact h)
  generalize (evE pA fs f k0 n0 p0 c0 kk0 vars s) = r at HC hst
  clear hE hP hL kn0 kt0 kf0 kl0 kn1 kt1 kf1 kl1
  go_enter Tryz.func137, Tryz.ntmps137
  go_wp2_with fail
  clear hw1 t0 t1 t2 t3 t4
  refine HC.out.mono ?_; rintro e w2 ⟨q2, e2, v, rfl, hv⟩
  obtain ⟨w5, hw5⟩ : ∃ w5, w2.alloc (.cells #[.int .i64 v.1, .int .i64 v.2] 121) = w5 := ⟨_, rfl⟩
  have b5 : Below w2.heap.size w2 w5 := by rw [← hw5]; exact (Below.refl _ _).alloc (Nat.le_refl _) _
  have d0 : w5.cell? ⟨w2.heap.size, 0, none⟩ = some (.int .i64 v.1) := by rw [← hw5]; simp [go_sem]
  have d1 : w5.cell? ⟨w2.heap.size, 1, none⟩ = some (.int .i64 v.2) := by rw [← hw5]; simp [go_sem]
  have hRb : w.heap.size + 1 ≠ bv := by omega
  have hzw2 := (q1.trans q2).size
  have hnV : w2.heap.size ≠ bv := by omega
  have hVR : w2.heap.size ≠ w.heap.size + 1 := by have h1 := PR.out.lt; have h2 := q2.size; omega
  have hWR : w.heap.size ≠ w.heap.size + 1 := by omega
  have P5 := (PR.out.keep q2 hRb).next b5
  replace q2 := q2.more b5
  replace e2 := e2.next b5
  have qq := q1.trans q2
  replace y0 := q2.cell y0 hne
  replace y1 := q2.cell y1 hne
  replace y2 := q2.cell y2 hne
  replace y3 := q2.cell y3 hne
  replace y4 := q2.cell y4 hne
  by_cases hc : r.c = 0
  rotate_left
  · have hbf : (r.c != 0) = true := by simp [hc]
    have HR : Hid ((bindE r fun v s => (evE pA fs f k1 n1 p1 c1 kk1 (vars ++ [v]) s)) = r) := by show _ = _; unfold bindE; rw [if_neg hc]
    clear HC hv HK1 HLV y0 y1 y2 y3 y4
    obtain ⟨hRl, ⟨u0, s0⟩, ⟨u1, s1⟩, f0, f1⟩ := P5
    go_wp2_with fail
    refine bodyPost_ret (v := .tuple #[.agg #[.int .i64 v.1, .int .i64 v.2], .int .i64 r.c]) (by simp [results, Tryz.results137, go_sem, s0, s1]) rfl ?_
    rw [HR.out]
    exact .mk (v := v) (kp_pair qq (by omega) _ _) (e2.pair hRb _ _) rfl (fun h => absurd h hc)
  obtain ⟨rfl, hv0, hv1⟩ := hv hc
  have hbf : (r.c != 0) = false := by rw [hc]; rfl
  have HR : Hid ((bindE r fun v s => (evE pA fs f k1 n1 p1 c1 kk1 (vars ++ [v]) s)) = evE pA fs f k1 n1 p1 c1 kk1 (vars ++ [r.v]) r.s) := by show _ = _; unfold bindE; rw [if_pos hc]
  have hz2w : w.heap.size ≤ w5.heap.size := qq.size
  have hlw := cell_lt y0
  obtain ⟨WA, hWA⟩ : ∃ WA, WA = (w5.alloc (.cells #[.int .i64 r.v.1, .int .i64 r.v.2] 121)).drew := ⟨_, rfl⟩
  have bA : Below w5.heap.size w5 WA := by rw [hWA]; exact ((Below.refl _ _).alloc (Nat.le_refl _) _).drew
  have zA : WA.heap.size = w5.heap.size + 1 := by rw [hWA]; simp
  have hLA := (HLV.out.keep qq).keep (Kp.of_below bA)
  have HOL := Lib.hid hLA.at_.olds
  have hnn := hLA.at_.none0
  have hnw : ∀ j u, [Value.int .i64 r.v.1, Value.int .i64 r.v.2][j]? = some u → WA.cell? ((⟨w5.heap.size, 0, none⟩ : Addr).add j) = some u := by
    intro j u hj
    cases j with
    | zero => simp at hj; subst hj; rw [hWA]; simp [go_sem, Addr.add]
    | succ j =>
      cases j with
      | zero => simp at hj; subst hj; rw [hWA]; simp [go_sem, Addr.add]
      | succ j => simp at hj
  have HNW := Lib.hid hnw
  have HCL := fun W => Lib.hid (iClip av vars.length cav W hnn hcv hcv2)
  have qA := qq.more bA
  have eA := e2.next bA
  have HKA := fun (W : World) (hg : WA.grownBy W none) => Lib.hid (show Kp (fun b => b = bv) w W from qA.trans (kpgrown hg (fun _ h => by cases h)))
  have HEA := fun (W : World) (hg : WA.grownBy W none) => Lib.hid (show EvAt W bv ap fs.length capp r.s from eA.next ⟨hg.os, hg.tape, hg.output, hg.size, fun j hj => hg.block j hj (by simp)⟩)
  have hvb : vars.length + 1 ≤ 412 + r.s := by omega
  have hr3 : 3000 < f + r.s := by omega
  have hr4 := hst.2
  clear HC hnw hLA qA eA bA HLV
  go_wp2_with fail
  rw [hWA] at HOL HNW HKA HEA
  have YD : Hid (w5.drew.cell? ⟨w.heap.size, 5, none⟩ = some (.int .i64 k1) ∧ w5.drew.cell? ⟨w.heap.size, 6, none⟩ = some (.int .i64 n1) ∧ w5.drew.cell? ⟨w.heap.size, 7, none⟩ = some (.int .i64 p1) ∧ w5.drew.cell? ⟨w.heap.size, 8, none⟩ = some (.int .i64 c1) ∧ w5.drew.cell? ⟨w.heap.size, 9, none⟩ = some (.slice a1 kk1.len cap1) ∧ w5.drew.cell? ⟨w2.heap.size, 0, none⟩ = some (.int .i64 r.v.1) ∧ w5.drew.cell? ⟨w2.heap.size, 1, none⟩ = some (.int .i64 r.v.2)) := ⟨y0, y1, y2, y3, y4, d0, d1⟩
  have YA : Hid (((w5.alloc (.cells #[.int .i64 r.v.1, .int .i64 r.v.2] 121)).drew).cell? ⟨w.heap.size, 5, none⟩ = some (.int .i64 k1) ∧ ((w5.alloc (.cells #[.int .i64 r.v.1, .int .i64 r.v.2] 121)).drew).cell? ⟨w.heap.size, 6, none⟩ = some (.int .i64 n1) ∧ ((w5.alloc (.cells #[.int .i64 r.v.1, .int .i64 r.v.2] 121)).drew).cell? ⟨w.heap.size, 7, none⟩ = some (.int .i64 p1) ∧ ((w5.alloc (.cells #[.int .i64 r.v.1, .int .i64 r.v.2] 121)).drew).cell? ⟨w.heap.size, 8, none⟩ = some (.int .i64 c1) ∧ ((w5.alloc (.cells #[.int .i64 r.v.1, .int .i64 r.v.2] 121)).drew).cell? ⟨w.heap.size, 9, none⟩ = some (.slice a1 kk1.len cap1) ∧ ((w5.alloc (.cells #[.int .i64 r.v.1, .int .i64 r.v.2] 121)).drew).cell? ⟨w2.heap.size, 0, none⟩ = some (.int .i64 r.v.1) ∧ ((w5.alloc (.cells #[.int .i64 r.v.1, .int .i64 r.v.2] 121)).drew).cell? ⟨w2.heap.size, 1, none⟩ = some (.int .i64 r.v.2)) := by
    have k := Kp.of_below (S := fun b => b = bv) (((Below.refl w5.heap.size w5).alloc (Nat.le_refl _) (.cells #[.int .i64 r.v.1, .int .i64 r.v.2] 121)).drew)
    exact ⟨k.cell y0 hne, k.cell y1 hne, k.cell y2 hne, k.cell y3 hne, k.cell y4 hne, k.cell d0 hnV, k.cell d1 hnV⟩
  have YB : Hid ((w5.drew.alloc (.cells #[.int .i64 r.v.1, .int .i64 r.v.2] 121)).cell? ⟨w.heap.size, 5, none⟩ = some (.int .i64 k1) ∧ (w5.drew.alloc (.cells #[.int .i64 r.v.1, .int .i64 r.v.2] 121)).cell? ⟨w.heap.size, 6, none⟩ = some (.int .i64 n1) ∧ (w5.drew.alloc (.cells #[.int .i64 r.v.1, .int .i64 r.v.2] 121)).cell? ⟨w.heap.size, 7, none⟩ = some (.int .i64 p1) ∧ (w5.drew.alloc (.cells #[.int .i64 r.v.1, .int .i64 r.v.2] 121)).cell? ⟨w.heap.size, 8, none⟩ = some (.int .i64 c1) ∧ (w5.drew.alloc (.cells #[.int .i64 r.v.1, .int .i64 r.v.2] 121)).cell? ⟨w.heap.size, 9, none⟩ = some (.slice a1 kk1.len cap1) ∧ (w5.drew.alloc (.cells #[.int .i64 r.v.1, .int .i64 r.v.2] 121)).cell? ⟨w2.heap.size, 0, none⟩ = some (.int .i64 r.v.1) ∧ (w5.drew.alloc (.cells #[.int .i64 r.v.1, .int .i64 r.v.2] 121)).cell? ⟨w2.heap.size, 1, none⟩ = some (.int .i64 r.v.2)) := by
    have k := Kp.of_below (S := fun b => b = bv) ((Below.refl w5.drew.heap.size w5.drew).alloc (Nat.le_refl _) (.cells #[.int .i64 r.v.1, .int .i64 r.v.2] 121))
    exact ⟨k.cell YD.out.1 hne, k.cell YD.out.2.1 hne, k.cell YD.out.2.2.1 hne, k.cell YD.out.2.2.2.1 hne, k.cell YD.out.2.2.2.2.1 hne, k.cell YD.out.2.2.2.2.2.1 hnV, k.cell YD.out.2.2.2.2.2.2 hnV⟩
  go_region_held3 (fun w' => w'.cell? ⟨w.heap.size, 5, none⟩ = some (.int .i64 k1) ∧ w'.cell? ⟨w.heap.size, 6, none⟩ = some (.int .i64 n1) ∧ w'.cell? ⟨w.heap.size, 7, none⟩ = some (.int .i64 p1) ∧ w'.cell? ⟨w.heap.size, 8, none⟩ = some (.int .i64 c1) ∧ w'.cell? ⟨w.heap.size, 9, none⟩ = some (.slice a1 kk1.len cap1) ∧ w'.cell? ⟨w2.heap.size, 0, none⟩ = some (.int .i64 r.v.1) ∧ w'.cell? ⟨w2.heap.size, 1, none⟩ = some (.int .i64 r.v.2))
    (first
      | with_reducible exact ⟨y0, y1, y2, y3, y4, d0, d1⟩
      | with_reducible exact YD.out
      | with_reducible exact YA.out
      | with_reducible exact YB.out
      | with_reducible exact YG.out
      | with_reducible exact Y9.out
      | with_reducible exact YS.out
      | go_keep)
    (first
      | (refine step_append_grows rfl (.tmp 26) (.tmp 28) 117 rfl 121 i0 _ 2 16 Tryz.underlying117 hi hz0 hz1 hz2 rfl (by omega) av vars.length vars.length (flP vars) (by first | rfl | simp [Act.eval]) (fun h => ⟨hnn h, hnn h⟩) (by rw [flP_len]) HOL.out ⟨w5.heap.size, 0, none⟩ 1 1 [.int .i64 r.v.1, .int .i64 r.v.2] (by first | rfl | simp [Act.eval]) rfl HNW.out (by simp [Value.oneCell']) (by omega) (by unfold maxLen; omega) (by omega) ?_; intro v' wg hown hgrow; obtain ⟨g', cap', rfl⟩ := row_succ hown; have HG := Lib.hid hgrow; have HOW := Lib.hid (own_appended hown); have hcap := row_cap hown; have kg := (Kp.of_below (S := fun b => b = bv) (((Below.refl w5.heap.size w5).alloc (Nat.le_refl _) (.cells #[.int .i64 r.v.1, .int .i64 r.v.2] 121)).drew)).trans (kpgrown hgrow (fun _ h => by cases h)); have YG : Hid (wg.cell? ⟨w.heap.size, 5, none⟩ = some (.int .i64 k1) ∧ wg.cell? ⟨w.heap.size, 6, none⟩ = some (.int .i64 n1) ∧ wg.cell? ⟨w.heap.size, 7, none⟩ = some (.int .i64 p1) ∧ wg.cell? ⟨w.heap.size, 8, none⟩ = some (.int .i64 c1) ∧ wg.cell? ⟨w.heap.size, 9, none⟩ = some (.slice a1 kk1.len cap1) ∧ wg.cell? ⟨w2.heap.size, 0, none⟩ = some (.int .i64 r.v.1) ∧ wg.cell? ⟨w2.heap.size, 1, none⟩ = some (.int .i64 r.v.2)) := ⟨kg.cell y0 hne, kg.cell y1 hne, kg.cell y2 hne, kg.cell y3 hne, kg.cell y4 hne, kg.cell d0 hnV, kg.cell d1 hnV⟩)
      | (go_at_call 150; refine (HCL _).out.mono ?_; rintro e w' ⟨rfl, rfl⟩)
      | (go_at_call 122; refine (HK1 _ r.s r.v _ _ ⟨hv0, hv1⟩ ⟨hr3, hr4, hvb⟩ (HKA _ HG.out).out (HEA _ HG.out).out (HOW.out.mono (by simp; omega)) hcap).out.mono ?_; rintro e w9 ⟨q9, e9, v9, rfl, hv9⟩; have k9 := kg.trans q9; obtain ⟨hRl, ⟨u0, s0⟩, ⟨u1, s1⟩, f0, f1⟩ := P5.keep k9 hRb; have Y9 : Hid (w9.cell? ⟨w.heap.size, 5, none⟩ = some (.int .i64 k1) ∧ w9.cell? ⟨w.heap.size, 6, none⟩ = some (.int .i64 n1) ∧ w9.cell? ⟨w.heap.size, 7, none⟩ = some (.int .i64 p1) ∧ w9.cell? ⟨w.heap.size, 8, none⟩ = some (.int .i64 c1) ∧ w9.cell? ⟨w.heap.size, 9, none⟩ = some (.slice a1 kk1.len cap1) ∧ w9.cell? ⟨w2.heap.size, 0, none⟩ = some (.int .i64 r.v.1) ∧ w9.cell? ⟨w2.heap.size, 1, none⟩ = some (.int .i64 r.v.2)) := ⟨k9.cell y0 hne, k9.cell y1 hne, k9.cell y2 hne, k9.cell y3 hne, k9.cell y4 hne, k9.cell d0 hnV, k9.cell d1 hnV⟩; have YS : Hid (((w9.setCell ⟨w.heap.size + 1, 0, none⟩ (.int .i64 v9.1)).setCell ⟨w.heap.size + 1, 1, none⟩ (.int .i64 v9.2)).cell? ⟨w.heap.size, 5, none⟩ = some (.int .i64 k1) ∧ ((w9.setCell ⟨w.heap.size + 1, 0, none⟩ (.int .i64 v9.1)).setCell ⟨w.heap.size + 1, 1, none⟩ (.int .i64 v9.2)).cell? ⟨w.heap.size, 6, none⟩ = some (.int .i64 n1) ∧ ((w9.setCell ⟨w.heap.size + 1, 0, none⟩ (.int .i64 v9.1)).setCell ⟨w.heap.size + 1, 1, none⟩ (.int .i64 v9.2)).cell? ⟨w.heap.size, 7, none⟩ = some (.int .i64 p1) ∧ ((w9.setCell ⟨w.heap.size + 1, 0, none⟩ (.int .i64 v9.1)).setCell ⟨w.heap.size + 1, 1, none⟩ (.int .i64 v9.2)).cell? ⟨w.heap.size, 8, none⟩ = some (.int .i64 c1) ∧ ((w9.setCell ⟨w.heap.size + 1, 0, none⟩ (.int .i64 v9.1)).setCell ⟨w.heap.size + 1, 1, none⟩ (.int .i64 v9.2)).cell? ⟨w.heap.size, 9, none⟩ = some (.slice a1 kk1.len cap1) ∧ ((w9.setCell ⟨w.heap.size + 1, 0, none⟩ (.int .i64 v9.1)).setCell ⟨w.heap.size + 1, 1, none⟩ (.int .i64 v9.2)).cell? ⟨w2.heap.size, 0, none⟩ = some (.int .i64 r.v.1) ∧ ((w9.setCell ⟨w.heap.size + 1, 0, none⟩ (.int .i64 v9.1)).setCell ⟨w.heap.size + 1, 1, none⟩ (.int .i64 v9.2)).cell? ⟨w2.heap.size, 1, none⟩ = some (.int .i64 r.v.2)) := ⟨cell_pair Y9.out.1 hWR, cell_pair Y9.out.2.1 hWR, cell_pair Y9.out.2.2.1 hWR, cell_pair Y9.out.2.2.2.1 hWR, cell_pair Y9.out.2.2.2.2.1 hWR, cell_pair Y9.out.2.2.2.2.2.1 hVR, cell_pair Y9.out.2.2.2.2.2.2 hVR⟩))
  all_goals
    go_wp2_with fail
    refine bodyPost_ret (v := .tuple #[.agg #[.int .i64 v9.1, .int .i64 v9.2], .int .i64 (evE pA fs f k1 n1 p1 c1 kk1 (vars ++ [r.v]) r.s).c]) (by simp [results, Tryz.results137, go_sem, s0, s1]) rfl ?_
    rw [HR.out]
    exact .mk (v := v9) (kp_pair ((HKA _ HG.out).out.trans q9) (by omega) _ _) (e9.pair hRb _ _) rfl hv9


end Pr

end Go.Proofs.YtoedccgiahegnaaGreat
