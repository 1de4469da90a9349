/- The model's evaluation: each node, and all of them. -/
import Derived.Deep.RegionHeld3
import Derived.Test.YtoedccgiahegnaaGreatFd
import Derived.Test.YtoedccgiahegnaaGreatDz
namespace Go.Proofs.YtoedccgiahegnaaGreat
open Go.RowKit
set_option linter.unusedVariables false

theorem addl_numsE (a b : List Int) : Nums (addl a b) := tab_nms _ fun _ => pls_bd _ _
theorem divl_numsE (a b : List Int) : Nums (divl a b) := dvs_nms _ _ _ _
theorem NodeAt.keepN {w w' : World} {br b off : Nat} {k n p c : Int} {m : Nat} {a : Option Addr} {cap : Nat} (h : NodeAt w b off k n p c m a cap) (q : Kp (fun b => b = br) w w') (hb : b ≠ br) : NodeAt w' b off k n p c m a cap := by
  obtain ⟨h0, h1, h2, h3, h4⟩ := h
  exact ⟨q.cell h0 hb, q.cell h1 hb, q.cell h2 hb, q.cell h3 hb, q.cell h4 hb⟩
theorem SRes.fresh {br bp op n g cap : Nat} {R : Nat → Prop} {w w2 w' : World} {r : Rv (List Int)} {l : List Int} (k : Kp (fun b => b = br) w w2) (h : RnAt w2 br bp op n r.s r.c) (hb : Below w2.heap.size w2 w') (ho : Own w2.heap.size w' g cap l) (hl : l.length = n) (hn : Nums l) (hv : r.c = 0 → l = r.v) : SRes br bp op R n w r (.returned (.slice (some ⟨g, 0, none⟩) n cap)) w' := by
  have hbw := cell_lt h.c0
  have hgb := ho.base
  have hk := k.size
  exact .mk (k.more hb) (h.next hb) hl hn (ho.ls hbw) (fun g' hg => .inr (by have := blk_eqE hg; omega)) hv
theorem bindX_eq {fs : List Fn} {n f : Nat} {X : Rv (List Int)} {k nn p cc : Int} {kk : Fo} {vars : List (List Int)} {g : List Int → Nat → Rv (List Int)} {R0 : Rv (List Int)} (h0 : R0 = bindE X g) (hg : X.c = 0 → g X.v X.s = evE (sA n) fs f k nn p cc kk vars X.s) :
    R0.s = (evX fs n f X.c k nn p cc kk vars X.s).s ∧ R0.c = (evX fs n f X.c k nn p cc kk vars X.s).c ∧ ((evX fs n f X.c k nn p cc kk vars X.s).c = 0 → R0.v = (evX fs n f X.c k nn p cc kk vars X.s).v) := by
  subst h0
  unfold bindE evX
  by_cases hc : X.c = 0
  · rw [if_pos hc, if_pos hc, hg hc]; exact ⟨rfl, rfl, fun _ => rfl⟩
  · rw [if_neg hc, if_neg hc]; exact ⟨rfl, rfl, fun h => absurd h hc⟩
/-- two kids, one after the other -/
theorem op_eq {fs : List Fn} {n f s : Nat} {k k0 n0 p0 c0 k1 n1 p1 c1 : Int} {ks kk0 kk1 : Fo} {vars : List (List Int)} (h2 : ks.len = 2) (hd0 : Fo.drop 0 ks = .cons k0 n0 p0 c0 kk0 (Fo.drop 1 ks)) (hd1 : Fo.drop 1 ks = .cons k1 n1 p1 c1 kk1 (Fo.drop 2 ks)) {X Y R0 : Rv (List Int)} (hX : X = evX fs n f 0 k0 n0 p0 c0 kk0 vars s) (hY : Y = evX fs n f X.c k1 n1 p1 c1 kk1 vars X.s) (h0 : R0 = bindL (sA n) (lisE (sA n) (evE (sA n) fs f) ks vars s ks.len) fun l s => opE (sA n) k l s) :
    (Y.c ≠ 0 → R0.s = Y.s ∧ R0.c = Y.c) ∧ (Y.c = 0 → X.c = 0 ∧ R0 = opE (sA n) k [X.v, Y.v] Y.s) := by
  rw [h2, ← lisX_zero] at h0
  obtain ⟨a1, a2, a3⟩ := lisX_step (fs := fs) (n := n) (f := f) (c := 0) (vars := vars) (s := s) hd0
  obtain ⟨b1, b2, b3⟩ := lisX_step (fs := fs) (n := n) (f := f) (c := 0) (vars := vars) (s := s) hd1
  have e0 : lisX fs n f 0 ks vars s 0 = ⟨[], s, 0⟩ := by rw [lisX_zero]; rfl
  rw [e0] at a1 a2 a3
  dsimp only at a1 a2 a3
  rw [← hX] at a1 a2 a3
  rw [a1, a2, ← hY] at b1 b2 b3
  refine ⟨fun h => ?_, fun h => ?_⟩
  · rw [h0]; unfold bindL; rw [if_neg (by rw [b2]; exact h)]; exact ⟨b1, b2⟩
  · have h' : (lisX fs n f 0 ks vars s (1 + 1)).c = 0 := by rw [b2]; exact h
    obtain ⟨h1, h3⟩ := b3 h'
    have h4 : (lisX fs n f 0 ks vars s (0 + 1)).c = 0 := by rw [a2]; exact h1
    obtain ⟨_, h5⟩ := a3 h4
    refine ⟨h1, ?_⟩
    rw [h0]; unfold bindL; rw [if_pos h', h3, b1]
    rw [show lisX fs n f 0 ks vars s 1 = lisX fs n f 0 ks vars s (0 + 1) from rfl, h5]; rfl
theorem sSubE (n : Nat) (a b : Option Addr) (ca cb : Nat) (l m : List Int) (w : World) (ha : At w a l) (hb : At w b m) (hr : Nums l) (hr2 : Nums m) (h : l.length = n) (h' : m.length = n) (hl : n ≤ 1048576) :
    Calls Tryz.prog 109 #[.slice a n ca, .slice b n cb] w (FreshN w n (addl l (scll m 1000002))) := by
  have H := Lib.hid h
  have H' := Lib.hid h'
  have H2 : Hid ((scll m 1000002).length = n) := by show _ = _; rw [scll_len]; exact h'
  have HS := Lib.hid (sScale n b cb m 1000002 w hb H' hl hr2 (by omega))
  clear h h'
  go_enter Tryz.func109, Tryz.ntmps109
  go_wp2_with fail
  refine HS.out.mono ?_; rintro e w1 ⟨g1, c1, rfl, o1, b1⟩
  have HA := Lib.hid (sAddN n a (some ⟨g1, 0, none⟩) ca c1 l (scll m 1000002) w1 (ha.below b1 (Nat.le_refl _)) o1.at hr (scll_nums _ _) H H2 hl)
  go_wp2_with fail
  refine HA.out.mono ?_; rintro e w2 ⟨g2, c2, rfl, o2, b2⟩
  go_wp2_with fail
  go_ret
  exact ⟨g2, c2, rfl, o2.mono b1.size, b1.trans (b2.mono b1.size)⟩
/-- a kid -/
theorem kidE {fs : List Fn} {ap : Option Addr} {capp br bp op n B f : Nat} (hBr : B ≤ br) (hbp : bp < B) (hV : PS fs ap capp br bp op n B f) {fi vl : Nat} {k : Int} {ks : Fo} {b2 o2 : Nat} {w : World} (hbw : br < w.heap.size) (hfi : fi ≤ fs.length) (ht : treeB fs (fi : Int) ks (vl : Int) k 0 = true) (hp : w.cell? ⟨bp, op, none⟩ = some (.slice ap fs.length capp)) (hP : Pat w 0 B fs ap) (hF : Fat w 0 B ks (some ⟨b2, o2, none⟩)) (i : Nat) (hi : i < ks.len) (oi : Nat) (hoi : oi = o2 + i * 5) :
    ∃ ki ni pi ci kki, Fo.drop i ks = .cons ki ni pi ci kki (Fo.drop (i + 1) ks) ∧ ∀ (R : Nat → Prop) (ae : Option Addr) (ce : Nat) (vars : List (List Int)) (s : Nat) (c : Int) (W : World), Kp (fun b => b = br) w W → ((vars.length : Nat) : Int) = (vl : Int) + more k i → En W br R n ae vars → (∀ g, R g → g < W.heap.size) → RnAt W br bp op n s c → 3000 < f + s → s ≤ 3000 → vars.length ≤ 412 + s →
      Calls Tryz.prog 93 #[.pointer (some ⟨br, 0, none⟩), .pointer (some ⟨b2, oi, none⟩), .slice ae vars.length ce] W (SRes br bp op R n W (evX fs n f c ki ni pi ci kki vars s)) := by
  subst hoi
  obtain ⟨ki, ni, pi, ci, kki, ai, capi, hd, hRR, hkl, x0, x1, x2, x3, x4, hFk⟩ := Fat.node hF hi
  obtain ⟨b', o', e, hbB⟩ := hF.blk (by omega)
  cases e
  obtain ⟨v1, v2⟩ := treeB_at ks 0 i ht hd
  rw [Nat.zero_add] at v1 v2
  refine ⟨ki, ni, pi, ci, kki, hd, fun R ae ce vars s c W q hl hE hRb hR hf hs hvl => ?_⟩
  rw [← hl] at v1 v2
  exact hV R fi ki ni pi ci kki ai capi b2 (o2 + i * 5) ae ce vars s c W hf hs hfi v1 v2 hR (q.cell hp (by omega)) (hP.keepE q hBr hbw) ((show NodeAt w b2 (o2 + i * 5) ki ni pi ci kki.len ai capi from ⟨x0, x1, x2, x3, x4⟩).keepN q (by omega)) hbB.2 (hFk.keepE q hBr hbw) hkl hE hRb hvl

set_option maxRecDepth 100000 in
set_option maxHeartbeats 6400000 in
theorem sExprNum {fs : List Fn} {ap : Option Addr} {capp br bp op n B f : Nat} (hBr : B ≤ br) (hbp : bp < B) (hn1 : 1 ≤ n) (hn13 : n ≤ 13) (hV : PS fs ap capp br bp op n B f) (R : Nat → Prop) (fi : Nat) (nn p cc : Int) (ks : Fo) (a : Option Addr) (cap b off : Nat) (ae : Option Addr) (ce : Nat) (vars : List (List Int)) (s : Nat) (w : World)
    (hf : 3000 < f + 1 + s) (hs : s ≤ 3000) (h3 : ¬ s = 3000) (hfi : fi ≤ fs.length) (hn : nodeB fs (vars.length : Int) (fi : Int) 1 nn p cc ks.len = true) (ht : treeB fs (fi : Int) ks (vars.length : Int) 1 0 = true) (hR : RnAt w br bp op n s 0) (hp : w.cell? ⟨bp, op, none⟩ = some (.slice ap fs.length capp)) (hP : Pat w 0 B fs ap) (hN : NodeAt w b off 1 nn p cc ks.len a cap) (hb : b < B) (hF : Fat w 0 B ks a) (hkl : ks.len ≤ maxLen) (hE : En w br R n ae vars) (hRb : ∀ g, R g → g < w.heap.size) (hvl : vars.length ≤ 412 + s) :
    Calls Tryz.prog 93 #[.pointer (some ⟨br, 0, none⟩), .pointer (some ⟨b, off, none⟩), .slice ae vars.length ce] w (SRes br bp op R n w (nodE (sA n) fs (evE (sA n) fs f) 1 nn p cc ks vars (s + 1))) := by
  have h3b : ((s : Int) == 3000) = false := ne_beq (by omega)
  have hbw := cell_lt hR.c0
  obtain ⟨w1, hw1⟩ : ∃ w1, w.setCell ⟨br, 2, none⟩ (.int .i64 ((s : Int) + 1)) = w1 := ⟨_, rfl⟩
  have r1 : RnAt w1 br bp op n (s + 1) 0 := by rw [← hw1]; exact hR.step
  have q1 : Kp (fun b => b = br) w w1 := by rw [← hw1]; exact Kp.set (p := ⟨br, 2, none⟩) rfl
  have z1 : w1.heap.size = w.heap.size := by rw [← hw1]; simp
  have x2 := hR.c2
  have x3 := hR.c3
  have xf := hR.fz 2
  have E1 := hE.keep q1
  have P1 := hP.keepE q1 hBr hbw
  have F1 := hF.keepE q1 hBr hbw
  have hp1 := q1.cell hp (by omega)
  have hbw1 : br < w1.heap.size := by omega
  have hRb1 : ∀ g, R g → g < w1.heap.size := fun g hg => by have := hRb g hg; omega
  have HN1 := Lib.hid (hN.keepN q1 (by omega))
  obtain ⟨y0, y1, y2, y3, y4⟩ := hN.keepN q1 (by omega)
  clear hE hP hF hN hR
  obtain ⟨hn0, hn2⟩ := (node_kids hn (by omega)).2.1 rfl
  have x1 := r1.c1
  have HC := fun W => Lib.hid ((sConst nn n W (by omega)).mono fun e w h => freshN_of h (cstl_len nn n))
  have HEV : Hid (nodE (sA n) fs (evE (sA n) fs f) 1 nn p cc ks vars (s + 1) = ⟨cstl nn n, s + 1, 0⟩) := rfl
  clear ht hn E1 P1 F1

  go_enter Tryz.func93, Tryz.ntmps93
  go_wp2_with fail
  go_region_with (go_at_call 98; refine (HC _).out.mono ?_; rintro e w5 ⟨g, cap5, rfl, ho5, b5⟩)
  all_goals
    go_wp2_with fail
    go_ret
    rw [HEV.out]
    exact .fresh (w2 := w1.drew) (q1.more (Below.refl _ _).drew) (r1.next (Below.refl _ _).drew) b5 ho5 (cstl_len _ _) (cstl_numsE ⟨hn0, hn2⟩) (fun _ => rfl)

set_option maxRecDepth 100000 in
set_option maxHeartbeats 6400000 in
theorem sExprVar {fs : List Fn} {ap : Option Addr} {capp br bp op n B f : Nat} (hBr : B ≤ br) (hbp : bp < B) (hn1 : 1 ≤ n) (hn13 : n ≤ 13) (hV : PS fs ap capp br bp op n B f) (R : Nat → Prop) (fi : Nat) (nn p cc : Int) (ks : Fo) (a : Option Addr) (cap b off : Nat) (ae : Option Addr) (ce : Nat) (vars : List (List Int)) (s : Nat) (w : World)
    (hf : 3000 < f + 1 + s) (hs : s ≤ 3000) (h3 : ¬ s = 3000) (hfi : fi ≤ fs.length) (hn : nodeB fs (vars.length : Int) (fi : Int) 2 nn p cc ks.len = true) (ht : treeB fs (fi : Int) ks (vars.length : Int) 2 0 = true) (hR : RnAt w br bp op n s 0) (hp : w.cell? ⟨bp, op, none⟩ = some (.slice ap fs.length capp)) (hP : Pat w 0 B fs ap) (hN : NodeAt w b off 2 nn p cc ks.len a cap) (hb : b < B) (hF : Fat w 0 B ks a) (hkl : ks.len ≤ maxLen) (hE : En w br R n ae vars) (hRb : ∀ g, R g → g < w.heap.size) (hvl : vars.length ≤ 412 + s) :
    Calls Tryz.prog 93 #[.pointer (some ⟨br, 0, none⟩), .pointer (some ⟨b, off, none⟩), .slice ae vars.length ce] w (SRes br bp op R n w (nodE (sA n) fs (evE (sA n) fs f) 2 nn p cc ks vars (s + 1))) := by
  have h3b : ((s : Int) == 3000) = false := ne_beq (by omega)
  have hbw := cell_lt hR.c0
  obtain ⟨w1, hw1⟩ : ∃ w1, w.setCell ⟨br, 2, none⟩ (.int .i64 ((s : Int) + 1)) = w1 := ⟨_, rfl⟩
  have r1 : RnAt w1 br bp op n (s + 1) 0 := by rw [← hw1]; exact hR.step
  have q1 : Kp (fun b => b = br) w w1 := by rw [← hw1]; exact Kp.set (p := ⟨br, 2, none⟩) rfl
  have z1 : w1.heap.size = w.heap.size := by rw [← hw1]; simp
  have x2 := hR.c2
  have x3 := hR.c3
  have xf := hR.fz 2
  have E1 := hE.keep q1
  have P1 := hP.keepE q1 hBr hbw
  have F1 := hF.keepE q1 hBr hbw
  have hp1 := q1.cell hp (by omega)
  have hbw1 : br < w1.heap.size := by omega
  have hRb1 : ∀ g, R g → g < w1.heap.size := fun g hg => by have := hRb g hg; omega
  have HN1 := Lib.hid (hN.keepN q1 (by omega))
  obtain ⟨y0, y1, y2, y3, y4⟩ := hN.keepN q1 (by omega)
  clear hE hP hF hN hR
  obtain ⟨hn0, hn2⟩ := (node_kids hn (by omega)).2.2 rfl
  obtain ⟨j, rfl⟩ := Int.eq_ofNat_of_zero_le hn0
  have hj : j < vars.length := by omega
  have HEV : Hid (nodE (sA n) fs (evE (sA n) fs f) 2 (j : Int) p cc ks vars (s + 1) = ⟨vars.getD j ((sA n).cst 0), s + 1, 0⟩) := rfl
  obtain ⟨b7, o7, rfl, hbn7, hbw7, hall7⟩ := E1.rows.resolve_left (by intro e; rw [e] at hj; simp at hj)
  obtain ⟨ai, ci, hcell, hls, hRq⟩ := hall7 j hj
  have HLS := Lib.hid hls
  have HRQ := Lib.hid hRq
  have HE1 := Lib.hid E1
  clear ht hn E1 P1 F1 hall7 hls hRq

  go_enter Tryz.func93, Tryz.ntmps93
  go_wp2_with fail
  go_ret
  rw [HEV.out]
  exact .mk q1 r1 (HE1.out.len j hj) (HE1.out.nums j hj) HLS.out (fun q hq => .inl (HRQ.out q hq)) (fun _ => by rw [List.getD_eq_getElem?_getD, List.getD_eq_getElem?_getD, List.getElem?_eq_getElem hj]; rfl)

set_option maxRecDepth 100000 in
set_option maxHeartbeats 6400000 in
theorem sExprNeg {fs : List Fn} {ap : Option Addr} {capp br bp op n B f : Nat} (hBr : B ≤ br) (hbp : bp < B) (hn1 : 1 ≤ n) (hn13 : n ≤ 13) (hV : PS fs ap capp br bp op n B f) (R : Nat → Prop) (fi : Nat) (nn p cc : Int) (ks : Fo) (a : Option Addr) (cap b off : Nat) (ae : Option Addr) (ce : Nat) (vars : List (List Int)) (s : Nat) (w : World)
    (hf : 3000 < f + 1 + s) (hs : s ≤ 3000) (h3 : ¬ s = 3000) (hfi : fi ≤ fs.length) (hn : nodeB fs (vars.length : Int) (fi : Int) 7 nn p cc ks.len = true) (ht : treeB fs (fi : Int) ks (vars.length : Int) 7 0 = true) (hR : RnAt w br bp op n s 0) (hp : w.cell? ⟨bp, op, none⟩ = some (.slice ap fs.length capp)) (hP : Pat w 0 B fs ap) (hN : NodeAt w b off 7 nn p cc ks.len a cap) (hb : b < B) (hF : Fat w 0 B ks a) (hkl : ks.len ≤ maxLen) (hE : En w br R n ae vars) (hRb : ∀ g, R g → g < w.heap.size) (hvl : vars.length ≤ 412 + s) :
    Calls Tryz.prog 93 #[.pointer (some ⟨br, 0, none⟩), .pointer (some ⟨b, off, none⟩), .slice ae vars.length ce] w (SRes br bp op R n w (nodE (sA n) fs (evE (sA n) fs f) 7 nn p cc ks vars (s + 1))) := by
  have h3b : ((s : Int) == 3000) = false := ne_beq (by omega)
  have hbw := cell_lt hR.c0
  obtain ⟨w1, hw1⟩ : ∃ w1, w.setCell ⟨br, 2, none⟩ (.int .i64 ((s : Int) + 1)) = w1 := ⟨_, rfl⟩
  have r1 : RnAt w1 br bp op n (s + 1) 0 := by rw [← hw1]; exact hR.step
  have q1 : Kp (fun b => b = br) w w1 := by rw [← hw1]; exact Kp.set (p := ⟨br, 2, none⟩) rfl
  have z1 : w1.heap.size = w.heap.size := by rw [← hw1]; simp
  have x2 := hR.c2
  have x3 := hR.c3
  have xf := hR.fz 2
  have E1 := hE.keep q1
  have P1 := hP.keepE q1 hBr hbw
  have F1 := hF.keepE q1 hBr hbw
  have hp1 := q1.cell hp (by omega)
  have hbw1 : br < w1.heap.size := by omega
  have hRb1 : ∀ g, R g → g < w1.heap.size := fun g hg => by have := hRb g hg; omega
  have HN1 := Lib.hid (hN.keepN q1 (by omega))
  obtain ⟨y0, y1, y2, y3, y4⟩ := hN.keepN q1 (by omega)
  clear hE hP hF hN hR
  have hk1 : ks.len = 1 := by have := (node_kids hn (by omega)).1; have : kidsNo 7 = 1 := rfl; omega
  obtain ⟨b2, b2o, rfl, hbB2⟩ := F1.blk (by omega)
  obtain ⟨k0, n0, p0, c0, kk0, hd0, hK0⟩ := kidE hBr hbp hV hbw1 hfi ht hp1 P1 F1 0 (by omega) (b2o + 0) (by omega)
  have HEV : Hid (nodE (sA n) fs (evE (sA n) fs f) 7 nn p cc ks vars (s + 1) = oneE (evX fs n f 0 k0 n0 p0 c0 kk0 vars (s + 1)) (sA n).neg) := by show oneE (atE (sA n) (evE (sA n) fs f) ks 0 vars (s + 1)) (sA n).neg = _; rw [atE_eq hd0]; rfl
  generalize nodE (sA n) fs (evE (sA n) fs f) 7 nn p cc ks vars (s + 1) = R0 at HEV ⊢
  have HC := Lib.hid (hK0 R ae ce vars (s + 1) 0 w1 (Kp.refl _ _) (by show _ = _ + (0 : Int); omega) E1 hRb1 r1 (by omega) (by omega) (by omega))
  generalize evX fs n f 0 k0 n0 p0 c0 kk0 vars (s + 1) = X at HC HEV
  have hlt0 : 0 < ks.len := by omega
  clear ht hn E1 P1 F1 hK0 hk1

  go_enter Tryz.func93, Tryz.ntmps93
  go_wp2_with fail
  refine HC.out.mono ?_; rintro e w3 ⟨k3, r3, a3, cap3, v, rfl, hvn, hvm, hvs, hvx, hve⟩
  have HSC := Lib.hid (sScale n a3 cap3 v 1000002 w3 hvs.at_ hvn (by omega) hvm (by omega))
  go_wp2_with fail
  refine HSC.out.mono ?_; rintro e w5 ⟨g, cap5, rfl, ho5, b5⟩
  go_wp2_with fail
  go_ret
  rw [HEV.out]
  have hs0 : (oneE X (sA n).neg).s = X.s := by unfold oneE; split <;> rfl
  have hc0 : (oneE X (sA n).neg).c = X.c := by unfold oneE; split; (rename_i h; exact h.symm); rfl
  exact .fresh (q1.trans k3) (by rw [hs0, hc0]; exact r3) b5 ho5 (by rw [scll_len]; exact hvn) (scll_nums _ _) (fun h => by rw [hc0] at h; unfold oneE; rw [if_pos h, hve h]; rfl)

set_option maxRecDepth 100000 in
set_option maxHeartbeats 6400000 in
theorem sExprIf {fs : List Fn} {ap : Option Addr} {capp br bp op n B f : Nat} (hBr : B ≤ br) (hbp : bp < B) (hn1 : 1 ≤ n) (hn13 : n ≤ 13) (hV : PS fs ap capp br bp op n B f) (R : Nat → Prop) (fi : Nat) (nn p cc : Int) (ks : Fo) (a : Option Addr) (cap b off : Nat) (ae : Option Addr) (ce : Nat) (vars : List (List Int)) (s : Nat) (w : World)
    (hf : 3000 < f + 1 + s) (hs : s ≤ 3000) (h3 : ¬ s = 3000) (hfi : fi ≤ fs.length) (hn : nodeB fs (vars.length : Int) (fi : Int) 8 nn p cc ks.len = true) (ht : treeB fs (fi : Int) ks (vars.length : Int) 8 0 = true) (hR : RnAt w br bp op n s 0) (hp : w.cell? ⟨bp, op, none⟩ = some (.slice ap fs.length capp)) (hP : Pat w 0 B fs ap) (hN : NodeAt w b off 8 nn p cc ks.len a cap) (hb : b < B) (hF : Fat w 0 B ks a) (hkl : ks.len ≤ maxLen) (hE : En w br R n ae vars) (hRb : ∀ g, R g → g < w.heap.size) (hvl : vars.length ≤ 412 + s) :
    Calls Tryz.prog 93 #[.pointer (some ⟨br, 0, none⟩), .pointer (some ⟨b, off, none⟩), .slice ae vars.length ce] w (SRes br bp op R n w (nodE (sA n) fs (evE (sA n) fs f) 8 nn p cc ks vars (s + 1))) := by
  have h3b : ((s : Int) == 3000) = false := ne_beq (by omega)
  have hbw := cell_lt hR.c0
  obtain ⟨w1, hw1⟩ : ∃ w1, w.setCell ⟨br, 2, none⟩ (.int .i64 ((s : Int) + 1)) = w1 := ⟨_, rfl⟩
  have r1 : RnAt w1 br bp op n (s + 1) 0 := by rw [← hw1]; exact hR.step
  have q1 : Kp (fun b => b = br) w w1 := by rw [← hw1]; exact Kp.set (p := ⟨br, 2, none⟩) rfl
  have z1 : w1.heap.size = w.heap.size := by rw [← hw1]; simp
  have x2 := hR.c2
  have x3 := hR.c3
  have xf := hR.fz 2
  have E1 := hE.keep q1
  have P1 := hP.keepE q1 hBr hbw
  have F1 := hF.keepE q1 hBr hbw
  have hp1 := q1.cell hp (by omega)
  have hbw1 : br < w1.heap.size := by omega
  have hRb1 : ∀ g, R g → g < w1.heap.size := fun g hg => by have := hRb g hg; omega
  have HN1 := Lib.hid (hN.keepN q1 (by omega))
  obtain ⟨y0, y1, y2, y3, y4⟩ := hN.keepN q1 (by omega)
  clear hE hP hF hN hR
  have hk1 : ks.len = 3 := by have := (node_kids hn (by omega)).1; have : kidsNo 8 = 3 := rfl; omega
  obtain ⟨b2, b2o, rfl, hbB2⟩ := F1.blk (by omega)
  obtain ⟨k0, n0, p0, c0, kk0, hd0, hK0⟩ := kidE hBr hbp hV hbw1 hfi ht hp1 P1 F1 0 (by omega) (b2o + 0) (by omega)
  obtain ⟨k1, n1, p1, c1, kk1, hd1, hK1⟩ := kidE hBr hbp hV hbw1 hfi ht hp1 P1 F1 1 (by omega) (b2o + 5) (by omega)
  obtain ⟨k2, n2, p2, c2, kk2, hd2, hK2⟩ := kidE hBr hbp hV hbw1 hfi ht hp1 P1 F1 2 (by omega) (b2o + 10) (by omega)
  have hm8 : ∀ i, more 8 i = 0 := fun i => more_zero (by decide) i
  have HEV : Hid (nodE (sA n) fs (evE (sA n) fs f) 8 nn p cc ks vars (s + 1) = bindE (evX fs n f 0 k0 n0 p0 c0 kk0 vars (s + 1)) fun v s => if (sA n).zer v = true then evE (sA n) fs f k1 n1 p1 c1 kk1 vars s else evE (sA n) fs f k2 n2 p2 c2 kk2 vars s) := by
    show (bindE (atE (sA n) (evE (sA n) fs f) ks 0 vars (s + 1)) fun v s => if (sA n).zer v = true then atE (sA n) (evE (sA n) fs f) ks 1 vars s else atE (sA n) (evE (sA n) fs f) ks 2 vars s) = _
    rw [atE_eq hd0]
    congr 1
    funext v s
    rw [atE_eq hd1, atE_eq hd2]
  generalize nodE (sA n) fs (evE (sA n) fs f) 8 nn p cc ks vars (s + 1) = R0 at HEV ⊢
  have HC := Lib.hid (hK0 R ae ce vars (s + 1) 0 w1 (Kp.refl _ _) (by rw [hm8]; omega) E1 hRb1 r1 (by omega) (by omega) (by omega))
  have hst : s + 1 ≤ (evX fs n f 0 k0 n0 p0 c0 kk0 vars (s + 1)).s ∧ (evX fs n f 0 k0 n0 p0 c0 kk0 vars (s + 1)).s ≤ 3000 := evE_stp fs f (s + 1) (by omega) _ _ _ _ _ _ _ (Nat.le_refl _) (by omega)
  generalize evX fs n f 0 k0 n0 p0 c0 kk0 vars (s + 1) = X at HC HEV hst
  have HK1 := Lib.hid hK1
  have HK2 := Lib.hid hK2
  have HE1 := Lib.hid E1
  have HLN := Lib.hid hk1
  have g0 : (0 : Int) < (ks.len : Int) := by omega
  have g1 : (1 : Int) < (ks.len : Int) := by omega
  have g2 : (2 : Int) < (ks.len : Int) := by omega
  clear ht hn E1 P1 F1 hK0 hK1 hK2 hk1

  go_enter Tryz.func93, Tryz.ntmps93
  go_wp2_with fail
  refine HC.out.mono ?_; rintro e w3 ⟨k3, r3, a3, cap3, v, rfl, hvn, hvm, hvs, hvx, hve⟩
  obtain ⟨bv, ov, rfl, hbv, hcv⟩ := hvs.at_.resolve_left (by intro e; rw [e] at hvn; simp at hvn; omega)
  have hx := hcv 0 (by omega)
  rw [Nat.add_zero] at hx
  replace y4 := k3.cell y4 (by omega)
  have z3 := k3.size
  have hn0 : (0 : Int) < (n : Int) := by omega
  have HC1 := Lib.hid (HK1.out R ae ce vars X.s X.c w3 k3 (by rw [hm8]; omega) (HE1.out.keep k3) (fun g hg => by have := hRb1 g hg; omega) r3 (by omega) hst.2 (by omega))
  have HC2 := Lib.hid (HK2.out R ae ce vars X.s X.c w3 k3 (by rw [hm8]; omega) (HE1.out.keep k3) (fun g hg => by have := hRb1 g hg; omega) r3 (by omega) hst.2 (by omega))
  have HVE := Lib.hid hve
  clear hcv HC hve hvs
  by_cases hz : v.getD 0 0 = 0
  · have hzb : (v.getD 0 0 == 0) = true := by rw [hz]; rfl
    have HRS := Lib.hid (bindX_eq (fs := fs) (n := n) (f := f) (k := k1) (nn := n1) (p := p1) (cc := c1) (kk := kk1) (vars := vars) HEV.out (fun h0 => if_pos (by rw [← HVE.out h0]; exact hzb)))
    generalize v.getD 0 0 = x0 at *
    go_wp2_with fail
    refine HC1.out.mono ?_; intro e w5 h5
    obtain ⟨k9, h9, a9, cap9, v9, rfl, h9'⟩ := h5.up (R := R) (w := w) (r' := R0) (q1.trans k3) (fun q hq => .inl hq) HRS.out.1 HRS.out.2.1 HRS.out.2.2
    go_wp2_with fail
    go_ret
    exact ⟨k9, h9, a9, cap9, v9, rfl, h9'⟩
  · have hzb : (v.getD 0 0 == 0) = false := by simpa using hz
    have HRS := Lib.hid (bindX_eq (fs := fs) (n := n) (f := f) (k := k2) (nn := n2) (p := p2) (cc := c2) (kk := kk2) (vars := vars) HEV.out (fun h0 => if_neg (by rw [← HVE.out h0]; show ¬ (v.getD 0 0 == 0) = true; rw [hzb]; decide)))
    generalize v.getD 0 0 = x0 at *
    go_wp2_with fail
    refine HC2.out.mono ?_; intro e w5 h5
    obtain ⟨k9, h9, a9, cap9, v9, rfl, h9'⟩ := h5.up (R := R) (w := w) (r' := R0) (q1.trans k3) (fun q hq => .inl hq) HRS.out.1 HRS.out.2.1 HRS.out.2.2
    go_wp2_with fail
    go_ret
    exact ⟨k9, h9, a9, cap9, v9, rfl, h9'⟩

set_option maxRecDepth 100000 in
set_option maxHeartbeats 6400000 in
theorem sExprOp3 {fs : List Fn} {ap : Option Addr} {capp br bp op n B f : Nat} (hBr : B ≤ br) (hbp : bp < B) (hn1 : 1 ≤ n) (hn13 : n ≤ 13) (hV : PS fs ap capp br bp op n B f) (R : Nat → Prop) (fi : Nat) (nn p cc : Int) (ks : Fo) (a : Option Addr) (cap b off : Nat) (ae : Option Addr) (ce : Nat) (vars : List (List Int)) (s : Nat) (w : World)
    (hf : 3000 < f + 1 + s) (hs : s ≤ 3000) (h3 : ¬ s = 3000) (hfi : fi ≤ fs.length) (hn : nodeB fs (vars.length : Int) (fi : Int) 3 nn p cc ks.len = true) (ht : treeB fs (fi : Int) ks (vars.length : Int) 3 0 = true) (hR : RnAt w br bp op n s 0) (hp : w.cell? ⟨bp, op, none⟩ = some (.slice ap fs.length capp)) (hP : Pat w 0 B fs ap) (hN : NodeAt w b off 3 nn p cc ks.len a cap) (hb : b < B) (hF : Fat w 0 B ks a) (hkl : ks.len ≤ maxLen) (hE : En w br R n ae vars) (hRb : ∀ g, R g → g < w.heap.size) (hvl : vars.length ≤ 412 + s) :
    Calls Tryz.prog 93 #[.pointer (some ⟨br, 0, none⟩), .pointer (some ⟨b, off, none⟩), .slice ae vars.length ce] w (SRes br bp op R n w (nodE (sA n) fs (evE (sA n) fs f) 3 nn p cc ks vars (s + 1))) := by
  have h3b : ((s : Int) == 3000) = false := ne_beq (by omega)
  have hbw := cell_lt hR.c0
  obtain ⟨w1, hw1⟩ : ∃ w1, w.setCell ⟨br, 2, none⟩ (.int .i64 ((s : Int) + 1)) = w1 := ⟨_, rfl⟩
  have r1 : RnAt w1 br bp op n (s + 1) 0 := by rw [← hw1]; exact hR.step
  have q1 : Kp (fun b => b = br) w w1 := by rw [← hw1]; exact Kp.set (p := ⟨br, 2, none⟩) rfl
  have z1 : w1.heap.size = w.heap.size := by rw [← hw1]; simp
  have x2 := hR.c2
  have x3 := hR.c3
  have xf := hR.fz 2
  have E1 := hE.keep q1
  have P1 := hP.keepE q1 hBr hbw
  have F1 := hF.keepE q1 hBr hbw
  have hp1 := q1.cell hp (by omega)
  have hbw1 : br < w1.heap.size := by omega
  have hRb1 : ∀ g, R g → g < w1.heap.size := fun g hg => by have := hRb g hg; omega
  have HN1 := Lib.hid (hN.keepN q1 (by omega))
  obtain ⟨y0, y1, y2, y3, y4⟩ := hN.keepN q1 (by omega)
  clear hE hP hF hN hR
  have hk1 : ks.len = 2 := by have := (node_kids hn (by omega)).1; have : kidsNo 3 = 2 := rfl; omega
  obtain ⟨b2, b2o, rfl, hbB2⟩ := F1.blk (by omega)
  obtain ⟨k0, n0, p0, c0, kk0, hd0, hK0⟩ := kidE hBr hbp hV hbw1 hfi ht hp1 P1 F1 0 (by omega) (b2o + 0) (by omega)
  obtain ⟨k1, n1, p1, c1, kk1, hd1, hK1⟩ := kidE hBr hbp hV hbw1 hfi ht hp1 P1 F1 1 (by omega) (b2o + 5) (by omega)
  have hm8 : ∀ i, more 3 i = 0 := fun i => more_zero (by decide) i
  have HEV : Hid (nodE (sA n) fs (evE (sA n) fs f) 3 nn p cc ks vars (s + 1) = bindL (sA n) (lisE (sA n) (evE (sA n) fs f) ks vars (s + 1) ks.len) fun l s => opE (sA n) 3 l s) := rfl
  generalize nodE (sA n) fs (evE (sA n) fs f) 3 nn p cc ks vars (s + 1) = R0 at HEV ⊢
  have HC := Lib.hid (hK0 R ae ce vars (s + 1) 0 w1 (Kp.refl _ _) (by rw [hm8]; omega) E1 hRb1 r1 (by omega) (by omega) (by omega))
  have hst : s + 1 ≤ (evX fs n f 0 k0 n0 p0 c0 kk0 vars (s + 1)).s ∧ (evX fs n f 0 k0 n0 p0 c0 kk0 vars (s + 1)).s ≤ 3000 := evE_stp fs f (s + 1) (by omega) _ _ _ _ _ _ _ (Nat.le_refl _) (by omega)
  have HOP := Lib.hid (op_eq hk1 hd0 hd1 rfl rfl HEV.out)
  generalize evX fs n f 0 k0 n0 p0 c0 kk0 vars (s + 1) = X at HC hst HOP
  have HK1 := Lib.hid hK1
  have HE1 := Lib.hid E1
  have g0 : (0 : Int) < (ks.len : Int) := by omega
  have g1 : (1 : Int) < (ks.len : Int) := by omega
  clear ht hn E1 P1 F1 hK0 hK1 hk1

  go_enter Tryz.func93, Tryz.ntmps93
  go_wp2_with fail
  refine HC.out.mono ?_; rintro e w3 ⟨k3, r3, a3, cap3, v, rfl, hvn, hvm, hvs, hvx, hve⟩
  have y43 := k3.cell y4 (by omega)
  have z3 := k3.size
  have HC1 := Lib.hid (HK1.out R ae ce vars X.s X.c w3 k3 (by rw [hm8]; omega) (HE1.out.keep k3) (fun g hg => by have := hRb1 g hg; omega) r3 (by omega) hst.2 (by omega))
  generalize evX fs n f X.c k1 n1 p1 c1 kk1 vars X.s = Y at HC1 HOP
  have HVE := Lib.hid hve
  have HVS := Lib.hid hvs
  clear HC hve hvs HK1 y4
  go_wp2_with fail
  refine HC1.out.mono ?_; rintro e w4 ⟨k4, r4, a4, cap4, u, rfl, hun, hum, hus, hux, hue⟩
  have y04 := k4.cell (k3.cell y0 (by omega)) (by omega)
  have q4 := (q1.trans k3).trans k4
  have hv4 := (HVS.out.keep k4).at_
  have hu4 := hus.at_
  have HUE := Lib.hid hue
  have HVN := Lib.hid hvn
  have HUN := Lib.hid hun
  clear HC1 HVS hus hue y43
  have HSC := Lib.hid (sAddN n a3 a4 cap3 cap4 v u w4 hv4 hu4 hvm hum HVN HUN (by omega))
  clear hv4 hu4 hvn hun
  go_wp2_with fail
  refine HSC.out.mono ?_; rintro e w5 ⟨g, cap5, rfl, ho5, b5⟩
  go_wp2_with fail
  go_ret
  by_cases hc : Y.c = 0
  · obtain ⟨hx, hR0⟩ := HOP.out.2 hc
    exact .fresh q4 (by rw [hR0]; show RnAt _ _ _ _ _ Y.s 0; rw [← hc]; exact r4) b5 ho5 ((addl_len _ _).trans HVN.out) (addl_numsE _ _) (fun _ => by rw [hR0, HVE.out hx, HUE.out hc]; rfl)
  · obtain ⟨h1, h2⟩ := HOP.out.1 hc
    exact .fresh q4 (by rw [h1, h2]; exact r4) b5 ho5 ((addl_len _ _).trans HVN.out) (addl_numsE _ _) (fun h => absurd (h2 ▸ h) hc)

set_option maxRecDepth 100000 in
set_option maxHeartbeats 6400000 in
theorem sExprOp4 {fs : List Fn} {ap : Option Addr} {capp br bp op n B f : Nat} (hBr : B ≤ br) (hbp : bp < B) (hn1 : 1 ≤ n) (hn13 : n ≤ 13) (hV : PS fs ap capp br bp op n B f) (R : Nat → Prop) (fi : Nat) (nn p cc : Int) (ks : Fo) (a : Option Addr) (cap b off : Nat) (ae : Option Addr) (ce : Nat) (vars : List (List Int)) (s : Nat) (w : World)
    (hf : 3000 < f + 1 + s) (hs : s ≤ 3000) (h3 : ¬ s = 3000) (hfi : fi ≤ fs.length) (hn : nodeB fs (vars.length : Int) (fi : Int) 4 nn p cc ks.len = true) (ht : treeB fs (fi : Int) ks (vars.length : Int) 4 0 = true) (hR : RnAt w br bp op n s 0) (hp : w.cell? ⟨bp, op, none⟩ = some (.slice ap fs.length capp)) (hP : Pat w 0 B fs ap) (hN : NodeAt w b off 4 nn p cc ks.len a cap) (hb : b < B) (hF : Fat w 0 B ks a) (hkl : ks.len ≤ maxLen) (hE : En w br R n ae vars) (hRb : ∀ g, R g → g < w.heap.size) (hvl : vars.length ≤ 412 + s) :
    Calls Tryz.prog 93 #[.pointer (some ⟨br, 0, none⟩), .pointer (some ⟨b, off, none⟩), .slice ae vars.length ce] w (SRes br bp op R n w (nodE (sA n) fs (evE (sA n) fs f) 4 nn p cc ks vars (s + 1))) := by
  have h3b : ((s : Int) == 3000) = false := ne_beq (by omega)
  have hbw := cell_lt hR.c0
  obtain ⟨w1, hw1⟩ : ∃ w1, w.setCell ⟨br, 2, none⟩ (.int .i64 ((s : Int) + 1)) = w1 := ⟨_, rfl⟩
  have r1 : RnAt w1 br bp op n (s + 1) 0 := by rw [← hw1]; exact hR.step
  have q1 : Kp (fun b => b = br) w w1 := by rw [← hw1]; exact Kp.set (p := ⟨br, 2, none⟩) rfl
  have z1 : w1.heap.size = w.heap.size := by rw [← hw1]; simp
  have x2 := hR.c2
  have x3 := hR.c3
  have xf := hR.fz 2
  have E1 := hE.keep q1
  have P1 := hP.keepE q1 hBr hbw
  have F1 := hF.keepE q1 hBr hbw
  have hp1 := q1.cell hp (by omega)
  have hbw1 : br < w1.heap.size := by omega
  have hRb1 : ∀ g, R g → g < w1.heap.size := fun g hg => by have := hRb g hg; omega
  have HN1 := Lib.hid (hN.keepN q1 (by omega))
  obtain ⟨y0, y1, y2, y3, y4⟩ := hN.keepN q1 (by omega)
  clear hE hP hF hN hR
  have hk1 : ks.len = 2 := by have := (node_kids hn (by omega)).1; have : kidsNo 4 = 2 := rfl; omega
  obtain ⟨b2, b2o, rfl, hbB2⟩ := F1.blk (by omega)
  obtain ⟨k0, n0, p0, c0, kk0, hd0, hK0⟩ := kidE hBr hbp hV hbw1 hfi ht hp1 P1 F1 0 (by omega) (b2o + 0) (by omega)
  obtain ⟨k1, n1, p1, c1, kk1, hd1, hK1⟩ := kidE hBr hbp hV hbw1 hfi ht hp1 P1 F1 1 (by omega) (b2o + 5) (by omega)
  have hm8 : ∀ i, more 4 i = 0 := fun i => more_zero (by decide) i
  have HEV : Hid (nodE (sA n) fs (evE (sA n) fs f) 4 nn p cc ks vars (s + 1) = bindL (sA n) (lisE (sA n) (evE (sA n) fs f) ks vars (s + 1) ks.len) fun l s => opE (sA n) 4 l s) := rfl
  generalize nodE (sA n) fs (evE (sA n) fs f) 4 nn p cc ks vars (s + 1) = R0 at HEV ⊢
  have HC := Lib.hid (hK0 R ae ce vars (s + 1) 0 w1 (Kp.refl _ _) (by rw [hm8]; omega) E1 hRb1 r1 (by omega) (by omega) (by omega))
  have hst : s + 1 ≤ (evX fs n f 0 k0 n0 p0 c0 kk0 vars (s + 1)).s ∧ (evX fs n f 0 k0 n0 p0 c0 kk0 vars (s + 1)).s ≤ 3000 := evE_stp fs f (s + 1) (by omega) _ _ _ _ _ _ _ (Nat.le_refl _) (by omega)
  have HOP := Lib.hid (op_eq hk1 hd0 hd1 rfl rfl HEV.out)
  generalize evX fs n f 0 k0 n0 p0 c0 kk0 vars (s + 1) = X at HC hst HOP
  have HK1 := Lib.hid hK1
  have HE1 := Lib.hid E1
  have g0 : (0 : Int) < (ks.len : Int) := by omega
  have g1 : (1 : Int) < (ks.len : Int) := by omega
  clear ht hn E1 P1 F1 hK0 hK1 hk1

  go_enter Tryz.func93, Tryz.ntmps93
  go_wp2_with fail
  refine HC.out.mono ?_; rintro e w3 ⟨k3, r3, a3, cap3, v, rfl, hvn, hvm, hvs, hvx, hve⟩
  have y43 := k3.cell y4 (by omega)
  have z3 := k3.size
  have HC1 := Lib.hid (HK1.out R ae ce vars X.s X.c w3 k3 (by rw [hm8]; omega) (HE1.out.keep k3) (fun g hg => by have := hRb1 g hg; omega) r3 (by omega) hst.2 (by omega))
  generalize evX fs n f X.c k1 n1 p1 c1 kk1 vars X.s = Y at HC1 HOP
  have HVE := Lib.hid hve
  have HVS := Lib.hid hvs
  clear HC hve hvs HK1 y4
  go_wp2_with fail
  refine HC1.out.mono ?_; rintro e w4 ⟨k4, r4, a4, cap4, u, rfl, hun, hum, hus, hux, hue⟩
  have y04 := k4.cell (k3.cell y0 (by omega)) (by omega)
  have q4 := (q1.trans k3).trans k4
  have hv4 := (HVS.out.keep k4).at_
  have hu4 := hus.at_
  have HUE := Lib.hid hue
  have HVN := Lib.hid hvn
  have HUN := Lib.hid hun
  clear HC1 HVS hus hue y43
  have HSC := Lib.hid (sSubE n a3 a4 cap3 cap4 v u w4 hv4 hu4 hvm hum hvn hun (by omega))
  clear hv4 hu4 hvn hun
  go_wp2_with fail
  refine HSC.out.mono ?_; rintro e w5 ⟨g, cap5, rfl, ho5, b5⟩
  go_wp2_with fail
  go_ret
  by_cases hc : Y.c = 0
  · obtain ⟨hx, hR0⟩ := HOP.out.2 hc
    exact .fresh q4 (by rw [hR0]; show RnAt _ _ _ _ _ Y.s 0; rw [← hc]; exact r4) b5 ho5 ((addl_len _ _).trans HVN.out) (addl_numsE _ _) (fun _ => by rw [hR0, HVE.out hx, HUE.out hc]; rfl)
  · obtain ⟨h1, h2⟩ := HOP.out.1 hc
    exact .fresh q4 (by rw [h1, h2]; exact r4) b5 ho5 ((addl_len _ _).trans HVN.out) (addl_numsE _ _) (fun h => absurd (h2 ▸ h) hc)

set_option maxRecDepth 100000 in
set_option maxHeartbeats 6400000 in
theorem sExprOp5 {fs : List Fn} {ap : Option Addr} {capp br bp op n B f : Nat} (hBr : B ≤ br) (hbp : bp < B) (hn1 : 1 ≤ n) (hn13 : n ≤ 13) (hV : PS fs ap capp br bp op n B f) (R : Nat → Prop) (fi : Nat) (nn p cc : Int) (ks : Fo) (a : Option Addr) (cap b off : Nat) (ae : Option Addr) (ce : Nat) (vars : List (List Int)) (s : Nat) (w : World)
    (hf : 3000 < f + 1 + s) (hs : s ≤ 3000) (h3 : ¬ s = 3000) (hfi : fi ≤ fs.length) (hn : nodeB fs (vars.length : Int) (fi : Int) 5 nn p cc ks.len = true) (ht : treeB fs (fi : Int) ks (vars.length : Int) 5 0 = true) (hR : RnAt w br bp op n s 0) (hp : w.cell? ⟨bp, op, none⟩ = some (.slice ap fs.length capp)) (hP : Pat w 0 B fs ap) (hN : NodeAt w b off 5 nn p cc ks.len a cap) (hb : b < B) (hF : Fat w 0 B ks a) (hkl : ks.len ≤ maxLen) (hE : En w br R n ae vars) (hRb : ∀ g, R g → g < w.heap.size) (hvl : vars.length ≤ 412 + s) :
    Calls Tryz.prog 93 #[.pointer (some ⟨br, 0, none⟩), .pointer (some ⟨b, off, none⟩), .slice ae vars.length ce] w (SRes br bp op R n w (nodE (sA n) fs (evE (sA n) fs f) 5 nn p cc ks vars (s + 1))) := by
  have h3b : ((s : Int) == 3000) = false := ne_beq (by omega)
  have hbw := cell_lt hR.c0
  obtain ⟨w1, hw1⟩ : ∃ w1, w.setCell ⟨br, 2, none⟩ (.int .i64 ((s : Int) + 1)) = w1 := ⟨_, rfl⟩
  have r1 : RnAt w1 br bp op n (s + 1) 0 := by rw [← hw1]; exact hR.step
  have q1 : Kp (fun b => b = br) w w1 := by rw [← hw1]; exact Kp.set (p := ⟨br, 2, none⟩) rfl
  have z1 : w1.heap.size = w.heap.size := by rw [← hw1]; simp
  have x2 := hR.c2
  have x3 := hR.c3
  have xf := hR.fz 2
  have E1 := hE.keep q1
  have P1 := hP.keepE q1 hBr hbw
  have F1 := hF.keepE q1 hBr hbw
  have hp1 := q1.cell hp (by omega)
  have hbw1 : br < w1.heap.size := by omega
  have hRb1 : ∀ g, R g → g < w1.heap.size := fun g hg => by have := hRb g hg; omega
  have HN1 := Lib.hid (hN.keepN q1 (by omega))
  obtain ⟨y0, y1, y2, y3, y4⟩ := hN.keepN q1 (by omega)
  clear hE hP hF hN hR
  have hk1 : ks.len = 2 := by have := (node_kids hn (by omega)).1; have : kidsNo 5 = 2 := rfl; omega
  obtain ⟨b2, b2o, rfl, hbB2⟩ := F1.blk (by omega)
  obtain ⟨k0, n0, p0, c0, kk0, hd0, hK0⟩ := kidE hBr hbp hV hbw1 hfi ht hp1 P1 F1 0 (by omega) (b2o + 0) (by omega)
  obtain ⟨k1, n1, p1, c1, kk1, hd1, hK1⟩ := kidE hBr hbp hV hbw1 hfi ht hp1 P1 F1 1 (by omega) (b2o + 5) (by omega)
  have hm8 : ∀ i, more 5 i = 0 := fun i => more_zero (by decide) i
  have HEV : Hid (nodE (sA n) fs (evE (sA n) fs f) 5 nn p cc ks vars (s + 1) = bindL (sA n) (lisE (sA n) (evE (sA n) fs f) ks vars (s + 1) ks.len) fun l s => opE (sA n) 5 l s) := rfl
  generalize nodE (sA n) fs (evE (sA n) fs f) 5 nn p cc ks vars (s + 1) = R0 at HEV ⊢
  have HC := Lib.hid (hK0 R ae ce vars (s + 1) 0 w1 (Kp.refl _ _) (by rw [hm8]; omega) E1 hRb1 r1 (by omega) (by omega) (by omega))
  have hst : s + 1 ≤ (evX fs n f 0 k0 n0 p0 c0 kk0 vars (s + 1)).s ∧ (evX fs n f 0 k0 n0 p0 c0 kk0 vars (s + 1)).s ≤ 3000 := evE_stp fs f (s + 1) (by omega) _ _ _ _ _ _ _ (Nat.le_refl _) (by omega)
  have HOP := Lib.hid (op_eq hk1 hd0 hd1 rfl rfl HEV.out)
  generalize evX fs n f 0 k0 n0 p0 c0 kk0 vars (s + 1) = X at HC hst HOP
  have HK1 := Lib.hid hK1
  have HE1 := Lib.hid E1
  have g0 : (0 : Int) < (ks.len : Int) := by omega
  have g1 : (1 : Int) < (ks.len : Int) := by omega
  clear ht hn E1 P1 F1 hK0 hK1 hk1

  go_enter Tryz.func93, Tryz.ntmps93
  go_wp2_with fail
  refine HC.out.mono ?_; rintro e w3 ⟨k3, r3, a3, cap3, v, rfl, hvn, hvm, hvs, hvx, hve⟩
  have y43 := k3.cell y4 (by omega)
  have z3 := k3.size
  have HC1 := Lib.hid (HK1.out R ae ce vars X.s X.c w3 k3 (by rw [hm8]; omega) (HE1.out.keep k3) (fun g hg => by have := hRb1 g hg; omega) r3 (by omega) hst.2 (by omega))
  generalize evX fs n f X.c k1 n1 p1 c1 kk1 vars X.s = Y at HC1 HOP
  have HVE := Lib.hid hve
  have HVS := Lib.hid hvs
  clear HC hve hvs HK1 y4
  go_wp2_with fail
  refine HC1.out.mono ?_; rintro e w4 ⟨k4, r4, a4, cap4, u, rfl, hun, hum, hus, hux, hue⟩
  have y04 := k4.cell (k3.cell y0 (by omega)) (by omega)
  have q4 := (q1.trans k3).trans k4
  have hv4 := (HVS.out.keep k4).at_
  have hu4 := hus.at_
  have HUE := Lib.hid hue
  have HVN := Lib.hid hvn
  have HUN := Lib.hid hun
  clear HC1 HVS hus hue y43
  have HSC : Hid (Calls Tryz.prog 110 #[.slice a3 n cap3, .slice a4 n cap4] w4 (FreshN w4 n (mull v u))) := by
    have h := sMul a3 a4 cap3 cap4 v u w4 hv4 hu4 hvm.rng hum.rng (hun.trans hvn.symm) (by omega)
    rw [hvn, hun] at h
    exact h.mono fun e w h => freshN_of h ((mull_len _ _).trans hvn)
  clear hv4 hu4 hvn hun
  go_wp2_with fail
  refine HSC.out.mono ?_; rintro e w5 ⟨g, cap5, rfl, ho5, b5⟩
  go_wp2_with fail
  go_ret
  by_cases hc : Y.c = 0
  · obtain ⟨hx, hR0⟩ := HOP.out.2 hc
    exact .fresh q4 (by rw [hR0]; show RnAt _ _ _ _ _ Y.s 0; rw [← hc]; exact r4) b5 ho5 ((mull_len _ _).trans HVN.out) (mull_nms _ _) (fun _ => by rw [hR0, HVE.out hx, HUE.out hc]; rfl)
  · obtain ⟨h1, h2⟩ := HOP.out.1 hc
    exact .fresh q4 (by rw [h1, h2]; exact r4) b5 ho5 ((mull_len _ _).trans HVN.out) (mull_nms _ _) (fun h => absurd (h2 ▸ h) hc)

set_option maxRecDepth 100000 in
set_option maxHeartbeats 6400000 in
theorem sExprOp6 {fs : List Fn} {ap : Option Addr} {capp br bp op n B f : Nat} (hBr : B ≤ br) (hbp : bp < B) (hn1 : 1 ≤ n) (hn13 : n ≤ 13) (hV : PS fs ap capp br bp op n B f) (R : Nat → Prop) (fi : Nat) (nn p cc : Int) (ks : Fo) (a : Option Addr) (cap b off : Nat) (ae : Option Addr) (ce : Nat) (vars : List (List Int)) (s : Nat) (w : World)
    (hf : 3000 < f + 1 + s) (hs : s ≤ 3000) (h3 : ¬ s = 3000) (hfi : fi ≤ fs.length) (hn : nodeB fs (vars.length : Int) (fi : Int) 6 nn p cc ks.len = true) (ht : treeB fs (fi : Int) ks (vars.length : Int) 6 0 = true) (hR : RnAt w br bp op n s 0) (hp : w.cell? ⟨bp, op, none⟩ = some (.slice ap fs.length capp)) (hP : Pat w 0 B fs ap) (hN : NodeAt w b off 6 nn p cc ks.len a cap) (hb : b < B) (hF : Fat w 0 B ks a) (hkl : ks.len ≤ maxLen) (hE : En w br R n ae vars) (hRb : ∀ g, R g → g < w.heap.size) (hvl : vars.length ≤ 412 + s) :
    Calls Tryz.prog 93 #[.pointer (some ⟨br, 0, none⟩), .pointer (some ⟨b, off, none⟩), .slice ae vars.length ce] w (SRes br bp op R n w (nodE (sA n) fs (evE (sA n) fs f) 6 nn p cc ks vars (s + 1))) := by
  have h3b : ((s : Int) == 3000) = false := ne_beq (by omega)
  have hbw := cell_lt hR.c0
  obtain ⟨w1, hw1⟩ : ∃ w1, w.setCell ⟨br, 2, none⟩ (.int .i64 ((s : Int) + 1)) = w1 := ⟨_, rfl⟩
  have r1 : RnAt w1 br bp op n (s + 1) 0 := by rw [← hw1]; exact hR.step
  have q1 : Kp (fun b => b = br) w w1 := by rw [← hw1]; exact Kp.set (p := ⟨br, 2, none⟩) rfl
  have z1 : w1.heap.size = w.heap.size := by rw [← hw1]; simp
  have x2 := hR.c2
  have x3 := hR.c3
  have xf := hR.fz 2
  have E1 := hE.keep q1
  have P1 := hP.keepE q1 hBr hbw
  have F1 := hF.keepE q1 hBr hbw
  have hp1 := q1.cell hp (by omega)
  have hbw1 : br < w1.heap.size := by omega
  have hRb1 : ∀ g, R g → g < w1.heap.size := fun g hg => by have := hRb g hg; omega
  have HN1 := Lib.hid (hN.keepN q1 (by omega))
  obtain ⟨y0, y1, y2, y3, y4⟩ := hN.keepN q1 (by omega)
  clear hE hP hF hN hR
  have hk1 : ks.len = 2 := by have := (node_kids hn (by omega)).1; have : kidsNo 6 = 2 := rfl; omega
  obtain ⟨b2, b2o, rfl, hbB2⟩ := F1.blk (by omega)
  obtain ⟨k0, n0, p0, c0, kk0, hd0, hK0⟩ := kidE hBr hbp hV hbw1 hfi ht hp1 P1 F1 0 (by omega) (b2o + 0) (by omega)
  obtain ⟨k1, n1, p1, c1, kk1, hd1, hK1⟩ := kidE hBr hbp hV hbw1 hfi ht hp1 P1 F1 1 (by omega) (b2o + 5) (by omega)
  have hm8 : ∀ i, more 6 i = 0 := fun i => more_zero (by decide) i
  have HEV : Hid (nodE (sA n) fs (evE (sA n) fs f) 6 nn p cc ks vars (s + 1) = bindL (sA n) (lisE (sA n) (evE (sA n) fs f) ks vars (s + 1) ks.len) fun l s => opE (sA n) 6 l s) := rfl
  generalize nodE (sA n) fs (evE (sA n) fs f) 6 nn p cc ks vars (s + 1) = R0 at HEV ⊢
  have HC := Lib.hid (hK0 R ae ce vars (s + 1) 0 w1 (Kp.refl _ _) (by rw [hm8]; omega) E1 hRb1 r1 (by omega) (by omega) (by omega))
  have hst : s + 1 ≤ (evX fs n f 0 k0 n0 p0 c0 kk0 vars (s + 1)).s ∧ (evX fs n f 0 k0 n0 p0 c0 kk0 vars (s + 1)).s ≤ 3000 := evE_stp fs f (s + 1) (by omega) _ _ _ _ _ _ _ (Nat.le_refl _) (by omega)
  have HOP := Lib.hid (op_eq hk1 hd0 hd1 rfl rfl HEV.out)
  generalize evX fs n f 0 k0 n0 p0 c0 kk0 vars (s + 1) = X at HC hst HOP
  have HK1 := Lib.hid hK1
  have HE1 := Lib.hid E1
  have g0 : (0 : Int) < (ks.len : Int) := by omega
  have g1 : (1 : Int) < (ks.len : Int) := by omega
  clear ht hn E1 P1 F1 hK0 hK1 hk1

  go_enter Tryz.func93, Tryz.ntmps93
  go_wp2_with fail
  refine HC.out.mono ?_; rintro e w3 ⟨k3, r3, a3, cap3, v, rfl, hvn, hvm, hvs, hvx, hve⟩
  have y43 := k3.cell y4 (by omega)
  have z3 := k3.size
  have HC1 := Lib.hid (HK1.out R ae ce vars X.s X.c w3 k3 (by rw [hm8]; omega) (HE1.out.keep k3) (fun g hg => by have := hRb1 g hg; omega) r3 (by omega) hst.2 (by omega))
  generalize evX fs n f X.c k1 n1 p1 c1 kk1 vars X.s = Y at HC1 HOP
  have HVE := Lib.hid hve
  have HVS := Lib.hid hvs
  clear HC hve hvs HK1 y4
  go_wp2_with fail
  refine HC1.out.mono ?_; rintro e w4 ⟨k4, r4, a4, cap4, u, rfl, hun, hum, hus, hux, hue⟩
  have y04 := k4.cell (k3.cell y0 (by omega)) (by omega)
  have q4 := (q1.trans k3).trans k4
  have hv4 := (HVS.out.keep k4).at_
  have hu4 := hus.at_
  have HUE := Lib.hid hue
  have HVN := Lib.hid hvn
  have HUN := Lib.hid hun
  clear HC1 HVS hus hue y43
  have x3 := r4.c3
  obtain ⟨bv, ov, rfl, hbv, hcv⟩ := hu4.resolve_left (by intro e; rw [e] at hun; simp at hun; omega)
  have hx := hcv 0 (by omega)
  rw [Nat.add_zero] at hx
  have hn0 : (0 : Int) < (n : Int) := by omega
  have HF6 := Lib.hid (sFail br bp op R n Y.s Y.c 6 w4 r4 hn13 (by decide))
  have HSC : Hid (Calls Tryz.prog 111 #[.slice a3 n cap3, .slice (some ⟨bv, ov, none⟩) n cap4] w4 (FreshN w4 n (divl v u))) := by
    have h := sDiv a3 (some ⟨bv, ov, none⟩) cap3 cap4 v u w4 hv4 hu4 hvm hum (hun.trans hvn.symm) (by omega) (by omega)
    rw [hvn, hun] at h
    exact h.mono fun e w h => freshN_of h ((divl_len _ _).trans hvn)
  have HZ : Hid (Y.c = 0 → (sA n).zer Y.v = (u.getD 0 0 == 0)) := by show _ → _; intro h; rw [← HUE.out h]; rfl
  clear hv4 hu4 hcv hvn hun
  by_cases hc : Y.c = 0
  · have hcb : (Y.c != 0) = false := by rw [hc]; rfl
    obtain ⟨hxc, hR0⟩ := HOP.out.2 hc
    have HR0 := Lib.hid hR0
    have HYC := Lib.hid hc
    by_cases hz : u.getD 0 0 = 0
    · have hzb : (u.getD 0 0 == 0) = true := by rw [hz]; rfl
      have e6 : Hid (R0 = ⟨(sA n).cst 0, Y.s, 6⟩) := by
        show _ = _
        rw [hR0]
        show (if (sA n).zer Y.v = true then _ else _ : Rv (List Int)) = _
        rw [if_pos (by rw [HZ.out hc]; exact hzb)]
      clear hR0 hc
      generalize u.getD 0 0 = x0 at *
      generalize Y.c = yc at *
      go_wp2_with fail
      refine HF6.out.mono ?_; intro e w5 h5
      obtain ⟨k9, h9, a9, cap9, v9, rfl, h9'⟩ := h5.up (R := R) (w := w) (r' := R0) q4 (fun q hq => .inl hq) (by rw [e6.out]) (by rw [e6.out, if_pos HYC.out]) (by rw [if_pos HYC.out]; intro h; cases h)
      go_wp2_with fail
      go_ret
      exact ⟨k9, h9, a9, cap9, v9, rfl, h9'⟩
    · have hzb : (u.getD 0 0 == 0) = false := by simpa using hz
      have e6 : Hid (R0 = ⟨divl X.v Y.v, Y.s, 0⟩) := by
        show _ = _
        rw [hR0]
        show (if (sA n).zer Y.v = true then _ else _ : Rv (List Int)) = _
        rw [if_neg (by rw [HZ.out hc, hzb]; decide)]; rfl
      clear hR0 hc
      generalize u.getD 0 0 = x0 at *
      go_wp2_with fail
      refine HSC.out.mono ?_; rintro e w5 ⟨g, cap5, rfl, ho5, b5⟩
      go_wp2_with fail
      go_ret
      rw [e6.out]
      exact .fresh q4 (by show RnAt _ _ _ _ _ Y.s 0; rw [← HYC.out]; exact r4) b5 ho5 ((divl_len _ _).trans HVN.out) (divl_numsE _ _) (fun _ => by rw [HVE.out hxc, HUE.out HYC.out])
  · have hcb : (Y.c != 0) = true := by simp [hc]
    obtain ⟨h1, h2⟩ := HOP.out.1 hc
    have H12 := Lib.hid (And.intro h1 h2)
    have HYC := Lib.hid hc
    clear h1 h2 hc
    by_cases hz : u.getD 0 0 = 0
    · have hzb : (u.getD 0 0 == 0) = true := by rw [hz]; rfl
      generalize u.getD 0 0 = x0 at *
      go_wp2_with fail
      refine HF6.out.mono ?_; intro e w5 h5
      obtain ⟨k9, h9, a9, cap9, v9, rfl, h9'⟩ := h5.up (R := R) (w := w) (r' := R0) q4 (fun q hq => .inl hq) H12.out.1 (by rw [if_neg HYC.out]; exact H12.out.2) (by rw [if_neg HYC.out]; intro h; exact absurd h HYC.out)
      go_wp2_with fail
      go_ret
      exact ⟨k9, h9, a9, cap9, v9, rfl, h9'⟩
    · have hzb : (u.getD 0 0 == 0) = false := by simpa using hz
      generalize u.getD 0 0 = x0 at *
      go_wp2_with fail
      refine HF6.out.mono ?_; intro e w5 h5
      obtain ⟨k9, h9, a9, cap9, v9, rfl, h9'⟩ := h5.up (R := R) (w := w) (r' := R0) q4 (fun q hq => .inl hq) H12.out.1 (by rw [if_neg HYC.out]; exact H12.out.2) (by rw [if_neg HYC.out]; intro h; exact absurd h HYC.out)
      go_wp2_with fail
      go_ret
      exact ⟨k9, h9, a9, cap9, v9, rfl, h9'⟩

set_option maxRecDepth 100000 in
set_option maxHeartbeats 6400000 in
theorem sExprLet {fs : List Fn} {ap : Option Addr} {capp br bp op n B f : Nat} (hBr : B ≤ br) (hbp : bp < B) (hn1 : 1 ≤ n) (hn13 : n ≤ 13) (hV : PS fs ap capp br bp op n B f) (R : Nat → Prop) (fi : Nat) (nn p cc : Int) (ks : Fo) (a : Option Addr) (cap b off : Nat) (ae : Option Addr) (ce : Nat) (vars : List (List Int)) (s : Nat) (w : World)
    (hf : 3000 < f + 1 + s) (hs : s ≤ 3000) (h3 : ¬ s = 3000) (hfi : fi ≤ fs.length) (hn : nodeB fs (vars.length : Int) (fi : Int) 9 nn p cc ks.len = true) (ht : treeB fs (fi : Int) ks (vars.length : Int) 9 0 = true) (hR : RnAt w br bp op n s 0) (hp : w.cell? ⟨bp, op, none⟩ = some (.slice ap fs.length capp)) (hP : Pat w 0 B fs ap) (hN : NodeAt w b off 9 nn p cc ks.len a cap) (hb : b < B) (hF : Fat w 0 B ks a) (hkl : ks.len ≤ maxLen) (hE : En w br R n ae vars) (hRb : ∀ g, R g → g < w.heap.size) (hvl : vars.length ≤ 412 + s) :
    Calls Tryz.prog 93 #[.pointer (some ⟨br, 0, none⟩), .pointer (some ⟨b, off, none⟩), .slice ae vars.length ce] w (SRes br bp op R n w (nodE (sA n) fs (evE (sA n) fs f) 9 nn p cc ks vars (s + 1))) := by
  have h3b : ((s : Int) == 3000) = false := ne_beq (by omega)
  have hbw := cell_lt hR.c0
  obtain ⟨w1, hw1⟩ : ∃ w1, w.setCell ⟨br, 2, none⟩ (.int .i64 ((s : Int) + 1)) = w1 := ⟨_, rfl⟩
  have r1 : RnAt w1 br bp op n (s + 1) 0 := by rw [← hw1]; exact hR.step
  have q1 : Kp (fun b => b = br) w w1 := by rw [← hw1]; exact Kp.set (p := ⟨br, 2, none⟩) rfl
  have z1 : w1.heap.size = w.heap.size := by rw [← hw1]; simp
  have x2 := hR.c2
  have x3 := hR.c3
  have xf := hR.fz 2
  have E1 := hE.keep q1
  have P1 := hP.keepE q1 hBr hbw
  have F1 := hF.keepE q1 hBr hbw
  have hp1 := q1.cell hp (by omega)
  have hbw1 : br < w1.heap.size := by omega
  have hRb1 : ∀ g, R g → g < w1.heap.size := fun g hg => by have := hRb g hg; omega
  have HN1 := Lib.hid (hN.keepN q1 (by omega))
  obtain ⟨y0, y1, y2, y3, y4⟩ := hN.keepN q1 (by omega)
  clear hE hP hF hN hR
  have hk1 : ks.len = 2 := by have := (node_kids hn (by omega)).1; have : kidsNo 9 = 2 := rfl; omega
  obtain ⟨b2, b2o, rfl, hbB2⟩ := F1.blk (by omega)
  obtain ⟨k0, n0, p0, c0, kk0, hd0, hK0⟩ := kidE hBr hbp hV hbw1 hfi ht hp1 P1 F1 0 (by omega) (b2o + 0) (by omega)
  obtain ⟨k1, n1, p1, c1, kk1, hd1, hK1⟩ := kidE hBr hbp hV hbw1 hfi ht hp1 P1 F1 1 (by omega) (b2o + 5) (by omega)
  have HEV : Hid (nodE (sA n) fs (evE (sA n) fs f) 9 nn p cc ks vars (s + 1) = bindE (evX fs n f 0 k0 n0 p0 c0 kk0 vars (s + 1)) fun v s => evE (sA n) fs f k1 n1 p1 c1 kk1 (vars ++ [v]) s) := by
    show (bindE (atE (sA n) (evE (sA n) fs f) ks 0 vars (s + 1)) fun v s => atE (sA n) (evE (sA n) fs f) ks 1 (vars ++ [v]) s) = _
    rw [atE_eq hd0]
    congr 1
    funext v s
    rw [atE_eq hd1]
  generalize nodE (sA n) fs (evE (sA n) fs f) 9 nn p cc ks vars (s + 1) = R0 at HEV ⊢
  have HC := Lib.hid (hK0 R ae ce vars (s + 1) 0 w1 (Kp.refl _ _) (by show _ = _ + (0 : Int); omega) E1 hRb1 r1 (by omega) (by omega) (by omega))
  have hst : s + 1 ≤ (evX fs n f 0 k0 n0 p0 c0 kk0 vars (s + 1)).s ∧ (evX fs n f 0 k0 n0 p0 c0 kk0 vars (s + 1)).s ≤ 3000 := evE_stp fs f (s + 1) (by omega) _ _ _ _ _ _ _ (Nat.le_refl _) (by omega)
  generalize evX fs n f 0 k0 n0 p0 c0 kk0 vars (s + 1) = X at HC HEV hst
  have HK1 := Lib.hid hK1
  have HE1 := Lib.hid E1
  have g0 : (0 : Int) < (ks.len : Int) := by omega
  have g1 : (1 : Int) < (ks.len : Int) := by omega
  clear ht hn E1 P1 F1 hK0 hK1 hk1

  go_enter Tryz.func93, Tryz.ntmps93
  go_wp2_with fail
  refine HC.out.mono ?_; rintro e w3 ⟨k3, r3, a3, cap3, v, rfl, hvn, hvm, hvs, hvx, hve⟩
  have y43 := k3.cell y4 (by omega)
  have z3 := k3.size
  have hlv := hvs.lt
  have HENV := fun (W : World) (hk : Below w3.heap.size w3 W) => Lib.hid (sEnv (br := br) (n := n) (R := fun q => R q ∨ w1.heap.size ≤ q ∧ q < w3.heap.size) ae ce vars a3 cap3 v W (((HE1.out.keep k3).up (fun q hq => .inl hq)).next hk) (fun q hq => by have := hk.size; rcases hq with hq | hq; (have := hRb1 q hq; omega); omega) (by omega) (hvs.next hk) hvn hvm (fun gb hg => by rcases hvx gb hg with h | h; (exact .inl h); exact .inr ⟨h, hlv gb hg⟩))
  have HEX := fun (W w5 : World) (g5 kg5 : Nat) (hk : Below w3.heap.size w3 W) (b5 : Below W.heap.size W w5) (ho5 : Eo w5 W.heap.size br (fun q => R q ∨ w1.heap.size ≤ q ∧ q < w3.heap.size) n g5 kg5 (vars.length + 1) (vars ++ [v])) => Lib.hid (show Calls Tryz.prog 93 #[.pointer (some ⟨br, 0, none⟩), .pointer (some ⟨b2, b2o + 5, none⟩), .slice (some ⟨g5, 0, none⟩) (vars.length + 1) kg5] w5 (SRes br bp op (fun q => (R q ∨ w1.heap.size ≤ q ∧ q < w3.heap.size) ∨ W.heap.size ≤ q ∧ q < w5.heap.size) n w5 (evX fs n f X.c k1 n1 p1 c1 kk1 (vars ++ [v]) X.s)) from by
    have hkz := hk.size
    have hb5 := b5.size
    have h := HK1.out (fun q => (R q ∨ w1.heap.size ≤ q ∧ q < w3.heap.size) ∨ W.heap.size ≤ q ∧ q < w5.heap.size) (some ⟨g5, 0, none⟩) kg5 (vars ++ [v]) X.s X.c w5 ((k3.more hk).more b5) (by simp [more]) (ho5.en (by omega)) (fun q hq => by rcases hq with (hq | hq) | hq; (have := hRb1 q hq; omega); omega; omega) ((r3.next hk).next b5) (by omega) hst.2 (by simp; omega)
    rw [List.length_append] at h; exact h)
  have HVE := Lib.hid hve
  clear HC hve hvs HK1 y4 hvx hlv HE1
  go_wp2_with fail
  go_region_held3 (fun w' => w'.cell? ⟨b, off + 4, none⟩ = some (.slice (some ⟨b2, b2o, none⟩) ks.len cap))
    (first
      | with_reducible exact y43
      | with_reducible exact Y5.out
      | with_reducible exact Y9.out
      | go_keep)
    (first
      | (go_at_call 107; refine (HENV _ (by exact (Below.refl _ _).drew)).out.mono ?_; rintro e w5 ⟨b5, g5, kg5, rfl, ho5⟩; have Y5 : Hid (w5.cell? ⟨b, off + 4, none⟩ = some (.slice (some ⟨b2, b2o, none⟩) ks.len cap)) := (b5.cell (p := ⟨b, _, none⟩) (by show b < w3.heap.size; omega)).trans y43)
      | (go_at_call 93; refine (HEX w3.drew _ _ _ (Below.refl _ _).drew b5 ho5).out.mono ?_; rintro e w9 ⟨k9, r9, a9, cap9, v9, rfl, h9⟩; have Y9 : Hid (w9.cell? ⟨b, off + 4, none⟩ = some (.slice (some ⟨b2, b2o, none⟩) ks.len cap)) := k9.cell Y5.out (by omega)))
  all_goals
    have HRS := Lib.hid (bindX_eq (fs := fs) (n := n) (f := f) (k := k1) (nn := n1) (p := p1) (cc := c1) (kk := kk1) (vars := vars ++ [v]) HEV.out (fun h0 => by rw [HVE.out h0]))
    obtain ⟨t1, t2, a7, cap7, v7, t3, t4⟩ := (show SRes br bp op _ n w5 _ (.returned (.slice a9 n cap9)) w9 from ⟨k9, r9, a9, cap9, v9, rfl, h9⟩).up (R := R) (w := w) (r' := R0) (((q1.trans k3).more (Below.refl _ _).drew).more b5) (fun q hq => by
      have : w3.drew.heap.size = w3.heap.size := rfl
      rcases hq with (hq | hq) | hq
      · exact .inl hq
      · exact .inr (by omega)
      · exact .inr (by omega)) HRS.out.1 HRS.out.2.1 HRS.out.2.2
    go_wp2_with fail
    go_ret
    exact ⟨t1, t2, a7, cap7, v7, t3, t4⟩

set_option maxRecDepth 100000 in
set_option maxHeartbeats 6400000 in
theorem sExprCall10 {fs : List Fn} {ap : Option Addr} {capp br bp op n B f : Nat} (hBr : B ≤ br) (hbp : bp < B) (hn1 : 1 ≤ n) (hn13 : n ≤ 13) (hV : PS fs ap capp br bp op n B f) (hVO : PSO fs ap capp br bp op n B f) (hFn : ∀ i, i < fs.length → fnB fs i = true) (hfl : fs.length ≤ 1048576) (R : Nat → Prop) (fi : Nat) (nn p cc : Int) (ks : Fo) (a : Option Addr) (cap b off : Nat) (ae : Option Addr) (ce : Nat) (vars : List (List Int)) (s : Nat) (w : World)
    (hf : 3000 < f + 1 + s) (hs : s ≤ 3000) (h3 : ¬ s = 3000) (hfi : fi ≤ fs.length) (hn : nodeB fs (vars.length : Int) (fi : Int) 10 nn p cc ks.len = true) (ht : treeB fs (fi : Int) ks (vars.length : Int) 10 0 = true) (hR : RnAt w br bp op n s 0) (hp : w.cell? ⟨bp, op, none⟩ = some (.slice ap fs.length capp)) (hP : Pat w 0 B fs ap) (hN : NodeAt w b off 10 nn p cc ks.len a cap) (hb : b < B) (hF : Fat w 0 B ks a) (hkl : ks.len ≤ maxLen) (hE : En w br R n ae vars) (hRb : ∀ g, R g → g < w.heap.size) (hvl : vars.length ≤ 412 + s) :
    Calls Tryz.prog 93 #[.pointer (some ⟨br, 0, none⟩), .pointer (some ⟨b, off, none⟩), .slice ae vars.length ce] w (SRes br bp op R n w (nodE (sA n) fs (evE (sA n) fs f) 10 nn p cc ks vars (s + 1))) := by
  have h3b : ((s : Int) == 3000) = false := ne_beq (by omega)
  have hbw := cell_lt hR.c0
  obtain ⟨w1, hw1⟩ : ∃ w1, w.setCell ⟨br, 2, none⟩ (.int .i64 ((s : Int) + 1)) = w1 := ⟨_, rfl⟩
  have r1 : RnAt w1 br bp op n (s + 1) 0 := by rw [← hw1]; exact hR.step
  have q1 : Kp (fun b => b = br) w w1 := by rw [← hw1]; exact Kp.set (p := ⟨br, 2, none⟩) rfl
  have z1 : w1.heap.size = w.heap.size := by rw [← hw1]; simp
  have x2 := hR.c2
  have x3 := hR.c3
  have xf := hR.fz 2
  have E1 := hE.keep q1
  have P1 := hP.keepE q1 hBr hbw
  have F1 := hF.keepE q1 hBr hbw
  have hp1 := q1.cell hp (by omega)
  have hbw1 : br < w1.heap.size := by omega
  have hRb1 : ∀ g, R g → g < w1.heap.size := fun g hg => by have := hRb g hg; omega
  have HN1 := Lib.hid (hN.keepN q1 (by omega))
  obtain ⟨y0, y1, y2, y3, y4⟩ := hN.keepN q1 (by omega)
  clear hE hP hF hN hR
  obtain ⟨h1, h2, h4, h5⟩ := node_call hn (.inl rfl)
  have HC := Lib.hid (sCall hBr hbp hV hVO hFn hfl R fi 10 nn p cc ks a cap b off ae ce vars (s + 1) w1 (by omega) (by omega) (by omega) hfi h1 h2 h4 h5 ht r1 hp1 P1 HN1.out hb F1 hkl E1 hRb1 (by omega))
  have HEV : Hid (nodE (sA n) fs (evE (sA n) fs f) 10 nn p cc ks vars (s + 1) = (if (10 : Int) = 10 then bindL (sA n) (lisE (sA n) (evE (sA n) fs f) ks vars (s + 1) ks.len) (fun l s => atE (sA n) (evE (sA n) fs f) (fs.getD nn.toNat noFn).outs p.toNat l s) else bindL (sA n) (lopE (sA n) (evE (sA n) fs f) (fs.getD nn.toNat noFn).outs (lisE (sA n) (evE (sA n) fs f) ks vars (s + 1) ks.len) cc.toNat) (fun l s => ⟨l.getD p.toNat ((sA n).cst 0), s, 0⟩))) := rfl
  clear ht hn E1 P1 F1 h1 h2 h4 h5

  go_enter Tryz.func93, Tryz.ntmps93
  go_wp2_with fail
  refine HC.out.mono ?_; rintro e w3 ⟨k3, r3, a3, cap3, v, rfl, h3'⟩
  go_wp2_with fail
  go_ret
  rw [HEV.out]
  exact ⟨q1.trans k3, r3, a3, cap3, v, rfl, h3'.1, h3'.2.1, h3'.2.2.1, fun g hg => (h3'.2.2.2.1 g hg).imp id (fun h => by omega), h3'.2.2.2.2⟩

set_option maxRecDepth 100000 in
set_option maxHeartbeats 6400000 in
theorem sExprCall11 {fs : List Fn} {ap : Option Addr} {capp br bp op n B f : Nat} (hBr : B ≤ br) (hbp : bp < B) (hn1 : 1 ≤ n) (hn13 : n ≤ 13) (hV : PS fs ap capp br bp op n B f) (hVO : PSO fs ap capp br bp op n B f) (hFn : ∀ i, i < fs.length → fnB fs i = true) (hfl : fs.length ≤ 1048576) (R : Nat → Prop) (fi : Nat) (nn p cc : Int) (ks : Fo) (a : Option Addr) (cap b off : Nat) (ae : Option Addr) (ce : Nat) (vars : List (List Int)) (s : Nat) (w : World)
    (hf : 3000 < f + 1 + s) (hs : s ≤ 3000) (h3 : ¬ s = 3000) (hfi : fi ≤ fs.length) (hn : nodeB fs (vars.length : Int) (fi : Int) 11 nn p cc ks.len = true) (ht : treeB fs (fi : Int) ks (vars.length : Int) 11 0 = true) (hR : RnAt w br bp op n s 0) (hp : w.cell? ⟨bp, op, none⟩ = some (.slice ap fs.length capp)) (hP : Pat w 0 B fs ap) (hN : NodeAt w b off 11 nn p cc ks.len a cap) (hb : b < B) (hF : Fat w 0 B ks a) (hkl : ks.len ≤ maxLen) (hE : En w br R n ae vars) (hRb : ∀ g, R g → g < w.heap.size) (hvl : vars.length ≤ 412 + s) :
    Calls Tryz.prog 93 #[.pointer (some ⟨br, 0, none⟩), .pointer (some ⟨b, off, none⟩), .slice ae vars.length ce] w (SRes br bp op R n w (nodE (sA n) fs (evE (sA n) fs f) 11 nn p cc ks vars (s + 1))) := by
  have h3b : ((s : Int) == 3000) = false := ne_beq (by omega)
  have hbw := cell_lt hR.c0
  obtain ⟨w1, hw1⟩ : ∃ w1, w.setCell ⟨br, 2, none⟩ (.int .i64 ((s : Int) + 1)) = w1 := ⟨_, rfl⟩
  have r1 : RnAt w1 br bp op n (s + 1) 0 := by rw [← hw1]; exact hR.step
  have q1 : Kp (fun b => b = br) w w1 := by rw [← hw1]; exact Kp.set (p := ⟨br, 2, none⟩) rfl
  have z1 : w1.heap.size = w.heap.size := by rw [← hw1]; simp
  have x2 := hR.c2
  have x3 := hR.c3
  have xf := hR.fz 2
  have E1 := hE.keep q1
  have P1 := hP.keepE q1 hBr hbw
  have F1 := hF.keepE q1 hBr hbw
  have hp1 := q1.cell hp (by omega)
  have hbw1 : br < w1.heap.size := by omega
  have hRb1 : ∀ g, R g → g < w1.heap.size := fun g hg => by have := hRb g hg; omega
  have HN1 := Lib.hid (hN.keepN q1 (by omega))
  obtain ⟨y0, y1, y2, y3, y4⟩ := hN.keepN q1 (by omega)
  clear hE hP hF hN hR
  obtain ⟨h1, h2, h4, h5⟩ := node_call hn (.inr rfl)
  have HC := Lib.hid (sCall hBr hbp hV hVO hFn hfl R fi 11 nn p cc ks a cap b off ae ce vars (s + 1) w1 (by omega) (by omega) (by omega) hfi h1 h2 h4 h5 ht r1 hp1 P1 HN1.out hb F1 hkl E1 hRb1 (by omega))
  have HEV : Hid (nodE (sA n) fs (evE (sA n) fs f) 11 nn p cc ks vars (s + 1) = (if (11 : Int) = 10 then bindL (sA n) (lisE (sA n) (evE (sA n) fs f) ks vars (s + 1) ks.len) (fun l s => atE (sA n) (evE (sA n) fs f) (fs.getD nn.toNat noFn).outs p.toNat l s) else bindL (sA n) (lopE (sA n) (evE (sA n) fs f) (fs.getD nn.toNat noFn).outs (lisE (sA n) (evE (sA n) fs f) ks vars (s + 1) ks.len) cc.toNat) (fun l s => ⟨l.getD p.toNat ((sA n).cst 0), s, 0⟩))) := rfl
  clear ht hn E1 P1 F1 h1 h2 h4 h5

  go_enter Tryz.func93, Tryz.ntmps93
  go_wp2_with fail
  refine HC.out.mono ?_; rintro e w3 ⟨k3, r3, a3, cap3, v, rfl, h3'⟩
  go_wp2_with fail
  go_ret
  rw [HEV.out]
  exact ⟨q1.trans k3, r3, a3, cap3, v, rfl, h3'.1, h3'.2.1, h3'.2.2.1, fun g hg => (h3'.2.2.2.1 g hg).imp id (fun h => by omega), h3'.2.2.2.2⟩

set_option maxRecDepth 100000 in
set_option maxHeartbeats 6400000 in
theorem sExprS {fs : List Fn} {ap : Option Addr} {capp br bp op n B f : Nat} (hBr : B ≤ br) (hbp : bp < B) (hn1 : 1 ≤ n) (hn13 : n ≤ 13) (hV : PS fs ap capp br bp op n B f) (hVO : PSO fs ap capp br bp op n B f) (hFn : ∀ i, i < fs.length → fnB fs i = true) (hfl : fs.length ≤ 1048576) : PS fs ap capp br bp op n B (f + 1) := by
  intro R fi k nn p cc ks a cap b off ae ce vars s c w hf hs hfi hn ht hR hp hP hN hb hF hkl hE hRb hvl
  by_cases hc : c = 0
  · subst hc
    by_cases h3 : s = 3000
    · have e : Hid (evX fs n (f + 1) 0 k nn p cc ks vars s = ⟨(sA n).cst 0, s, 7⟩) := by show _ = _; unfold evX; rw [if_pos rfl, evE_end h3]
      have h3b : ((s : Int) == 3000) = true := by rw [h3]; rfl
      have x2 := hR.c2
      have x3 := hR.c3
      have HC := Lib.hid (sFail br bp op R n s 0 7 w hR hn13 (by decide))
      generalize evX fs n (f + 1) 0 k nn p cc ks vars s = R0 at e ⊢
      clear hn ht hR hP hN hF hE h3
      go_enter Tryz.func93, Tryz.ntmps93
      go_wp2_with fail
      refine HC.out.mono ?_; intro e3 w3 h3'
      obtain ⟨t1, t2, a7, cap7, v7, rfl, t4⟩ := h3'.up (R := R) (w := w) (r' := R0) (Kp.refl _ _) (fun q hq => .inl hq) (by rw [e.out]) (by rw [e.out]; simp) (by intro h; simp at h)
      go_wp2_with fail
      go_ret
      exact ⟨t1, t2, a7, cap7, v7, rfl, t4⟩
    · have e : evX fs n (f + 1) 0 k nn p cc ks vars s = nodE (sA n) fs (evE (sA n) fs f) k nn p cc ks vars (s + 1) := by unfold evX; rw [if_pos rfl, evE_go h3]
      rw [e]
      have hkd := node_kind hn
      rcases (by omega : k = 1 ∨ k = 2 ∨ k = 3 ∨ k = 4 ∨ k = 5 ∨ k = 6 ∨ k = 7 ∨ k = 8 ∨ k = 9 ∨ k = 10 ∨ k = 11) with rfl | rfl | rfl | rfl | rfl | rfl | rfl | rfl | rfl | rfl | rfl
      · exact sExprNum hBr hbp hn1 hn13 hV R fi nn p cc ks a cap b off ae ce vars s w (by omega) hs h3 hfi hn ht hR hp hP hN hb hF hkl hE hRb hvl
      · exact sExprVar hBr hbp hn1 hn13 hV R fi nn p cc ks a cap b off ae ce vars s w (by omega) hs h3 hfi hn ht hR hp hP hN hb hF hkl hE hRb hvl
      · exact sExprOp3 hBr hbp hn1 hn13 hV R fi nn p cc ks a cap b off ae ce vars s w (by omega) hs h3 hfi hn ht hR hp hP hN hb hF hkl hE hRb hvl
      · exact sExprOp4 hBr hbp hn1 hn13 hV R fi nn p cc ks a cap b off ae ce vars s w (by omega) hs h3 hfi hn ht hR hp hP hN hb hF hkl hE hRb hvl
      · exact sExprOp5 hBr hbp hn1 hn13 hV R fi nn p cc ks a cap b off ae ce vars s w (by omega) hs h3 hfi hn ht hR hp hP hN hb hF hkl hE hRb hvl
      · exact sExprOp6 hBr hbp hn1 hn13 hV R fi nn p cc ks a cap b off ae ce vars s w (by omega) hs h3 hfi hn ht hR hp hP hN hb hF hkl hE hRb hvl
      · exact sExprNeg hBr hbp hn1 hn13 hV R fi nn p cc ks a cap b off ae ce vars s w (by omega) hs h3 hfi hn ht hR hp hP hN hb hF hkl hE hRb hvl
      · exact sExprIf hBr hbp hn1 hn13 hV R fi nn p cc ks a cap b off ae ce vars s w (by omega) hs h3 hfi hn ht hR hp hP hN hb hF hkl hE hRb hvl
      · exact sExprLet hBr hbp hn1 hn13 hV R fi nn p cc ks a cap b off ae ce vars s w (by omega) hs h3 hfi hn ht hR hp hP hN hb hF hkl hE hRb hvl
      · exact sExprCall10 hBr hbp hn1 hn13 hV hVO hFn hfl R fi nn p cc ks a cap b off ae ce vars s w (by omega) hs h3 hfi hn ht hR hp hP hN hb hF hkl hE hRb hvl
      · exact sExprCall11 hBr hbp hn1 hn13 hV hVO hFn hfl R fi nn p cc ks a cap b off ae ce vars s w (by omega) hs h3 hfi hn ht hR hp hP hN hb hF hkl hE hRb hvl
  · have e : Hid (evX fs n (f + 1) c k nn p cc ks vars s = ⟨[], s, c⟩) := by show _ = _; unfold evX; rw [if_neg hc]
    have hcb : (c != 0) = true := by simp [hc]
    have x2 := hR.c2
    have x3 := hR.c3
    have HC := Lib.hid (sFail br bp op R n s c c w hR hn13 hc)
    generalize evX fs n (f + 1) c k nn p cc ks vars s = R0 at e ⊢
    clear hn ht hR hP hN hF hE
    go_enter Tryz.func93, Tryz.ntmps93
    go_wp2_with fail
    refine HC.out.mono ?_; intro e3 w3 h3'
    obtain ⟨t1, t2, a7, cap7, v7, rfl, t4⟩ := h3'.up (R := R) (w := w) (r' := R0) (Kp.refl _ _) (fun q hq => .inl hq) (by rw [e.out]) (by rw [e.out, if_neg hc]) (by rw [if_neg hc]; intro h; exact absurd h hc)
    go_wp2_with fail
    go_ret
    exact ⟨t1, t2, a7, cap7, v7, rfl, t4⟩
theorem sEvals {fs : List Fn} {ap : Option Addr} {capp br bp op n B : Nat} (hBr : B ≤ br) (hbp : bp < B) (hn1 : 1 ≤ n) (hn13 : n ≤ 13) (hFn : ∀ i, i < fs.length → fnB fs i = true) (hfl : fs.length ≤ 1048576) : ∀ f, PS fs ap capp br bp op n B f ∧ PSO fs ap capp br bp op n B f
  | 0 => by
    have h : PS fs ap capp br bp op n B 0 := by
      intro R fi k nn p cc ks a cap b off ae ce vars s c w hf hs
      omega
    exact ⟨h, sOuts hBr hbp h⟩
  | f + 1 => by
    obtain ⟨h1, h2⟩ := sEvals hBr hbp hn1 hn13 hFn hfl f
    have h := sExprS hBr hbp hn1 hn13 h1 h2 hFn hfl
    exact ⟨h, sOuts hBr hbp h⟩

end Go.Proofs.YtoedccgiahegnaaGreat
