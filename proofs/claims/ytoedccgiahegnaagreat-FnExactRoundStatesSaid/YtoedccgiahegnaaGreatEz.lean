/- The program's evaluation with numbers: each node, and all of them. -/
import Derived.Test.YtoedccgiahegnaaGreatEy
import Derived.Test.YtoedccgiahegnaaGreatDz
namespace Go.Proofs.YtoedccgiahegnaaGreat
open Go.RowKit
set_option linter.unusedVariables false

theorem EvAt.step {w : World} {bv : Nat} {ap : Option Addr} {fl capp s : Nat} (h : EvAt w bv ap fl capp s) : EvAt (w.setCell ⟨bv, 2, none⟩ (.int .i64 ((s : Int) + 1))) bv ap fl capp (s + 1) :=
  ⟨(World.cell?_setCell_other _ _ _ _ (by simp)).trans h.c0, (World.cell?_setCell_other _ _ _ _ (by simp)).trans h.c1, by rw [World.cell?_setCell_same _ _ _ h.c2, Int.natCast_add]; rfl, fun o => (World.frozen?_setCell _ _ _ _).trans (h.fz o)⟩

set_option maxRecDepth 100000 in
set_option maxHeartbeats 6400000 in
theorem iValueNum {fs : List Fn} {ap : Option Addr} {capp bv B f : Nat} (hBv : B ≤ bv) (hV : PV fs ap capp bv B f) (hVL : PL fs ap capp bv B f) (hFn : ∀ i, i < fs.length → fnB fs i = true) (hfl : fs.length ≤ 1048576) (fi : Nat) (n p c : Int) (ks : Fo) (a : Option Addr) (cap : Nat) (av : Option Addr) (cav : Nat) (vars : List Int) (s : Nat) (w : World)
    (hf : 3000 < f + 1 + s) (hs : s ≤ 3000) (h3 : ¬ s = 3000) (hfi : fi ≤ fs.length) (hn : nodeB fs (vars.length : Int) (fi : Int) 1 n p c ks.len = true) (ht : treeB fs (fi : Int) ks (vars.length : Int) 1 0 = true) (hE : EvAt w bv ap fs.length capp s) (hP : Pat w 0 B fs ap) (hF : Fat w 0 B ks a) (hkl : ks.len ≤ maxLen) (hL : Ls w bv av vars) (hN : Nums vars) (hvl : vars.length ≤ 412 + s) (hcv : vars.length ≤ cav) (hcv2 : cav ≤ 9223372036854775807) :
    Calls Tryz.prog 96 #[.pointer (some ⟨bv, 0, none⟩), .agg #[.int .i64 1, .int .i64 n, .int .i64 p, .int .i64 c, .slice a ks.len cap], .slice av vars.length cav] w (VRes bv ap fs.length capp w (evE nA fs (f + 1) 1 n p c ks vars s)) := by
  have h3b : ((s : Int) == 3000) = false := ne_beq (by omega)
  have hbw := cell_lt hE.c0
  have hne : w.heap.size ≠ bv := by omega
  have hne2 : ¬ bv = w.heap.size := by omega
  rw [evE_go h3]
  obtain ⟨w1, hw1⟩ : ∃ w1, w1 = w.setCell ⟨bv, 2, none⟩ (.int .i64 ((s : Int) + 1)) := ⟨_, rfl⟩
  have e1 : EvAt w1 bv ap fs.length capp (s + 1) := by rw [hw1]; exact hE.step
  have q1 : Kp (fun b => b = bv) w w1 := by rw [hw1]; exact Kp.set (p := ⟨bv, 2, none⟩) rfl
  have z1 : w1.heap.size = w.heap.size := by rw [hw1]; simp
  obtain ⟨w2, hw2⟩ : ∃ w2, w2 = w1.alloc (.cells #[.int .i64 1, .int .i64 n, .int .i64 p, .int .i64 c, .slice a ks.len cap] 137) := ⟨_, rfl⟩
  have b1 : Below w1.heap.size w1 w2 := by rw [hw2]; exact (Below.refl _ _).alloc (Nat.le_refl _) _
  have e2 := e1.next b1
  have q2 := q1.more b1
  have x2 := hE.c2
  have xf := hE.fz 2
  have P2 := hP.keepE q2 hBv hbw
  have F2 := hF.keepE q2 hBv hbw
  have L2 := hL.keep q2
  have hz12 := b1.size
  obtain ⟨hn0, hn1⟩ := (node_kids hn (by omega)).2.1 rfl
  have HND := Lib.hid (iNodeNum n p c a ks.len cap w2)
  clear hE hP hF hL P2 F2 hn ht e1 b1
  go_enter Tryz.func96, Tryz.ntmps96
  go_wp2_with fail
  rw [← hw1]
  rw [← hw2]
  clear hw1 hw2
  refine HND.out.mono ?_; rintro e w3 ⟨rfl, b3⟩
  clear HND x2 xf
  have q3 := q2.more b3
  have e3 := e2.next b3
  have hz3 := b3.size
  have qNum := fun W v => asNum_yes W v

  have x0 := e3.c0
  have nA1 := cstAhead
  have nA2 := cstMeth
  have HNG := fun W => Lib.hid (nConst n W)
  obtain ⟨w4, hw4⟩ : ∃ w4, w4 = w3.alloc (.cells #[.int .i64 n] 168) := ⟨_, rfl⟩
  have b4 : Below w3.heap.size w3 w4 := by rw [hw4]; exact (Below.refl _ _).alloc (Nat.le_refl _) _
  have x04 := (e3.next b4).c0
  have y04 : w4.cell? ⟨w3.heap.size, 0, none⟩ = some (.int .i64 n) := by rw [hw4]; simp [go_sem]
  have HEV : Hid (nodE nA fs (evE nA fs f) 1 n p c ks vars (s + 1) = ⟨n, s + 1, 0⟩) := rfl
  go_wp2_with fail
  rw [← hw4]
  clear hw4
  go_region_with (go_at_call 170; refine (HNG _).out.mono ?_; rintro e w5 ⟨rfl, b5⟩)
  all_goals
    go_wp2_with fail
    go_ret2
    rw [HEV.out]
    have b5' : Below w4.heap.size w4 w5 := ⟨b5.os, b5.tape, b5.output, b5.size, b5.block⟩
    exact .mk ((q3.more b4).more b5') ((e3.next b4).next b5') rfl (fun _ => ⟨rfl, hn0, hn1⟩)

set_option maxRecDepth 100000 in
set_option maxHeartbeats 6400000 in
theorem iValueVar {fs : List Fn} {ap : Option Addr} {capp bv B f : Nat} (hBv : B ≤ bv) (hV : PV fs ap capp bv B f) (hVL : PL fs ap capp bv B f) (hFn : ∀ i, i < fs.length → fnB fs i = true) (hfl : fs.length ≤ 1048576) (fi : Nat) (n p c : Int) (ks : Fo) (a : Option Addr) (cap : Nat) (av : Option Addr) (cav : Nat) (vars : List Int) (s : Nat) (w : World)
    (hf : 3000 < f + 1 + s) (hs : s ≤ 3000) (h3 : ¬ s = 3000) (hfi : fi ≤ fs.length) (hn : nodeB fs (vars.length : Int) (fi : Int) 2 n p c ks.len = true) (ht : treeB fs (fi : Int) ks (vars.length : Int) 2 0 = true) (hE : EvAt w bv ap fs.length capp s) (hP : Pat w 0 B fs ap) (hF : Fat w 0 B ks a) (hkl : ks.len ≤ maxLen) (hL : Ls w bv av vars) (hN : Nums vars) (hvl : vars.length ≤ 412 + s) (hcv : vars.length ≤ cav) (hcv2 : cav ≤ 9223372036854775807) :
    Calls Tryz.prog 96 #[.pointer (some ⟨bv, 0, none⟩), .agg #[.int .i64 2, .int .i64 n, .int .i64 p, .int .i64 c, .slice a ks.len cap], .slice av vars.length cav] w (VRes bv ap fs.length capp w (evE nA fs (f + 1) 2 n p c ks vars s)) := by
  have h3b : ((s : Int) == 3000) = false := ne_beq (by omega)
  have hbw := cell_lt hE.c0
  have hne : w.heap.size ≠ bv := by omega
  have hne2 : ¬ bv = w.heap.size := by omega
  rw [evE_go h3]
  obtain ⟨w1, hw1⟩ : ∃ w1, w1 = w.setCell ⟨bv, 2, none⟩ (.int .i64 ((s : Int) + 1)) := ⟨_, rfl⟩
  have e1 : EvAt w1 bv ap fs.length capp (s + 1) := by rw [hw1]; exact hE.step
  have q1 : Kp (fun b => b = bv) w w1 := by rw [hw1]; exact Kp.set (p := ⟨bv, 2, none⟩) rfl
  have z1 : w1.heap.size = w.heap.size := by rw [hw1]; simp
  obtain ⟨w2, hw2⟩ : ∃ w2, w2 = w1.alloc (.cells #[.int .i64 2, .int .i64 n, .int .i64 p, .int .i64 c, .slice a ks.len cap] 137) := ⟨_, rfl⟩
  have b1 : Below w1.heap.size w1 w2 := by rw [hw2]; exact (Below.refl _ _).alloc (Nat.le_refl _) _
  have e2 := e1.next b1
  have q2 := q1.more b1
  have x2 := hE.c2
  have xf := hE.fz 2
  have P2 := hP.keepE q2 hBv hbw
  have F2 := hF.keepE q2 hBv hbw
  have L2 := hL.keep q2
  have hz12 := b1.size
  obtain ⟨hn0, hn1⟩ := (node_kids hn (by omega)).2.2 rfl
  obtain ⟨j, rfl⟩ := Int.eq_ofNat_of_zero_le hn0
  have hj : j < vars.length := by omega
  have HEV : Hid (nodE nA fs (evE nA fs f) 2 (j : Int) p c ks vars (s + 1) = ⟨vars.getD j 0, s + 1, 0⟩) := rfl
  generalize nodE nA fs (evE nA fs f) 2 (j : Int) p c ks vars (s + 1) = R at HEV ⊢
  have HND := Lib.hid (iNodeVar j p c a ks.len cap w2)
  clear hE hP hF hL P2 F2 hn ht e1 b1
  go_enter Tryz.func96, Tryz.ntmps96
  go_wp2_with fail
  rw [← hw1]
  rw [← hw2]
  clear hw1 hw2
  refine HND.out.mono ?_; rintro e w3 ⟨rfl, b3⟩
  clear HND x2 xf
  have q3 := q2.more b3
  have e3 := e2.next b3
  have hz3 := b3.size
  have qNum := fun W v => asNum_no W 170 v (by decide)
  have qVar := fun W v => asVar_yes W v

  obtain ⟨bb, off, rfl, hbb, hcl⟩ := (L2.keep (Kp.of_below b3)).at_.resolve_left (by intro e; rw [e] at hj; simp at hj)
  have hx := hcl j hj
  have hxr := hN.at j
  clear hcl L2
  generalize vars.getD j 0 = x at *
  generalize vars.length = ml at *
  go_wp2_with fail
  go_ret2
  rw [HEV.out]
  have b4 : Below w3.heap.size w3 (w3.alloc (.cells #[.int .i64 (j : Int)] 170)) := (Below.refl _ _).alloc (Nat.le_refl _) _
  exact .mk (q3.more b4) (e3.next b4) rfl (fun _ => ⟨rfl, hxr⟩)

set_option maxRecDepth 100000 in
set_option maxHeartbeats 6400000 in
theorem iValueNeg {fs : List Fn} {ap : Option Addr} {capp bv B f : Nat} (hBv : B ≤ bv) (hV : PV fs ap capp bv B f) (hVL : PL fs ap capp bv B f) (hFn : ∀ i, i < fs.length → fnB fs i = true) (hfl : fs.length ≤ 1048576) (fi : Nat) (n p c : Int) (ks : Fo) (a : Option Addr) (cap : Nat) (av : Option Addr) (cav : Nat) (vars : List Int) (s : Nat) (w : World)
    (hf : 3000 < f + 1 + s) (hs : s ≤ 3000) (h3 : ¬ s = 3000) (hfi : fi ≤ fs.length) (hn : nodeB fs (vars.length : Int) (fi : Int) 7 n p c ks.len = true) (ht : treeB fs (fi : Int) ks (vars.length : Int) 7 0 = true) (hE : EvAt w bv ap fs.length capp s) (hP : Pat w 0 B fs ap) (hF : Fat w 0 B ks a) (hkl : ks.len ≤ maxLen) (hL : Ls w bv av vars) (hN : Nums vars) (hvl : vars.length ≤ 412 + s) (hcv : vars.length ≤ cav) (hcv2 : cav ≤ 9223372036854775807) :
    Calls Tryz.prog 96 #[.pointer (some ⟨bv, 0, none⟩), .agg #[.int .i64 7, .int .i64 n, .int .i64 p, .int .i64 c, .slice a ks.len cap], .slice av vars.length cav] w (VRes bv ap fs.length capp w (evE nA fs (f + 1) 7 n p c ks vars s)) := by
  have h3b : ((s : Int) == 3000) = false := ne_beq (by omega)
  have hbw := cell_lt hE.c0
  have hne : w.heap.size ≠ bv := by omega
  have hne2 : ¬ bv = w.heap.size := by omega
  rw [evE_go h3]
  obtain ⟨w1, hw1⟩ : ∃ w1, w1 = w.setCell ⟨bv, 2, none⟩ (.int .i64 ((s : Int) + 1)) := ⟨_, rfl⟩
  have e1 : EvAt w1 bv ap fs.length capp (s + 1) := by rw [hw1]; exact hE.step
  have q1 : Kp (fun b => b = bv) w w1 := by rw [hw1]; exact Kp.set (p := ⟨bv, 2, none⟩) rfl
  have z1 : w1.heap.size = w.heap.size := by rw [hw1]; simp
  obtain ⟨w2, hw2⟩ : ∃ w2, w2 = w1.alloc (.cells #[.int .i64 7, .int .i64 n, .int .i64 p, .int .i64 c, .slice a ks.len cap] 137) := ⟨_, rfl⟩
  have b1 : Below w1.heap.size w1 w2 := by rw [hw2]; exact (Below.refl _ _).alloc (Nat.le_refl _) _
  have e2 := e1.next b1
  have q2 := q1.more b1
  have x2 := hE.c2
  have xf := hE.fz 2
  have P2 := hP.keepE q2 hBv hbw
  have F2 := hF.keepE q2 hBv hbw
  have L2 := hL.keep q2
  have hz12 := b1.size
  have hk1 : ks.len = 1 := by have := (node_kids hn (by omega)).1; have : kidsNo 7 = 1 := rfl; omega
  obtain ⟨b, off, rfl, hbB⟩ := F2.blk (by omega)
  obtain ⟨k0, n0, p0, c0, kk0, a0, cap0, hd0, hR0, kl0, t00, t01, t02, t03, t04, kf0⟩ := Fat.node F2 (i := 0) (by omega)
  obtain ⟨kn0, kt0⟩ := treeB_at ks 0 0 ht hd0
  have m0 : more 7 (0 + 0) = 0 := rfl
  rw [m0, Int.add_zero] at kn0 kt0
  have N0 : NodeAt w2 b off k0 n0 p0 c0 kk0.len a0 cap0 := by simp only [Nat.zero_mul, Nat.add_zero] at t00 t01 t02 t03 t04; exact ⟨t00, t01, t02, t03, t04⟩
  have HEV : Hid (nodE nA fs (evE nA fs f) 7 n p c ks vars (s + 1) = oneE (evE nA fs f k0 n0 p0 c0 kk0 vars (s + 1)) nA.neg) := by show oneE (atE nA (evE nA fs f) ks 0 vars (s + 1)) nA.neg = _; rw [atE_eq hd0]
  generalize nodE nA fs (evE nA fs f) 7 n p c ks vars (s + 1) = R at HEV ⊢
  have HS := fun (W : World) (hk : Below w2.heap.size w2 W) => Lib.hid (iNegation hBv hV fi k0 n0 p0 c0 kk0 a0 cap0 av cav vars (s + 1) W (by omega) (by omega) hfi (e2.next hk) (P2.below (hk.mono (by omega))) (L2.keep (Kp.of_below hk)) hN (by omega) hcv hcv2 kn0 kt0 (kf0.agree (fun j _ h2 => hk.block j (by omega))) kl0)
  have HND := Lib.hid (iNodeNeg n p c b off ks.len cap w2 (by omega) N0 (by omega))
  clear hk1
  clear hE hP hF hL P2 F2 hn ht e1 b1
  go_enter Tryz.func96, Tryz.ntmps96
  go_wp2_with fail
  rw [← hw1]
  rw [← hw2]
  clear hw1 hw2
  refine HND.out.mono ?_; rintro e w3 ⟨rfl, b3⟩
  clear HND x2 xf
  have q3 := q2.more b3
  have e3 := e2.next b3
  have hz3 := b3.size
  have qNum := fun W v => asNum_no W 175 v (by decide)
  have qVar := fun W v => asVar_no W 175 v (by decide)
  have qOp := fun W v => asOp_no W 175 v (by decide)
  have qNeg := fun W v => asNeg_yes W v

  have HB4 : Hid (∀ o, Below w2.heap.size w2 (w3.alloc o)) := fun o => b3.alloc hz3 o
  go_wp2_with fail
  refine (HS _ (HB4.out _)).out.mono ?_; rintro e w5 ⟨q5, e5, v5, rfl, hv5⟩
  go_wp2_with fail
  go_ret2
  rw [HEV.out]
  exact .mk ((q2.more (HB4.out _)).trans q5) e5 rfl hv5

set_option maxRecDepth 100000 in
set_option maxHeartbeats 6400000 in
theorem iValueIf {fs : List Fn} {ap : Option Addr} {capp bv B f : Nat} (hBv : B ≤ bv) (hV : PV fs ap capp bv B f) (hVL : PL fs ap capp bv B f) (hFn : ∀ i, i < fs.length → fnB fs i = true) (hfl : fs.length ≤ 1048576) (fi : Nat) (n p c : Int) (ks : Fo) (a : Option Addr) (cap : Nat) (av : Option Addr) (cav : Nat) (vars : List Int) (s : Nat) (w : World)
    (hf : 3000 < f + 1 + s) (hs : s ≤ 3000) (h3 : ¬ s = 3000) (hfi : fi ≤ fs.length) (hn : nodeB fs (vars.length : Int) (fi : Int) 8 n p c ks.len = true) (ht : treeB fs (fi : Int) ks (vars.length : Int) 8 0 = true) (hE : EvAt w bv ap fs.length capp s) (hP : Pat w 0 B fs ap) (hF : Fat w 0 B ks a) (hkl : ks.len ≤ maxLen) (hL : Ls w bv av vars) (hN : Nums vars) (hvl : vars.length ≤ 412 + s) (hcv : vars.length ≤ cav) (hcv2 : cav ≤ 9223372036854775807) :
    Calls Tryz.prog 96 #[.pointer (some ⟨bv, 0, none⟩), .agg #[.int .i64 8, .int .i64 n, .int .i64 p, .int .i64 c, .slice a ks.len cap], .slice av vars.length cav] w (VRes bv ap fs.length capp w (evE nA fs (f + 1) 8 n p c ks vars s)) := by
  have h3b : ((s : Int) == 3000) = false := ne_beq (by omega)
  have hbw := cell_lt hE.c0
  have hne : w.heap.size ≠ bv := by omega
  have hne2 : ¬ bv = w.heap.size := by omega
  rw [evE_go h3]
  obtain ⟨w1, hw1⟩ : ∃ w1, w1 = w.setCell ⟨bv, 2, none⟩ (.int .i64 ((s : Int) + 1)) := ⟨_, rfl⟩
  have e1 : EvAt w1 bv ap fs.length capp (s + 1) := by rw [hw1]; exact hE.step
  have q1 : Kp (fun b => b = bv) w w1 := by rw [hw1]; exact Kp.set (p := ⟨bv, 2, none⟩) rfl
  have z1 : w1.heap.size = w.heap.size := by rw [hw1]; simp
  obtain ⟨w2, hw2⟩ : ∃ w2, w2 = w1.alloc (.cells #[.int .i64 8, .int .i64 n, .int .i64 p, .int .i64 c, .slice a ks.len cap] 137) := ⟨_, rfl⟩
  have b1 : Below w1.heap.size w1 w2 := by rw [hw2]; exact (Below.refl _ _).alloc (Nat.le_refl _) _
  have e2 := e1.next b1
  have q2 := q1.more b1
  have x2 := hE.c2
  have xf := hE.fz 2
  have P2 := hP.keepE q2 hBv hbw
  have F2 := hF.keepE q2 hBv hbw
  have L2 := hL.keep q2
  have hz12 := b1.size
  have hk1 : ks.len = 3 := by have := (node_kids hn (by omega)).1; have : kidsNo 8 = 3 := rfl; omega
  obtain ⟨b, off, rfl, hbB⟩ := F2.blk (by omega)
  obtain ⟨k0, n0, p0, c0, kk0, a0, cap0, hd0, hR0, kl0, t00, t01, t02, t03, t04, kf0⟩ := Fat.node F2 (i := 0) (by omega)
  obtain ⟨kn0, kt0⟩ := treeB_at ks 0 0 ht hd0
  obtain ⟨k1, n1, p1, c1, kk1, a1, cap1, hd1, hR1, kl1, t10, t11, t12, t13, t14, kf1⟩ := Fat.node F2 (i := 1) (by omega)
  obtain ⟨kn1, kt1⟩ := treeB_at ks 0 1 ht hd1
  obtain ⟨k2, n2, p2, c2, kk2, a2, cap2, hd2, hR2, kl2, t20, t21, t22, t23, t24, kf2⟩ := Fat.node F2 (i := 2) (by omega)
  obtain ⟨kn2, kt2⟩ := treeB_at ks 0 2 ht hd2
  have m0 : ∀ i, more 8 i = 0 := fun i => by unfold more; rw [if_neg (by omega)]
  rw [m0, Int.add_zero] at kn0 kt0 kn1 kt1 kn2 kt2
  have N0 : NodeAt w2 b off k0 n0 p0 c0 kk0.len a0 cap0 := by simp only [Nat.zero_mul, Nat.add_zero] at t00 t01 t02 t03 t04; exact ⟨t00, t01, t02, t03, t04⟩
  have N1 : NodeAt w2 b (off + 5) k1 n1 p1 c1 kk1.len a1 cap1 := by simp only [Nat.one_mul] at t10 t11 t12 t13 t14; exact ⟨t10, t11, t12, t13, t14⟩
  have N2 : NodeAt w2 b (off + 10) k2 n2 p2 c2 kk2.len a2 cap2 := ⟨t20, t21, t22, t23, t24⟩
  have HEV : Hid (nodE nA fs (evE nA fs f) 8 n p c ks vars (s + 1) = bindE (evE nA fs f k0 n0 p0 c0 kk0 vars (s + 1)) fun v s => if nA.zer v = true then evE nA fs f k1 n1 p1 c1 kk1 vars s else evE nA fs f k2 n2 p2 c2 kk2 vars s) := by
    show (bindE (atE nA (evE nA fs f) ks 0 vars (s + 1)) fun v s => if nA.zer v = true then atE nA (evE nA fs f) ks 1 vars s else atE nA (evE nA fs f) ks 2 vars s) = _
    rw [atE_eq hd0]
    congr 1
    funext v s
    rw [atE_eq hd1, atE_eq hd2]
  generalize nodE nA fs (evE nA fs f) 8 n p c ks vars (s + 1) = R at HEV ⊢
  have HS := fun (W : World) (hk : Below w2.heap.size w2 W) => Lib.hid (iChoice hBv hV fi k0 n0 p0 c0 kk0 a0 cap0 k1 n1 p1 c1 kk1 a1 cap1 k2 n2 p2 c2 kk2 a2 cap2 av cav vars (s + 1) W (by omega) (by omega) hfi (e2.next hk) (P2.below (hk.mono (by omega))) (L2.keep (Kp.of_below hk)) hN (by omega) hcv hcv2 kn0 kt0 (kf0.agree (fun j _ h2 => hk.block j (by omega))) kl0 kn1 kt1 (kf1.agree (fun j _ h2 => hk.block j (by omega))) kl1 kn2 kt2 (kf2.agree (fun j _ h2 => hk.block j (by omega))) kl2)
  have HND := Lib.hid (iNodeIf n p c b off ks.len cap w2 (by omega) N0 N1 N2 (by omega))
  clear hk1
  clear hE hP hF hL P2 F2 hn ht e1 b1
  go_enter Tryz.func96, Tryz.ntmps96
  go_wp2_with fail
  rw [← hw1]
  rw [← hw2]
  clear hw1 hw2
  refine HND.out.mono ?_; rintro e w3 ⟨rfl, b3⟩
  clear HND x2 xf
  have q3 := q2.more b3
  have e3 := e2.next b3
  have hz3 := b3.size
  have qNum := fun W v => asNum_no W 178 v (by decide)
  have qVar := fun W v => asVar_no W 178 v (by decide)
  have qOp := fun W v => asOp_no W 178 v (by decide)
  have qNeg := fun W v => asNeg_no W 178 v (by decide)
  have qIf := fun W v => asIf_yes W v

  have HB4 : Hid (∀ o, Below w2.heap.size w2 (w3.alloc o)) := fun o => b3.alloc hz3 o
  go_wp2_with fail
  refine (HS _ (HB4.out _)).out.mono ?_; rintro e w5 ⟨q5, e5, v5, rfl, hv5⟩
  go_wp2_with fail
  go_ret2
  rw [HEV.out]
  exact .mk ((q2.more (HB4.out _)).trans q5) e5 rfl hv5

set_option maxRecDepth 100000 in
set_option maxHeartbeats 6400000 in
theorem iValueLet {fs : List Fn} {ap : Option Addr} {capp bv B f : Nat} (hBv : B ≤ bv) (hV : PV fs ap capp bv B f) (hVL : PL fs ap capp bv B f) (hFn : ∀ i, i < fs.length → fnB fs i = true) (hfl : fs.length ≤ 1048576) (fi : Nat) (n p c : Int) (ks : Fo) (a : Option Addr) (cap : Nat) (av : Option Addr) (cav : Nat) (vars : List Int) (s : Nat) (w : World)
    (hf : 3000 < f + 1 + s) (hs : s ≤ 3000) (h3 : ¬ s = 3000) (hfi : fi ≤ fs.length) (hn : nodeB fs (vars.length : Int) (fi : Int) 9 n p c ks.len = true) (ht : treeB fs (fi : Int) ks (vars.length : Int) 9 0 = true) (hE : EvAt w bv ap fs.length capp s) (hP : Pat w 0 B fs ap) (hF : Fat w 0 B ks a) (hkl : ks.len ≤ maxLen) (hL : Ls w bv av vars) (hN : Nums vars) (hvl : vars.length ≤ 412 + s) (hcv : vars.length ≤ cav) (hcv2 : cav ≤ 9223372036854775807) :
    Calls Tryz.prog 96 #[.pointer (some ⟨bv, 0, none⟩), .agg #[.int .i64 9, .int .i64 n, .int .i64 p, .int .i64 c, .slice a ks.len cap], .slice av vars.length cav] w (VRes bv ap fs.length capp w (evE nA fs (f + 1) 9 n p c ks vars s)) := by
  have h3b : ((s : Int) == 3000) = false := ne_beq (by omega)
  have hbw := cell_lt hE.c0
  have hne : w.heap.size ≠ bv := by omega
  have hne2 : ¬ bv = w.heap.size := by omega
  rw [evE_go h3]
  obtain ⟨w1, hw1⟩ : ∃ w1, w1 = w.setCell ⟨bv, 2, none⟩ (.int .i64 ((s : Int) + 1)) := ⟨_, rfl⟩
  have e1 : EvAt w1 bv ap fs.length capp (s + 1) := by rw [hw1]; exact hE.step
  have q1 : Kp (fun b => b = bv) w w1 := by rw [hw1]; exact Kp.set (p := ⟨bv, 2, none⟩) rfl
  have z1 : w1.heap.size = w.heap.size := by rw [hw1]; simp
  obtain ⟨w2, hw2⟩ : ∃ w2, w2 = w1.alloc (.cells #[.int .i64 9, .int .i64 n, .int .i64 p, .int .i64 c, .slice a ks.len cap] 137) := ⟨_, rfl⟩
  have b1 : Below w1.heap.size w1 w2 := by rw [hw2]; exact (Below.refl _ _).alloc (Nat.le_refl _) _
  have e2 := e1.next b1
  have q2 := q1.more b1
  have x2 := hE.c2
  have xf := hE.fz 2
  have P2 := hP.keepE q2 hBv hbw
  have F2 := hF.keepE q2 hBv hbw
  have L2 := hL.keep q2
  have hz12 := b1.size
  have hk1 : ks.len = 2 := by have := (node_kids hn (by omega)).1; have : kidsNo 9 = 2 := rfl; omega
  obtain ⟨b, off, rfl, hbB⟩ := F2.blk (by omega)
  obtain ⟨k0, n0, p0, c0, kk0, a0, cap0, hd0, hR0, kl0, t00, t01, t02, t03, t04, kf0⟩ := Fat.node F2 (i := 0) (by omega)
  obtain ⟨kn0, kt0⟩ := treeB_at ks 0 0 ht hd0
  obtain ⟨k1, n1, p1, c1, kk1, a1, cap1, hd1, hR1, kl1, t10, t11, t12, t13, t14, kf1⟩ := Fat.node F2 (i := 1) (by omega)
  obtain ⟨kn1, kt1⟩ := treeB_at ks 0 1 ht hd1
  have m0 : more 9 (0 + 0) = 0 := rfl
  have m1 : more 9 (0 + 1) = 1 := rfl
  rw [m0, Int.add_zero] at kn0 kt0
  rw [m1] at kn1 kt1
  have N0 : NodeAt w2 b off k0 n0 p0 c0 kk0.len a0 cap0 := by simp only [Nat.zero_mul, Nat.add_zero] at t00 t01 t02 t03 t04; exact ⟨t00, t01, t02, t03, t04⟩
  have N1 : NodeAt w2 b (off + 5) k1 n1 p1 c1 kk1.len a1 cap1 := by simp only [Nat.one_mul] at t10 t11 t12 t13 t14; exact ⟨t10, t11, t12, t13, t14⟩
  have HEV : Hid (nodE nA fs (evE nA fs f) 9 n p c ks vars (s + 1) = bindE (evE nA fs f k0 n0 p0 c0 kk0 vars (s + 1)) fun v s => evE nA fs f k1 n1 p1 c1 kk1 (vars ++ [v]) s) := by
    show (bindE (atE nA (evE nA fs f) ks 0 vars (s + 1)) fun v s => atE nA (evE nA fs f) ks 1 (vars ++ [v]) s) = _
    rw [atE_eq hd0]
    congr 1
    funext v s
    rw [atE_eq hd1]
  generalize nodE nA fs (evE nA fs f) 9 n p c ks vars (s + 1) = R at HEV ⊢
  have HS := fun (W : World) (hk : Below w2.heap.size w2 W) => Lib.hid (iBinding hBv hV fi k0 n0 p0 c0 kk0 a0 cap0 k1 n1 p1 c1 kk1 a1 cap1 av cav vars (s + 1) W (by omega) (by omega) hfi (e2.next hk) (P2.below (hk.mono (by omega))) (L2.keep (Kp.of_below hk)) hN (by omega) hcv hcv2 kn0 kt0 (kf0.agree (fun j _ h2 => hk.block j (by omega))) kl0 kn1 kt1 (kf1.agree (fun j _ h2 => hk.block j (by omega))) kl1)
  have HND := Lib.hid (iNodeLet n p c b off ks.len cap w2 (by omega) N0 N1 (by omega))
  clear hk1
  clear hE hP hF hL P2 F2 hn ht e1 b1
  go_enter Tryz.func96, Tryz.ntmps96
  go_wp2_with fail
  rw [← hw1]
  rw [← hw2]
  clear hw1 hw2
  refine HND.out.mono ?_; rintro e w3 ⟨rfl, b3⟩
  clear HND x2 xf
  have q3 := q2.more b3
  have e3 := e2.next b3
  have hz3 := b3.size
  have qNum := fun W v => asNum_no W 181 v (by decide)
  have qVar := fun W v => asVar_no W 181 v (by decide)
  have qOp := fun W v => asOp_no W 181 v (by decide)
  have qNeg := fun W v => asNeg_no W 181 v (by decide)
  have qIf := fun W v => asIf_no W 181 v (by decide)
  have qLet := fun W v => asLet_yes W v

  have HB4 : Hid (∀ o, Below w2.heap.size w2 (w3.alloc o)) := fun o => b3.alloc hz3 o
  go_wp2_with fail
  refine (HS _ (HB4.out _)).out.mono ?_; rintro e w5 ⟨q5, e5, v5, rfl, hv5⟩
  go_wp2_with fail
  go_ret2
  rw [HEV.out]
  exact .mk ((q2.more (HB4.out _)).trans q5) e5 rfl hv5

set_option maxRecDepth 100000 in
set_option maxHeartbeats 6400000 in
theorem iValueCall {fs : List Fn} {ap : Option Addr} {capp bv B f : Nat} (hBv : B ≤ bv) (hV : PV fs ap capp bv B f) (hVL : PL fs ap capp bv B f) (hFn : ∀ i, i < fs.length → fnB fs i = true) (hfl : fs.length ≤ 1048576) (fi : Nat) (n p c : Int) (ks : Fo) (a : Option Addr) (cap : Nat) (av : Option Addr) (cav : Nat) (vars : List Int) (s : Nat) (w : World)
    (hf : 3000 < f + 1 + s) (hs : s ≤ 3000) (h3 : ¬ s = 3000) (hfi : fi ≤ fs.length) (hn : nodeB fs (vars.length : Int) (fi : Int) 10 n p c ks.len = true) (ht : treeB fs (fi : Int) ks (vars.length : Int) 10 0 = true) (hE : EvAt w bv ap fs.length capp s) (hP : Pat w 0 B fs ap) (hF : Fat w 0 B ks a) (hkl : ks.len ≤ maxLen) (hL : Ls w bv av vars) (hN : Nums vars) (hvl : vars.length ≤ 412 + s) (hcv : vars.length ≤ cav) (hcv2 : cav ≤ 9223372036854775807) :
    Calls Tryz.prog 96 #[.pointer (some ⟨bv, 0, none⟩), .agg #[.int .i64 10, .int .i64 n, .int .i64 p, .int .i64 c, .slice a ks.len cap], .slice av vars.length cav] w (VRes bv ap fs.length capp w (evE nA fs (f + 1) 10 n p c ks vars s)) := by
  have h3b : ((s : Int) == 3000) = false := ne_beq (by omega)
  have hbw := cell_lt hE.c0
  have hne : w.heap.size ≠ bv := by omega
  have hne2 : ¬ bv = w.heap.size := by omega
  rw [evE_go h3]
  obtain ⟨w1, hw1⟩ : ∃ w1, w1 = w.setCell ⟨bv, 2, none⟩ (.int .i64 ((s : Int) + 1)) := ⟨_, rfl⟩
  have e1 : EvAt w1 bv ap fs.length capp (s + 1) := by rw [hw1]; exact hE.step
  have q1 : Kp (fun b => b = bv) w w1 := by rw [hw1]; exact Kp.set (p := ⟨bv, 2, none⟩) rfl
  have z1 : w1.heap.size = w.heap.size := by rw [hw1]; simp
  obtain ⟨w2, hw2⟩ : ∃ w2, w2 = w1.alloc (.cells #[.int .i64 10, .int .i64 n, .int .i64 p, .int .i64 c, .slice a ks.len cap] 137) := ⟨_, rfl⟩
  have b1 : Below w1.heap.size w1 w2 := by rw [hw2]; exact (Below.refl _ _).alloc (Nat.le_refl _) _
  have e2 := e1.next b1
  have q2 := q1.more b1
  have x2 := hE.c2
  have xf := hE.fz 2
  have P2 := hP.keepE q2 hBv hbw
  have F2 := hF.keepE q2 hBv hbw
  have L2 := hL.keep q2
  have hz12 := b1.size
  obtain ⟨r1, r2, r3, _⟩ := node_call hn (.inl rfl)
  have HEV : Hid (nodE nA fs (evE nA fs f) 10 n p c ks vars (s + 1) = bindL nA (lisE nA (evE nA fs f) ks vars (s + 1) ks.len) fun l s => atE nA (evE nA fs f) (fs.getD n.toNat noFn).outs p.toNat l s) := rfl
  generalize nodE nA fs (evE nA fs f) 10 n p c ks vars (s + 1) = R at HEV ⊢
  have HS := fun (W : World) (hk : Below w2.heap.size w2 W) => Lib.hid (iCall hBv hV hVL hFn hfl fi n p ks a cap av cav vars (s + 1) W (by omega) (by omega) hfi (e2.next hk) (P2.below (hk.mono (by omega))) (L2.keep (Kp.of_below hk)) hN (by omega) hcv hcv2 r1 r2 r3 ht (F2.agree (fun j _ h2 => hk.block j (by omega))))
  clear r1 r2 r3
  have HND := Lib.hid (iNodeCall n p c a ks.len cap w2)
  clear hE hP hF hL P2 F2 hn ht e1 b1
  go_enter Tryz.func96, Tryz.ntmps96
  go_wp2_with fail
  rw [← hw1]
  rw [← hw2]
  clear hw1 hw2
  refine HND.out.mono ?_; rintro e w3 ⟨rfl, b3⟩
  clear HND x2 xf
  have q3 := q2.more b3
  have e3 := e2.next b3
  have hz3 := b3.size
  have qNum := fun W v => asNum_no W 184 v (by decide)
  have qVar := fun W v => asVar_no W 184 v (by decide)
  have qOp := fun W v => asOp_no W 184 v (by decide)
  have qNeg := fun W v => asNeg_no W 184 v (by decide)
  have qIf := fun W v => asIf_no W 184 v (by decide)
  have qLet := fun W v => asLet_no W 184 v (by decide)
  have qCall := fun W v => asCall_yes W v

  have HB4 : Hid (∀ o, Below w2.heap.size w2 (w3.alloc o)) := fun o => b3.alloc hz3 o
  go_wp2_with fail
  refine (HS _ (HB4.out _)).out.mono ?_; rintro e w5 ⟨q5, e5, v5, rfl, hv5⟩
  go_wp2_with fail
  go_ret2
  rw [HEV.out]
  exact .mk ((q2.more (HB4.out _)).trans q5) e5 rfl hv5

set_option maxRecDepth 100000 in
set_option maxHeartbeats 6400000 in
theorem iValueLoop {fs : List Fn} {ap : Option Addr} {capp bv B f : Nat} (hBv : B ≤ bv) (hV : PV fs ap capp bv B f) (hVL : PL fs ap capp bv B f) (hFn : ∀ i, i < fs.length → fnB fs i = true) (hfl : fs.length ≤ 1048576) (fi : Nat) (n p c : Int) (ks : Fo) (a : Option Addr) (cap : Nat) (av : Option Addr) (cav : Nat) (vars : List Int) (s : Nat) (w : World)
    (hf : 3000 < f + 1 + s) (hs : s ≤ 3000) (h3 : ¬ s = 3000) (hfi : fi ≤ fs.length) (hn : nodeB fs (vars.length : Int) (fi : Int) 11 n p c ks.len = true) (ht : treeB fs (fi : Int) ks (vars.length : Int) 11 0 = true) (hE : EvAt w bv ap fs.length capp s) (hP : Pat w 0 B fs ap) (hF : Fat w 0 B ks a) (hkl : ks.len ≤ maxLen) (hL : Ls w bv av vars) (hN : Nums vars) (hvl : vars.length ≤ 412 + s) (hcv : vars.length ≤ cav) (hcv2 : cav ≤ 9223372036854775807) :
    Calls Tryz.prog 96 #[.pointer (some ⟨bv, 0, none⟩), .agg #[.int .i64 11, .int .i64 n, .int .i64 p, .int .i64 c, .slice a ks.len cap], .slice av vars.length cav] w (VRes bv ap fs.length capp w (evE nA fs (f + 1) 11 n p c ks vars s)) := by
  have h3b : ((s : Int) == 3000) = false := ne_beq (by omega)
  have hbw := cell_lt hE.c0
  have hne : w.heap.size ≠ bv := by omega
  have hne2 : ¬ bv = w.heap.size := by omega
  rw [evE_go h3]
  obtain ⟨w1, hw1⟩ : ∃ w1, w1 = w.setCell ⟨bv, 2, none⟩ (.int .i64 ((s : Int) + 1)) := ⟨_, rfl⟩
  have e1 : EvAt w1 bv ap fs.length capp (s + 1) := by rw [hw1]; exact hE.step
  have q1 : Kp (fun b => b = bv) w w1 := by rw [hw1]; exact Kp.set (p := ⟨bv, 2, none⟩) rfl
  have z1 : w1.heap.size = w.heap.size := by rw [hw1]; simp
  obtain ⟨w2, hw2⟩ : ∃ w2, w2 = w1.alloc (.cells #[.int .i64 11, .int .i64 n, .int .i64 p, .int .i64 c, .slice a ks.len cap] 137) := ⟨_, rfl⟩
  have b1 : Below w1.heap.size w1 w2 := by rw [hw2]; exact (Below.refl _ _).alloc (Nat.le_refl _) _
  have e2 := e1.next b1
  have q2 := q1.more b1
  have x2 := hE.c2
  have xf := hE.fz 2
  have P2 := hP.keepE q2 hBv hbw
  have F2 := hF.keepE q2 hBv hbw
  have L2 := hL.keep q2
  have hz12 := b1.size
  obtain ⟨r1, r2, r3, r4⟩ := node_call hn (.inr rfl)
  obtain ⟨r5, r6⟩ := r4 rfl
  have HEV : Hid (nodE nA fs (evE nA fs f) 11 n p c ks vars (s + 1) = bindL nA (lopE nA (evE nA fs f) (fs.getD n.toNat noFn).outs (lisE nA (evE nA fs f) ks vars (s + 1) ks.len) c.toNat) fun l s => ⟨l.getD p.toNat (nA.cst 0), s, 0⟩) := rfl
  generalize nodE nA fs (evE nA fs f) 11 n p c ks vars (s + 1) = R at HEV ⊢
  have HS := fun (W : World) (hk : Below w2.heap.size w2 W) => Lib.hid (iLoop hBv hVL hFn hfl fi n p c ks a cap av cav vars (s + 1) W (by omega) (by omega) hfi (e2.next hk) (P2.below (hk.mono (by omega))) (L2.keep (Kp.of_below hk)) hN (by omega) hcv hcv2 r1 r2 r3 r5 r6 ht (F2.agree (fun j _ h2 => hk.block j (by omega))))
  clear r1 r2 r3 r4 r5 r6
  have HND := Lib.hid (iNodeLoop n p c a ks.len cap w2)
  clear hE hP hF hL P2 F2 hn ht e1 b1
  go_enter Tryz.func96, Tryz.ntmps96
  go_wp2_with fail
  rw [← hw1]
  rw [← hw2]
  clear hw1 hw2
  refine HND.out.mono ?_; rintro e w3 ⟨rfl, b3⟩
  clear HND x2 xf
  have q3 := q2.more b3
  have e3 := e2.next b3
  have hz3 := b3.size
  have qNum := fun W v => asNum_no W 187 v (by decide)
  have qVar := fun W v => asVar_no W 187 v (by decide)
  have qOp := fun W v => asOp_no W 187 v (by decide)
  have qNeg := fun W v => asNeg_no W 187 v (by decide)
  have qIf := fun W v => asIf_no W 187 v (by decide)
  have qLet := fun W v => asLet_no W 187 v (by decide)
  have qCall := fun W v => asCall_no W 187 v (by decide)
  have qLoop := fun W v => asLoop_yes W v

  have HB4 : Hid (∀ o, Below w2.heap.size w2 (w3.alloc o)) := fun o => b3.alloc hz3 o
  go_wp2_with fail
  refine (HS _ (HB4.out _)).out.mono ?_; rintro e w5 ⟨q5, e5, v5, rfl, hv5⟩
  go_wp2_with fail
  go_ret2
  rw [HEV.out]
  exact .mk ((q2.more (HB4.out _)).trans q5) e5 rfl hv5

set_option maxRecDepth 100000 in
set_option maxHeartbeats 6400000 in
theorem iValueOp {fs : List Fn} {ap : Option Addr} {capp bv B f : Nat} (hBv : B ≤ bv) (hV : PV fs ap capp bv B f) (hVL : PL fs ap capp bv B f) (hFn : ∀ i, i < fs.length → fnB fs i = true) (hfl : fs.length ≤ 1048576) (fi : Nat) (k : Int) (n p c : Int) (ks : Fo) (a : Option Addr) (cap : Nat) (av : Option Addr) (cav : Nat) (vars : List Int) (s : Nat) (w : World)
    (hf : 3000 < f + 1 + s) (hs : s ≤ 3000) (h3 : ¬ s = 3000) (hfi : fi ≤ fs.length) (hko : k ≠ 1 ∧ k ≠ 2 ∧ k ≠ 7 ∧ k ≠ 8 ∧ k ≠ 9 ∧ k ≠ 10 ∧ k ≠ 11) (hn : nodeB fs (vars.length : Int) (fi : Int) k n p c ks.len = true) (ht : treeB fs (fi : Int) ks (vars.length : Int) k 0 = true) (hE : EvAt w bv ap fs.length capp s) (hP : Pat w 0 B fs ap) (hF : Fat w 0 B ks a) (hkl : ks.len ≤ maxLen) (hL : Ls w bv av vars) (hN : Nums vars) (hvl : vars.length ≤ 412 + s) (hcv : vars.length ≤ cav) (hcv2 : cav ≤ 9223372036854775807) :
    Calls Tryz.prog 96 #[.pointer (some ⟨bv, 0, none⟩), .agg #[.int .i64 k, .int .i64 n, .int .i64 p, .int .i64 c, .slice a ks.len cap], .slice av vars.length cav] w (VRes bv ap fs.length capp w (evE nA fs (f + 1) k n p c ks vars s)) := by
  have h3b : ((s : Int) == 3000) = false := ne_beq (by omega)
  have hbw := cell_lt hE.c0
  have hne : w.heap.size ≠ bv := by omega
  have hne2 : ¬ bv = w.heap.size := by omega
  rw [evE_go h3]
  obtain ⟨w1, hw1⟩ : ∃ w1, w1 = w.setCell ⟨bv, 2, none⟩ (.int .i64 ((s : Int) + 1)) := ⟨_, rfl⟩
  have e1 : EvAt w1 bv ap fs.length capp (s + 1) := by rw [hw1]; exact hE.step
  have q1 : Kp (fun b => b = bv) w w1 := by rw [hw1]; exact Kp.set (p := ⟨bv, 2, none⟩) rfl
  have z1 : w1.heap.size = w.heap.size := by rw [hw1]; simp
  obtain ⟨w2, hw2⟩ : ∃ w2, w2 = w1.alloc (.cells #[.int .i64 k, .int .i64 n, .int .i64 p, .int .i64 c, .slice a ks.len cap] 137) := ⟨_, rfl⟩
  have b1 : Below w1.heap.size w1 w2 := by rw [hw2]; exact (Below.refl _ _).alloc (Nat.le_refl _) _
  have e2 := e1.next b1
  have q2 := q1.more b1
  have x2 := hE.c2
  have xf := hE.fz 2
  have P2 := hP.keepE q2 hBv hbw
  have F2 := hF.keepE q2 hBv hbw
  have L2 := hL.keep q2
  have hz12 := b1.size
  have hk1 : ks.len = 2 := by
    have h := (node_kids hn (by omega)).1
    have := node_kind hn
    have e : kidsNo k = 2 := by unfold kidsNo; rw [if_neg (by omega), if_pos (by omega)]
    omega
  have HEV : Hid (nodE nA fs (evE nA fs f) k n p c ks vars (s + 1) = bindL nA (lisE nA (evE nA fs f) ks vars (s + 1) ks.len) fun l s => opE nA k l s) := by
    show _ = _
    unfold nodE
    rw [if_neg (by omega), if_neg (by omega), if_neg (by omega), if_neg (by omega), if_neg (by omega), if_neg (by omega), if_neg (by omega)]
  generalize nodE nA fs (evE nA fs f) k n p c ks vars (s + 1) = R at HEV ⊢
  have HS := fun (W : World) (hk : Below w2.heap.size w2 W) => Lib.hid (iOperation hBv hVL fi k ks a cap av cav vars (s + 1) W (by omega) (by omega) hfi (e2.next hk) (P2.below (hk.mono (by omega))) (L2.keep (Kp.of_below hk)) hN (by omega) hcv hcv2 (by omega) ht (F2.agree (fun j _ h2 => hk.block j (by omega))) hk1)
  have HND := Lib.hid (iNodeOp k n p c a ks.len cap w2 hko)
  clear hk1
  clear hE hP hF hL P2 F2 hn ht e1 b1
  go_enter Tryz.func96, Tryz.ntmps96
  go_wp2_with fail
  rw [← hw1]
  rw [← hw2]
  clear hw1 hw2
  refine HND.out.mono ?_; rintro e w3 ⟨rfl, b3⟩
  clear HND x2 xf
  have q3 := q2.more b3
  have e3 := e2.next b3
  have hz3 := b3.size
  have qNum := fun W v => asNum_no W 172 v (by decide)
  have qVar := fun W v => asVar_no W 172 v (by decide)
  have qOp := fun W v => asOp_yes W v

  have HB4 : Hid (∀ o, Below w2.heap.size w2 (w3.alloc o)) := fun o => b3.alloc hz3 o
  go_wp2_with fail
  refine (HS _ (HB4.out _)).out.mono ?_; rintro e w5 ⟨q5, e5, v5, rfl, hv5⟩
  go_wp2_with fail
  go_ret2
  rw [HEV.out]
  exact .mk ((q2.more (HB4.out _)).trans q5) e5 rfl hv5

end Go.Proofs.YtoedccgiahegnaaGreat
