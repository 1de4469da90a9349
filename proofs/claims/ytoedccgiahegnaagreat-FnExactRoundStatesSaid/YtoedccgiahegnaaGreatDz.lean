/- One more step, or none. The program's evaluation with pairs: each node. -/
import Derived.Deep.RegionWith
import Derived.Deep.RegionHeld3
import Derived.Test.YtoedccgiahegnaaGreatDa
import Derived.Test.YtoedccgiahegnaaGreatDxo
import Derived.Test.YtoedccgiahegnaaGreatDyb
import Derived.Test.YtoedccgiahegnaaGreatDyc
import Derived.Test.YtoedccgiahegnaaGreatDyl
namespace Go.Proofs.YtoedccgiahegnaaGreat
open Go.RowKit
set_option linter.unusedVariables false

theorem evE_go {V : Type} {A : Ar V} {fs : List Fn} {f : Nat} {k n p c : Int} {ks : Fo} {vars : List V} {s : Nat} (h : ¬ s = 3000) : evE A fs (f + 1) k n p c ks vars s = nodE A fs (evE A fs f) k n p c ks vars (s + 1) := if_neg h
theorem evE_end {V : Type} {A : Ar V} {fs : List Fn} {f : Nat} {k n p c : Int} {ks : Fo} {vars : List V} {s : Nat} (h : s = 3000) : evE A fs (f + 1) k n p c ks vars s = ⟨A.cst 0, s, 7⟩ := if_pos h

end Go.Proofs.YtoedccgiahegnaaGreat

namespace Go.Proofs.YtoedccgiahegnaaGreat
open Go.RowKit
set_option linter.unusedVariables false

namespace Pr
theorem EvAt.step {w : World} {bv : Nat} {ap : Option Addr} {fl capp s : Nat} (h : EvAt w bv ap fl capp s) : EvAt (w.setCell ⟨bv, 2, none⟩ (.int .i64 ((s : Int) + 1))) bv ap fl capp (s + 1) :=
  ⟨(World.cell?_setCell_other _ _ _ _ (by simp)).trans h.c0, (World.cell?_setCell_other _ _ _ _ (by simp)).trans h.c1, by rw [World.cell?_setCell_same _ _ _ h.c2, Int.natCast_add]; rfl, fun o => (World.frozen?_setCell _ _ _ _).trans (h.fz o)⟩

set_option maxRecDepth 100000 in
set_option maxHeartbeats 6400000 in
theorem iValueNum {fs : List Fn} {ap : Option Addr} {capp bv B f : Nat} (hBv : B ≤ bv) (hV : PV fs ap capp bv B f) (hVL : PL fs ap capp bv B f) (hFn : ∀ i, i < fs.length → fnB fs i = true) (hfl : fs.length ≤ 1048576) (fi : Nat) (n p c : Int) (ks : Fo) (a : Option Addr) (cap : Nat) (av : Option Addr) (cav : Nat) (vars : List (Int × Int)) (s : Nat) (w : World)
    (hf : 3000 < f + 1 + s) (hs : s ≤ 3000) (h3 : ¬ s = 3000) (hfi : fi ≤ fs.length) (hn : nodeB fs (vars.length : Int) (fi : Int) 1 n p c ks.len = true) (ht : treeB fs (fi : Int) ks (vars.length : Int) 1 0 = true) (hE : EvAt w bv ap fs.length capp s) (hP : Pat w 0 B fs ap) (hF : Fat w 0 B ks a) (hkl : ks.len ≤ maxLen) (hL : Ls w bv av vars) (hN : Nums vars) (hvl : vars.length ≤ 412 + s) (hcv : vars.length ≤ cav) (hcv2 : cav ≤ 9223372036854775807) :
    Calls Tryz.prog 122 #[.pointer (some ⟨bv, 0, none⟩), .agg #[.int .i64 1, .int .i64 n, .int .i64 p, .int .i64 c, .slice a ks.len cap], .slice av vars.length cav] w (VRes bv ap fs.length capp w (evE pA fs (f + 1) 1 n p c ks vars s)) := by
  have h3b : ((s : Int) == 3000) = false := ne_beq (by omega)
  have hbw := cell_lt hE.c0
  have hne : w.heap.size ≠ bv := by omega
  have hne2 : ¬ bv = w.heap.size := by omega
  rw [evE_go h3]
  obtain ⟨wA, hwA⟩ : ∃ wA, ((w.alloc (.cells #[.int .i64 1, .int .i64 n, .int .i64 p, .int .i64 c, .slice a ks.len cap] 137)).alloc (.cells #[.int .i64 0, .int .i64 0] 121)).alloc (.cells #[.int .i64 0, .int .i64 0] 121) = wA := ⟨_, rfl⟩
  have bA : Below w.heap.size w wA := by rw [← hwA]; exact (((Below.refl _ _).alloc (Nat.le_refl _) _).alloc (by simp) _).alloc (by simp; omega) _
  have zA : wA.heap.size = w.heap.size + 3 := by rw [← hwA]; simp
  have g0 : wA.cell? ⟨w.heap.size, 0, none⟩ = some (.int .i64 1) := by rw [← hwA]; simp [go_sem]
  have g1 : wA.cell? ⟨w.heap.size, 1, none⟩ = some (.int .i64 n) := by rw [← hwA]; simp [go_sem]
  have g2 : wA.cell? ⟨w.heap.size, 2, none⟩ = some (.int .i64 p) := by rw [← hwA]; simp [go_sem]
  have g3 : wA.cell? ⟨w.heap.size, 3, none⟩ = some (.int .i64 c) := by rw [← hwA]; simp [go_sem]
  have g4 : wA.cell? ⟨w.heap.size, 4, none⟩ = some (.slice a ks.len cap) := by rw [← hwA]; simp [go_sem]
  have PA : PB wA (w.heap.size + 1) := by
    rw [← hwA]
    exact ⟨by simp, ⟨0, by simp [go_sem]⟩, ⟨0, by simp [go_sem]⟩, by simp [go_sem], by simp [go_sem]⟩
  have eA := hE.next bA
  have x2 := eA.c2
  have xf := eA.fz 2
  obtain ⟨w2, hw2⟩ : ∃ w2, w2 = wA.setCell ⟨bv, 2, none⟩ (.int .i64 ((s : Int) + 1)) := ⟨_, rfl⟩
  have e2 : EvAt w2 bv ap fs.length capp (s + 1) := by rw [hw2]; exact eA.step
  have kA : Kp (fun b => b = bv) wA w2 := by rw [hw2]; exact Kp.set (p := ⟨bv, 2, none⟩) rfl
  have q2 := (Kp.of_below (S := fun b => b = bv) bA).trans kA
  have PR := Lib.hid (PA.keep kA (show ¬ w.heap.size + 1 = bv by omega))
  have hRb : w.heap.size + 1 ≠ bv := by omega
  have z2 : w2.heap.size = wA.heap.size := by rw [hw2]; simp
  have P2 := hP.keepE q2 hBv hbw
  have F2 := hF.keepE q2 hBv hbw
  have L2 := hL.keep q2
  obtain ⟨hn0, hn1⟩ := (node_kids hn (by omega)).2.1 rfl
  have HND := Lib.hid (iNodeNum n p c a ks.len cap w2)
  clear hE hP hF hL P2 F2 hn ht PA eA bA kA
  go_enter Tryz.func122, Tryz.ntmps122
  go_wp2_with fail
  rw [← hw2]
  clear hw2 hwA g0 g1 g2 g3 g4 z2 zA
  refine HND.out.mono ?_; rintro e w3 ⟨rfl, b3⟩
  clear HND x2 xf
  have q3 := q2.more b3
  have e3 := e2.next b3
  have hz3 := b3.size
  have qNum := fun W v => asNum_yes W v

  have x0 := e3.c0
  have nA1 := cstAhead
  have nA2 := cstMeth
  have HNG := fun W => Lib.hid (pConst n W)
  obtain ⟨w4, hw4⟩ : ∃ w4, w4 = w3.alloc (.cells #[.int .i64 n] 168) := ⟨_, rfl⟩
  have b4 : Below w3.heap.size w3 w4 := by rw [hw4]; exact (Below.refl _ _).alloc (Nat.le_refl _) _
  have x04 := (e3.next b4).c0
  have y04 : w4.cell? ⟨w3.heap.size, 0, none⟩ = some (.int .i64 n) := by rw [hw4]; simp [go_sem]
  have HEV : Hid (nodE pA fs (evE pA fs f) 1 n p c ks vars (s + 1) = ⟨(n, 0), s + 1, 0⟩) := rfl
  go_wp2_with fail
  rw [← hw4]
  clear hw4
  go_region_with (go_at_call 182; refine (HNG _).out.mono ?_; rintro e w5 ⟨rfl, b5⟩; have b5' : Below w4.heap.size w4 w5 := ⟨b5.os, b5.tape, b5.output, b5.size, b5.block⟩; obtain ⟨hRl, ⟨u0, r0⟩, ⟨u1, r1⟩, f0, f1⟩ := ((PR.out.next b3).next b4).next b5')
  all_goals go_wp2_with fail
  all_goals refine bodyPost_ret (v := .tuple #[.agg #[.int .i64 n, .int .i64 0], .int .i64 0]) (by simp [results, Tryz.results122, go_sem, r0, r1]) rfl ?_
  all_goals rw [HEV.out]
  all_goals exact .mk (v := (n, 0)) (kp_pair ((q3.more b4).more b5') (by omega) _ _) (((e3.next b4).next b5').pair hRb _ _) rfl (fun _ => ⟨rfl, ⟨hn0, hn1⟩, by show (0 : Int) ≤ 0; omega, by show (0 : Int) < 1000003; omega⟩)

set_option maxRecDepth 100000 in
set_option maxHeartbeats 6400000 in
theorem iValueVar {fs : List Fn} {ap : Option Addr} {capp bv B f : Nat} (hBv : B ≤ bv) (hV : PV fs ap capp bv B f) (hVL : PL fs ap capp bv B f) (hFn : ∀ i, i < fs.length → fnB fs i = true) (hfl : fs.length ≤ 1048576) (fi : Nat) (n p c : Int) (ks : Fo) (a : Option Addr) (cap : Nat) (av : Option Addr) (cav : Nat) (vars : List (Int × Int)) (s : Nat) (w : World)
    (hf : 3000 < f + 1 + s) (hs : s ≤ 3000) (h3 : ¬ s = 3000) (hfi : fi ≤ fs.length) (hn : nodeB fs (vars.length : Int) (fi : Int) 2 n p c ks.len = true) (ht : treeB fs (fi : Int) ks (vars.length : Int) 2 0 = true) (hE : EvAt w bv ap fs.length capp s) (hP : Pat w 0 B fs ap) (hF : Fat w 0 B ks a) (hkl : ks.len ≤ maxLen) (hL : Ls w bv av vars) (hN : Nums vars) (hvl : vars.length ≤ 412 + s) (hcv : vars.length ≤ cav) (hcv2 : cav ≤ 9223372036854775807) :
    Calls Tryz.prog 122 #[.pointer (some ⟨bv, 0, none⟩), .agg #[.int .i64 2, .int .i64 n, .int .i64 p, .int .i64 c, .slice a ks.len cap], .slice av vars.length cav] w (VRes bv ap fs.length capp w (evE pA fs (f + 1) 2 n p c ks vars s)) := by
  have h3b : ((s : Int) == 3000) = false := ne_beq (by omega)
  have hbw := cell_lt hE.c0
  have hne : w.heap.size ≠ bv := by omega
  have hne2 : ¬ bv = w.heap.size := by omega
  rw [evE_go h3]
  obtain ⟨wA, hwA⟩ : ∃ wA, ((w.alloc (.cells #[.int .i64 2, .int .i64 n, .int .i64 p, .int .i64 c, .slice a ks.len cap] 137)).alloc (.cells #[.int .i64 0, .int .i64 0] 121)).alloc (.cells #[.int .i64 0, .int .i64 0] 121) = wA := ⟨_, rfl⟩
  have bA : Below w.heap.size w wA := by rw [← hwA]; exact (((Below.refl _ _).alloc (Nat.le_refl _) _).alloc (by simp) _).alloc (by simp; omega) _
  have zA : wA.heap.size = w.heap.size + 3 := by rw [← hwA]; simp
  have g0 : wA.cell? ⟨w.heap.size, 0, none⟩ = some (.int .i64 2) := by rw [← hwA]; simp [go_sem]
  have g1 : wA.cell? ⟨w.heap.size, 1, none⟩ = some (.int .i64 n) := by rw [← hwA]; simp [go_sem]
  have g2 : wA.cell? ⟨w.heap.size, 2, none⟩ = some (.int .i64 p) := by rw [← hwA]; simp [go_sem]
  have g3 : wA.cell? ⟨w.heap.size, 3, none⟩ = some (.int .i64 c) := by rw [← hwA]; simp [go_sem]
  have g4 : wA.cell? ⟨w.heap.size, 4, none⟩ = some (.slice a ks.len cap) := by rw [← hwA]; simp [go_sem]
  have PA : PB wA (w.heap.size + 1) := by
    rw [← hwA]
    exact ⟨by simp, ⟨0, by simp [go_sem]⟩, ⟨0, by simp [go_sem]⟩, by simp [go_sem], by simp [go_sem]⟩
  have eA := hE.next bA
  have x2 := eA.c2
  have xf := eA.fz 2
  obtain ⟨w2, hw2⟩ : ∃ w2, w2 = wA.setCell ⟨bv, 2, none⟩ (.int .i64 ((s : Int) + 1)) := ⟨_, rfl⟩
  have e2 : EvAt w2 bv ap fs.length capp (s + 1) := by rw [hw2]; exact eA.step
  have kA : Kp (fun b => b = bv) wA w2 := by rw [hw2]; exact Kp.set (p := ⟨bv, 2, none⟩) rfl
  have q2 := (Kp.of_below (S := fun b => b = bv) bA).trans kA
  have PR := Lib.hid (PA.keep kA (show ¬ w.heap.size + 1 = bv by omega))
  have hRb : w.heap.size + 1 ≠ bv := by omega
  have z2 : w2.heap.size = wA.heap.size := by rw [hw2]; simp
  have P2 := hP.keepE q2 hBv hbw
  have F2 := hF.keepE q2 hBv hbw
  have L2 := hL.keep q2
  obtain ⟨hn0, hn1⟩ := (node_kids hn (by omega)).2.2 rfl
  obtain ⟨j, rfl⟩ := Int.eq_ofNat_of_zero_le hn0
  have hj : j < vars.length := by omega
  have HEV : Hid (nodE pA fs (evE pA fs f) 2 (j : Int) p c ks vars (s + 1) = ⟨vars.getD j (0, 0), s + 1, 0⟩) := rfl
  generalize nodE pA fs (evE pA fs f) 2 (j : Int) p c ks vars (s + 1) = R at HEV ⊢
  have HND := Lib.hid (iNodeVar j p c a ks.len cap w2)
  clear hE hP hF hL P2 F2 hn ht PA eA bA kA
  go_enter Tryz.func122, Tryz.ntmps122
  go_wp2_with fail
  rw [← hw2]
  clear hw2 hwA g0 g1 g2 g3 g4 z2 zA
  refine HND.out.mono ?_; rintro e w3 ⟨rfl, b3⟩
  clear HND x2 xf
  have q3 := q2.more b3
  have e3 := e2.next b3
  have hz3 := b3.size
  have qNum := fun W v => asNum_no W 170 v (by decide)
  have qVar := fun W v => asVar_yes W v

  obtain ⟨bb, off, rfl, hbb, hcl⟩ := (L2.keep (Kp.of_below b3)).at_.resolve_left (by intro e; rw [e] at hj; simp at hj)
  obtain ⟨hx, hx1⟩ := hcl j hj
  have hxr := hN.at j
  clear hcl L2
  generalize vars.getD j (0, 0) = x at *
  generalize vars.length = ml at *
  obtain ⟨w4, hw4⟩ : ∃ w4, w3.alloc (.cells #[.int .i64 (j : Int)] 170) = w4 := ⟨_, rfl⟩
  have b4 : Below w3.heap.size w3 w4 := by rw [← hw4]; exact (Below.refl _ _).alloc (Nat.le_refl _) _
  have v0 : w4.cell? ⟨w3.heap.size, 0, none⟩ = some (.int .i64 (j : Int)) := by rw [← hw4]; simp [go_sem]
  replace hx := (b4.cell (p := ⟨bb, off + j * 2, none⟩) hbb).trans hx
  replace hx1 := (b4.cell (p := ⟨bb, off + j * 2 + 1, none⟩) hbb).trans hx1
  obtain ⟨hRl, ⟨u0, r0⟩, ⟨u1, r1⟩, f0, f1⟩ := (PR.out.next b3).next b4
  go_wp2_with fail
  refine bodyPost_ret (v := .tuple #[.agg #[.int .i64 x.1, .int .i64 x.2], .int .i64 0]) (by simp [results, Tryz.results122, go_sem, r0, r1]) rfl ?_
  rw [HEV.out]
  exact .mk (v := x) (kp_pair (q3.more b4) (by omega) _ _) ((e3.next b4).pair hRb _ _) rfl (fun _ => ⟨rfl, hxr⟩)

set_option maxRecDepth 100000 in
set_option maxHeartbeats 6400000 in
theorem iValueNeg {fs : List Fn} {ap : Option Addr} {capp bv B f : Nat} (hBv : B ≤ bv) (hV : PV fs ap capp bv B f) (hVL : PL fs ap capp bv B f) (hFn : ∀ i, i < fs.length → fnB fs i = true) (hfl : fs.length ≤ 1048576) (fi : Nat) (n p c : Int) (ks : Fo) (a : Option Addr) (cap : Nat) (av : Option Addr) (cav : Nat) (vars : List (Int × Int)) (s : Nat) (w : World)
    (hf : 3000 < f + 1 + s) (hs : s ≤ 3000) (h3 : ¬ s = 3000) (hfi : fi ≤ fs.length) (hn : nodeB fs (vars.length : Int) (fi : Int) 7 n p c ks.len = true) (ht : treeB fs (fi : Int) ks (vars.length : Int) 7 0 = true) (hE : EvAt w bv ap fs.length capp s) (hP : Pat w 0 B fs ap) (hF : Fat w 0 B ks a) (hkl : ks.len ≤ maxLen) (hL : Ls w bv av vars) (hN : Nums vars) (hvl : vars.length ≤ 412 + s) (hcv : vars.length ≤ cav) (hcv2 : cav ≤ 9223372036854775807) :
    Calls Tryz.prog 122 #[.pointer (some ⟨bv, 0, none⟩), .agg #[.int .i64 7, .int .i64 n, .int .i64 p, .int .i64 c, .slice a ks.len cap], .slice av vars.length cav] w (VRes bv ap fs.length capp w (evE pA fs (f + 1) 7 n p c ks vars s)) := by
  have h3b : ((s : Int) == 3000) = false := ne_beq (by omega)
  have hbw := cell_lt hE.c0
  have hne : w.heap.size ≠ bv := by omega
  have hne2 : ¬ bv = w.heap.size := by omega
  rw [evE_go h3]
  obtain ⟨wA, hwA⟩ : ∃ wA, ((w.alloc (.cells #[.int .i64 7, .int .i64 n, .int .i64 p, .int .i64 c, .slice a ks.len cap] 137)).alloc (.cells #[.int .i64 0, .int .i64 0] 121)).alloc (.cells #[.int .i64 0, .int .i64 0] 121) = wA := ⟨_, rfl⟩
  have bA : Below w.heap.size w wA := by rw [← hwA]; exact (((Below.refl _ _).alloc (Nat.le_refl _) _).alloc (by simp) _).alloc (by simp; omega) _
  have zA : wA.heap.size = w.heap.size + 3 := by rw [← hwA]; simp
  have g0 : wA.cell? ⟨w.heap.size, 0, none⟩ = some (.int .i64 7) := by rw [← hwA]; simp [go_sem]
  have g1 : wA.cell? ⟨w.heap.size, 1, none⟩ = some (.int .i64 n) := by rw [← hwA]; simp [go_sem]
  have g2 : wA.cell? ⟨w.heap.size, 2, none⟩ = some (.int .i64 p) := by rw [← hwA]; simp [go_sem]
  have g3 : wA.cell? ⟨w.heap.size, 3, none⟩ = some (.int .i64 c) := by rw [← hwA]; simp [go_sem]
  have g4 : wA.cell? ⟨w.heap.size, 4, none⟩ = some (.slice a ks.len cap) := by rw [← hwA]; simp [go_sem]
  have PA : PB wA (w.heap.size + 1) := by
    rw [← hwA]
    exact ⟨by simp, ⟨0, by simp [go_sem]⟩, ⟨0, by simp [go_sem]⟩, by simp [go_sem], by simp [go_sem]⟩
  have eA := hE.next bA
  have x2 := eA.c2
  have xf := eA.fz 2
  obtain ⟨w2, hw2⟩ : ∃ w2, w2 = wA.setCell ⟨bv, 2, none⟩ (.int .i64 ((s : Int) + 1)) := ⟨_, rfl⟩
  have e2 : EvAt w2 bv ap fs.length capp (s + 1) := by rw [hw2]; exact eA.step
  have kA : Kp (fun b => b = bv) wA w2 := by rw [hw2]; exact Kp.set (p := ⟨bv, 2, none⟩) rfl
  have q2 := (Kp.of_below (S := fun b => b = bv) bA).trans kA
  have PR := Lib.hid (PA.keep kA (show ¬ w.heap.size + 1 = bv by omega))
  have hRb : w.heap.size + 1 ≠ bv := by omega
  have z2 : w2.heap.size = wA.heap.size := by rw [hw2]; simp
  have P2 := hP.keepE q2 hBv hbw
  have F2 := hF.keepE q2 hBv hbw
  have L2 := hL.keep q2
  have hk1 : ks.len = 1 := by have := (node_kids hn (by omega)).1; have : kidsNo 7 = 1 := rfl; omega
  obtain ⟨b, off, rfl, hbB⟩ := F2.blk (by omega)
  obtain ⟨k0, n0, p0, c0, kk0, a0, cap0, hd0, hR0, kl0, t00, t01, t02, t03, t04, kf0⟩ := Fat.node F2 (i := 0) (by omega)
  obtain ⟨kn0, kt0⟩ := treeB_at ks 0 0 ht hd0
  have m0 : more 7 (0 + 0) = 0 := rfl
  rw [m0, Int.add_zero] at kn0 kt0
  have N0 : NodeAt w2 b off k0 n0 p0 c0 kk0.len a0 cap0 := by simp only [Nat.zero_mul, Nat.add_zero] at t00 t01 t02 t03 t04; exact ⟨t00, t01, t02, t03, t04⟩
  have HEV : Hid (nodE pA fs (evE pA fs f) 7 n p c ks vars (s + 1) = oneE (evE pA fs f k0 n0 p0 c0 kk0 vars (s + 1)) pA.neg) := by show oneE (atE pA (evE pA fs f) ks 0 vars (s + 1)) pA.neg = _; rw [atE_eq hd0]
  generalize nodE pA fs (evE pA fs f) 7 n p c ks vars (s + 1) = R at HEV ⊢
  have HS := fun (W : World) (hk : Below w2.heap.size w2 W) => Lib.hid (iNegation hBv hV fi k0 n0 p0 c0 kk0 a0 cap0 av cav vars (s + 1) W (by omega) (by omega) hfi (e2.next hk) (P2.below (hk.mono (by omega))) (L2.keep (Kp.of_below hk)) hN (by omega) hcv hcv2 kn0 kt0 (kf0.agree (fun j _ h2 => hk.block j (by omega))) kl0)
  have HND := Lib.hid (iNodeNeg n p c b off ks.len cap w2 (by omega) N0 (by omega))
  clear hk1
  clear hE hP hF hL P2 F2 hn ht PA eA bA kA
  go_enter Tryz.func122, Tryz.ntmps122
  go_wp2_with fail
  rw [← hw2]
  clear hw2 hwA g0 g1 g2 g3 g4 z2 zA
  refine HND.out.mono ?_; rintro e w3 ⟨rfl, b3⟩
  clear HND x2 xf
  have q3 := q2.more b3
  have e3 := e2.next b3
  have hz3 := b3.size
  have qNum := fun W v => asNum_no W 175 v (by decide)
  have qVar := fun W v => asVar_no W 175 v (by decide)
  have qOp := fun W v => asOp_no W 175 v (by decide)
  have qNeg := fun W v => asNeg_yes W v

  have HB4 : Hid (∀ o, Below w2.heap.size w2 (w3.alloc o)) := fun o => b3.alloc hz3 o
  go_wp2_with fail
  refine (HS _ (HB4.out _)).out.mono ?_; rintro e w5 ⟨q5, e5, v5, rfl, hv5⟩
  obtain ⟨hRl, ⟨u0, r0⟩, ⟨u1, r1⟩, f0, f1⟩ := (PR.out.next (HB4.out _)).keep q5 hRb
  go_wp2_with fail
  refine bodyPost_ret (v := .tuple #[.agg #[.int .i64 v5.1, .int .i64 v5.2], _]) (by simp [results, Tryz.results122, go_sem, r0, r1]; rfl) rfl ?_
  rw [HEV.out]
  exact .mk (v := v5) (kp_pair ((q2.more (HB4.out _)).trans q5) (by omega) _ _) (e5.pair hRb _ _) rfl hv5

set_option maxRecDepth 100000 in
set_option maxHeartbeats 6400000 in
theorem iValueIf {fs : List Fn} {ap : Option Addr} {capp bv B f : Nat} (hBv : B ≤ bv) (hV : PV fs ap capp bv B f) (hVL : PL fs ap capp bv B f) (hFn : ∀ i, i < fs.length → fnB fs i = true) (hfl : fs.length ≤ 1048576) (fi : Nat) (n p c : Int) (ks : Fo) (a : Option Addr) (cap : Nat) (av : Option Addr) (cav : Nat) (vars : List (Int × Int)) (s : Nat) (w : World)
    (hf : 3000 < f + 1 + s) (hs : s ≤ 3000) (h3 : ¬ s = 3000) (hfi : fi ≤ fs.length) (hn : nodeB fs (vars.length : Int) (fi : Int) 8 n p c ks.len = true) (ht : treeB fs (fi : Int) ks (vars.length : Int) 8 0 = true) (hE : EvAt w bv ap fs.length capp s) (hP : Pat w 0 B fs ap) (hF : Fat w 0 B ks a) (hkl : ks.len ≤ maxLen) (hL : Ls w bv av vars) (hN : Nums vars) (hvl : vars.length ≤ 412 + s) (hcv : vars.length ≤ cav) (hcv2 : cav ≤ 9223372036854775807) :
    Calls Tryz.prog 122 #[.pointer (some ⟨bv, 0, none⟩), .agg #[.int .i64 8, .int .i64 n, .int .i64 p, .int .i64 c, .slice a ks.len cap], .slice av vars.length cav] w (VRes bv ap fs.length capp w (evE pA fs (f + 1) 8 n p c ks vars s)) := by
  have h3b : ((s : Int) == 3000) = false := ne_beq (by omega)
  have hbw := cell_lt hE.c0
  have hne : w.heap.size ≠ bv := by omega
  have hne2 : ¬ bv = w.heap.size := by omega
  rw [evE_go h3]
  obtain ⟨wA, hwA⟩ : ∃ wA, ((w.alloc (.cells #[.int .i64 8, .int .i64 n, .int .i64 p, .int .i64 c, .slice a ks.len cap] 137)).alloc (.cells #[.int .i64 0, .int .i64 0] 121)).alloc (.cells #[.int .i64 0, .int .i64 0] 121) = wA := ⟨_, rfl⟩
  have bA : Below w.heap.size w wA := by rw [← hwA]; exact (((Below.refl _ _).alloc (Nat.le_refl _) _).alloc (by simp) _).alloc (by simp; omega) _
  have zA : wA.heap.size = w.heap.size + 3 := by rw [← hwA]; simp
  have g0 : wA.cell? ⟨w.heap.size, 0, none⟩ = some (.int .i64 8) := by rw [← hwA]; simp [go_sem]
  have g1 : wA.cell? ⟨w.heap.size, 1, none⟩ = some (.int .i64 n) := by rw [← hwA]; simp [go_sem]
  have g2 : wA.cell? ⟨w.heap.size, 2, none⟩ = some (.int .i64 p) := by rw [← hwA]; simp [go_sem]
  have g3 : wA.cell? ⟨w.heap.size, 3, none⟩ = some (.int .i64 c) := by rw [← hwA]; simp [go_sem]
  have g4 : wA.cell? ⟨w.heap.size, 4, none⟩ = some (.slice a ks.len cap) := by rw [← hwA]; simp [go_sem]
  have PA : PB wA (w.heap.size + 1) := by
    rw [← hwA]
    exact ⟨by simp, ⟨0, by simp [go_sem]⟩, ⟨0, by simp [go_sem]⟩, by simp [go_sem], by simp [go_sem]⟩
  have eA := hE.next bA
  have x2 := eA.c2
  have xf := eA.fz 2
  obtain ⟨w2, hw2⟩ : ∃ w2, w2 = wA.setCell ⟨bv, 2, none⟩ (.int .i64 ((s : Int) + 1)) := ⟨_, rfl⟩
  have e2 : EvAt w2 bv ap fs.length capp (s + 1) := by rw [hw2]; exact eA.step
  have kA : Kp (fun b => b = bv) wA w2 := by rw [hw2]; exact Kp.set (p := ⟨bv, 2, none⟩) rfl
  have q2 := (Kp.of_below (S := fun b => b = bv) bA).trans kA
  have PR := Lib.hid (PA.keep kA (show ¬ w.heap.size + 1 = bv by omega))
  have hRb : w.heap.size + 1 ≠ bv := by omega
  have z2 : w2.heap.size = wA.heap.size := by rw [hw2]; simp
  have P2 := hP.keepE q2 hBv hbw
  have F2 := hF.keepE q2 hBv hbw
  have L2 := hL.keep q2
  have hk1 : ks.len = 3 := by have := (node_kids hn (by omega)).1; have : kidsNo 8 = 3 := rfl; omega
  obtain ⟨b, off, rfl, hbB⟩ := F2.blk (by omega)
  obtain ⟨k0, n0, p0, c0, kk0, a0, cap0, hd0, hR0, kl0, t00, t01, t02, t03, t04, kf0⟩ := Fat.node F2 (i := 0) (by omega)
  obtain ⟨kn0, kt0⟩ := treeB_at ks 0 0 ht hd0
  obtain ⟨k1, n1, p1, c1, kk1, a1, cap1, hd1, hR1, kl1, t10, t11, t12, t13, t14, kf1⟩ := Fat.node F2 (i := 1) (by omega)
  obtain ⟨kn1, kt1⟩ := treeB_at ks 0 1 ht hd1
  obtain ⟨k2, n2, p2, c2, kk2, a2, cap2, hd2, hR2, kl2, t20, t21, t22, t23, t24, kf2⟩ := Fat.node F2 (i := 2) (by omega)
  obtain ⟨kn2, kt2⟩ := treeB_at ks 0 2 ht hd2
  have m0 : ∀ i, more 8 i = 0 := fun i => by unfold more; rw [if_neg (by omega)]
  rw [m0, Int.add_zero] at kn0 kt0 kn1 kt1 kn2 kt2
  have N0 : NodeAt w2 b off k0 n0 p0 c0 kk0.len a0 cap0 := by simp only [Nat.zero_mul, Nat.add_zero] at t00 t01 t02 t03 t04; exact ⟨t00, t01, t02, t03, t04⟩
  have N1 : NodeAt w2 b (off + 5) k1 n1 p1 c1 kk1.len a1 cap1 := by simp only [Nat.one_mul] at t10 t11 t12 t13 t14; exact ⟨t10, t11, t12, t13, t14⟩
  have N2 : NodeAt w2 b (off + 10) k2 n2 p2 c2 kk2.len a2 cap2 := ⟨t20, t21, t22, t23, t24⟩
  have HEV : Hid (nodE pA fs (evE pA fs f) 8 n p c ks vars (s + 1) = bindE (evE pA fs f k0 n0 p0 c0 kk0 vars (s + 1)) fun v s => if pA.zer v = true then evE pA fs f k1 n1 p1 c1 kk1 vars s else evE pA fs f k2 n2 p2 c2 kk2 vars s) := by
    show (bindE (atE pA (evE pA fs f) ks 0 vars (s + 1)) fun v s => if pA.zer v = true then atE pA (evE pA fs f) ks 1 vars s else atE pA (evE pA fs f) ks 2 vars s) = _
    rw [atE_eq hd0]
    congr 1
    funext v s
    rw [atE_eq hd1, atE_eq hd2]
  generalize nodE pA fs (evE pA fs f) 8 n p c ks vars (s + 1) = R at HEV ⊢
  have HS := fun (W : World) (hk : Below w2.heap.size w2 W) => Lib.hid (iChoice hBv hV fi k0 n0 p0 c0 kk0 a0 cap0 k1 n1 p1 c1 kk1 a1 cap1 k2 n2 p2 c2 kk2 a2 cap2 av cav vars (s + 1) W (by omega) (by omega) hfi (e2.next hk) (P2.below (hk.mono (by omega))) (L2.keep (Kp.of_below hk)) hN (by omega) hcv hcv2 kn0 kt0 (kf0.agree (fun j _ h2 => hk.block j (by omega))) kl0 kn1 kt1 (kf1.agree (fun j _ h2 => hk.block j (by omega))) kl1 kn2 kt2 (kf2.agree (fun j _ h2 => hk.block j (by omega))) kl2)
  have HND := Lib.hid (iNodeIf n p c b off ks.len cap w2 (by omega) N0 N1 N2 (by omega))
  clear hk1
  clear hE hP hF hL P2 F2 hn ht PA eA bA kA
  go_enter Tryz.func122, Tryz.ntmps122
  go_wp2_with fail
  rw [← hw2]
  clear hw2 hwA g0 g1 g2 g3 g4 z2 zA
  refine HND.out.mono ?_; rintro e w3 ⟨rfl, b3⟩
  clear HND x2 xf
  have q3 := q2.more b3
  have e3 := e2.next b3
  have hz3 := b3.size
  have qNum := fun W v => asNum_no W 178 v (by decide)
  have qVar := fun W v => asVar_no W 178 v (by decide)
  have qOp := fun W v => asOp_no W 178 v (by decide)
  have qNeg := fun W v => asNeg_no W 178 v (by decide)
  have qIf := fun W v => asIf_yes W v

  have HB4 : Hid (∀ o, Below w2.heap.size w2 (w3.alloc o)) := fun o => b3.alloc hz3 o
  go_wp2_with fail
  refine (HS _ (HB4.out _)).out.mono ?_; rintro e w5 ⟨q5, e5, v5, rfl, hv5⟩
  obtain ⟨hRl, ⟨u0, r0⟩, ⟨u1, r1⟩, f0, f1⟩ := (PR.out.next (HB4.out _)).keep q5 hRb
  go_wp2_with fail
  refine bodyPost_ret (v := .tuple #[.agg #[.int .i64 v5.1, .int .i64 v5.2], _]) (by simp [results, Tryz.results122, go_sem, r0, r1]; rfl) rfl ?_
  rw [HEV.out]
  exact .mk (v := v5) (kp_pair ((q2.more (HB4.out _)).trans q5) (by omega) _ _) (e5.pair hRb _ _) rfl hv5

set_option maxRecDepth 100000 in
set_option maxHeartbeats 6400000 in
theorem iValueLet {fs : List Fn} {ap : Option Addr} {capp bv B f : Nat} (hBv : B ≤ bv) (hV : PV fs ap capp bv B f) (hVL : PL fs ap capp bv B f) (hFn : ∀ i, i < fs.length → fnB fs i = true) (hfl : fs.length ≤ 1048576) (fi : Nat) (n p c : Int) (ks : Fo) (a : Option Addr) (cap : Nat) (av : Option Addr) (cav : Nat) (vars : List (Int × Int)) (s : Nat) (w : World)
    (hf : 3000 < f + 1 + s) (hs : s ≤ 3000) (h3 : ¬ s = 3000) (hfi : fi ≤ fs.length) (hn : nodeB fs (vars.length : Int) (fi : Int) 9 n p c ks.len = true) (ht : treeB fs (fi : Int) ks (vars.length : Int) 9 0 = true) (hE : EvAt w bv ap fs.length capp s) (hP : Pat w 0 B fs ap) (hF : Fat w 0 B ks a) (hkl : ks.len ≤ maxLen) (hL : Ls w bv av vars) (hN : Nums vars) (hvl : vars.length ≤ 412 + s) (hcv : vars.length ≤ cav) (hcv2 : cav ≤ 9223372036854775807) :
    Calls Tryz.prog 122 #[.pointer (some ⟨bv, 0, none⟩), .agg #[.int .i64 9, .int .i64 n, .int .i64 p, .int .i64 c, .slice a ks.len cap], .slice av vars.length cav] w (VRes bv ap fs.length capp w (evE pA fs (f + 1) 9 n p c ks vars s)) := by
  have h3b : ((s : Int) == 3000) = false := ne_beq (by omega)
  have hbw := cell_lt hE.c0
  have hne : w.heap.size ≠ bv := by omega
  have hne2 : ¬ bv = w.heap.size := by omega
  rw [evE_go h3]
  obtain ⟨wA, hwA⟩ : ∃ wA, ((w.alloc (.cells #[.int .i64 9, .int .i64 n, .int .i64 p, .int .i64 c, .slice a ks.len cap] 137)).alloc (.cells #[.int .i64 0, .int .i64 0] 121)).alloc (.cells #[.int .i64 0, .int .i64 0] 121) = wA := ⟨_, rfl⟩
  have bA : Below w.heap.size w wA := by rw [← hwA]; exact (((Below.refl _ _).alloc (Nat.le_refl _) _).alloc (by simp) _).alloc (by simp; omega) _
  have zA : wA.heap.size = w.heap.size + 3 := by rw [← hwA]; simp
  have g0 : wA.cell? ⟨w.heap.size, 0, none⟩ = some (.int .i64 9) := by rw [← hwA]; simp [go_sem]
  have g1 : wA.cell? ⟨w.heap.size, 1, none⟩ = some (.int .i64 n) := by rw [← hwA]; simp [go_sem]
  have g2 : wA.cell? ⟨w.heap.size, 2, none⟩ = some (.int .i64 p) := by rw [← hwA]; simp [go_sem]
  have g3 : wA.cell? ⟨w.heap.size, 3, none⟩ = some (.int .i64 c) := by rw [← hwA]; simp [go_sem]
  have g4 : wA.cell? ⟨w.heap.size, 4, none⟩ = some (.slice a ks.len cap) := by rw [← hwA]; simp [go_sem]
  have PA : PB wA (w.heap.size + 1) := by
    rw [← hwA]
    exact ⟨by simp, ⟨0, by simp [go_sem]⟩, ⟨0, by simp [go_sem]⟩, by simp [go_sem], by simp [go_sem]⟩
  have eA := hE.next bA
  have x2 := eA.c2
  have xf := eA.fz 2
  obtain ⟨w2, hw2⟩ : ∃ w2, w2 = wA.setCell ⟨bv, 2, none⟩ (.int .i64 ((s : Int) + 1)) := ⟨_, rfl⟩
  have e2 : EvAt w2 bv ap fs.length capp (s + 1) := by rw [hw2]; exact eA.step
  have kA : Kp (fun b => b = bv) wA w2 := by rw [hw2]; exact Kp.set (p := ⟨bv, 2, none⟩) rfl
  have q2 := (Kp.of_below (S := fun b => b = bv) bA).trans kA
  have PR := Lib.hid (PA.keep kA (show ¬ w.heap.size + 1 = bv by omega))
  have hRb : w.heap.size + 1 ≠ bv := by omega
  have z2 : w2.heap.size = wA.heap.size := by rw [hw2]; simp
  have P2 := hP.keepE q2 hBv hbw
  have F2 := hF.keepE q2 hBv hbw
  have L2 := hL.keep q2
  have hk1 : ks.len = 2 := by have := (node_kids hn (by omega)).1; have : kidsNo 9 = 2 := rfl; omega
  obtain ⟨b, off, rfl, hbB⟩ := F2.blk (by omega)
  obtain ⟨k0, n0, p0, c0, kk0, a0, cap0, hd0, hR0, kl0, t00, t01, t02, t03, t04, kf0⟩ := Fat.node F2 (i := 0) (by omega)
  obtain ⟨kn0, kt0⟩ := treeB_at ks 0 0 ht hd0
  obtain ⟨k1, n1, p1, c1, kk1, a1, cap1, hd1, hR1, kl1, t10, t11, t12, t13, t14, kf1⟩ := Fat.node F2 (i := 1) (by omega)
  obtain ⟨kn1, kt1⟩ := treeB_at ks 0 1 ht hd1
  have m0 : more 9 (0 + 0) = 0 := rfl
  have m1 : more 9 (0 + 1) = 1 := rfl
  rw [m0, Int.add_zero] at kn0 kt0
  rw [m1] at kn1 kt1
  have N0 : NodeAt w2 b off k0 n0 p0 c0 kk0.len a0 cap0 := by simp only [Nat.zero_mul, Nat.add_zero] at t00 t01 t02 t03 t04; exact ⟨t00, t01, t02, t03, t04⟩
  have N1 : NodeAt w2 b (off + 5) k1 n1 p1 c1 kk1.len a1 cap1 := by simp only [Nat.one_mul] at t10 t11 t12 t13 t14; exact ⟨t10, t11, t12, t13, t14⟩
  have HEV : Hid (nodE pA fs (evE pA fs f) 9 n p c ks vars (s + 1) = bindE (evE pA fs f k0 n0 p0 c0 kk0 vars (s + 1)) fun v s => evE pA fs f k1 n1 p1 c1 kk1 (vars ++ [v]) s) := by
    show (bindE (atE pA (evE pA fs f) ks 0 vars (s + 1)) fun v s => atE pA (evE pA fs f) ks 1 (vars ++ [v]) s) = _
    rw [atE_eq hd0]
    congr 1
    funext v s
    rw [atE_eq hd1]
  generalize nodE pA fs (evE pA fs f) 9 n p c ks vars (s + 1) = R at HEV ⊢
  have HS := fun (W : World) (hk : Below w2.heap.size w2 W) => Lib.hid (iBinding hBv hV fi k0 n0 p0 c0 kk0 a0 cap0 k1 n1 p1 c1 kk1 a1 cap1 av cav vars (s + 1) W (by omega) (by omega) hfi (e2.next hk) (P2.below (hk.mono (by omega))) (L2.keep (Kp.of_below hk)) hN (by omega) hcv hcv2 kn0 kt0 (kf0.agree (fun j _ h2 => hk.block j (by omega))) kl0 kn1 kt1 (kf1.agree (fun j _ h2 => hk.block j (by omega))) kl1)
  have HND := Lib.hid (iNodeLet n p c b off ks.len cap w2 (by omega) N0 N1 (by omega))
  clear hk1
  clear hE hP hF hL P2 F2 hn ht PA eA bA kA
  go_enter Tryz.func122, Tryz.ntmps122
  go_wp2_with fail
  rw [← hw2]
  clear hw2 hwA g0 g1 g2 g3 g4 z2 zA
  refine HND.out.mono ?_; rintro e w3 ⟨rfl, b3⟩
  clear HND x2 xf
  have q3 := q2.more b3
  have e3 := e2.next b3
  have hz3 := b3.size
  have qNum := fun W v => asNum_no W 181 v (by decide)
  have qVar := fun W v => asVar_no W 181 v (by decide)
  have qOp := fun W v => asOp_no W 181 v (by decide)
  have qNeg := fun W v => asNeg_no W 181 v (by decide)
  have qIf := fun W v => asIf_no W 181 v (by decide)
  have qLet := fun W v => asLet_yes W v

  have HB4 : Hid (∀ o, Below w2.heap.size w2 (w3.alloc o)) := fun o => b3.alloc hz3 o
  go_wp2_with fail
  refine (HS _ (HB4.out _)).out.mono ?_; rintro e w5 ⟨q5, e5, v5, rfl, hv5⟩
  obtain ⟨hRl, ⟨u0, r0⟩, ⟨u1, r1⟩, f0, f1⟩ := (PR.out.next (HB4.out _)).keep q5 hRb
  go_wp2_with fail
  refine bodyPost_ret (v := .tuple #[.agg #[.int .i64 v5.1, .int .i64 v5.2], _]) (by simp [results, Tryz.results122, go_sem, r0, r1]; rfl) rfl ?_
  rw [HEV.out]
  exact .mk (v := v5) (kp_pair ((q2.more (HB4.out _)).trans q5) (by omega) _ _) (e5.pair hRb _ _) rfl hv5

set_option maxRecDepth 100000 in
set_option maxHeartbeats 6400000 in
theorem iValueCall {fs : List Fn} {ap : Option Addr} {capp bv B f : Nat} (hBv : B ≤ bv) (hV : PV fs ap capp bv B f) (hVL : PL fs ap capp bv B f) (hFn : ∀ i, i < fs.length → fnB fs i = true) (hfl : fs.length ≤ 1048576) (fi : Nat) (n p c : Int) (ks : Fo) (a : Option Addr) (cap : Nat) (av : Option Addr) (cav : Nat) (vars : List (Int × Int)) (s : Nat) (w : World)
    (hf : 3000 < f + 1 + s) (hs : s ≤ 3000) (h3 : ¬ s = 3000) (hfi : fi ≤ fs.length) (hn : nodeB fs (vars.length : Int) (fi : Int) 10 n p c ks.len = true) (ht : treeB fs (fi : Int) ks (vars.length : Int) 10 0 = true) (hE : EvAt w bv ap fs.length capp s) (hP : Pat w 0 B fs ap) (hF : Fat w 0 B ks a) (hkl : ks.len ≤ maxLen) (hL : Ls w bv av vars) (hN : Nums vars) (hvl : vars.length ≤ 412 + s) (hcv : vars.length ≤ cav) (hcv2 : cav ≤ 9223372036854775807) :
    Calls Tryz.prog 122 #[.pointer (some ⟨bv, 0, none⟩), .agg #[.int .i64 10, .int .i64 n, .int .i64 p, .int .i64 c, .slice a ks.len cap], .slice av vars.length cav] w (VRes bv ap fs.length capp w (evE pA fs (f + 1) 10 n p c ks vars s)) := by
  have h3b : ((s : Int) == 3000) = false := ne_beq (by omega)
  have hbw := cell_lt hE.c0
  have hne : w.heap.size ≠ bv := by omega
  have hne2 : ¬ bv = w.heap.size := by omega
  rw [evE_go h3]
  obtain ⟨wA, hwA⟩ : ∃ wA, ((w.alloc (.cells #[.int .i64 10, .int .i64 n, .int .i64 p, .int .i64 c, .slice a ks.len cap] 137)).alloc (.cells #[.int .i64 0, .int .i64 0] 121)).alloc (.cells #[.int .i64 0, .int .i64 0] 121) = wA := ⟨_, rfl⟩
  have bA : Below w.heap.size w wA := by rw [← hwA]; exact (((Below.refl _ _).alloc (Nat.le_refl _) _).alloc (by simp) _).alloc (by simp; omega) _
  have zA : wA.heap.size = w.heap.size + 3 := by rw [← hwA]; simp
  have g0 : wA.cell? ⟨w.heap.size, 0, none⟩ = some (.int .i64 10) := by rw [← hwA]; simp [go_sem]
  have g1 : wA.cell? ⟨w.heap.size, 1, none⟩ = some (.int .i64 n) := by rw [← hwA]; simp [go_sem]
  have g2 : wA.cell? ⟨w.heap.size, 2, none⟩ = some (.int .i64 p) := by rw [← hwA]; simp [go_sem]
  have g3 : wA.cell? ⟨w.heap.size, 3, none⟩ = some (.int .i64 c) := by rw [← hwA]; simp [go_sem]
  have g4 : wA.cell? ⟨w.heap.size, 4, none⟩ = some (.slice a ks.len cap) := by rw [← hwA]; simp [go_sem]
  have PA : PB wA (w.heap.size + 1) := by
    rw [← hwA]
    exact ⟨by simp, ⟨0, by simp [go_sem]⟩, ⟨0, by simp [go_sem]⟩, by simp [go_sem], by simp [go_sem]⟩
  have eA := hE.next bA
  have x2 := eA.c2
  have xf := eA.fz 2
  obtain ⟨w2, hw2⟩ : ∃ w2, w2 = wA.setCell ⟨bv, 2, none⟩ (.int .i64 ((s : Int) + 1)) := ⟨_, rfl⟩
  have e2 : EvAt w2 bv ap fs.length capp (s + 1) := by rw [hw2]; exact eA.step
  have kA : Kp (fun b => b = bv) wA w2 := by rw [hw2]; exact Kp.set (p := ⟨bv, 2, none⟩) rfl
  have q2 := (Kp.of_below (S := fun b => b = bv) bA).trans kA
  have PR := Lib.hid (PA.keep kA (show ¬ w.heap.size + 1 = bv by omega))
  have hRb : w.heap.size + 1 ≠ bv := by omega
  have z2 : w2.heap.size = wA.heap.size := by rw [hw2]; simp
  have P2 := hP.keepE q2 hBv hbw
  have F2 := hF.keepE q2 hBv hbw
  have L2 := hL.keep q2
  obtain ⟨r1, r2, r3, _⟩ := node_call hn (.inl rfl)
  have HEV : Hid (nodE pA fs (evE pA fs f) 10 n p c ks vars (s + 1) = bindL pA (lisE pA (evE pA fs f) ks vars (s + 1) ks.len) fun l s => atE pA (evE pA fs f) (fs.getD n.toNat noFn).outs p.toNat l s) := rfl
  generalize nodE pA fs (evE pA fs f) 10 n p c ks vars (s + 1) = R at HEV ⊢
  have HS := fun (W : World) (hk : Below w2.heap.size w2 W) => Lib.hid (iCall hBv hV hVL hFn hfl fi n p ks a cap av cav vars (s + 1) W (by omega) (by omega) hfi (e2.next hk) (P2.below (hk.mono (by omega))) (L2.keep (Kp.of_below hk)) hN (by omega) hcv hcv2 r1 r2 r3 ht (F2.agree (fun j _ h2 => hk.block j (by omega))))
  clear r1 r2 r3
  have HND := Lib.hid (iNodeCall n p c a ks.len cap w2)
  clear hE hP hF hL P2 F2 hn ht PA eA bA kA
  go_enter Tryz.func122, Tryz.ntmps122
  go_wp2_with fail
  rw [← hw2]
  clear hw2 hwA g0 g1 g2 g3 g4 z2 zA
  refine HND.out.mono ?_; rintro e w3 ⟨rfl, b3⟩
  clear HND x2 xf
  have q3 := q2.more b3
  have e3 := e2.next b3
  have hz3 := b3.size
  have qNum := fun W v => asNum_no W 184 v (by decide)
  have qVar := fun W v => asVar_no W 184 v (by decide)
  have qOp := fun W v => asOp_no W 184 v (by decide)
  have qNeg := fun W v => asNeg_no W 184 v (by decide)
  have qIf := fun W v => asIf_no W 184 v (by decide)
  have qLet := fun W v => asLet_no W 184 v (by decide)
  have qCall := fun W v => asCall_yes W v

  have HB4 : Hid (∀ o, Below w2.heap.size w2 (w3.alloc o)) := fun o => b3.alloc hz3 o
  go_wp2_with fail
  refine (HS _ (HB4.out _)).out.mono ?_; rintro e w5 ⟨q5, e5, v5, rfl, hv5⟩
  obtain ⟨hRl, ⟨u0, r0⟩, ⟨u1, r1⟩, f0, f1⟩ := (PR.out.next (HB4.out _)).keep q5 hRb
  go_wp2_with fail
  refine bodyPost_ret (v := .tuple #[.agg #[.int .i64 v5.1, .int .i64 v5.2], _]) (by simp [results, Tryz.results122, go_sem, r0, r1]; rfl) rfl ?_
  rw [HEV.out]
  exact .mk (v := v5) (kp_pair ((q2.more (HB4.out _)).trans q5) (by omega) _ _) (e5.pair hRb _ _) rfl hv5

set_option maxRecDepth 100000 in
set_option maxHeartbeats 6400000 in
theorem iValueLoop {fs : List Fn} {ap : Option Addr} {capp bv B f : Nat} (hBv : B ≤ bv) (hV : PV fs ap capp bv B f) (hVL : PL fs ap capp bv B f) (hFn : ∀ i, i < fs.length → fnB fs i = true) (hfl : fs.length ≤ 1048576) (fi : Nat) (n p c : Int) (ks : Fo) (a : Option Addr) (cap : Nat) (av : Option Addr) (cav : Nat) (vars : List (Int × Int)) (s : Nat) (w : World)
    (hf : 3000 < f + 1 + s) (hs : s ≤ 3000) (h3 : ¬ s = 3000) (hfi : fi ≤ fs.length) (hn : nodeB fs (vars.length : Int) (fi : Int) 11 n p c ks.len = true) (ht : treeB fs (fi : Int) ks (vars.length : Int) 11 0 = true) (hE : EvAt w bv ap fs.length capp s) (hP : Pat w 0 B fs ap) (hF : Fat w 0 B ks a) (hkl : ks.len ≤ maxLen) (hL : Ls w bv av vars) (hN : Nums vars) (hvl : vars.length ≤ 412 + s) (hcv : vars.length ≤ cav) (hcv2 : cav ≤ 9223372036854775807) :
    Calls Tryz.prog 122 #[.pointer (some ⟨bv, 0, none⟩), .agg #[.int .i64 11, .int .i64 n, .int .i64 p, .int .i64 c, .slice a ks.len cap], .slice av vars.length cav] w (VRes bv ap fs.length capp w (evE pA fs (f + 1) 11 n p c ks vars s)) := by
  have h3b : ((s : Int) == 3000) = false := ne_beq (by omega)
  have hbw := cell_lt hE.c0
  have hne : w.heap.size ≠ bv := by omega
  have hne2 : ¬ bv = w.heap.size := by omega
  rw [evE_go h3]
  obtain ⟨wA, hwA⟩ : ∃ wA, ((w.alloc (.cells #[.int .i64 11, .int .i64 n, .int .i64 p, .int .i64 c, .slice a ks.len cap] 137)).alloc (.cells #[.int .i64 0, .int .i64 0] 121)).alloc (.cells #[.int .i64 0, .int .i64 0] 121) = wA := ⟨_, rfl⟩
  have bA : Below w.heap.size w wA := by rw [← hwA]; exact (((Below.refl _ _).alloc (Nat.le_refl _) _).alloc (by simp) _).alloc (by simp; omega) _
  have zA : wA.heap.size = w.heap.size + 3 := by rw [← hwA]; simp
  have g0 : wA.cell? ⟨w.heap.size, 0, none⟩ = some (.int .i64 11) := by rw [← hwA]; simp [go_sem]
  have g1 : wA.cell? ⟨w.heap.size, 1, none⟩ = some (.int .i64 n) := by rw [← hwA]; simp [go_sem]
  have g2 : wA.cell? ⟨w.heap.size, 2, none⟩ = some (.int .i64 p) := by rw [← hwA]; simp [go_sem]
  have g3 : wA.cell? ⟨w.heap.size, 3, none⟩ = some (.int .i64 c) := by rw [← hwA]; simp [go_sem]
  have g4 : wA.cell? ⟨w.heap.size, 4, none⟩ = some (.slice a ks.len cap) := by rw [← hwA]; simp [go_sem]
  have PA : PB wA (w.heap.size + 1) := by
    rw [← hwA]
    exact ⟨by simp, ⟨0, by simp [go_sem]⟩, ⟨0, by simp [go_sem]⟩, by simp [go_sem], by simp [go_sem]⟩
  have eA := hE.next bA
  have x2 := eA.c2
  have xf := eA.fz 2
  obtain ⟨w2, hw2⟩ : ∃ w2, w2 = wA.setCell ⟨bv, 2, none⟩ (.int .i64 ((s : Int) + 1)) := ⟨_, rfl⟩
  have e2 : EvAt w2 bv ap fs.length capp (s + 1) := by rw [hw2]; exact eA.step
  have kA : Kp (fun b => b = bv) wA w2 := by rw [hw2]; exact Kp.set (p := ⟨bv, 2, none⟩) rfl
  have q2 := (Kp.of_below (S := fun b => b = bv) bA).trans kA
  have PR := Lib.hid (PA.keep kA (show ¬ w.heap.size + 1 = bv by omega))
  have hRb : w.heap.size + 1 ≠ bv := by omega
  have z2 : w2.heap.size = wA.heap.size := by rw [hw2]; simp
  have P2 := hP.keepE q2 hBv hbw
  have F2 := hF.keepE q2 hBv hbw
  have L2 := hL.keep q2
  obtain ⟨r1, r2, r3, r4⟩ := node_call hn (.inr rfl)
  obtain ⟨r5, r6⟩ := r4 rfl
  have HEV : Hid (nodE pA fs (evE pA fs f) 11 n p c ks vars (s + 1) = bindL pA (lopE pA (evE pA fs f) (fs.getD n.toNat noFn).outs (lisE pA (evE pA fs f) ks vars (s + 1) ks.len) c.toNat) fun l s => ⟨l.getD p.toNat (pA.cst 0), s, 0⟩) := rfl
  generalize nodE pA fs (evE pA fs f) 11 n p c ks vars (s + 1) = R at HEV ⊢
  have HS := fun (W : World) (hk : Below w2.heap.size w2 W) => Lib.hid (iLoop hBv hVL hFn hfl fi n p c ks a cap av cav vars (s + 1) W (by omega) (by omega) hfi (e2.next hk) (P2.below (hk.mono (by omega))) (L2.keep (Kp.of_below hk)) hN (by omega) hcv hcv2 r1 r2 r3 r5 r6 ht (F2.agree (fun j _ h2 => hk.block j (by omega))))
  clear r1 r2 r3 r4 r5 r6
  have HND := Lib.hid (iNodeLoop n p c a ks.len cap w2)
  clear hE hP hF hL P2 F2 hn ht PA eA bA kA
  go_enter Tryz.func122, Tryz.ntmps122
  go_wp2_with fail
  rw [← hw2]
  clear hw2 hwA g0 g1 g2 g3 g4 z2 zA
  refine HND.out.mono ?_; rintro e w3 ⟨rfl, b3⟩
  clear HND x2 xf
  have q3 := q2.more b3
  have e3 := e2.next b3
  have hz3 := b3.size
  have qNum := fun W v => asNum_no W 187 v (by decide)
  have qVar := fun W v => asVar_no W 187 v (by decide)
  have qOp := fun W v => asOp_no W 187 v (by decide)
  have qNeg := fun W v => asNeg_no W 187 v (by decide)
  have qIf := fun W v => asIf_no W 187 v (by decide)
  have qLet := fun W v => asLet_no W 187 v (by decide)
  have qCall := fun W v => asCall_no W 187 v (by decide)
  have qLoop := fun W v => asLoop_yes W v

  have HB4 : Hid (∀ o, Below w2.heap.size w2 (w3.alloc o)) := fun o => b3.alloc hz3 o
  go_wp2_with fail
  refine (HS _ (HB4.out _)).out.mono ?_; rintro e w5 ⟨q5, e5, v5, rfl, hv5⟩
  obtain ⟨hRl, ⟨u0, r0⟩, ⟨u1, r1⟩, f0, f1⟩ := (PR.out.next (HB4.out _)).keep q5 hRb
  go_wp2_with fail
  refine bodyPost_ret (v := .tuple #[.agg #[.int .i64 v5.1, .int .i64 v5.2], _]) (by simp [results, Tryz.results122, go_sem, r0, r1]; rfl) rfl ?_
  rw [HEV.out]
  exact .mk (v := v5) (kp_pair ((q2.more (HB4.out _)).trans q5) (by omega) _ _) (e5.pair hRb _ _) rfl hv5

set_option maxRecDepth 100000 in
set_option maxHeartbeats 6400000 in
theorem iValueOp {fs : List Fn} {ap : Option Addr} {capp bv B f : Nat} (hBv : B ≤ bv) (hV : PV fs ap capp bv B f) (hVL : PL fs ap capp bv B f) (hFn : ∀ i, i < fs.length → fnB fs i = true) (hfl : fs.length ≤ 1048576) (fi : Nat) (k : Int) (n p c : Int) (ks : Fo) (a : Option Addr) (cap : Nat) (av : Option Addr) (cav : Nat) (vars : List (Int × Int)) (s : Nat) (w : World)
    (hf : 3000 < f + 1 + s) (hs : s ≤ 3000) (h3 : ¬ s = 3000) (hfi : fi ≤ fs.length) (hko : k ≠ 1 ∧ k ≠ 2 ∧ k ≠ 7 ∧ k ≠ 8 ∧ k ≠ 9 ∧ k ≠ 10 ∧ k ≠ 11) (hn : nodeB fs (vars.length : Int) (fi : Int) k n p c ks.len = true) (ht : treeB fs (fi : Int) ks (vars.length : Int) k 0 = true) (hE : EvAt w bv ap fs.length capp s) (hP : Pat w 0 B fs ap) (hF : Fat w 0 B ks a) (hkl : ks.len ≤ maxLen) (hL : Ls w bv av vars) (hN : Nums vars) (hvl : vars.length ≤ 412 + s) (hcv : vars.length ≤ cav) (hcv2 : cav ≤ 9223372036854775807) :
    Calls Tryz.prog 122 #[.pointer (some ⟨bv, 0, none⟩), .agg #[.int .i64 k, .int .i64 n, .int .i64 p, .int .i64 c, .slice a ks.len cap], .slice av vars.length cav] w (VRes bv ap fs.length capp w (evE pA fs (f + 1) k n p c ks vars s)) := by
  have h3b : ((s : Int) == 3000) = false := ne_beq (by omega)
  have hbw := cell_lt hE.c0
  have hne : w.heap.size ≠ bv := by omega
  have hne2 : ¬ bv = w.heap.size := by omega
  rw [evE_go h3]
  obtain ⟨wA, hwA⟩ : ∃ wA, ((w.alloc (.cells #[.int .i64 k, .int .i64 n, .int .i64 p, .int .i64 c, .slice a ks.len cap] 137)).alloc (.cells #[.int .i64 0, .int .i64 0] 121)).alloc (.cells #[.int .i64 0, .int .i64 0] 121) = wA := ⟨_, rfl⟩
  have bA : Below w.heap.size w wA := by rw [← hwA]; exact (((Below.refl _ _).alloc (Nat.le_refl _) _).alloc (by simp) _).alloc (by simp; omega) _
  have zA : wA.heap.size = w.heap.size + 3 := by rw [← hwA]; simp
  have g0 : wA.cell? ⟨w.heap.size, 0, none⟩ = some (.int .i64 k) := by rw [← hwA]; simp [go_sem]
  have g1 : wA.cell? ⟨w.heap.size, 1, none⟩ = some (.int .i64 n) := by rw [← hwA]; simp [go_sem]
  have g2 : wA.cell? ⟨w.heap.size, 2, none⟩ = some (.int .i64 p) := by rw [← hwA]; simp [go_sem]
  have g3 : wA.cell? ⟨w.heap.size, 3, none⟩ = some (.int .i64 c) := by rw [← hwA]; simp [go_sem]
  have g4 : wA.cell? ⟨w.heap.size, 4, none⟩ = some (.slice a ks.len cap) := by rw [← hwA]; simp [go_sem]
  have PA : PB wA (w.heap.size + 1) := by
    rw [← hwA]
    exact ⟨by simp, ⟨0, by simp [go_sem]⟩, ⟨0, by simp [go_sem]⟩, by simp [go_sem], by simp [go_sem]⟩
  have eA := hE.next bA
  have x2 := eA.c2
  have xf := eA.fz 2
  obtain ⟨w2, hw2⟩ : ∃ w2, w2 = wA.setCell ⟨bv, 2, none⟩ (.int .i64 ((s : Int) + 1)) := ⟨_, rfl⟩
  have e2 : EvAt w2 bv ap fs.length capp (s + 1) := by rw [hw2]; exact eA.step
  have kA : Kp (fun b => b = bv) wA w2 := by rw [hw2]; exact Kp.set (p := ⟨bv, 2, none⟩) rfl
  have q2 := (Kp.of_below (S := fun b => b = bv) bA).trans kA
  have PR := Lib.hid (PA.keep kA (show ¬ w.heap.size + 1 = bv by omega))
  have hRb : w.heap.size + 1 ≠ bv := by omega
  have z2 : w2.heap.size = wA.heap.size := by rw [hw2]; simp
  have P2 := hP.keepE q2 hBv hbw
  have F2 := hF.keepE q2 hBv hbw
  have L2 := hL.keep q2
  have hk1 : ks.len = 2 := by
    have h := (node_kids hn (by omega)).1
    have := node_kind hn
    have e : kidsNo k = 2 := by unfold kidsNo; rw [if_neg (by omega), if_pos (by omega)]
    omega
  have HEV : Hid (nodE pA fs (evE pA fs f) k n p c ks vars (s + 1) = bindL pA (lisE pA (evE pA fs f) ks vars (s + 1) ks.len) fun l s => opE pA k l s) := by
    show _ = _
    unfold nodE
    rw [if_neg (by omega), if_neg (by omega), if_neg (by omega), if_neg (by omega), if_neg (by omega), if_neg (by omega), if_neg (by omega)]
  generalize nodE pA fs (evE pA fs f) k n p c ks vars (s + 1) = R at HEV ⊢
  have HS := fun (W : World) (hk : Below w2.heap.size w2 W) => Lib.hid (iOperation hBv hVL fi k ks a cap av cav vars (s + 1) W (by omega) (by omega) hfi (e2.next hk) (P2.below (hk.mono (by omega))) (L2.keep (Kp.of_below hk)) hN (by omega) hcv hcv2 (by omega) ht (F2.agree (fun j _ h2 => hk.block j (by omega))) hk1)
  have HND := Lib.hid (iNodeOp k n p c a ks.len cap w2 hko)
  clear hk1
  clear hE hP hF hL P2 F2 hn ht PA eA bA kA
  go_enter Tryz.func122, Tryz.ntmps122
  go_wp2_with fail
  rw [← hw2]
  clear hw2 hwA g0 g1 g2 g3 g4 z2 zA
  refine HND.out.mono ?_; rintro e w3 ⟨rfl, b3⟩
  clear HND x2 xf
  have q3 := q2.more b3
  have e3 := e2.next b3
  have hz3 := b3.size
  have qNum := fun W v => asNum_no W 172 v (by decide)
  have qVar := fun W v => asVar_no W 172 v (by decide)
  have qOp := fun W v => asOp_yes W v

  have HB4 : Hid (∀ o, Below w2.heap.size w2 (w3.alloc o)) := fun o => b3.alloc hz3 o
  go_wp2_with fail
  refine (HS _ (HB4.out _)).out.mono ?_; rintro e w5 ⟨q5, e5, v5, rfl, hv5⟩
  obtain ⟨hRl, ⟨u0, r0⟩, ⟨u1, r1⟩, f0, f1⟩ := (PR.out.next (HB4.out _)).keep q5 hRb
  go_wp2_with fail
  refine bodyPost_ret (v := .tuple #[.agg #[.int .i64 v5.1, .int .i64 v5.2], _]) (by simp [results, Tryz.results122, go_sem, r0, r1]; rfl) rfl ?_
  rw [HEV.out]
  exact .mk (v := v5) (kp_pair ((q2.more (HB4.out _)).trans q5) (by omega) _ _) (e5.pair hRb _ _) rfl hv5

end Pr

end Go.Proofs.YtoedccgiahegnaaGreat
