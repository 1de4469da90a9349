/- The program's evaluation with pairs: operations, negations, choices. -/
import Derived.Deep.RegionWith
import Derived.Test.YtoedccgiahegnaaGreatDw
import Derived.Test.YtoedccgiahegnaaGreatDb
namespace Go.Proofs.YtoedccgiahegnaaGreat
open Go.RowKit
set_option linter.unusedVariables false

namespace Pr
set_option maxRecDepth 100000 in
theorem pDecides (a b : Int) (w : World) :
    Calls Tryz.prog 183 #[.agg #[ofN], .agg #[.int .i64 a, .int .i64 b]] w fun e w' => e = .returned (.bool (a == 0)) ∧ Below w.heap.size w w' := by
  obtain ⟨w1, hw1⟩ : ∃ w1, w1 = (w.alloc (.cells #[ofN] 123)).alloc (.cells #[.int .i64 a, .int .i64 b] 121) := ⟨_, rfl⟩
  have b1 : Below w.heap.size w w1 := by rw [hw1]; exact ((Below.refl _ _).alloc (Nat.le_refl _) _).alloc (by simp) _
  have x0 : w1.cell? ⟨w.heap.size, 0, none⟩ = some ofN := by rw [hw1]; simp [go_sem]
  have y0 : w1.cell? ⟨w.heap.size + 1, 0, none⟩ = some (.int .i64 a) := by rw [hw1]; simp [go_sem]
  have y1 : w1.cell? ⟨w.heap.size + 1, 1, none⟩ = some (.int .i64 b) := by rw [hw1]; simp [go_sem]
  go_enter Tryz.func183, Tryz.ntmps183
  go_wp2_with fail
  rw [← hw1]
  clear hw1
  refine (pZero a b _).mono ?_; rintro e w' ⟨rfl, hb2⟩
  go_wp2_with fail
  go_ret
  exact ⟨rfl, b1.trans (hb2.mono b1.size)⟩
set_option maxRecDepth 100000 in
theorem decAhead (W : World) : (nilAhead 339 123 (.agg #[ofN]) "loop.example/g01091/impl.decides").run Tryz.prog W = .ok (some false) W := by kernel_rfl
set_option maxRecDepth 100000 in
theorem decMeth (W : World) : (method 339 123 (.agg #[ofN]) "loop.example/g01091/impl.decides").run Tryz.prog W = .ok (183, .agg #[ofN]) W := by kernel_rfl
set_option maxRecDepth 100000 in
theorem negAhead (W : World) : (nilAhead 339 123 (.agg #[ofN]) "loop.example/g01091/impl.negative").run Tryz.prog W = .ok (some false) W := by kernel_rfl
set_option maxRecDepth 100000 in
theorem negMeth (W : World) : (method 339 123 (.agg #[ofN]) "loop.example/g01091/impl.negative").run Tryz.prog W = .ok (186, .agg #[ofN]) W := by kernel_rfl
set_option maxRecDepth 100000 in
theorem timAhead (W : World) : (nilAhead 339 123 (.agg #[ofN]) "loop.example/g01091/impl.times").run Tryz.prog W = .ok (some false) W := by kernel_rfl
set_option maxRecDepth 100000 in
theorem timMeth (W : World) : (method 339 123 (.agg #[ofN]) "loop.example/g01091/impl.times").run Tryz.prog W = .ok (189, .agg #[ofN]) W := by kernel_rfl
set_option maxRecDepth 100000 in
theorem minAhead (W : World) : (nilAhead 339 123 (.agg #[ofN]) "loop.example/g01091/impl.minus").run Tryz.prog W = .ok (some false) W := by kernel_rfl
set_option maxRecDepth 100000 in
theorem minMeth (W : World) : (method 339 123 (.agg #[ofN]) "loop.example/g01091/impl.minus").run Tryz.prog W = .ok (185, .agg #[ofN]) W := by kernel_rfl
set_option maxRecDepth 100000 in
theorem ovrAhead (W : World) : (nilAhead 339 123 (.agg #[ofN]) "loop.example/g01091/impl.over").run Tryz.prog W = .ok (some false) W := by kernel_rfl
set_option maxRecDepth 100000 in
theorem ovrMeth (W : World) : (method 339 123 (.agg #[ofN]) "loop.example/g01091/impl.over").run Tryz.prog W = .ok (187, .agg #[ofN]) W := by kernel_rfl
set_option maxRecDepth 100000 in
theorem cstAhead (W : World) : (nilAhead 339 123 (.agg #[ofN]) "loop.example/g01091/impl.constant").run Tryz.prog W = .ok (some false) W := by kernel_rfl
set_option maxRecDepth 100000 in
theorem cstMeth (W : World) : (method 339 123 (.agg #[ofN]) "loop.example/g01091/impl.constant").run Tryz.prog W = .ok (182, .agg #[ofN]) W := by kernel_rfl
set_option maxRecDepth 100000 in
theorem zerAhead (W : World) : (nilAhead 339 123 (.agg #[ofN]) "loop.example/g01091/impl.isZero").run Tryz.prog W = .ok (some false) W := by kernel_rfl
set_option maxRecDepth 100000 in
theorem zerMeth (W : World) : (method 339 123 (.agg #[ofN]) "loop.example/g01091/impl.isZero").run Tryz.prog W = .ok (184, .agg #[ofN]) W := by kernel_rfl
set_option maxRecDepth 100000 in
theorem plsAhead (W : World) : (nilAhead 339 123 (.agg #[ofN]) "loop.example/g01091/impl.plus").run Tryz.prog W = .ok (some false) W := by kernel_rfl
set_option maxRecDepth 100000 in
theorem plsMeth (W : World) : (method 339 123 (.agg #[ofN]) "loop.example/g01091/impl.plus").run Tryz.prog W = .ok (188, .agg #[ofN]) W := by kernel_rfl

theorem VRes.mk {bv : Nat} {ap : Option Addr} {fl capp : Nat} {w : World} {r : Rv (Int × Int)} {e : Ending} {w' : World} {v : Int × Int} (k : Kp (fun b => b = bv) w w') (h : EvAt w' bv ap fl capp r.s) (he : e = .returned (.tuple #[.agg #[.int .i64 v.1, .int .i64 v.2], .int .i64 r.c])) (hv : r.c = 0 → v = r.v ∧ Num2 v) : VRes bv ap fl capp w r e w' := ⟨k, h, v, he, hv⟩
theorem keepKid {w w' : World} {bv : Nat} (k : Kp (fun b => b = bv) w w') {b : Nat} (hb : b ≠ bv) {o : Nat} {v : Value} (h : w.cell? ⟨b, o, none⟩ = some v) : w'.cell? ⟨b, o, none⟩ = some v := k.cell h hb
theorem kp_pair {S : Nat → Prop} {w w' : World} (h : Kp S w w') {b : Nat} (hp : w.heap.size ≤ b) (u v : Value) : Kp S w ((w'.setCell ⟨b, 0, none⟩ u).setCell ⟨b, 1, none⟩ v) :=
  (h.newBlock (p := ⟨b, 0, none⟩) hp u).newBlock (p := ⟨b, 1, none⟩) hp v
theorem EvAt.pair {w : World} {bv : Nat} {ap : Option Addr} {fl capp s : Nat} (h : EvAt w bv ap fl capp s) {b : Nat} (hp : b ≠ bv) (u v : Value) : EvAt ((w.setCell ⟨b, 0, none⟩ u).setCell ⟨b, 1, none⟩ v) bv ap fl capp s :=
  (h.other (p := ⟨b, 0, none⟩) hp u).other (p := ⟨b, 1, none⟩) hp v
/-- a block for a pair -/
structure PB (w : World) (b : Nat) : Prop where
  lt : b < w.heap.size
  c0 : ∃ u, w.cell? ⟨b, 0, none⟩ = some (.int .i64 u)
  c1 : ∃ u, w.cell? ⟨b, 1, none⟩ = some (.int .i64 u)
  f0 : w.frozen? ⟨b, 0, none⟩ = false
  f1 : w.frozen? ⟨b, 1, none⟩ = false
theorem PB.keep {S : Nat → Prop} {w w' : World} {b : Nat} (h : PB w b) (k : Kp S w w') (hb : ¬ S b) : PB w' b := by
  obtain ⟨h1, ⟨u, h2⟩, ⟨v, h3⟩, h4, h5⟩ := h
  exact ⟨Nat.lt_of_lt_of_le h1 k.size, ⟨u, k.cell h2 hb⟩, ⟨v, k.cell h3 hb⟩, (k.fz h1 hb).trans h4, (k.fz h1 hb).trans h5⟩
theorem PB.next {w w' : World} {b : Nat} (h : PB w b) (k : Below w.heap.size w w') : PB w' b := h.keep (S := fun _ => False) (Kp.of_below k) (fun h => h)
set_option maxRecDepth 100000 in
set_option maxHeartbeats 6400000 in
theorem iNegation {fs : List Fn} {ap : Option Addr} {capp bv B f : Nat} (hBv : B ≤ bv) (hV : PV fs ap capp bv B f) (fi : Nat) (k0 n0 p0 c0 : Int) (kk0 : Fo) (a0 : Option Addr) (cap0 : Nat) (av : Option Addr) (cav : Nat) (vars : List (Int × Int)) (s : Nat) (w : World)
    (hf : 3000 < f + s) (hs : s ≤ 3000) (hfi : fi ≤ fs.length) (hE : EvAt w bv ap fs.length capp s) (hP : Pat w 0 B fs ap) (hL : Ls w bv av vars) (hN : Nums vars) (hvl : vars.length ≤ 412 + s) (hcv : vars.length ≤ cav) (hcv2 : cav ≤ 9223372036854775807)
    (kn0 : nodeB fs (vars.length : Int) (fi : Int) k0 n0 p0 c0 kk0.len = true) (kt0 : treeB fs (fi : Int) kk0 (vars.length : Int) k0 0 = true) (kf0 : Fat w 0 B kk0 a0) (kl0 : kk0.len ≤ maxLen) :
    Calls Tryz.prog 135 #[.pointer (some ⟨bv, 0, none⟩), .agg #[.int .i64 k0, .int .i64 n0, .int .i64 p0, .int .i64 c0, .slice a0 kk0.len cap0], .slice av vars.length cav] w (VRes bv ap fs.length capp w (oneE (evE pA fs f k0 n0 p0 c0 kk0 vars s) pA.neg)) := by
  obtain ⟨w1, hw1⟩ : ∃ w1, (w.alloc (.cells #[.int .i64 k0, .int .i64 n0, .int .i64 p0, .int .i64 c0, .slice a0 kk0.len cap0] 175)).alloc (.cells #[.int .i64 0, .int .i64 0] 121) = w1 := ⟨_, rfl⟩
  have b1 : Below w.heap.size w w1 := by rw [← hw1]; exact ((Below.refl _ _).alloc (Nat.le_refl _) _).alloc (by simp) _
  have k1 : Kp (fun b => b = bv) w w1 := Kp.of_below b1
  have hbw := cell_lt hE.c0
  have PR : Hid (PB w1 (w.heap.size + 1)) := by
    show PB _ _
    rw [← hw1]
    exact ⟨by simp, ⟨0, by simp [go_sem]⟩, ⟨0, by simp [go_sem]⟩, by simp [go_sem], by simp [go_sem]⟩
  have y0 : w1.cell? ⟨w.heap.size, 0, none⟩ = some (.int .i64 k0) := by rw [← hw1]; simp [go_sem]
  have y1 : w1.cell? ⟨w.heap.size, 1, none⟩ = some (.int .i64 n0) := by rw [← hw1]; simp [go_sem]
  have y2 : w1.cell? ⟨w.heap.size, 2, none⟩ = some (.int .i64 p0) := by rw [← hw1]; simp [go_sem]
  have y3 : w1.cell? ⟨w.heap.size, 3, none⟩ = some (.int .i64 c0) := by rw [← hw1]; simp [go_sem]
  have y4 : w1.cell? ⟨w.heap.size, 4, none⟩ = some (.slice a0 kk0.len cap0) := by rw [← hw1]; simp [go_sem]
  have HC := Lib.hid (hV fi k0 n0 p0 c0 kk0 a0 cap0 av cav vars s w1 hf hs hfi kn0 kt0 (hE.next b1) (hP.keepE k1 hBv hbw) (kf0.keepE k1 hBv hbw) kl0 (hL.keep k1) hN hvl hcv hcv2)
  generalize (evE pA fs f k0 n0 p0 c0 kk0 vars s) = r at HC
  clear hE hP hL kn0 kt0 kf0 kl0
  go_enter Tryz.func135, Tryz.ntmps135
  go_wp2_with fail
  clear hw1 y0 y1 y2 y3 y4
  refine HC.out.mono ?_; rintro e w2 ⟨k2, e2, v, rfl, hv⟩
  obtain ⟨w5, hw5⟩ : ∃ w5, w2.alloc (.cells #[.int .i64 v.1, .int .i64 v.2] 121) = w5 := ⟨_, rfl⟩
  have b5 : Below w2.heap.size w2 w5 := by rw [← hw5]; exact (Below.refl _ _).alloc (Nat.le_refl _) _
  have d0 : w5.cell? ⟨w2.heap.size, 0, none⟩ = some (.int .i64 v.1) := by rw [← hw5]; simp [go_sem]
  have d1 : w5.cell? ⟨w2.heap.size, 1, none⟩ = some (.int .i64 v.2) := by rw [← hw5]; simp [go_sem]
  have kk := (k1.trans k2).more b5
  have e5 := e2.next b5
  have hRb : w.heap.size + 1 ≠ bv := by omega
  have P5 := (PR.out.keep k2 hRb).next b5
  by_cases hc : r.c = 0
  · obtain ⟨rfl, hv0, hv1⟩ := hv hc
    have hbf : (r.c != 0) = false := by rw [hc]; rfl
    have HR : Hid (oneE r pA.neg = ⟨pA.neg r.v, r.s, 0⟩) := by show _ = _; unfold oneE; rw [if_pos hc]
    have x0 := e5.c0
    have nA1 := negAhead
    have nA2 := negMeth
    have HNG := fun W => Lib.hid (pNeg r.v.1 r.v.2 ⟨hv0, hv1⟩ W)
    clear HC
    go_wp2_with fail
    go_region_with (go_at_call 186; refine (HNG _).out.mono ?_; rintro e w3 ⟨rfl, b3⟩; have bb := (Below.refl w5.heap.size w5).drew.trans b3; obtain ⟨hRl, ⟨u0, r0⟩, ⟨u1, r1⟩, f0, f1⟩ := P5.next bb)
    all_goals go_wp2_with fail
    all_goals refine bodyPost_ret (v := .tuple #[.agg #[.int .i64 (mns 0 r.v.1), .int .i64 (mns 0 r.v.2)], .int .i64 0]) (by simp [results, Tryz.results135, go_sem, r0, r1]) rfl ?_
    all_goals rw [HR.out]
    all_goals exact .mk (v := (mns 0 r.v.1, mns 0 r.v.2)) (kp_pair (kk.more bb) (by omega) _ _) ((e5.next bb).pair hRb _ _) rfl (fun _ => ⟨rfl, mns_bd _ _, mns_bd _ _⟩)
  · have hbf : (r.c != 0) = true := by simp [hc]
    have HR : Hid (oneE r pA.neg = r) := by show _ = _; unfold oneE; rw [if_neg hc]
    clear HC hv
    obtain ⟨_, ⟨u0, r0⟩, ⟨u1, r1⟩, f0, f1⟩ := P5
    go_wp2_with fail
    refine bodyPost_ret (v := .tuple #[.agg #[.int .i64 v.1, .int .i64 v.2], .int .i64 r.c]) (by simp [results, Tryz.results135, go_sem, r0, r1]) rfl ?_
    rw [HR.out]
    exact .mk (v := v) (kp_pair kk (by omega) _ _) (e5.pair hRb _ _) rfl (fun h => absurd h hc)
set_option maxRecDepth 100000 in
set_option maxHeartbeats 6400000 in
theorem iChoice {fs : List Fn} {ap : Option Addr} {capp bv B f : Nat} (hBv : B ≤ bv) (hV : PV fs ap capp bv B f) (fi : Nat) (k0 n0 p0 c0 : Int) (kk0 : Fo) (a0 : Option Addr) (cap0 : Nat) (k1 n1 p1 c1 : Int) (kk1 : Fo) (a1 : Option Addr) (cap1 : Nat) (k2 n2 p2 c2 : Int) (kk2 : Fo) (a2 : Option Addr) (cap2 : Nat) (av : Option Addr) (cav : Nat) (vars : List (Int × Int)) (s : Nat) (w : World)
    (hf : 3000 < f + s) (hs : s ≤ 3000) (hfi : fi ≤ fs.length) (hE : EvAt w bv ap fs.length capp s) (hP : Pat w 0 B fs ap) (hL : Ls w bv av vars) (hN : Nums vars) (hvl : vars.length ≤ 412 + s) (hcv : vars.length ≤ cav) (hcv2 : cav ≤ 9223372036854775807)
    (kn0 : nodeB fs (vars.length : Int) (fi : Int) k0 n0 p0 c0 kk0.len = true) (kt0 : treeB fs (fi : Int) kk0 (vars.length : Int) k0 0 = true) (kf0 : Fat w 0 B kk0 a0) (kl0 : kk0.len ≤ maxLen)
    (kn1 : nodeB fs (vars.length : Int) (fi : Int) k1 n1 p1 c1 kk1.len = true) (kt1 : treeB fs (fi : Int) kk1 (vars.length : Int) k1 0 = true) (kf1 : Fat w 0 B kk1 a1) (kl1 : kk1.len ≤ maxLen)
    (kn2 : nodeB fs (vars.length : Int) (fi : Int) k2 n2 p2 c2 kk2.len = true) (kt2 : treeB fs (fi : Int) kk2 (vars.length : Int) k2 0 = true) (kf2 : Fat w 0 B kk2 a2) (kl2 : kk2.len ≤ maxLen) :
    Calls Tryz.prog 136 #[.pointer (some ⟨bv, 0, none⟩), .agg #[.int .i64 k0, .int .i64 n0, .int .i64 p0, .int .i64 c0, .slice a0 kk0.len cap0, .int .i64 k1, .int .i64 n1, .int .i64 p1, .int .i64 c1, .slice a1 kk1.len cap1, .int .i64 k2, .int .i64 n2, .int .i64 p2, .int .i64 c2, .slice a2 kk2.len cap2], .slice av vars.length cav] w (VRes bv ap fs.length capp w (bindE (evE pA fs f k0 n0 p0 c0 kk0 vars s) fun v s => if pA.zer v = true then (evE pA fs f k1 n1 p1 c1 kk1 vars s) else (evE pA fs f k2 n2 p2 c2 kk2 vars s))) := by
  obtain ⟨w1, hw1⟩ : ∃ w1, (w.alloc (.cells #[.int .i64 k0, .int .i64 n0, .int .i64 p0, .int .i64 c0, .slice a0 kk0.len cap0, .int .i64 k1, .int .i64 n1, .int .i64 p1, .int .i64 c1, .slice a1 kk1.len cap1, .int .i64 k2, .int .i64 n2, .int .i64 p2, .int .i64 c2, .slice a2 kk2.len cap2] 178)).alloc (.cells #[.int .i64 0, .int .i64 0] 121) = w1 := ⟨_, rfl⟩
  have b1 : Below w.heap.size w w1 := by rw [← hw1]; exact ((Below.refl _ _).alloc (Nat.le_refl _) _).alloc (by simp) _
  have q1 : Kp (fun b => b = bv) w w1 := Kp.of_below b1
  have hbw := cell_lt hE.c0
  have hne : w.heap.size ≠ bv := by omega
  have y0 : w1.cell? ⟨w.heap.size, 5, none⟩ = some (.int .i64 k1) := by rw [← hw1]; simp [go_sem]
  have y1 : w1.cell? ⟨w.heap.size, 6, none⟩ = some (.int .i64 n1) := by rw [← hw1]; simp [go_sem]
  have y2 : w1.cell? ⟨w.heap.size, 7, none⟩ = some (.int .i64 p1) := by rw [← hw1]; simp [go_sem]
  have y3 : w1.cell? ⟨w.heap.size, 8, none⟩ = some (.int .i64 c1) := by rw [← hw1]; simp [go_sem]
  have y4 : w1.cell? ⟨w.heap.size, 9, none⟩ = some (.slice a1 kk1.len cap1) := by rw [← hw1]; simp [go_sem]
  have z0 : w1.cell? ⟨w.heap.size, 10, none⟩ = some (.int .i64 k2) := by rw [← hw1]; simp [go_sem]
  have z1 : w1.cell? ⟨w.heap.size, 11, none⟩ = some (.int .i64 n2) := by rw [← hw1]; simp [go_sem]
  have z2 : w1.cell? ⟨w.heap.size, 12, none⟩ = some (.int .i64 p2) := by rw [← hw1]; simp [go_sem]
  have z3 : w1.cell? ⟨w.heap.size, 13, none⟩ = some (.int .i64 c2) := by rw [← hw1]; simp [go_sem]
  have z4 : w1.cell? ⟨w.heap.size, 14, none⟩ = some (.slice a2 kk2.len cap2) := by rw [← hw1]; simp [go_sem]
  have t0 : w1.cell? ⟨w.heap.size, 0, none⟩ = some (.int .i64 k0) := by rw [← hw1]; simp [go_sem]
  have t1 : w1.cell? ⟨w.heap.size, 1, none⟩ = some (.int .i64 n0) := by rw [← hw1]; simp [go_sem]
  have t2 : w1.cell? ⟨w.heap.size, 2, none⟩ = some (.int .i64 p0) := by rw [← hw1]; simp [go_sem]
  have t3 : w1.cell? ⟨w.heap.size, 3, none⟩ = some (.int .i64 c0) := by rw [← hw1]; simp [go_sem]
  have t4 : w1.cell? ⟨w.heap.size, 4, none⟩ = some (.slice a0 kk0.len cap0) := by rw [← hw1]; simp [go_sem]
  have PR : Hid (PB w1 (w.heap.size + 1)) := by
    show PB _ _
    rw [← hw1]
    exact ⟨by simp, ⟨0, by simp [go_sem]⟩, ⟨0, by simp [go_sem]⟩, by simp [go_sem], by simp [go_sem]⟩
  have hst := evE_stp (A := pA) fs f s hf k0 n0 p0 c0 kk0 vars s (Nat.le_refl _) hs
  have HC := Lib.hid (hV fi k0 n0 p0 c0 kk0 a0 cap0 av cav vars s w1 hf hs hfi kn0 kt0 (hE.next b1) (hP.keepE q1 hBv hbw) (kf0.keepE q1 hBv hbw) kl0 (hL.keep q1) hN hvl hcv hcv2)
  have HK1 := fun (W : World) (s : Nat) (hss : 3000 < f + s ∧ s ≤ 3000 ∧ vars.length ≤ 412 + s) (hk : Kp (fun b => b = bv) w W) (he : EvAt W bv ap fs.length capp s) => Lib.hid (hV fi k1 n1 p1 c1 kk1 a1 cap1 av cav vars s W hss.1 hss.2.1 hfi kn1 kt1 he (hP.keepE hk hBv hbw) (kf1.keepE hk hBv hbw) kl1 (hL.keep hk) hN hss.2.2 hcv hcv2)
  have HK2 := fun (W : World) (s : Nat) (hss : 3000 < f + s ∧ s ≤ 3000 ∧ vars.length ≤ 412 + s) (hk : Kp (fun b => b = bv) w W) (he : EvAt W bv ap fs.length capp s) => Lib.hid (hV fi k2 n2 p2 c2 kk2 a2 cap2 av cav vars s W hss.1 hss.2.1 hfi kn2 kt2 he (hP.keepE hk hBv hbw) (kf2.keepE hk hBv hbw) kl2 (hL.keep hk) hN hss.2.2 hcv hcv2)
  generalize (evE pA fs f k0 n0 p0 c0 kk0 vars s) = r at HC hst
  clear hE hP hL kn0 kt0 kf0 kl0 kn1 kt1 kf1 kl1 kn2 kt2 kf2 kl2
  go_enter Tryz.func136, Tryz.ntmps136
  go_wp2_with fail
  clear hw1 t0 t1 t2 t3 t4
  refine HC.out.mono ?_; rintro e w2 ⟨q2, e2, v, rfl, hv⟩
  obtain ⟨w5, hw5⟩ : ∃ w5, w2.alloc (.cells #[.int .i64 v.1, .int .i64 v.2] 121) = w5 := ⟨_, rfl⟩
  have b5 : Below w2.heap.size w2 w5 := by rw [← hw5]; exact (Below.refl _ _).alloc (Nat.le_refl _) _
  have d0 : w5.cell? ⟨w2.heap.size, 0, none⟩ = some (.int .i64 v.1) := by rw [← hw5]; simp [go_sem]
  have d1 : w5.cell? ⟨w2.heap.size, 1, none⟩ = some (.int .i64 v.2) := by rw [← hw5]; simp [go_sem]
  have qq := (q1.trans q2).more b5
  have e5 := e2.next b5
  have hRb : w.heap.size + 1 ≠ bv := by omega
  have P5 := (PR.out.keep q2 hRb).next b5
  have q25 := q2.more b5
  replace y0 := q25.cell y0 hne
  replace y1 := q25.cell y1 hne
  replace y2 := q25.cell y2 hne
  replace y3 := q25.cell y3 hne
  replace y4 := q25.cell y4 hne
  replace z0 := q25.cell z0 hne
  replace z1 := q25.cell z1 hne
  replace z2 := q25.cell z2 hne
  replace z3 := q25.cell z3 hne
  replace z4 := q25.cell z4 hne
  by_cases hc : r.c = 0
  rotate_left
  · have hbf : (r.c != 0) = true := by simp [hc]
    have HR : Hid ((bindE r fun v s => if pA.zer v = true then (evE pA fs f k1 n1 p1 c1 kk1 vars s) else (evE pA fs f k2 n2 p2 c2 kk2 vars s)) = r) := by show _ = _; unfold bindE; rw [if_neg hc]
    clear HC hv HK1 HK2 y0 y1 y2 y3 y4 z0 z1 z2 z3 z4
    obtain ⟨_, ⟨u0, r0⟩, ⟨u1, r1⟩, f0, f1⟩ := P5
    go_wp2_with fail
    refine bodyPost_ret (v := .tuple #[.agg #[.int .i64 v.1, .int .i64 v.2], .int .i64 r.c]) (by simp [results, Tryz.results136, go_sem, r0, r1]) rfl ?_
    rw [HR.out]
    exact .mk (v := v) (kp_pair qq (by omega) _ _) (e5.pair hRb _ _) rfl (fun h => absurd h hc)
  obtain ⟨rfl, hv0, hv1⟩ := hv hc
  have hbf : (r.c != 0) = false := by rw [hc]; rfl
  have x0 := e5.c0
  have nA1 := decAhead
  have nA2 := decMeth
  have HNG := fun W => Lib.hid (pDecides r.v.1 r.v.2 W)
  clear HC
  by_cases hz : r.v.1 = 0
  · have hzb : (r.v.1 == 0) = true := by simp [hz]
    have HR : Hid ((bindE r fun v s => if pA.zer v = true then (evE pA fs f k1 n1 p1 c1 kk1 vars s) else (evE pA fs f k2 n2 p2 c2 kk2 vars s)) = (evE pA fs f k1 n1 p1 c1 kk1 vars r.s)) := by show _ = _; unfold bindE; rw [if_pos hc]; exact if_pos hzb
    rw [hzb] at HNG
    clear HK2 hz
    go_wp2_with fail
    go_region_with (go_at_call 183; refine (HNG _).out.mono ?_; rintro e w3 ⟨rfl, b3'⟩; have b3 := (Below.refl w5.heap.size w5).drew.trans b3'; have P3 := P5.next b3)
    all_goals
      have q3 := qq.more b3
      have e3 := e5.next b3
      replace y0 := (b3.cell (p := ⟨w.heap.size, 5, none⟩) (cell_lt y0)).trans y0
      replace y1 := (b3.cell (p := ⟨w.heap.size, 6, none⟩) (cell_lt y1)).trans y1
      replace y2 := (b3.cell (p := ⟨w.heap.size, 7, none⟩) (cell_lt y2)).trans y2
      replace y3 := (b3.cell (p := ⟨w.heap.size, 8, none⟩) (cell_lt y3)).trans y3
      replace y4 := (b3.cell (p := ⟨w.heap.size, 9, none⟩) (cell_lt y4)).trans y4
      have HV := HK1 w3 r.s ⟨by omega, hst.2, by omega⟩ q3 e3
      rw [← HR.out] at HV
      go_wp2_with fail
      refine HV.out.mono ?_; rintro e w4 ⟨q4, e4, v4, rfl, hv4⟩
      obtain ⟨_, ⟨u0, r0⟩, ⟨u1, r1⟩, f0, f1⟩ := P3.keep q4 hRb
      go_wp2_with fail
      refine bodyPost_ret (v := .tuple #[.agg #[.int .i64 v4.1, .int .i64 v4.2], .int .i64 (bindE r fun v s => if pA.zer v = true then (evE pA fs f k1 n1 p1 c1 kk1 vars s) else (evE pA fs f k2 n2 p2 c2 kk2 vars s)).c]) (by simp [results, Tryz.results136, go_sem, r0, r1]) rfl ?_
      exact .mk (v := v4) (kp_pair (q3.trans q4) (by omega) _ _) (e4.pair hRb _ _) rfl hv4
  · have hzb : (r.v.1 == 0) = false := by simp [hz]
    have HR : Hid ((bindE r fun v s => if pA.zer v = true then (evE pA fs f k1 n1 p1 c1 kk1 vars s) else (evE pA fs f k2 n2 p2 c2 kk2 vars s)) = (evE pA fs f k2 n2 p2 c2 kk2 vars r.s)) := by show _ = _; unfold bindE; rw [if_pos hc]; exact if_neg (by show ¬ (r.v.1 == 0) = true; rw [hzb]; simp)
    rw [hzb] at HNG
    clear HK1 hz
    go_wp2_with fail
    go_region_with (go_at_call 183; refine (HNG _).out.mono ?_; rintro e w3 ⟨rfl, b3'⟩; have b3 := (Below.refl w5.heap.size w5).drew.trans b3'; have P3 := P5.next b3)
    all_goals
      have q3 := qq.more b3
      have e3 := e5.next b3
      replace z0 := (b3.cell (p := ⟨w.heap.size, 10, none⟩) (cell_lt z0)).trans z0
      replace z1 := (b3.cell (p := ⟨w.heap.size, 11, none⟩) (cell_lt z1)).trans z1
      replace z2 := (b3.cell (p := ⟨w.heap.size, 12, none⟩) (cell_lt z2)).trans z2
      replace z3 := (b3.cell (p := ⟨w.heap.size, 13, none⟩) (cell_lt z3)).trans z3
      replace z4 := (b3.cell (p := ⟨w.heap.size, 14, none⟩) (cell_lt z4)).trans z4
      have HV := HK2 w3 r.s ⟨by omega, hst.2, by omega⟩ q3 e3
      rw [← HR.out] at HV
      go_wp2_with fail
      refine HV.out.mono ?_; rintro e w4 ⟨q4, e4, v4, rfl, hv4⟩
      obtain ⟨_, ⟨u0, r0⟩, ⟨u1, r1⟩, f0, f1⟩ := P3.keep q4 hRb
      go_wp2_with fail
      refine bodyPost_ret (v := .tuple #[.agg #[.int .i64 v4.1, .int .i64 v4.2], .int .i64 (bindE r fun v s => if pA.zer v = true then (evE pA fs f k1 n1 p1 c1 kk1 vars s) else (evE pA fs f k2 n2 p2 c2 kk2 vars s)).c]) (by simp [results, Tryz.results136, go_sem, r0, r1]) rfl ?_
      exact .mk (v := v4) (kp_pair (q3.trans q4) (by omega) _ _) (e4.pair hRb _ _) rfl hv4

end Pr

end Go.Proofs.YtoedccgiahegnaaGreat
