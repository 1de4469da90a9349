/- The program's evaluation with numbers: operations, negations, choices. The program's evaluation with numbers: lets, calls, loops. The program's evaluation with numbers: each node, and all of them. The function of a program at an index, with where its outputs lie. The program's evaluation with numbers, whole; Evaluate. Evaluate by the program. -/
import Derived.Deep.RegionLawGrows
import Derived.Deep.RegionHeld3
import Derived.Deep.RegionWith
import Derived.Test.YtemmbacdilepgaaGreatEw
import Derived.Test.YtemmbacdilepgaaGreatVr
import Derived.Test.YtemmbacdilepgaaGreatAre
namespace Go.Proofs.YtemmbacdilepgaaGreat
open Go.RowKit
set_option linter.unusedVariables false

set_option maxRecDepth 100000 in
theorem nDecides (a : Int) (w : World) :
    Calls Tryz.prog 253 #[.agg #[], .int .i64 a] w fun e w' => e = .returned (.bool (a == 0)) ∧ Below w.heap.size w w' := by
  have hb := below_box w 95
  go_enter Tryz.func253, Tryz.ntmps253
  go_wp2_with fail
  refine (nZero a _).mono ?_; rintro e w' ⟨rfl, hb2⟩
  go_wp2_with fail
  go_ret
  exact ⟨rfl, hb.trans (hb2.mono hb.size)⟩
set_option maxRecDepth 100000 in
theorem decAhead (W : World) : (nilAhead 435 95 (.agg #[]) "loop.example/g01091/impl.decides").run Tryz.prog W = .ok (some false) W := by kernel_rfl
set_option maxRecDepth 100000 in
theorem decMeth (W : World) : (method 435 95 (.agg #[]) "loop.example/g01091/impl.decides").run Tryz.prog W = .ok (253, .agg #[]) W := by kernel_rfl

theorem VRes.mk {bv : Nat} {ap : Option Addr} {fl capp : Nat} {w : World} {r : Rv Int} {e : Ending} {w' : World} {v : Int} (k : Kp (fun b => b = bv) w w') (h : EvAt w' bv ap fl capp r.s) (he : e = .returned (.tuple #[.int .i64 v, .int .i64 r.c])) (hv : r.c = 0 → v = r.v ∧ 0 ≤ v ∧ v < 1000003) : VRes bv ap fl capp w r e w' := ⟨k, h, v, he, hv⟩
theorem keepKid {w w' : World} {bv : Nat} (k : Kp (fun b => b = bv) w w') {b : Nat} (hb : b ≠ bv) {o : Nat} {v : Value} (h : w.cell? ⟨b, o, none⟩ = some v) : w'.cell? ⟨b, o, none⟩ = some v := k.cell h hb
set_option maxRecDepth 100000 in
set_option maxHeartbeats 6400000 in
theorem iNegation {fs : List Fn} {ap : Option Addr} {capp bv B f : Nat} (hBv : B ≤ bv) (hV : PV fs ap capp bv B f) (fi : Nat) (k0 n0 p0 c0 : Int) (kk0 : Fo) (a0 : Option Addr) (cap0 : Nat) (av : Option Addr) (cav : Nat) (vars : List Int) (s : Nat) (w : World)
    (hf : 3000 < f + s) (hs : s ≤ 3000) (hfi : fi ≤ fs.length) (hE : EvAt w bv ap fs.length capp s) (hP : Pat w 0 B fs ap) (hL : Ls w bv av vars) (hN : Nums vars) (hvl : vars.length ≤ 412 + s) (hcv : vars.length ≤ cav) (hcv2 : cav ≤ 9223372036854775807)
    (kn0 : nodeB fs (vars.length : Int) (fi : Int) k0 n0 p0 c0 kk0.len = true) (kt0 : treeB fs (fi : Int) kk0 (vars.length : Int) k0 0 = true) (kf0 : Fat w 0 B kk0 a0) (kl0 : kk0.len ≤ maxLen) :
    Calls Tryz.prog 181 #[.pointer (some ⟨bv, 0, none⟩), .agg #[.int .i64 k0, .int .i64 n0, .int .i64 p0, .int .i64 c0, .slice a0 kk0.len cap0], .slice av vars.length cav] w (VRes bv ap fs.length capp w (oneE (evE nA fs f k0 n0 p0 c0 kk0 vars s) nA.neg)) := by
  obtain ⟨w1, hw1⟩ : ∃ w1, w1 = w.alloc (.cells #[.int .i64 k0, .int .i64 n0, .int .i64 p0, .int .i64 c0, .slice a0 kk0.len cap0] 257) := ⟨_, rfl⟩
  have b1 : Below w.heap.size w w1 := by rw [hw1]; exact (Below.refl _ _).alloc (Nat.le_refl _) _
  have k1 : Kp (fun b => b = bv) w w1 := Kp.of_below b1
  have hbw := cell_lt hE.c0
  have HC := Lib.hid (hV fi k0 n0 p0 c0 kk0 a0 cap0 av cav vars s w1 hf hs hfi kn0 kt0 (hE.next b1) (hP.keepE k1 hBv hbw) (kf0.keepE k1 hBv hbw) kl0 (hL.keep k1) hN hvl hcv hcv2)
  generalize (evE nA fs f k0 n0 p0 c0 kk0 vars s) = r at HC
  clear hE hP hL kn0 kt0 kf0 kl0
  go_enter Tryz.func181, Tryz.ntmps181
  go_wp2_with fail
  rw [← hw1]
  clear hw1
  refine HC.out.mono ?_; rintro e w2 ⟨k2, e2, v, rfl, hv⟩
  have kk := k1.trans k2
  by_cases hc : r.c = 0
  · obtain ⟨rfl, hv0, hv1⟩ := hv hc
    have hbf : (r.c != 0) = false := by rw [hc]; rfl
    have HR : Hid (oneE r nA.neg = ⟨mns 0 r.v, r.s, 0⟩) := by show _ = _; unfold oneE; rw [if_pos hc]; rfl
    have x0 := e2.c0
    have nA1 := negAhead
    have nA2 := negMeth
    have HNG := fun W => Lib.hid (nNeg r.v ⟨hv0, hv1⟩ W)
    clear HC
    go_wp2_with fail
    refine (HNG _).out.mono ?_; rintro e w3 ⟨rfl, b3⟩
    go_wp2_with fail
    go_ret2
    rw [HR.out]
    exact .mk (kk.more b3) (e2.next b3) rfl (fun _ => ⟨rfl, mns_bd _ _⟩)
  · have hbf : (r.c != 0) = true := by simp [hc]
    have HR : Hid (oneE r nA.neg = r) := by show _ = _; unfold oneE; rw [if_neg hc]
    clear HC hv
    go_wp2_with fail
    go_ret2
    rw [HR.out]
    exact .mk kk e2 rfl (fun h => absurd h hc)
set_option maxRecDepth 100000 in
set_option maxHeartbeats 6400000 in
theorem iChoice {fs : List Fn} {ap : Option Addr} {capp bv B f : Nat} (hBv : B ≤ bv) (hV : PV fs ap capp bv B f) (fi : Nat) (k0 n0 p0 c0 : Int) (kk0 : Fo) (a0 : Option Addr) (cap0 : Nat) (k1 n1 p1 c1 : Int) (kk1 : Fo) (a1 : Option Addr) (cap1 : Nat) (k2 n2 p2 c2 : Int) (kk2 : Fo) (a2 : Option Addr) (cap2 : Nat) (av : Option Addr) (cav : Nat) (vars : List Int) (s : Nat) (w : World)
    (hf : 3000 < f + s) (hs : s ≤ 3000) (hfi : fi ≤ fs.length) (hE : EvAt w bv ap fs.length capp s) (hP : Pat w 0 B fs ap) (hL : Ls w bv av vars) (hN : Nums vars) (hvl : vars.length ≤ 412 + s) (hcv : vars.length ≤ cav) (hcv2 : cav ≤ 9223372036854775807)
    (kn0 : nodeB fs (vars.length : Int) (fi : Int) k0 n0 p0 c0 kk0.len = true) (kt0 : treeB fs (fi : Int) kk0 (vars.length : Int) k0 0 = true) (kf0 : Fat w 0 B kk0 a0) (kl0 : kk0.len ≤ maxLen)
    (kn1 : nodeB fs (vars.length : Int) (fi : Int) k1 n1 p1 c1 kk1.len = true) (kt1 : treeB fs (fi : Int) kk1 (vars.length : Int) k1 0 = true) (kf1 : Fat w 0 B kk1 a1) (kl1 : kk1.len ≤ maxLen)
    (kn2 : nodeB fs (vars.length : Int) (fi : Int) k2 n2 p2 c2 kk2.len = true) (kt2 : treeB fs (fi : Int) kk2 (vars.length : Int) k2 0 = true) (kf2 : Fat w 0 B kk2 a2) (kl2 : kk2.len ≤ maxLen) :
    Calls Tryz.prog 182 #[.pointer (some ⟨bv, 0, none⟩), .agg #[.int .i64 k0, .int .i64 n0, .int .i64 p0, .int .i64 c0, .slice a0 kk0.len cap0, .int .i64 k1, .int .i64 n1, .int .i64 p1, .int .i64 c1, .slice a1 kk1.len cap1, .int .i64 k2, .int .i64 n2, .int .i64 p2, .int .i64 c2, .slice a2 kk2.len cap2], .slice av vars.length cav] w (VRes bv ap fs.length capp w (bindE (evE nA fs f k0 n0 p0 c0 kk0 vars s) fun v s => if nA.zer v = true then (evE nA fs f k1 n1 p1 c1 kk1 vars s) else (evE nA fs f k2 n2 p2 c2 kk2 vars s))) := by
  obtain ⟨w1, hw1⟩ : ∃ w1, w1 = w.alloc (.cells #[.int .i64 k0, .int .i64 n0, .int .i64 p0, .int .i64 c0, .slice a0 kk0.len cap0, .int .i64 k1, .int .i64 n1, .int .i64 p1, .int .i64 c1, .slice a1 kk1.len cap1, .int .i64 k2, .int .i64 n2, .int .i64 p2, .int .i64 c2, .slice a2 kk2.len cap2] 260) := ⟨_, rfl⟩
  have b1 : Below w.heap.size w w1 := by rw [hw1]; exact (Below.refl _ _).alloc (Nat.le_refl _) _
  have q1 : Kp (fun b => b = bv) w w1 := Kp.of_below b1
  have hbw := cell_lt hE.c0
  have hne : w.heap.size ≠ bv := by omega
  have y0 : w1.cell? ⟨w.heap.size, 5, none⟩ = some (.int .i64 k1) := by rw [hw1]; simp [go_sem]
  have y1 : w1.cell? ⟨w.heap.size, 6, none⟩ = some (.int .i64 n1) := by rw [hw1]; simp [go_sem]
  have y2 : w1.cell? ⟨w.heap.size, 7, none⟩ = some (.int .i64 p1) := by rw [hw1]; simp [go_sem]
  have y3 : w1.cell? ⟨w.heap.size, 8, none⟩ = some (.int .i64 c1) := by rw [hw1]; simp [go_sem]
  have y4 : w1.cell? ⟨w.heap.size, 9, none⟩ = some (.slice a1 kk1.len cap1) := by rw [hw1]; simp [go_sem]
  have z0 : w1.cell? ⟨w.heap.size, 10, none⟩ = some (.int .i64 k2) := by rw [hw1]; simp [go_sem]
  have z1 : w1.cell? ⟨w.heap.size, 11, none⟩ = some (.int .i64 n2) := by rw [hw1]; simp [go_sem]
  have z2 : w1.cell? ⟨w.heap.size, 12, none⟩ = some (.int .i64 p2) := by rw [hw1]; simp [go_sem]
  have z3 : w1.cell? ⟨w.heap.size, 13, none⟩ = some (.int .i64 c2) := by rw [hw1]; simp [go_sem]
  have z4 : w1.cell? ⟨w.heap.size, 14, none⟩ = some (.slice a2 kk2.len cap2) := by rw [hw1]; simp [go_sem]
  have hst := evE_stp (A := nA) fs f s hf k0 n0 p0 c0 kk0 vars s (Nat.le_refl _) hs
  have HC := Lib.hid (hV fi k0 n0 p0 c0 kk0 a0 cap0 av cav vars s w1 hf hs hfi kn0 kt0 (hE.next b1) (hP.keepE q1 hBv hbw) (kf0.keepE q1 hBv hbw) kl0 (hL.keep q1) hN hvl hcv hcv2)
  have HK1 := fun (W : World) (s : Nat) (hss : 3000 < f + s ∧ s ≤ 3000 ∧ vars.length ≤ 412 + s) (hk : Kp (fun b => b = bv) w W) (he : EvAt W bv ap fs.length capp s) => Lib.hid (hV fi k1 n1 p1 c1 kk1 a1 cap1 av cav vars s W hss.1 hss.2.1 hfi kn1 kt1 he (hP.keepE hk hBv hbw) (kf1.keepE hk hBv hbw) kl1 (hL.keep hk) hN hss.2.2 hcv hcv2)
  have HK2 := fun (W : World) (s : Nat) (hss : 3000 < f + s ∧ s ≤ 3000 ∧ vars.length ≤ 412 + s) (hk : Kp (fun b => b = bv) w W) (he : EvAt W bv ap fs.length capp s) => Lib.hid (hV fi k2 n2 p2 c2 kk2 a2 cap2 av cav vars s W hss.1 hss.2.1 hfi kn2 kt2 he (hP.keepE hk hBv hbw) (kf2.keepE hk hBv hbw) kl2 (hL.keep hk) hN hss.2.2 hcv hcv2)
  generalize (evE nA fs f k0 n0 p0 c0 kk0 vars s) = r at HC hst
  clear hE hP hL kn0 kt0 kf0 kl0 kn1 kt1 kf1 kl1 kn2 kt2 kf2 kl2
  go_enter Tryz.func182, Tryz.ntmps182
  go_wp2_with fail
  rw [← hw1]
  clear hw1
  refine HC.out.mono ?_; rintro e w2 ⟨q2, e2, v, rfl, hv⟩
  have qq := q1.trans q2
  replace y0 := q2.cell y0 hne
  replace y1 := q2.cell y1 hne
  replace y2 := q2.cell y2 hne
  replace y3 := q2.cell y3 hne
  replace y4 := q2.cell y4 hne
  replace z0 := q2.cell z0 hne
  replace z1 := q2.cell z1 hne
  replace z2 := q2.cell z2 hne
  replace z3 := q2.cell z3 hne
  replace z4 := q2.cell z4 hne
  by_cases hc : r.c = 0
  rotate_left
  · have hbf : (r.c != 0) = true := by simp [hc]
    have HR : Hid ((bindE r fun v s => if nA.zer v = true then (evE nA fs f k1 n1 p1 c1 kk1 vars s) else (evE nA fs f k2 n2 p2 c2 kk2 vars s)) = r) := by show _ = _; unfold bindE; rw [if_neg hc]
    clear HC hv HK1 HK2 y0 y1 y2 y3 y4 z0 z1 z2 z3 z4
    go_wp2_with fail
    go_ret2
    rw [HR.out]
    exact .mk qq e2 rfl (fun h => absurd h hc)
  obtain ⟨rfl, hv0, hv1⟩ := hv hc
  have hbf : (r.c != 0) = false := by rw [hc]; rfl
  have x0 := e2.c0
  have nA1 := decAhead
  have nA2 := decMeth
  have HNG := fun W => Lib.hid (nDecides r.v W)
  clear HC
  by_cases hz : r.v = 0
  · have hzb : (r.v == 0) = true := by simp [hz]
    have HR : Hid ((bindE r fun v s => if nA.zer v = true then (evE nA fs f k1 n1 p1 c1 kk1 vars s) else (evE nA fs f k2 n2 p2 c2 kk2 vars s)) = (evE nA fs f k1 n1 p1 c1 kk1 vars r.s)) := by show _ = _; unfold bindE; rw [if_pos hc]; exact if_pos hzb
    rw [hzb] at HNG
    clear HK2 hz
    go_wp2_with fail
    refine (HNG _).out.mono ?_; rintro e w3 ⟨rfl, b3⟩
    have q3 := qq.more b3
    have e3 := e2.next b3
    replace y0 := (b3.cell (p := ⟨w.heap.size, 5, none⟩) (cell_lt y0)).trans y0
    replace y1 := (b3.cell (p := ⟨w.heap.size, 6, none⟩) (cell_lt y1)).trans y1
    replace y2 := (b3.cell (p := ⟨w.heap.size, 7, none⟩) (cell_lt y2)).trans y2
    replace y3 := (b3.cell (p := ⟨w.heap.size, 8, none⟩) (cell_lt y3)).trans y3
    replace y4 := (b3.cell (p := ⟨w.heap.size, 9, none⟩) (cell_lt y4)).trans y4
    have HV := HK1 w3 r.s ⟨by omega, hst.2, by omega⟩ q3 e3
    rw [← HR.out] at HV
    go_wp2_with fail
    refine HV.out.mono ?_; rintro e w4 ⟨q4, e4, v4, rfl, hv4⟩
    go_wp2_with fail
    go_ret2
    exact .mk (q3.trans q4) e4 rfl hv4
  · have hzb : (r.v == 0) = false := by simp [hz]
    have HR : Hid ((bindE r fun v s => if nA.zer v = true then (evE nA fs f k1 n1 p1 c1 kk1 vars s) else (evE nA fs f k2 n2 p2 c2 kk2 vars s)) = (evE nA fs f k2 n2 p2 c2 kk2 vars r.s)) := by show _ = _; unfold bindE; rw [if_pos hc]; exact if_neg (by show ¬ (r.v == 0) = true; rw [hzb]; simp)
    rw [hzb] at HNG
    clear HK1 hz
    go_wp2_with fail
    refine (HNG _).out.mono ?_; rintro e w3 ⟨rfl, b3⟩
    have q3 := qq.more b3
    have e3 := e2.next b3
    replace z0 := (b3.cell (p := ⟨w.heap.size, 10, none⟩) (cell_lt z0)).trans z0
    replace z1 := (b3.cell (p := ⟨w.heap.size, 11, none⟩) (cell_lt z1)).trans z1
    replace z2 := (b3.cell (p := ⟨w.heap.size, 12, none⟩) (cell_lt z2)).trans z2
    replace z3 := (b3.cell (p := ⟨w.heap.size, 13, none⟩) (cell_lt z3)).trans z3
    replace z4 := (b3.cell (p := ⟨w.heap.size, 14, none⟩) (cell_lt z4)).trans z4
    have HV := HK2 w3 r.s ⟨by omega, hst.2, by omega⟩ q3 e3
    rw [← HR.out] at HV
    go_wp2_with fail
    refine HV.out.mono ?_; rintro e w4 ⟨q4, e4, v4, rfl, hv4⟩
    go_wp2_with fail
    go_ret2
    exact .mk (q3.trans q4) e4 rfl hv4
set_option maxRecDepth 100000 in
set_option maxHeartbeats 6400000 in
theorem iOperation {fs : List Fn} {ap : Option Addr} {capp bv B f : Nat} (hBv : B ≤ bv) (hV : PL fs ap capp bv B f) (fi : Nat) (k : Int) (ks : Fo) (a : Option Addr) (cap : Nat) (av : Option Addr) (cav : Nat) (vars : List Int) (s : Nat) (w : World)
    (hf : 3000 < f + s) (hs : s ≤ 3000) (hfi : fi ≤ fs.length) (hE : EvAt w bv ap fs.length capp s) (hP : Pat w 0 B fs ap) (hL : Ls w bv av vars) (hN : Nums vars) (hvl : vars.length ≤ 412 + s) (hcv : vars.length ≤ cav) (hcv2 : cav ≤ 9223372036854775807)
    (hk9 : k ≠ 9) (kt : treeB fs (fi : Int) ks (vars.length : Int) k 0 = true) (kf : Fat w 0 B ks a) (kl : ks.len = 2) :
    Calls Tryz.prog 180 #[.pointer (some ⟨bv, 0, none⟩), .agg #[.int .i64 k, .slice a ks.len cap], .slice av vars.length cav] w (VRes bv ap fs.length capp w (bindL nA (lisE nA (evE nA fs f) ks vars s ks.len) fun l s => opE nA k l s)) := by
  obtain ⟨w1, hw1⟩ : ∃ w1, w1 = w.alloc (.cells #[.int .i64 k, .slice a ks.len cap] 254) := ⟨_, rfl⟩
  have b1 : Below w.heap.size w w1 := by rw [hw1]; exact (Below.refl _ _).alloc (Nat.le_refl _) _
  have q1 : Kp (fun b => b = bv) w w1 := Kp.of_below b1
  have hbw := cell_lt hE.c0
  have hne : w.heap.size ≠ bv := by omega
  have y0 : w1.cell? ⟨w.heap.size, 0, none⟩ = some (.int .i64 k) := by rw [hw1]; simp [go_sem]
  have z1 : w1.heap.size = w.heap.size + 1 := by rw [hw1]; simp
  have HC := Lib.hid (hV fi k ks a cap av cav vars s w1 hf hs hfi hk9 kt (hE.next b1) (hP.keepE q1 hBv hbw) (kf.keepE q1 hBv hbw) (by omega) (hL.keep q1) hN hvl hcv hcv2)
  have HL := Lib.hid (lisE_len (A := nA) (E := evE nA fs f) (f := ks) (vars := vars) (s := s) ks.len)
  generalize lisE nA (evE nA fs f) ks vars s ks.len = r at HC HL
  have KL := Lib.hid kl
  clear hE hP hL kt kf kl
  go_enter Tryz.func180, Tryz.ntmps180
  go_wp2_with fail
  rw [← hw1]
  clear hw1
  refine HC.out.mono ?_; rintro e w2 ⟨q2, e2, ⟨hc, g, rfl, ho, hnm⟩ | ⟨hc, rfl⟩⟩
  rotate_left
  · have hbf : (r.c != 0) = true := by simp [hc]
    have HR : Hid ((bindL nA r fun l s => opE nA k l s) = ⟨0, r.s, r.c⟩) := by show _ = _; unfold bindL; rw [if_neg hc]; rfl
    clear HC HL
    go_wp2_with fail
    go_ret2
    rw [HR.out]
    exact .mk (q1.trans q2) e2 rfl (fun h => absurd h hc)
  have hln := (HL.out hc).trans KL.out
  have HR : Hid ((bindL nA r fun l s => opE nA k l s) = opE nA k r.l r.s) := by show _ = _; unfold bindL; rw [if_pos hc]
  have qq := q1.trans q2
  replace y0 := q2.cell y0 hne
  have x0 := e2.c0
  have g0 := ho.cellAt 0 (by omega)
  have g1 := ho.cellAt 1 (by omega)
  have r0 := hnm.at 0
  have r1 := hnm.at 1
  have hgb := ho.base
  have HO : Hid (opE nA k r.l r.s = if k = 3 then ⟨pls (r.l.getD 0 0) (r.l.getD 1 0), r.s, 0⟩ else if k = 4 then ⟨mns (r.l.getD 0 0) (r.l.getD 1 0), r.s, 0⟩ else if k = 5 then ⟨tms (r.l.getD 0 0) (r.l.getD 1 0), r.s, 0⟩ else if (r.l.getD 1 0 == 0) = true then ⟨0, r.s, 6⟩ else ⟨tms (r.l.getD 0 0) (inv (r.l.getD 1 0)), r.s, 0⟩) := rfl
  have h1l : (0 : Int) < (r.l.length : Int) := by omega
  have h2l : (1 : Int) < (r.l.length : Int) := by omega
  clear HC HL ho hnm q1 q2 b1 hln
  generalize r.l.getD 0 0 = x at *
  generalize r.l.getD 1 0 = y at *
  generalize opE nA k r.l r.s = R at HO HR
  generalize r.l.length = m at *
  by_cases h3 : k = 3
  · subst h3
    have HR2 : Hid (R = ⟨pls x y, r.s, 0⟩) := by show _ = _; rw [HO.out]; rfl
    have nA1 := plsAhead
    have nA2 := plsMeth
    have HNG := fun W => Lib.hid (nPlus x y r0 r1 W)
    clear HO
    go_wp2_with fail
    go_quiet (fail)
    have x0q : (w2.drewN nq).cell? ⟨bv, 0, none⟩ = some ofN := x0
    go_wp2_with fail
    refine (HNG _).out.mono ?_; rintro e w3 ⟨rfl, b3⟩
    go_wp2_with fail
    go_ret2
    rw [HR.out, HR2.out]
    have bq := below_drewN (Below.refl w2.heap.size w2) nq
    exact .mk ((qq.more bq).more b3) ((e2.next bq).next b3) rfl (fun _ => ⟨rfl, pls_bd _ _⟩)
  have d3 : (k == 3) = false := ne_beq h3
  by_cases h4 : k = 4
  · subst h4
    have HR2 : Hid (R = ⟨mns x y, r.s, 0⟩) := by show _ = _; rw [HO.out]; rfl
    have nA1 := minAhead
    have nA2 := minMeth
    have HNG := fun W => Lib.hid (nMinus x y r0 r1 W)
    clear HO
    go_wp2_with fail
    go_quiet (fail)
    have x0q : (w2.drewN nq).cell? ⟨bv, 0, none⟩ = some ofN := x0
    go_wp2_with fail
    refine (HNG _).out.mono ?_; rintro e w3 ⟨rfl, b3⟩
    go_wp2_with fail
    go_ret2
    rw [HR.out, HR2.out]
    have bq := below_drewN (Below.refl w2.heap.size w2) nq
    exact .mk ((qq.more bq).more b3) ((e2.next bq).next b3) rfl (fun _ => ⟨rfl, mns_bd _ _⟩)
  have d4 : (k == 4) = false := ne_beq h4
  by_cases h5 : k = 5
  · subst h5
    have HR2 : Hid (R = ⟨tms x y, r.s, 0⟩) := by show _ = _; rw [HO.out]; rfl
    have nA1 := timAhead
    have nA2 := timMeth
    have HNG := fun W => Lib.hid (nTimes x y r0 r1 W)
    clear HO
    go_wp2_with fail
    go_quiet (fail)
    have x0q : (w2.drewN nq).cell? ⟨bv, 0, none⟩ = some ofN := x0
    go_wp2_with fail
    refine (HNG _).out.mono ?_; rintro e w3 ⟨rfl, b3⟩
    go_wp2_with fail
    go_ret2
    rw [HR.out, HR2.out]
    have bq := below_drewN (Below.refl w2.heap.size w2) nq
    exact .mk ((qq.more bq).more b3) ((e2.next bq).next b3) rfl (fun _ => ⟨rfl, tms_bd _ _⟩)
  have d5 : (k == 5) = false := ne_beq h5
  have HO2 : Hid (R = if (y == 0) = true then ⟨0, r.s, 6⟩ else ⟨tms x (inv y), r.s, 0⟩) := by show _ = _; rw [HO.out, if_neg h3, if_neg h4, if_neg h5]
  have nA1 := zerAhead
  have nA2 := zerMeth
  have nA3 := ovrAhead
  have nA4 := ovrMeth
  have HNG := fun W => Lib.hid (nZero y W)
  clear HO
  by_cases hz : y = 0
  · have hzb : (y == 0) = true := by simp [hz]
    have HR2 : Hid (R = ⟨0, r.s, 6⟩) := by show _ = _; rw [HO2.out, if_pos hzb]
    rw [hzb] at HNG
    clear HO2 hz
    go_wp2_with fail
    go_quiet (fail)
    have x0q : (w2.drewN nq).cell? ⟨bv, 0, none⟩ = some ofN := x0
    go_wp2_with fail
    refine (HNG _).out.mono ?_; rintro e w3 ⟨rfl, b3⟩
    go_wp2_with fail
    go_ret2
    rw [HR.out, HR2.out]
    have bq := below_drewN (Below.refl w2.heap.size w2) nq
    exact .mk ((qq.more bq).more b3) ((e2.next bq).next b3) rfl (fun h => by cases h)
  · have hzb : (y == 0) = false := by simp [hz]
    have HR2 : Hid (R = ⟨tms x (inv y), r.s, 0⟩) := by show _ = _; rw [HO2.out, hzb]; rfl
    rw [hzb] at HNG
    have HNO := fun W => Lib.hid (nOver x y r0 r1 W)
    clear HO2 hz
    go_wp2_with fail
    go_quiet (fail)
    have x0q : (w2.drewN nq).cell? ⟨bv, 0, none⟩ = some ofN := x0
    go_wp2_with fail
    refine (HNG _).out.mono ?_; rintro e w3 ⟨rfl, b3⟩
    have bq := below_drewN (Below.refl w2.heap.size w2) nq
    have x1q := ((e2.next bq).next b3).c0
    go_wp2_with fail
    refine (HNO _).out.mono ?_; rintro e w4 ⟨rfl, b4⟩
    go_wp2_with fail
    go_ret2
    rw [HR.out, HR2.out]
    exact .mk (((qq.more bq).more b3).more b4) (((e2.next bq).next b3).next b4) rfl (fun _ => ⟨rfl, tms_bd _ _⟩)

end Go.Proofs.YtemmbacdilepgaaGreat

namespace Go.Proofs.YtemmbacdilepgaaGreat
open Go.RowKit
set_option linter.unusedVariables false

set_option maxRecDepth 100000 in
theorem iClip (a : Option Addr) (n cap : Nat) (w : World) (hn : a = none → n = 0) (hc : n ≤ cap) (hc2 : cap ≤ 9223372036854775807) :
    Calls Tryz.prog 205 #[.slice a n cap] w fun e w' => e = .returned (.slice a n n) ∧ w = w' := by
  have h1 : (n : Int) ≤ (cap : Int) := by omega
  cases a with
  | none =>
    obtain rfl := hn rfl
    go_enter Tryz.func205, Tryz.ntmps205
    go_wp2_with fail
    go_ret
    exact ⟨rfl, rfl⟩
  | some p =>
    obtain ⟨b, o, s⟩ := p
    go_enter Tryz.func205, Tryz.ntmps205
    go_wp2_with fail
    go_ret
    exact ⟨rfl, rfl⟩
theorem row_succ {W : World} {base : Nat} {e : TypeId} {size : Nat} {v : Value} {k : Nat} {xs : List Value} (h : W.ownsRow base e size v (k + 1) xs) : ∃ g cap, v = .slice (some ⟨g, 0, none⟩) (k + 1) cap := by
  rcases h.2 with ⟨_, h0⟩ | ⟨g, cap, _, rfl, _⟩
  · omega
  · exact ⟨g, cap, rfl⟩
theorem At.olds {w : World} {a : Option Addr} {l : List Int} (h : At w a l) : ∀ b, a = some b → ∀ j u, (l.map (Value.int .i64))[j]? = some u → w.cell? (b.add j) = some u := by
  intro b hb j u hj
  rw [List.getElem?_map] at hj
  by_cases hl : l = []
  · rw [hl] at hj; simp at hj
  · obtain ⟨bb, off, h1, _, hc⟩ := h.resolve_left hl
    rw [h1] at hb; cases hb
    by_cases hjl : j < l.length
    · rw [List.getElem?_eq_getElem hjl] at hj
      simp at hj
      rw [Addr.add_lit, hc j hjl, List.getD_eq_getElem?_getD, List.getElem?_eq_getElem hjl]
      simp [hj]
    · rw [List.getElem?_eq_none (by omega)] at hj; simp at hj
theorem At.none0 {w : World} {a : Option Addr} {l : List Int} (h : At w a l) : a = none → l.length = 0 := by
  intro ha
  rcases h with rfl | ⟨b, off, h1, _⟩
  · rfl
  · rw [ha] at h1; cases h1
theorem resL {w w' : World} {r : Rl Int} {e : Ending} (h : (r.c = 0 ∧ ∃ g, e = .returned (.tuple #[.slice (some ⟨g, 0, none⟩) r.l.length r.l.length, .int .i64 0]) ∧ Own w.heap.size w' g r.l.length r.l ∧ Nums r.l) ∨ (¬ r.c = 0 ∧ e = .returned (.tuple #[.slice none 0 0, .int .i64 r.c]))) :
    ∃ lv, e = .returned (.tuple #[lv, .int .i64 r.c]) ∧ ((r.c = 0 ∧ ∃ g, lv = .slice (some ⟨g, 0, none⟩) r.l.length r.l.length ∧ Own w.heap.size w' g r.l.length r.l ∧ Nums r.l) ∨ ¬ r.c = 0) := by
  rcases h with ⟨hc, g, he, ho, hnm⟩ | ⟨hc, he⟩
  · exact ⟨_, by rw [hc]; exact he, .inl ⟨hc, g, rfl, ho, hnm⟩⟩
  · exact ⟨_, he, .inr hc⟩
theorem resLm {L L' : Nat} {w' : World} {r : Rl Int} {lv : Value} (h : (r.c = 0 ∧ ∃ g, lv = .slice (some ⟨g, 0, none⟩) r.l.length r.l.length ∧ Own L' w' g r.l.length r.l ∧ Nums r.l) ∨ ¬ r.c = 0) (hL : L ≤ L') : (r.c = 0 ∧ ∃ g, lv = .slice (some ⟨g, 0, none⟩) r.l.length r.l.length ∧ Own L w' g r.l.length r.l ∧ Nums r.l) ∨ ¬ r.c = 0 :=
  h.imp (fun ⟨h1, g, h2, h3, h4⟩ => ⟨h1, g, h2, h3.mono hL, h4⟩) id
theorem row_cap {W : World} {base : Nat} {e : TypeId} {size : Nat} {g k cap : Nat} {xs : List Value} (h : W.ownsRow base e size (.slice (some ⟨g, 0, none⟩) k cap) k xs) : cap ≤ 9223372036854775807 := by
  rcases h.2 with ⟨h1, _⟩ | ⟨g', cap', cur, hv, _, _, _, hm, _⟩
  · cases h1
  · cases hv; unfold maxLen at hm; omega
theorem Kp.grown {S : Nat → Prop} {w w' : World} {row : Option Nat} (h : w.grownBy w' row) (hS : ∀ g, row = some g → S g) : Kp S w w' :=
  ⟨h.os, h.tape, h.output, h.size, fun i hi hn => h.block i hi (fun e => hn (hS i e.symm))⟩
set_option maxRecDepth 100000 in
set_option maxHeartbeats 6400000 in
theorem iBinding {fs : List Fn} {ap : Option Addr} {capp bv B f : Nat} (hBv : B ≤ bv) (hV : PV fs ap capp bv B f) (fi : Nat) (k0 n0 p0 c0 : Int) (kk0 : Fo) (a0 : Option Addr) (cap0 : Nat) (k1 n1 p1 c1 : Int) (kk1 : Fo) (a1 : Option Addr) (cap1 : Nat) (av : Option Addr) (cav : Nat) (vars : List Int) (s : Nat) (w : World)
    (hf : 3000 < f + s) (hs : s ≤ 3000) (hfi : fi ≤ fs.length) (hE : EvAt w bv ap fs.length capp s) (hP : Pat w 0 B fs ap) (hL : Ls w bv av vars) (hN : Nums vars) (hvl1 : vars.length + 1 ≤ 412 + s) (hcv : vars.length ≤ cav) (hcv2 : cav ≤ 9223372036854775807)
    (kn0 : nodeB fs (vars.length : Int) (fi : Int) k0 n0 p0 c0 kk0.len = true) (kt0 : treeB fs (fi : Int) kk0 (vars.length : Int) k0 0 = true) (kf0 : Fat w 0 B kk0 a0) (kl0 : kk0.len ≤ maxLen)
    (kn1 : nodeB fs ((vars.length : Int) + 1) (fi : Int) k1 n1 p1 c1 kk1.len = true) (kt1 : treeB fs (fi : Int) kk1 ((vars.length : Int) + 1) k1 0 = true) (kf1 : Fat w 0 B kk1 a1) (kl1 : kk1.len ≤ maxLen) :
    Calls Tryz.prog 183 #[.pointer (some ⟨bv, 0, none⟩), .agg #[.int .i64 k0, .int .i64 n0, .int .i64 p0, .int .i64 c0, .slice a0 kk0.len cap0, .int .i64 k1, .int .i64 n1, .int .i64 p1, .int .i64 c1, .slice a1 kk1.len cap1], .slice av vars.length cav] w (VRes bv ap fs.length capp w (bindE (evE nA fs f k0 n0 p0 c0 kk0 vars s) fun v s => (evE nA fs f k1 n1 p1 c1 kk1 (vars ++ [v]) s))) := by
  obtain ⟨i0, hi, hz0, hz1, hz2⟩ := info_parts info64
  obtain ⟨w1, hw1⟩ : ∃ w1, w1 = w.alloc (.cells #[.int .i64 k0, .int .i64 n0, .int .i64 p0, .int .i64 c0, .slice a0 kk0.len cap0, .int .i64 k1, .int .i64 n1, .int .i64 p1, .int .i64 c1, .slice a1 kk1.len cap1] 263) := ⟨_, rfl⟩
  have b1 : Below w.heap.size w w1 := by rw [hw1]; exact (Below.refl _ _).alloc (Nat.le_refl _) _
  have q1 : Kp (fun b => b = bv) w w1 := Kp.of_below b1
  have hbw := cell_lt hE.c0
  have hne : w.heap.size ≠ bv := by omega
  have y0 : w1.cell? ⟨w.heap.size, 5, none⟩ = some (.int .i64 k1) := by rw [hw1]; simp [go_sem]
  have y1 : w1.cell? ⟨w.heap.size, 6, none⟩ = some (.int .i64 n1) := by rw [hw1]; simp [go_sem]
  have y2 : w1.cell? ⟨w.heap.size, 7, none⟩ = some (.int .i64 p1) := by rw [hw1]; simp [go_sem]
  have y3 : w1.cell? ⟨w.heap.size, 8, none⟩ = some (.int .i64 c1) := by rw [hw1]; simp [go_sem]
  have y4 : w1.cell? ⟨w.heap.size, 9, none⟩ = some (.slice a1 kk1.len cap1) := by rw [hw1]; simp [go_sem]
  have hst := evE_stp (A := nA) fs f s hf k0 n0 p0 c0 kk0 vars s (Nat.le_refl _) hs
  have HC := Lib.hid (hV fi k0 n0 p0 c0 kk0 a0 cap0 av cav vars s w1 hf hs hfi kn0 kt0 (hE.next b1) (hP.keepE q1 hBv hbw) (kf0.keepE q1 hBv hbw) kl0 (hL.keep q1) hN (by omega) hcv hcv2)
  have HLV := Lib.hid hL
  have HK1 := fun (W : World) (s : Nat) (x : Int) (g cg : Nat) (hx : 0 ≤ x ∧ x < 1000003) (hss : 3000 < f + s ∧ s ≤ 3000 ∧ vars.length + 1 ≤ 412 + s) (hk : Kp (fun b => b = bv) w W) (he : EvAt W bv ap fs.length capp s) (ho : Own w.heap.size W g cg (vars ++ [x])) (hcg : cg ≤ 9223372036854775807) => Lib.hid (show Calls Tryz.prog 150 #[.pointer (some ⟨bv, 0, none⟩), .agg #[.int .i64 k1, .int .i64 n1, .int .i64 p1, .int .i64 c1, .slice a1 kk1.len cap1], .slice (some ⟨g, 0, none⟩) (vars.length + 1) cg] W (VRes bv ap fs.length capp W (evE nA fs f k1 n1 p1 c1 kk1 (vars ++ [x]) s)) from by have h := hV fi k1 n1 p1 c1 kk1 a1 cap1 (some ⟨g, 0, none⟩) cg (vars ++ [x]) s W hss.1 hss.2.1 hfi (by rw [List.length_append]; exact kn1) (by rw [List.length_append]; exact kt1) he (hP.keepE hk hBv hbw) (kf1.keepE hk hBv hbw) kl1 (ho.ls hbw) (nums_snoc hN hx) (by rw [List.length_append]; exact hss.2.2) ho.cap_le hcg; rw [List.length_append] at h; exact h)
  generalize (evE nA fs f k0 n0 p0 c0 kk0 vars s) = r at HC hst
  clear hE hP hL kn0 kt0 kf0 kl0 kn1 kt1 kf1 kl1
  go_enter Tryz.func183, Tryz.ntmps183
  go_wp2_with fail
  rw [← hw1]
  clear hw1
  refine HC.out.mono ?_; rintro e w2 ⟨q2, e2, v, rfl, hv⟩
  have qq := q1.trans q2
  replace y0 := q2.cell y0 hne
  replace y1 := q2.cell y1 hne
  replace y2 := q2.cell y2 hne
  replace y3 := q2.cell y3 hne
  replace y4 := q2.cell y4 hne
  by_cases hc : r.c = 0
  rotate_left
  · have hbf : (r.c != 0) = true := by simp [hc]
    have HR : Hid ((bindE r fun v s => (evE nA fs f k1 n1 p1 c1 kk1 (vars ++ [v]) s)) = r) := by show _ = _; unfold bindE; rw [if_neg hc]
    clear HC hv HK1 HLV y0 y1 y2 y3 y4
    go_wp2_with fail
    go_ret2
    rw [HR.out]
    exact .mk qq e2 rfl (fun h => absurd h hc)
  obtain ⟨rfl, hv0, hv1⟩ := hv hc
  have hbf : (r.c != 0) = false := by rw [hc]; rfl
  have HR : Hid ((bindE r fun v s => (evE nA fs f k1 n1 p1 c1 kk1 (vars ++ [v]) s)) = evE nA fs f k1 n1 p1 c1 kk1 (vars ++ [r.v]) r.s) := by show _ = _; unfold bindE; rw [if_pos hc]
  have hz2w : w.heap.size ≤ w2.heap.size := qq.size
  have hlw := cell_lt y0
  obtain ⟨WA, hWA⟩ : ∃ WA, WA = (w2.alloc (.cells #[.int .i64 r.v] 2)).drew := ⟨_, rfl⟩
  have bA : Below w2.heap.size w2 WA := by rw [hWA]; exact ((Below.refl _ _).alloc (Nat.le_refl _) _).drew
  have zA : WA.heap.size = w2.heap.size + 1 := by rw [hWA]; simp
  have hLA := (HLV.out.keep qq).keep (Kp.of_below bA)
  have HOL := Lib.hid hLA.at_.olds
  have hnn := hLA.at_.none0
  have hnw : ∀ j u, [Value.int .i64 r.v][j]? = some u → WA.cell? ((⟨w2.heap.size, 0, none⟩ : Addr).add j) = some u := by
    intro j u hj
    cases j with
    | zero => simp at hj; subst hj; rw [hWA]; simp [go_sem, Addr.add]
    | succ j => simp at hj
  have HNW := Lib.hid hnw
  have HCL := fun W => Lib.hid (iClip av vars.length cav W hnn hcv hcv2)
  have qA := qq.more bA
  have eA := e2.next bA
  have HKA := fun (W : World) (hg : WA.grownBy W none) => Lib.hid (show Kp (fun b => b = bv) w W from qA.trans (Kp.grown hg (fun _ h => by cases h)))
  have HEA := fun (W : World) (hg : WA.grownBy W none) => Lib.hid (show EvAt W bv ap fs.length capp r.s from eA.next ⟨hg.os, hg.tape, hg.output, hg.size, fun j hj => hg.block j hj (by simp)⟩)
  have hvb : vars.length + 1 ≤ 412 + r.s := by omega
  have hr3 : 3000 < f + r.s := by omega
  have hr4 := hst.2
  clear HC hnw hLA qA eA bA HLV
  go_wp2_with fail
  rw [hWA] at HOL HNW HKA HEA
  have YD : Hid (w2.drew.cell? ⟨w.heap.size, 5, none⟩ = some (.int .i64 k1) ∧ w2.drew.cell? ⟨w.heap.size, 6, none⟩ = some (.int .i64 n1) ∧ w2.drew.cell? ⟨w.heap.size, 7, none⟩ = some (.int .i64 p1) ∧ w2.drew.cell? ⟨w.heap.size, 8, none⟩ = some (.int .i64 c1) ∧ w2.drew.cell? ⟨w.heap.size, 9, none⟩ = some (.slice a1 kk1.len cap1)) := ⟨y0, y1, y2, y3, y4⟩
  have YA : Hid (((w2.alloc (.cells #[.int .i64 r.v] 2)).drew).cell? ⟨w.heap.size, 5, none⟩ = some (.int .i64 k1) ∧ ((w2.alloc (.cells #[.int .i64 r.v] 2)).drew).cell? ⟨w.heap.size, 6, none⟩ = some (.int .i64 n1) ∧ ((w2.alloc (.cells #[.int .i64 r.v] 2)).drew).cell? ⟨w.heap.size, 7, none⟩ = some (.int .i64 p1) ∧ ((w2.alloc (.cells #[.int .i64 r.v] 2)).drew).cell? ⟨w.heap.size, 8, none⟩ = some (.int .i64 c1) ∧ ((w2.alloc (.cells #[.int .i64 r.v] 2)).drew).cell? ⟨w.heap.size, 9, none⟩ = some (.slice a1 kk1.len cap1)) := by
    have k := Kp.of_below (S := fun b => b = bv) (((Below.refl w2.heap.size w2).alloc (Nat.le_refl _) (.cells #[.int .i64 r.v] 2)).drew)
    exact ⟨k.cell y0 hne, k.cell y1 hne, k.cell y2 hne, k.cell y3 hne, k.cell y4 hne⟩
  have YB : Hid ((w2.drew.alloc (.cells #[.int .i64 r.v] 2)).cell? ⟨w.heap.size, 5, none⟩ = some (.int .i64 k1) ∧ (w2.drew.alloc (.cells #[.int .i64 r.v] 2)).cell? ⟨w.heap.size, 6, none⟩ = some (.int .i64 n1) ∧ (w2.drew.alloc (.cells #[.int .i64 r.v] 2)).cell? ⟨w.heap.size, 7, none⟩ = some (.int .i64 p1) ∧ (w2.drew.alloc (.cells #[.int .i64 r.v] 2)).cell? ⟨w.heap.size, 8, none⟩ = some (.int .i64 c1) ∧ (w2.drew.alloc (.cells #[.int .i64 r.v] 2)).cell? ⟨w.heap.size, 9, none⟩ = some (.slice a1 kk1.len cap1)) := by
    have k := Kp.of_below (S := fun b => b = bv) ((Below.refl w2.drew.heap.size w2.drew).alloc (Nat.le_refl _) (.cells #[.int .i64 r.v] 2))
    exact ⟨k.cell YD.out.1 hne, k.cell YD.out.2.1 hne, k.cell YD.out.2.2.1 hne, k.cell YD.out.2.2.2.1 hne, k.cell YD.out.2.2.2.2 hne⟩
  go_region_held3 (fun w' => w'.cell? ⟨w.heap.size, 5, none⟩ = some (.int .i64 k1) ∧ w'.cell? ⟨w.heap.size, 6, none⟩ = some (.int .i64 n1) ∧ w'.cell? ⟨w.heap.size, 7, none⟩ = some (.int .i64 p1) ∧ w'.cell? ⟨w.heap.size, 8, none⟩ = some (.int .i64 c1) ∧ w'.cell? ⟨w.heap.size, 9, none⟩ = some (.slice a1 kk1.len cap1))
    (first
      | with_reducible exact ⟨y0, y1, y2, y3, y4⟩
      | with_reducible exact YD.out
      | with_reducible exact YA.out
      | with_reducible exact YB.out
      | with_reducible exact YG.out
      | with_reducible exact Y9.out
      | go_keep)
    (first
      | (refine step_append_grows rfl (.tmp 26) (.tmp 28) 25 rfl 2 i0 _ 1 8 Tryz.underlying25 hi hz0 hz1 hz2 rfl (by omega) av vars.length vars.length (vars.map (Value.int .i64)) (by first | rfl | simp [Act.eval]) (fun h => ⟨hnn h, hnn h⟩) (by simp) HOL.out ⟨w2.heap.size, 0, none⟩ 1 1 [.int .i64 r.v] (by first | rfl | simp [Act.eval]) rfl HNW.out (by simp [Value.oneCell']) (by omega) (by unfold maxLen; omega) (by omega) ?_; intro v' wg hown hgrow; obtain ⟨g', cap', rfl⟩ := row_succ hown; have HG := Lib.hid hgrow; have HOW := Lib.hid (own_appended hown); have hcap := row_cap hown; have kg := (Kp.of_below (S := fun b => b = bv) (((Below.refl w2.heap.size w2).alloc (Nat.le_refl _) (.cells #[.int .i64 r.v] 2)).drew)).trans (Kp.grown hgrow (fun _ h => by cases h)); have YG : Hid (wg.cell? ⟨w.heap.size, 5, none⟩ = some (.int .i64 k1) ∧ wg.cell? ⟨w.heap.size, 6, none⟩ = some (.int .i64 n1) ∧ wg.cell? ⟨w.heap.size, 7, none⟩ = some (.int .i64 p1) ∧ wg.cell? ⟨w.heap.size, 8, none⟩ = some (.int .i64 c1) ∧ wg.cell? ⟨w.heap.size, 9, none⟩ = some (.slice a1 kk1.len cap1)) := ⟨kg.cell y0 hne, kg.cell y1 hne, kg.cell y2 hne, kg.cell y3 hne, kg.cell y4 hne⟩)
      | (go_at_call 205; refine (HCL _).out.mono ?_; rintro e w' ⟨rfl, rfl⟩)
      | (go_at_call 150; refine (HK1 _ r.s r.v _ _ ⟨hv0, hv1⟩ ⟨hr3, hr4, hvb⟩ (HKA _ HG.out).out (HEA _ HG.out).out (HOW.out.mono (by simp; omega)) hcap).out.mono ?_; rintro e w9 ⟨q9, e9, v9, rfl, hv9⟩; have k9 := kg.trans q9; have Y9 : Hid (w9.cell? ⟨w.heap.size, 5, none⟩ = some (.int .i64 k1) ∧ w9.cell? ⟨w.heap.size, 6, none⟩ = some (.int .i64 n1) ∧ w9.cell? ⟨w.heap.size, 7, none⟩ = some (.int .i64 p1) ∧ w9.cell? ⟨w.heap.size, 8, none⟩ = some (.int .i64 c1) ∧ w9.cell? ⟨w.heap.size, 9, none⟩ = some (.slice a1 kk1.len cap1)) := ⟨k9.cell y0 hne, k9.cell y1 hne, k9.cell y2 hne, k9.cell y3 hne, k9.cell y4 hne⟩))
  all_goals
    go_wp2_with fail
    go_ret2
    rw [HR.out]
    exact .mk ((HKA _ HG.out).out.trans q9) e9 rfl hv9

set_option maxRecDepth 100000 in
set_option maxHeartbeats 6400000 in
theorem iCall {fs : List Fn} {ap : Option Addr} {capp bv B f : Nat} (hBv : B ≤ bv) (hV : PV fs ap capp bv B f) (hVL : PL fs ap capp bv B f) (hFn : ∀ i, i < fs.length → fnB fs i = true) (hfl : fs.length ≤ 1048576) (fi : Nat) (n p : Int) (ks : Fo) (a : Option Addr) (cap : Nat) (av : Option Addr) (cav : Nat) (vars : List Int) (s : Nat) (w : World)
    (hf : 3000 < f + s) (hs : s ≤ 3000) (hfi : fi ≤ fs.length) (hE : EvAt w bv ap fs.length capp s) (hP : Pat w 0 B fs ap) (hL : Ls w bv av vars) (hN : Nums vars) (hvl : vars.length ≤ 412 + s) (hcv : vars.length ≤ cav) (hcv2 : cav ≤ 9223372036854775807)
    (hn : 0 ≤ n ∧ n < (fi : Int)) (hp : 0 ≤ p ∧ p < ((fs.getD n.toNat noFn).outs.len : Int)) (hm : (ks.len : Int) = (fs.getD n.toNat noFn).params) (kt : treeB fs (fi : Int) ks (vars.length : Int) 10 0 = true) (kf : Fat w 0 B ks a) :
    Calls Tryz.prog 184 #[.pointer (some ⟨bv, 0, none⟩), .agg #[.int .i64 n, .int .i64 p, .slice a ks.len cap], .slice av vars.length cav] w (VRes bv ap fs.length capp w (bindL nA (lisE nA (evE nA fs f) ks vars s ks.len) fun l s => atE nA (evE nA fs f) (fs.getD n.toNat noFn).outs p.toNat l s)) := by
  obtain ⟨w1, hw1⟩ : ∃ w1, w1 = w.alloc (.cells #[.int .i64 n, .int .i64 p, .slice a ks.len cap] 266) := ⟨_, rfl⟩
  have b1 : Below w.heap.size w w1 := by rw [hw1]; exact (Below.refl _ _).alloc (Nat.le_refl _) _
  have q1 : Kp (fun b => b = bv) w w1 := Kp.of_below b1
  have hbw := cell_lt hE.c0
  have hne : w.heap.size ≠ bv := by omega
  have y0 : w1.cell? ⟨w.heap.size, 0, none⟩ = some (.int .i64 n) := by rw [hw1]; simp [go_sem]
  have y1 : w1.cell? ⟨w.heap.size, 1, none⟩ = some (.int .i64 p) := by rw [hw1]; simp [go_sem]
  obtain ⟨j, rfl⟩ := Int.eq_ofNat_of_zero_le hn.1
  obtain ⟨jp, rfl⟩ := Int.eq_ofNat_of_zero_le hp.1
  have hj : j < fs.length := by omega
  have ej : (j : Int).toNat = j := rfl
  have ejp : (jp : Int).toNat = jp := rfl
  rw [ej] at hp hm ⊢
  rw [ejp]
  obtain ⟨g1, g2, g3⟩ := fn_parts (hFn j hj)
  have hjp : jp < (fs.getD j noFn).outs.len := by omega
  have hst := lisE_stp (A := nA) (evE_stp (A := nA) fs f s hf) ks vars s (Nat.le_refl _) hs ks.len
  have HC := Lib.hid (hVL fi 10 ks a cap av cav vars s w1 hf hs hfi (by decide) kt (hE.next b1) (hP.keepE q1 hBv hbw) (kf.keepE q1 hBv hbw) (by omega) (hL.keep q1) hN hvl hcv hcv2)
  have HL := Lib.hid (lisE_len (A := nA) (E := evE nA fs f) (f := ks) (vars := vars) (s := s) ks.len)
  have HP := Lib.hid hP
  generalize lisE nA (evE nA fs f) ks vars s ks.len = r at HC HL hst
  clear hE hP hL kt kf
  go_enter Tryz.func184, Tryz.ntmps184
  go_wp2_with fail
  rw [← hw1]
  clear hw1
  refine HC.out.mono ?_; rintro e w2 ⟨q2, e2, ⟨hc, g, rfl, ho, hnm⟩ | ⟨hc, rfl⟩⟩
  rotate_left
  · have hbf : (r.c != 0) = true := by simp [hc]
    have HR : Hid ((bindL nA r fun l s => atE nA (evE nA fs f) (fs.getD j noFn).outs jp l s) = ⟨0, r.s, r.c⟩) := by show _ = _; unfold bindL; rw [if_neg hc]; rfl
    clear HC HL y0 y1
    go_wp2_with fail
    go_ret2
    rw [HR.out]
    exact .mk (q1.trans q2) e2 rfl (fun h => absurd h hc)
  have hln := HL.out hc
  have qq := q1.trans q2
  replace y0 := q2.cell y0 hne
  replace y1 := q2.cell y1 hne
  have x1 := e2.c1
  have z1 := b1.size
  have z2 := q2.size
  obtain ⟨bf, of, rfl, hbB, hall⟩ := (HP.out.keepE qq hBv hbw).resolve_left (by intro e; rw [e] at hj; simp at hj)
  obtain ⟨hr, af, cf, f0, f1, f2, hFo⟩ := hall j hj
  obtain ⟨bo, oo, rfl, hoB⟩ := hFo.blk (by omega)
  obtain ⟨k', n', p', c', kk, a', cap', hd, hR, hkl, t0, t1, t2, t3, t4, hFk⟩ := Fat.node hFo hjp
  obtain ⟨v1, v2⟩ := treeB_at (fs.getD j noFn).outs 0 jp g3 hd
  have hmo : more 0 (0 + jp) = 0 := by unfold more; rw [if_neg (by omega)]
  have hlp : (r.l.length : Int) = (fs.getD j noFn).params := by rw [hln]; exact hm
  rw [hmo, Int.add_zero, ← hlp] at v1 v2
  have HR : Hid ((bindL nA r fun l s => atE nA (evE nA fs f) (fs.getD j noFn).outs jp l s) = evE nA fs f k' n' p' c' kk r.l r.s) := by show _ = _; unfold bindL; rw [if_pos hc]; exact atE_eq hd
  have HVC := fun (W : World) (hk : Below w2.heap.size w2 W) => Lib.hid (hV j k' n' p' c' kk a' cap' (some ⟨g, 0, none⟩) r.l.length r.l r.s W (by omega) hst.2 (by omega) v1 v2 (e2.next hk) ((HP.out.keepE qq hBv hbw).below (hk.mono (by omega))) (hFk.agree (fun j _ h2 => hk.block j (by omega))) hkl ((ho.ls (by omega)).keep (Kp.of_below hk)) hnm (by omega) (Nat.le_refl _) (by omega))
  have hji : (j : Int) < (fs.length : Int) := by omega
  have hjpi : (jp : Int) < ((fs.getD j noFn).outs.len : Int) := by omega
  clear HC HL hall hr f0 f1 hFo hFk v1 v2 hd hR ho hnm hln hlp hm hp g1 g2 g3 hmo
  generalize (fs.getD j noFn).outs.len = ml at *
  go_wp2_with fail
  go_region_with (go_at_call 150; refine (HVC _ (Below.refl w2.heap.size w2).drew).out.mono ?_; rintro e w9 ⟨q9, e9, v9, rfl, hv9⟩)
  all_goals
    go_wp2_with fail
    go_ret2
    rw [HR.out]
    exact .mk ((qq.more (Below.refl w2.heap.size w2).drew).trans q9) e9 rfl hv9

set_option maxRecDepth 100000 in
set_option maxHeartbeats 6400000 in
theorem iLoop {fs : List Fn} {ap : Option Addr} {capp bv B f : Nat} (hBv : B ≤ bv) (hVL : PL fs ap capp bv B f) (hFn : ∀ i, i < fs.length → fnB fs i = true) (hfl : fs.length ≤ 1048576) (fi : Nat) (n p c : Int) (ks : Fo) (a : Option Addr) (cap : Nat) (av : Option Addr) (cav : Nat) (vars : List Int) (s : Nat) (w : World)
    (hf : 3000 < f + s) (hs : s ≤ 3000) (hfi : fi ≤ fs.length) (hE : EvAt w bv ap fs.length capp s) (hP : Pat w 0 B fs ap) (hL : Ls w bv av vars) (hN : Nums vars) (hvl : vars.length ≤ 412 + s) (hcv : vars.length ≤ cav) (hcv2 : cav ≤ 9223372036854775807)
    (hn : 0 ≤ n ∧ n < (fi : Int)) (hp : 0 ≤ p ∧ p < ((fs.getD n.toNat noFn).outs.len : Int)) (hm : (ks.len : Int) = (fs.getD n.toNat noFn).params) (hcc : 0 ≤ c ∧ c ≤ 8) (hop : ((fs.getD n.toNat noFn).outs.len : Int) = (fs.getD n.toNat noFn).params) (kt : treeB fs (fi : Int) ks (vars.length : Int) 11 0 = true) (kf : Fat w 0 B ks a) :
    Calls Tryz.prog 185 #[.pointer (some ⟨bv, 0, none⟩), .agg #[.int .i64 n, .int .i64 p, .int .i64 c, .slice a ks.len cap], .slice av vars.length cav] w (VRes bv ap fs.length capp w (bindL nA (lopE nA (evE nA fs f) (fs.getD n.toNat noFn).outs (lisE nA (evE nA fs f) ks vars s ks.len) c.toNat) fun l s => ⟨l.getD p.toNat (nA.cst 0), s, 0⟩)) := by
  obtain ⟨w1, hw1⟩ : ∃ w1, w1 = w.alloc (.cells #[.int .i64 n, .int .i64 p, .int .i64 c, .slice a ks.len cap] 269) := ⟨_, rfl⟩
  have b1 : Below w.heap.size w w1 := by rw [hw1]; exact (Below.refl _ _).alloc (Nat.le_refl _) _
  have q1 : Kp (fun b => b = bv) w w1 := Kp.of_below b1
  have hbw := cell_lt hE.c0
  have hne : w.heap.size ≠ bv := by omega
  have y0 : w1.cell? ⟨w.heap.size, 0, none⟩ = some (.int .i64 n) := by rw [hw1]; simp [go_sem]
  have y1 : w1.cell? ⟨w.heap.size, 1, none⟩ = some (.int .i64 p) := by rw [hw1]; simp [go_sem]
  have y2 : w1.cell? ⟨w.heap.size, 2, none⟩ = some (.int .i64 c) := by rw [hw1]; simp [go_sem]
  obtain ⟨j, rfl⟩ := Int.eq_ofNat_of_zero_le hn.1
  obtain ⟨jp, rfl⟩ := Int.eq_ofNat_of_zero_le hp.1
  obtain ⟨m, rfl⟩ := Int.eq_ofNat_of_zero_le hcc.1
  have hj : j < fs.length := by omega
  have ej : (j : Int).toNat = j := rfl
  have ejp : (jp : Int).toNat = jp := rfl
  have em : (m : Int).toNat = m := rfl
  rw [ej] at hp hm hop ⊢
  rw [ejp, em]
  obtain ⟨g1, g2, g3⟩ := fn_parts (hFn j hj)
  have hjp : jp < (fs.getD j noFn).outs.len := by omega
  obtain ⟨O, hO⟩ : ∃ O, O = (fs.getD j noFn).outs := ⟨_, rfl⟩
  have HOE := Lib.hid hO
  rw [← hO] at hjp hp hop g2 g3 ⊢
  clear hO
  have hst := lisE_stp (A := nA) (evE_stp (A := nA) fs f s hf) ks vars s (Nat.le_refl _) hs ks.len
  have hsl := lopE_stp (A := nA) (evE_stp (A := nA) fs f s hf) O (lisE nA (evE nA fs f) ks vars s ks.len) hst.1 hst.2
  have HC := Lib.hid (hVL fi 11 ks a cap av cav vars s w1 hf hs hfi (by decide) kt (hE.next b1) (hP.keepE q1 hBv hbw) (kf.keepE q1 hBv hbw) (by omega) (hL.keep q1) hN hvl hcv hcv2)
  have HL := Lib.hid (lisE_len (A := nA) (E := evE nA fs f) (f := ks) (vars := vars) (s := s) ks.len)
  have HP := Lib.hid hP
  generalize lisE nA (evE nA fs f) ks vars s ks.len = r at HC HL hst hsl
  have HLN : Hid (∀ i, (lopE nA (evE nA fs f) O r i).c = 0 → ((lopE nA (evE nA fs f) O r i).l.length : Int) = (fs.getD j noFn).params) := by
    intro i
    induction i with
    | zero => intro h; show (r.l.length : Int) = _; rw [HL.out h]; exact hm
    | succ i ih =>
      intro h
      by_cases h0 : (lopE nA (evE nA fs f) O r i).c = 0
      · rw [lopE_step h0] at h ⊢; rw [lisE_len _ h]; exact hop
      · rw [lopE, if_neg h0] at h; exact absurd h h0
  obtain ⟨R0, hR0⟩ : ∃ R0, R0 = (bindL nA (lopE nA (evE nA fs f) O r m) fun l s => (⟨l.getD jp (nA.cst 0), s, 0⟩ : Rv Int)) := ⟨_, rfl⟩
  rw [← hR0]
  have HR0 := Lib.hid hR0
  have HSL := Lib.hid hsl
  have HOUT := Lib.hid hop
  clear hE hP hL kt kf hsl hop hR0
  go_enter Tryz.func185, Tryz.ntmps185
  go_wp2_with fail
  rw [← hw1]
  clear hw1
  have z1 := b1.size
  refine HC.out.mono ?_; intro e w2 hres
  obtain ⟨q2, e2, hres⟩ := hres
  have qq := q1.trans q2
  have z2 := q2.size
  replace y0 := q2.cell y0 hne
  replace y1 := q2.cell y1 hne
  replace y2 := q2.cell y2 hne
  have hlist : ∃ lv, e = .returned (.tuple #[lv, .int .i64 r.c]) ∧ ((r.c = 0 ∧ ∃ g, lv = .slice (some ⟨g, 0, none⟩) r.l.length r.l.length ∧ Own w.heap.size w2 g r.l.length r.l ∧ Nums r.l) ∨ ¬ r.c = 0) := by
    rcases hres with ⟨hc, g, he, ho, hnm⟩ | ⟨hc, he⟩
    · exact ⟨_, by rw [hc]; exact he, .inl ⟨hc, g, rfl, ho.mono z1, hnm⟩⟩
    · exact ⟨_, he, .inr hc⟩
  obtain ⟨lv, rfl, hlv⟩ := hlist
  have HQ0 := Lib.hid qq
  have HE0 := Lib.hid e2
  have HLV0 := Lib.hid hlv
  have HY0 : Hid (w2.cell? ⟨w.heap.size, 0, none⟩ = some (.int .i64 j) ∧ w2.cell? ⟨w.heap.size, 1, none⟩ = some (.int .i64 jp) ∧ w2.cell? ⟨w.heap.size, 2, none⟩ = some (.int .i64 m)) := ⟨y0, y1, y2⟩
  have hzz : w.heap.size < w2.heap.size := cell_lt y0
  clear HC hres hlv qq q1 q2 b1 e2 y0 y1 y2
  go_wp2_with fail
  go_loopw [8, 9, 10] (fun lx cx x wr => ∃ i : Nat, i ≤ m ∧ x = .int .i64 i ∧ cx = .int .i64 (lopE nA (evE nA fs f) O r i).c ∧ Hid (Kp (fun b => b = bv) w wr) ∧ Hid (EvAt wr bv ap fs.length capp (lopE nA (evE nA fs f) O r i).s) ∧ Hid (((lopE nA (evE nA fs f) O r i).c = 0 ∧ ∃ g, lx = .slice (some ⟨g, 0, none⟩) (lopE nA (evE nA fs f) O r i).l.length (lopE nA (evE nA fs f) O r i).l.length ∧ Own w.heap.size wr g (lopE nA (evE nA fs f) O r i).l.length (lopE nA (evE nA fs f) O r i).l ∧ Nums (lopE nA (evE nA fs f) O r i).l) ∨ ¬ (lopE nA (evE nA fs f) O r i).c = 0) ∧ Hid (wr.cell? ⟨w.heap.size, 0, none⟩ = some (.int .i64 j) ∧ wr.cell? ⟨w.heap.size, 1, none⟩ = some (.int .i64 jp) ∧ wr.cell? ⟨w.heap.size, 2, none⟩ = some (.int .i64 m)) ∧ w.heap.size < wr.heap.size) (fun _ _ x _ => m - (intOf x).toNat)
  case atStart => exact ⟨0, Nat.zero_le _, rfl, rfl, HQ0.out, HE0.out, HLV0.out, HY0.out, hzz⟩
  case round =>
    obtain ⟨i, hi, rfl, rfl, HQ, HE, HLV, HY, hzr⟩ := hrel
    clear HQ0 HE0 HLV0 HY0 hzz
    obtain ⟨y0, y1, y2⟩ := id HY.out
    have hsi := HSL.out i
    by_cases hc : (lopE nA (evE nA fs f) O r i).c = 0
    · have hcb : ((lopE nA (evE nA fs f) O r i).c == 0) = true := by rw [hc]; rfl
      obtain ⟨_, g, rfl, ho, hnm⟩ := HLV.out.resolve_right (fun h => h hc)
      have hlen := HLN.out i hc
      by_cases hlt : i < m
      · have hii : (i : Int) < (m : Int) := by omega
        have HS : Hid (lopE nA (evE nA fs f) O r (i + 1) = lisE nA (evE nA fs f) O (lopE nA (evE nA fs f) O r i).l (lopE nA (evE nA fs f) O r i).s O.len) := lopE_step hc
        generalize lopE nA (evE nA fs f) O r i = X at *
        have x1 := HE.out.c1
        obtain ⟨bf, of, rfl, hbB, hall⟩ := (HP.out.keepE HQ.out hBv hbw).resolve_left (by intro e; rw [e] at hj; simp at hj)
        obtain ⟨hr, af, cf, f0, f1, f2, hFo⟩ := hall j hj
        rw [← HOE.out] at f2 hFo
        have g3' : treeB fs (j : Int) O (X.l.length : Int) 0 0 = true := by rw [hlen]; exact g3
        have HVC := fun (W : World) (hk : Below wr.heap.size wr W) => Lib.hid (hVL j 0 O af cf (some ⟨g, 0, none⟩) X.l.length X.l X.s W (by omega) hsi.2 (by omega) (by decide) g3' (HE.out.next hk) ((HP.out.keepE HQ.out hBv hbw).below (hk.mono (by omega))) (hFo.agree (fun j _ h2 => hk.block j (by omega))) (by omega) ((ho.ls hbw).keep (Kp.of_below hk)) hnm (by omega) (Nat.le_refl _) (by omega))
        rw [← HS.out] at HVC
        have hji : (j : Int) < (fs.length : Int) := by omega
        clear hall hr f0 f1 hFo ho hnm HLV g3' HS
        generalize O.len = ml at *
        go_wp2_with fail
        go_region_with (go_at_call 111; refine (HVC _ (Below.refl wr.heap.size wr).drew).out.mono ?_; intro e w9 hres9; obtain ⟨q9, e9, hl9⟩ := hres9; obtain ⟨lv9, rfl, hlv9⟩ := resL hl9)
        all_goals
          have hk9 := (Kp.of_below (S := fun b => b = bv) (Below.refl wr.heap.size wr).drew).trans q9
          have hq9 := HQ.out.trans hk9
          have HL9 := Lib.hid (resLm hlv9 (L := w.heap.size) (by have := HQ.out.size; simp; omega))
          go_wp2_with fail
          go_roundw
          case rel => exact ⟨i + 1, by omega, by go_num, rfl, hq9, e9, HL9.out, ⟨hk9.cell y0 hne, hk9.cell y1 hne, hk9.cell y2 hne⟩, Nat.lt_of_lt_of_le hzr hk9.size⟩
          case measure => simp [intOf]; omega
      · have hii : ¬ (i : Int) < (m : Int) := by omega
        obtain rfl : i = m := by omega
        have hbf : ((lopE nA (evE nA fs f) O r i).c != 0) = false := by rw [hc]; rfl
        have HR : Hid (R0 = ⟨(lopE nA (evE nA fs f) O r i).l.getD jp 0, (lopE nA (evE nA fs f) O r i).s, 0⟩) := by show _ = _; rw [HR0.out]; unfold bindL; rw [if_pos hc]; rfl
        have hx := ho.cellAt jp (by have := HOUT.out; omega)
        have hxn := hnm.at jp
        have hjl : (jp : Int) < ((lopE nA (evE nA fs f) O r i).l.length : Int) := by have := HOUT.out; omega
        have hgb := ho.base.2
        clear ho hnm HLV HR0
        generalize lopE nA (evE nA fs f) O r i = X at *
        generalize X.l.getD jp 0 = x at *
        generalize X.l.length = ml at *
        go_wp2_with fail
        go_ret2
        rw [HR.out]
        exact .mk HQ.out HE.out rfl (fun _ => ⟨rfl, hxn⟩)
    · have hcb : ((lopE nA (evE nA fs f) O r i).c == 0) = false := by simp [hc]
      have hbf : ((lopE nA (evE nA fs f) O r i).c != 0) = true := by simp [hc]
      have HST : Hid (lopE nA (evE nA fs f) O r m = lopE nA (evE nA fs f) O r i) := by
        show _ = _
        have := lopE_stop hc (m - i)
        rwa [show i + (m - i) = m by omega] at this
      have HR : Hid (R0 = ⟨0, (lopE nA (evE nA fs f) O r i).s, (lopE nA (evE nA fs f) O r i).c⟩) := by show _ = _; rw [HR0.out, HST.out]; unfold bindL; rw [if_neg hc]; rfl
      clear HLV HST HR0
      generalize lopE nA (evE nA fs f) O r i = X at *
      by_cases hlt : (i : Int) < (m : Int)
      · go_wp2_with fail
        go_ret2
        rw [HR.out]
        exact .mk HQ.out HE.out rfl (fun h => absurd h hc)
      · go_wp2_with fail
        go_ret2
        rw [HR.out]
        exact .mk HQ.out HE.out rfl (fun h => absurd h hc)

end Go.Proofs.YtemmbacdilepgaaGreat

namespace Go.Proofs.YtemmbacdilepgaaGreat
open Go.RowKit
set_option linter.unusedVariables false

theorem evE_go {V : Type} {A : Ar V} {fs : List Fn} {f : Nat} {k n p c : Int} {ks : Fo} {vars : List V} {s : Nat} (h : ¬ s = 3000) : evE A fs (f + 1) k n p c ks vars s = nodE A fs (evE A fs f) k n p c ks vars (s + 1) := if_neg h
theorem evE_end {V : Type} {A : Ar V} {fs : List Fn} {f : Nat} {k n p c : Int} {ks : Fo} {vars : List V} {s : Nat} (h : s = 3000) : evE A fs (f + 1) k n p c ks vars s = ⟨A.cst 0, s, 7⟩ := if_pos h
theorem EvAt.step {w : World} {bv : Nat} {ap : Option Addr} {fl capp s : Nat} (h : EvAt w bv ap fl capp s) : EvAt (w.setCell ⟨bv, 2, none⟩ (.int .i64 ((s : Int) + 1))) bv ap fl capp (s + 1) :=
  ⟨(World.cell?_setCell_other _ _ _ _ (by simp)).trans h.c0, (World.cell?_setCell_other _ _ _ _ (by simp)).trans h.c1, by rw [World.cell?_setCell_same _ _ _ h.c2, Int.natCast_add]; rfl, fun o => (World.frozen?_setCell _ _ _ _).trans (h.fz o)⟩

set_option maxRecDepth 100000 in
set_option maxHeartbeats 6400000 in
theorem iValueNum {fs : List Fn} {ap : Option Addr} {capp bv B f : Nat} (hBv : B ≤ bv) (hV : PV fs ap capp bv B f) (hVL : PL fs ap capp bv B f) (hFn : ∀ i, i < fs.length → fnB fs i = true) (hfl : fs.length ≤ 1048576) (fi : Nat) (n p c : Int) (ks : Fo) (a : Option Addr) (cap : Nat) (av : Option Addr) (cav : Nat) (vars : List Int) (s : Nat) (w : World)
    (hf : 3000 < f + 1 + s) (hs : s ≤ 3000) (h3 : ¬ s = 3000) (hfi : fi ≤ fs.length) (hn : nodeB fs (vars.length : Int) (fi : Int) 1 n p c ks.len = true) (ht : treeB fs (fi : Int) ks (vars.length : Int) 1 0 = true) (hE : EvAt w bv ap fs.length capp s) (hP : Pat w 0 B fs ap) (hF : Fat w 0 B ks a) (hkl : ks.len ≤ maxLen) (hL : Ls w bv av vars) (hN : Nums vars) (hvl : vars.length ≤ 412 + s) (hcv : vars.length ≤ cav) (hcv2 : cav ≤ 9223372036854775807) :
    Calls Tryz.prog 150 #[.pointer (some ⟨bv, 0, none⟩), .agg #[.int .i64 1, .int .i64 n, .int .i64 p, .int .i64 c, .slice a ks.len cap], .slice av vars.length cav] w (VRes bv ap fs.length capp w (evE nA fs (f + 1) 1 n p c ks vars s)) := by
  have h3b : ((s : Int) == 3000) = false := ne_beq (by omega)
  have hbw := cell_lt hE.c0
  have hne : w.heap.size ≠ bv := by omega
  have hne2 : ¬ bv = w.heap.size := by omega
  rw [evE_go h3]
  obtain ⟨w1, hw1⟩ : ∃ w1, w1 = w.setCell ⟨bv, 2, none⟩ (.int .i64 ((s : Int) + 1)) := ⟨_, rfl⟩
  have e1 : EvAt w1 bv ap fs.length capp (s + 1) := by rw [hw1]; exact hE.step
  have q1 : Kp (fun b => b = bv) w w1 := by rw [hw1]; exact Kp.set (p := ⟨bv, 2, none⟩) rfl
  have z1 : w1.heap.size = w.heap.size := by rw [hw1]; simp
  obtain ⟨w2, hw2⟩ : ∃ w2, w2 = w1.alloc (.cells #[.int .i64 1, .int .i64 n, .int .i64 p, .int .i64 c, .slice a ks.len cap] 212) := ⟨_, rfl⟩
  have b1 : Below w1.heap.size w1 w2 := by rw [hw2]; exact (Below.refl _ _).alloc (Nat.le_refl _) _
  have e2 := e1.next b1
  have q2 := q1.more b1
  have x2 := hE.c2
  have xf := hE.fz 2
  have P2 := hP.keepE q2 hBv hbw
  have F2 := hF.keepE q2 hBv hbw
  have L2 := hL.keep q2
  have hz12 := b1.size
  obtain ⟨hn0, hn1⟩ := (node_kids hn (by omega)).2.1 rfl
  have HND := Lib.hid (iNodeNum n p c a ks.len cap w2)
  clear hE hP hF hL P2 F2 hn ht e1 b1
  go_enter Tryz.func150, Tryz.ntmps150
  go_wp2_with fail
  rw [← hw1]
  rw [← hw2]
  clear hw1 hw2
  refine HND.out.mono ?_; rintro e w3 ⟨rfl, b3⟩
  clear HND x2 xf
  have q3 := q2.more b3
  have e3 := e2.next b3
  have hz3 := b3.size
  have qNum := fun W v => asNum_yes W v

  have x0 := e3.c0
  have nA1 := cstAhead
  have nA2 := cstMeth
  have HNG := fun W => Lib.hid (nConst n W)
  obtain ⟨w4, hw4⟩ : ∃ w4, w4 = w3.alloc (.cells #[.int .i64 n] 250) := ⟨_, rfl⟩
  have b4 : Below w3.heap.size w3 w4 := by rw [hw4]; exact (Below.refl _ _).alloc (Nat.le_refl _) _
  have x04 := (e3.next b4).c0
  have y04 : w4.cell? ⟨w3.heap.size, 0, none⟩ = some (.int .i64 n) := by rw [hw4]; simp [go_sem]
  have HEV : Hid (nodE nA fs (evE nA fs f) 1 n p c ks vars (s + 1) = ⟨n, s + 1, 0⟩) := rfl
  go_wp2_with fail
  rw [← hw4]
  clear hw4
  go_region_with (go_at_call 252; refine (HNG _).out.mono ?_; rintro e w5 ⟨rfl, b5⟩)
  all_goals
    go_wp2_with fail
    go_ret2
    rw [HEV.out]
    have b5' : Below w4.heap.size w4 w5 := ⟨b5.os, b5.tape, b5.output, b5.size, b5.block⟩
    exact .mk ((q3.more b4).more b5') ((e3.next b4).next b5') rfl (fun _ => ⟨rfl, hn0, hn1⟩)

set_option maxRecDepth 100000 in
set_option maxHeartbeats 6400000 in
theorem iValueVar {fs : List Fn} {ap : Option Addr} {capp bv B f : Nat} (hBv : B ≤ bv) (hV : PV fs ap capp bv B f) (hVL : PL fs ap capp bv B f) (hFn : ∀ i, i < fs.length → fnB fs i = true) (hfl : fs.length ≤ 1048576) (fi : Nat) (n p c : Int) (ks : Fo) (a : Option Addr) (cap : Nat) (av : Option Addr) (cav : Nat) (vars : List Int) (s : Nat) (w : World)
    (hf : 3000 < f + 1 + s) (hs : s ≤ 3000) (h3 : ¬ s = 3000) (hfi : fi ≤ fs.length) (hn : nodeB fs (vars.length : Int) (fi : Int) 2 n p c ks.len = true) (ht : treeB fs (fi : Int) ks (vars.length : Int) 2 0 = true) (hE : EvAt w bv ap fs.length capp s) (hP : Pat w 0 B fs ap) (hF : Fat w 0 B ks a) (hkl : ks.len ≤ maxLen) (hL : Ls w bv av vars) (hN : Nums vars) (hvl : vars.length ≤ 412 + s) (hcv : vars.length ≤ cav) (hcv2 : cav ≤ 9223372036854775807) :
    Calls Tryz.prog 150 #[.pointer (some ⟨bv, 0, none⟩), .agg #[.int .i64 2, .int .i64 n, .int .i64 p, .int .i64 c, .slice a ks.len cap], .slice av vars.length cav] w (VRes bv ap fs.length capp w (evE nA fs (f + 1) 2 n p c ks vars s)) := by
  have h3b : ((s : Int) == 3000) = false := ne_beq (by omega)
  have hbw := cell_lt hE.c0
  have hne : w.heap.size ≠ bv := by omega
  have hne2 : ¬ bv = w.heap.size := by omega
  rw [evE_go h3]
  obtain ⟨w1, hw1⟩ : ∃ w1, w1 = w.setCell ⟨bv, 2, none⟩ (.int .i64 ((s : Int) + 1)) := ⟨_, rfl⟩
  have e1 : EvAt w1 bv ap fs.length capp (s + 1) := by rw [hw1]; exact hE.step
  have q1 : Kp (fun b => b = bv) w w1 := by rw [hw1]; exact Kp.set (p := ⟨bv, 2, none⟩) rfl
  have z1 : w1.heap.size = w.heap.size := by rw [hw1]; simp
  obtain ⟨w2, hw2⟩ : ∃ w2, w2 = w1.alloc (.cells #[.int .i64 2, .int .i64 n, .int .i64 p, .int .i64 c, .slice a ks.len cap] 212) := ⟨_, rfl⟩
  have b1 : Below w1.heap.size w1 w2 := by rw [hw2]; exact (Below.refl _ _).alloc (Nat.le_refl _) _
  have e2 := e1.next b1
  have q2 := q1.more b1
  have x2 := hE.c2
  have xf := hE.fz 2
  have P2 := hP.keepE q2 hBv hbw
  have F2 := hF.keepE q2 hBv hbw
  have L2 := hL.keep q2
  have hz12 := b1.size
  obtain ⟨hn0, hn1⟩ := (node_kids hn (by omega)).2.2 rfl
  obtain ⟨j, rfl⟩ := Int.eq_ofNat_of_zero_le hn0
  have hj : j < vars.length := by omega
  have HEV : Hid (nodE nA fs (evE nA fs f) 2 (j : Int) p c ks vars (s + 1) = ⟨vars.getD j 0, s + 1, 0⟩) := rfl
  generalize nodE nA fs (evE nA fs f) 2 (j : Int) p c ks vars (s + 1) = R at HEV ⊢
  have HND := Lib.hid (iNodeVar j p c a ks.len cap w2)
  clear hE hP hF hL P2 F2 hn ht e1 b1
  go_enter Tryz.func150, Tryz.ntmps150
  go_wp2_with fail
  rw [← hw1]
  rw [← hw2]
  clear hw1 hw2
  refine HND.out.mono ?_; rintro e w3 ⟨rfl, b3⟩
  clear HND x2 xf
  have q3 := q2.more b3
  have e3 := e2.next b3
  have hz3 := b3.size
  have qNum := fun W v => asNum_no W 252 v (by decide)
  have qVar := fun W v => asVar_yes W v

  obtain ⟨bb, off, rfl, hbb, hcl⟩ := (L2.keep (Kp.of_below b3)).at_.resolve_left (by intro e; rw [e] at hj; simp at hj)
  have hx := hcl j hj
  have hxr := hN.at j
  clear hcl L2
  generalize vars.getD j 0 = x at *
  generalize vars.length = ml at *
  go_wp2_with fail
  go_ret2
  rw [HEV.out]
  have b4 : Below w3.heap.size w3 (w3.alloc (.cells #[.int .i64 (j : Int)] 252)) := (Below.refl _ _).alloc (Nat.le_refl _) _
  exact .mk (q3.more b4) (e3.next b4) rfl (fun _ => ⟨rfl, hxr⟩)

set_option maxRecDepth 100000 in
set_option maxHeartbeats 6400000 in
theorem iValueNeg {fs : List Fn} {ap : Option Addr} {capp bv B f : Nat} (hBv : B ≤ bv) (hV : PV fs ap capp bv B f) (hVL : PL fs ap capp bv B f) (hFn : ∀ i, i < fs.length → fnB fs i = true) (hfl : fs.length ≤ 1048576) (fi : Nat) (n p c : Int) (ks : Fo) (a : Option Addr) (cap : Nat) (av : Option Addr) (cav : Nat) (vars : List Int) (s : Nat) (w : World)
    (hf : 3000 < f + 1 + s) (hs : s ≤ 3000) (h3 : ¬ s = 3000) (hfi : fi ≤ fs.length) (hn : nodeB fs (vars.length : Int) (fi : Int) 7 n p c ks.len = true) (ht : treeB fs (fi : Int) ks (vars.length : Int) 7 0 = true) (hE : EvAt w bv ap fs.length capp s) (hP : Pat w 0 B fs ap) (hF : Fat w 0 B ks a) (hkl : ks.len ≤ maxLen) (hL : Ls w bv av vars) (hN : Nums vars) (hvl : vars.length ≤ 412 + s) (hcv : vars.length ≤ cav) (hcv2 : cav ≤ 9223372036854775807) :
    Calls Tryz.prog 150 #[.pointer (some ⟨bv, 0, none⟩), .agg #[.int .i64 7, .int .i64 n, .int .i64 p, .int .i64 c, .slice a ks.len cap], .slice av vars.length cav] w (VRes bv ap fs.length capp w (evE nA fs (f + 1) 7 n p c ks vars s)) := by
  have h3b : ((s : Int) == 3000) = false := ne_beq (by omega)
  have hbw := cell_lt hE.c0
  have hne : w.heap.size ≠ bv := by omega
  have hne2 : ¬ bv = w.heap.size := by omega
  rw [evE_go h3]
  obtain ⟨w1, hw1⟩ : ∃ w1, w1 = w.setCell ⟨bv, 2, none⟩ (.int .i64 ((s : Int) + 1)) := ⟨_, rfl⟩
  have e1 : EvAt w1 bv ap fs.length capp (s + 1) := by rw [hw1]; exact hE.step
  have q1 : Kp (fun b => b = bv) w w1 := by rw [hw1]; exact Kp.set (p := ⟨bv, 2, none⟩) rfl
  have z1 : w1.heap.size = w.heap.size := by rw [hw1]; simp
  obtain ⟨w2, hw2⟩ : ∃ w2, w2 = w1.alloc (.cells #[.int .i64 7, .int .i64 n, .int .i64 p, .int .i64 c, .slice a ks.len cap] 212) := ⟨_, rfl⟩
  have b1 : Below w1.heap.size w1 w2 := by rw [hw2]; exact (Below.refl _ _).alloc (Nat.le_refl _) _
  have e2 := e1.next b1
  have q2 := q1.more b1
  have x2 := hE.c2
  have xf := hE.fz 2
  have P2 := hP.keepE q2 hBv hbw
  have F2 := hF.keepE q2 hBv hbw
  have L2 := hL.keep q2
  have hz12 := b1.size
  have hk1 : ks.len = 1 := by have := (node_kids hn (by omega)).1; have : kidsNo 7 = 1 := rfl; omega
  obtain ⟨b, off, rfl, hbB⟩ := F2.blk (by omega)
  obtain ⟨k0, n0, p0, c0, kk0, a0, cap0, hd0, hR0, kl0, t00, t01, t02, t03, t04, kf0⟩ := Fat.node F2 (i := 0) (by omega)
  obtain ⟨kn0, kt0⟩ := treeB_at ks 0 0 ht hd0
  have m0 : more 7 (0 + 0) = 0 := rfl
  rw [m0, Int.add_zero] at kn0 kt0
  have N0 : NodeAt w2 b off k0 n0 p0 c0 kk0.len a0 cap0 := by simp only [Nat.zero_mul, Nat.add_zero] at t00 t01 t02 t03 t04; exact ⟨t00, t01, t02, t03, t04⟩
  have HEV : Hid (nodE nA fs (evE nA fs f) 7 n p c ks vars (s + 1) = oneE (evE nA fs f k0 n0 p0 c0 kk0 vars (s + 1)) nA.neg) := by show oneE (atE nA (evE nA fs f) ks 0 vars (s + 1)) nA.neg = _; rw [atE_eq hd0]
  generalize nodE nA fs (evE nA fs f) 7 n p c ks vars (s + 1) = R at HEV ⊢
  have HS := fun (W : World) (hk : Below w2.heap.size w2 W) => Lib.hid (iNegation hBv hV fi k0 n0 p0 c0 kk0 a0 cap0 av cav vars (s + 1) W (by omega) (by omega) hfi (e2.next hk) (P2.below (hk.mono (by omega))) (L2.keep (Kp.of_below hk)) hN (by omega) hcv hcv2 kn0 kt0 (kf0.agree (fun j _ h2 => hk.block j (by omega))) kl0)
  have HND := Lib.hid (iNodeNeg n p c b off ks.len cap w2 (by omega) N0 (by omega))
  clear hk1
  clear hE hP hF hL P2 F2 hn ht e1 b1
  go_enter Tryz.func150, Tryz.ntmps150
  go_wp2_with fail
  rw [← hw1]
  rw [← hw2]
  clear hw1 hw2
  refine HND.out.mono ?_; rintro e w3 ⟨rfl, b3⟩
  clear HND x2 xf
  have q3 := q2.more b3
  have e3 := e2.next b3
  have hz3 := b3.size
  have qNum := fun W v => asNum_no W 257 v (by decide)
  have qVar := fun W v => asVar_no W 257 v (by decide)
  have qOp := fun W v => asOp_no W 257 v (by decide)
  have qNeg := fun W v => asNeg_yes W v

  have HB4 : Hid (∀ o, Below w2.heap.size w2 (w3.alloc o)) := fun o => b3.alloc hz3 o
  go_wp2_with fail
  refine (HS _ (HB4.out _)).out.mono ?_; rintro e w5 ⟨q5, e5, v5, rfl, hv5⟩
  go_wp2_with fail
  go_ret2
  rw [HEV.out]
  exact .mk ((q2.more (HB4.out _)).trans q5) e5 rfl hv5

set_option maxRecDepth 100000 in
set_option maxHeartbeats 6400000 in
theorem iValueIf {fs : List Fn} {ap : Option Addr} {capp bv B f : Nat} (hBv : B ≤ bv) (hV : PV fs ap capp bv B f) (hVL : PL fs ap capp bv B f) (hFn : ∀ i, i < fs.length → fnB fs i = true) (hfl : fs.length ≤ 1048576) (fi : Nat) (n p c : Int) (ks : Fo) (a : Option Addr) (cap : Nat) (av : Option Addr) (cav : Nat) (vars : List Int) (s : Nat) (w : World)
    (hf : 3000 < f + 1 + s) (hs : s ≤ 3000) (h3 : ¬ s = 3000) (hfi : fi ≤ fs.length) (hn : nodeB fs (vars.length : Int) (fi : Int) 8 n p c ks.len = true) (ht : treeB fs (fi : Int) ks (vars.length : Int) 8 0 = true) (hE : EvAt w bv ap fs.length capp s) (hP : Pat w 0 B fs ap) (hF : Fat w 0 B ks a) (hkl : ks.len ≤ maxLen) (hL : Ls w bv av vars) (hN : Nums vars) (hvl : vars.length ≤ 412 + s) (hcv : vars.length ≤ cav) (hcv2 : cav ≤ 9223372036854775807) :
    Calls Tryz.prog 150 #[.pointer (some ⟨bv, 0, none⟩), .agg #[.int .i64 8, .int .i64 n, .int .i64 p, .int .i64 c, .slice a ks.len cap], .slice av vars.length cav] w (VRes bv ap fs.length capp w (evE nA fs (f + 1) 8 n p c ks vars s)) := by
  have h3b : ((s : Int) == 3000) = false := ne_beq (by omega)
  have hbw := cell_lt hE.c0
  have hne : w.heap.size ≠ bv := by omega
  have hne2 : ¬ bv = w.heap.size := by omega
  rw [evE_go h3]
  obtain ⟨w1, hw1⟩ : ∃ w1, w1 = w.setCell ⟨bv, 2, none⟩ (.int .i64 ((s : Int) + 1)) := ⟨_, rfl⟩
  have e1 : EvAt w1 bv ap fs.length capp (s + 1) := by rw [hw1]; exact hE.step
  have q1 : Kp (fun b => b = bv) w w1 := by rw [hw1]; exact Kp.set (p := ⟨bv, 2, none⟩) rfl
  have z1 : w1.heap.size = w.heap.size := by rw [hw1]; simp
  obtain ⟨w2, hw2⟩ : ∃ w2, w2 = w1.alloc (.cells #[.int .i64 8, .int .i64 n, .int .i64 p, .int .i64 c, .slice a ks.len cap] 212) := ⟨_, rfl⟩
  have b1 : Below w1.heap.size w1 w2 := by rw [hw2]; exact (Below.refl _ _).alloc (Nat.le_refl _) _
  have e2 := e1.next b1
  have q2 := q1.more b1
  have x2 := hE.c2
  have xf := hE.fz 2
  have P2 := hP.keepE q2 hBv hbw
  have F2 := hF.keepE q2 hBv hbw
  have L2 := hL.keep q2
  have hz12 := b1.size
  have hk1 : ks.len = 3 := by have := (node_kids hn (by omega)).1; have : kidsNo 8 = 3 := rfl; omega
  obtain ⟨b, off, rfl, hbB⟩ := F2.blk (by omega)
  obtain ⟨k0, n0, p0, c0, kk0, a0, cap0, hd0, hR0, kl0, t00, t01, t02, t03, t04, kf0⟩ := Fat.node F2 (i := 0) (by omega)
  obtain ⟨kn0, kt0⟩ := treeB_at ks 0 0 ht hd0
  obtain ⟨k1, n1, p1, c1, kk1, a1, cap1, hd1, hR1, kl1, t10, t11, t12, t13, t14, kf1⟩ := Fat.node F2 (i := 1) (by omega)
  obtain ⟨kn1, kt1⟩ := treeB_at ks 0 1 ht hd1
  obtain ⟨k2, n2, p2, c2, kk2, a2, cap2, hd2, hR2, kl2, t20, t21, t22, t23, t24, kf2⟩ := Fat.node F2 (i := 2) (by omega)
  obtain ⟨kn2, kt2⟩ := treeB_at ks 0 2 ht hd2
  have m0 : ∀ i, more 8 i = 0 := fun i => by unfold more; rw [if_neg (by omega)]
  rw [m0, Int.add_zero] at kn0 kt0 kn1 kt1 kn2 kt2
  have N0 : NodeAt w2 b off k0 n0 p0 c0 kk0.len a0 cap0 := by simp only [Nat.zero_mul, Nat.add_zero] at t00 t01 t02 t03 t04; exact ⟨t00, t01, t02, t03, t04⟩
  have N1 : NodeAt w2 b (off + 5) k1 n1 p1 c1 kk1.len a1 cap1 := by simp only [Nat.one_mul] at t10 t11 t12 t13 t14; exact ⟨t10, t11, t12, t13, t14⟩
  have N2 : NodeAt w2 b (off + 10) k2 n2 p2 c2 kk2.len a2 cap2 := ⟨t20, t21, t22, t23, t24⟩
  have HEV : Hid (nodE nA fs (evE nA fs f) 8 n p c ks vars (s + 1) = bindE (evE nA fs f k0 n0 p0 c0 kk0 vars (s + 1)) fun v s => if nA.zer v = true then evE nA fs f k1 n1 p1 c1 kk1 vars s else evE nA fs f k2 n2 p2 c2 kk2 vars s) := by
    show (bindE (atE nA (evE nA fs f) ks 0 vars (s + 1)) fun v s => if nA.zer v = true then atE nA (evE nA fs f) ks 1 vars s else atE nA (evE nA fs f) ks 2 vars s) = _
    rw [atE_eq hd0]
    congr 1
    funext v s
    rw [atE_eq hd1, atE_eq hd2]
  generalize nodE nA fs (evE nA fs f) 8 n p c ks vars (s + 1) = R at HEV ⊢
  have HS := fun (W : World) (hk : Below w2.heap.size w2 W) => Lib.hid (iChoice hBv hV fi k0 n0 p0 c0 kk0 a0 cap0 k1 n1 p1 c1 kk1 a1 cap1 k2 n2 p2 c2 kk2 a2 cap2 av cav vars (s + 1) W (by omega) (by omega) hfi (e2.next hk) (P2.below (hk.mono (by omega))) (L2.keep (Kp.of_below hk)) hN (by omega) hcv hcv2 kn0 kt0 (kf0.agree (fun j _ h2 => hk.block j (by omega))) kl0 kn1 kt1 (kf1.agree (fun j _ h2 => hk.block j (by omega))) kl1 kn2 kt2 (kf2.agree (fun j _ h2 => hk.block j (by omega))) kl2)
  have HND := Lib.hid (iNodeIf n p c b off ks.len cap w2 (by omega) N0 N1 N2 (by omega))
  clear hk1
  clear hE hP hF hL P2 F2 hn ht e1 b1
  go_enter Tryz.func150, Tryz.ntmps150
  go_wp2_with fail
  rw [← hw1]
  rw [← hw2]
  clear hw1 hw2
  refine HND.out.mono ?_; rintro e w3 ⟨rfl, b3⟩
  clear HND x2 xf
  have q3 := q2.more b3
  have e3 := e2.next b3
  have hz3 := b3.size
  have qNum := fun W v => asNum_no W 260 v (by decide)
  have qVar := fun W v => asVar_no W 260 v (by decide)
  have qOp := fun W v => asOp_no W 260 v (by decide)
  have qNeg := fun W v => asNeg_no W 260 v (by decide)
  have qIf := fun W v => asIf_yes W v

  have HB4 : Hid (∀ o, Below w2.heap.size w2 (w3.alloc o)) := fun o => b3.alloc hz3 o
  go_wp2_with fail
  refine (HS _ (HB4.out _)).out.mono ?_; rintro e w5 ⟨q5, e5, v5, rfl, hv5⟩
  go_wp2_with fail
  go_ret2
  rw [HEV.out]
  exact .mk ((q2.more (HB4.out _)).trans q5) e5 rfl hv5

set_option maxRecDepth 100000 in
set_option maxHeartbeats 6400000 in
theorem iValueLet {fs : List Fn} {ap : Option Addr} {capp bv B f : Nat} (hBv : B ≤ bv) (hV : PV fs ap capp bv B f) (hVL : PL fs ap capp bv B f) (hFn : ∀ i, i < fs.length → fnB fs i = true) (hfl : fs.length ≤ 1048576) (fi : Nat) (n p c : Int) (ks : Fo) (a : Option Addr) (cap : Nat) (av : Option Addr) (cav : Nat) (vars : List Int) (s : Nat) (w : World)
    (hf : 3000 < f + 1 + s) (hs : s ≤ 3000) (h3 : ¬ s = 3000) (hfi : fi ≤ fs.length) (hn : nodeB fs (vars.length : Int) (fi : Int) 9 n p c ks.len = true) (ht : treeB fs (fi : Int) ks (vars.length : Int) 9 0 = true) (hE : EvAt w bv ap fs.length capp s) (hP : Pat w 0 B fs ap) (hF : Fat w 0 B ks a) (hkl : ks.len ≤ maxLen) (hL : Ls w bv av vars) (hN : Nums vars) (hvl : vars.length ≤ 412 + s) (hcv : vars.length ≤ cav) (hcv2 : cav ≤ 9223372036854775807) :
    Calls Tryz.prog 150 #[.pointer (some ⟨bv, 0, none⟩), .agg #[.int .i64 9, .int .i64 n, .int .i64 p, .int .i64 c, .slice a ks.len cap], .slice av vars.length cav] w (VRes bv ap fs.length capp w (evE nA fs (f + 1) 9 n p c ks vars s)) := by
  have h3b : ((s : Int) == 3000) = false := ne_beq (by omega)
  have hbw := cell_lt hE.c0
  have hne : w.heap.size ≠ bv := by omega
  have hne2 : ¬ bv = w.heap.size := by omega
  rw [evE_go h3]
  obtain ⟨w1, hw1⟩ : ∃ w1, w1 = w.setCell ⟨bv, 2, none⟩ (.int .i64 ((s : Int) + 1)) := ⟨_, rfl⟩
  have e1 : EvAt w1 bv ap fs.length capp (s + 1) := by rw [hw1]; exact hE.step
  have q1 : Kp (fun b => b = bv) w w1 := by rw [hw1]; exact Kp.set (p := ⟨bv, 2, none⟩) rfl
  have z1 : w1.heap.size = w.heap.size := by rw [hw1]; simp
  obtain ⟨w2, hw2⟩ : ∃ w2, w2 = w1.alloc (.cells #[.int .i64 9, .int .i64 n, .int .i64 p, .int .i64 c, .slice a ks.len cap] 212) := ⟨_, rfl⟩
  have b1 : Below w1.heap.size w1 w2 := by rw [hw2]; exact (Below.refl _ _).alloc (Nat.le_refl _) _
  have e2 := e1.next b1
  have q2 := q1.more b1
  have x2 := hE.c2
  have xf := hE.fz 2
  have P2 := hP.keepE q2 hBv hbw
  have F2 := hF.keepE q2 hBv hbw
  have L2 := hL.keep q2
  have hz12 := b1.size
  have hk1 : ks.len = 2 := by have := (node_kids hn (by omega)).1; have : kidsNo 9 = 2 := rfl; omega
  obtain ⟨b, off, rfl, hbB⟩ := F2.blk (by omega)
  obtain ⟨k0, n0, p0, c0, kk0, a0, cap0, hd0, hR0, kl0, t00, t01, t02, t03, t04, kf0⟩ := Fat.node F2 (i := 0) (by omega)
  obtain ⟨kn0, kt0⟩ := treeB_at ks 0 0 ht hd0
  obtain ⟨k1, n1, p1, c1, kk1, a1, cap1, hd1, hR1, kl1, t10, t11, t12, t13, t14, kf1⟩ := Fat.node F2 (i := 1) (by omega)
  obtain ⟨kn1, kt1⟩ := treeB_at ks 0 1 ht hd1
  have m0 : more 9 (0 + 0) = 0 := rfl
  have m1 : more 9 (0 + 1) = 1 := rfl
  rw [m0, Int.add_zero] at kn0 kt0
  rw [m1] at kn1 kt1
  have N0 : NodeAt w2 b off k0 n0 p0 c0 kk0.len a0 cap0 := by simp only [Nat.zero_mul, Nat.add_zero] at t00 t01 t02 t03 t04; exact ⟨t00, t01, t02, t03, t04⟩
  have N1 : NodeAt w2 b (off + 5) k1 n1 p1 c1 kk1.len a1 cap1 := by simp only [Nat.one_mul] at t10 t11 t12 t13 t14; exact ⟨t10, t11, t12, t13, t14⟩
  have HEV : Hid (nodE nA fs (evE nA fs f) 9 n p c ks vars (s + 1) = bindE (evE nA fs f k0 n0 p0 c0 kk0 vars (s + 1)) fun v s => evE nA fs f k1 n1 p1 c1 kk1 (vars ++ [v]) s) := by
    show (bindE (atE nA (evE nA fs f) ks 0 vars (s + 1)) fun v s => atE nA (evE nA fs f) ks 1 (vars ++ [v]) s) = _
    rw [atE_eq hd0]
    congr 1
    funext v s
    rw [atE_eq hd1]
  generalize nodE nA fs (evE nA fs f) 9 n p c ks vars (s + 1) = R at HEV ⊢
  have HS := fun (W : World) (hk : Below w2.heap.size w2 W) => Lib.hid (iBinding hBv hV fi k0 n0 p0 c0 kk0 a0 cap0 k1 n1 p1 c1 kk1 a1 cap1 av cav vars (s + 1) W (by omega) (by omega) hfi (e2.next hk) (P2.below (hk.mono (by omega))) (L2.keep (Kp.of_below hk)) hN (by omega) hcv hcv2 kn0 kt0 (kf0.agree (fun j _ h2 => hk.block j (by omega))) kl0 kn1 kt1 (kf1.agree (fun j _ h2 => hk.block j (by omega))) kl1)
  have HND := Lib.hid (iNodeLet n p c b off ks.len cap w2 (by omega) N0 N1 (by omega))
  clear hk1
  clear hE hP hF hL P2 F2 hn ht e1 b1
  go_enter Tryz.func150, Tryz.ntmps150
  go_wp2_with fail
  rw [← hw1]
  rw [← hw2]
  clear hw1 hw2
  refine HND.out.mono ?_; rintro e w3 ⟨rfl, b3⟩
  clear HND x2 xf
  have q3 := q2.more b3
  have e3 := e2.next b3
  have hz3 := b3.size
  have qNum := fun W v => asNum_no W 263 v (by decide)
  have qVar := fun W v => asVar_no W 263 v (by decide)
  have qOp := fun W v => asOp_no W 263 v (by decide)
  have qNeg := fun W v => asNeg_no W 263 v (by decide)
  have qIf := fun W v => asIf_no W 263 v (by decide)
  have qLet := fun W v => asLet_yes W v

  have HB4 : Hid (∀ o, Below w2.heap.size w2 (w3.alloc o)) := fun o => b3.alloc hz3 o
  go_wp2_with fail
  refine (HS _ (HB4.out _)).out.mono ?_; rintro e w5 ⟨q5, e5, v5, rfl, hv5⟩
  go_wp2_with fail
  go_ret2
  rw [HEV.out]
  exact .mk ((q2.more (HB4.out _)).trans q5) e5 rfl hv5

set_option maxRecDepth 100000 in
set_option maxHeartbeats 6400000 in
theorem iValueCall {fs : List Fn} {ap : Option Addr} {capp bv B f : Nat} (hBv : B ≤ bv) (hV : PV fs ap capp bv B f) (hVL : PL fs ap capp bv B f) (hFn : ∀ i, i < fs.length → fnB fs i = true) (hfl : fs.length ≤ 1048576) (fi : Nat) (n p c : Int) (ks : Fo) (a : Option Addr) (cap : Nat) (av : Option Addr) (cav : Nat) (vars : List Int) (s : Nat) (w : World)
    (hf : 3000 < f + 1 + s) (hs : s ≤ 3000) (h3 : ¬ s = 3000) (hfi : fi ≤ fs.length) (hn : nodeB fs (vars.length : Int) (fi : Int) 10 n p c ks.len = true) (ht : treeB fs (fi : Int) ks (vars.length : Int) 10 0 = true) (hE : EvAt w bv ap fs.length capp s) (hP : Pat w 0 B fs ap) (hF : Fat w 0 B ks a) (hkl : ks.len ≤ maxLen) (hL : Ls w bv av vars) (hN : Nums vars) (hvl : vars.length ≤ 412 + s) (hcv : vars.length ≤ cav) (hcv2 : cav ≤ 9223372036854775807) :
    Calls Tryz.prog 150 #[.pointer (some ⟨bv, 0, none⟩), .agg #[.int .i64 10, .int .i64 n, .int .i64 p, .int .i64 c, .slice a ks.len cap], .slice av vars.length cav] w (VRes bv ap fs.length capp w (evE nA fs (f + 1) 10 n p c ks vars s)) := by
  have h3b : ((s : Int) == 3000) = false := ne_beq (by omega)
  have hbw := cell_lt hE.c0
  have hne : w.heap.size ≠ bv := by omega
  have hne2 : ¬ bv = w.heap.size := by omega
  rw [evE_go h3]
  obtain ⟨w1, hw1⟩ : ∃ w1, w1 = w.setCell ⟨bv, 2, none⟩ (.int .i64 ((s : Int) + 1)) := ⟨_, rfl⟩
  have e1 : EvAt w1 bv ap fs.length capp (s + 1) := by rw [hw1]; exact hE.step
  have q1 : Kp (fun b => b = bv) w w1 := by rw [hw1]; exact Kp.set (p := ⟨bv, 2, none⟩) rfl
  have z1 : w1.heap.size = w.heap.size := by rw [hw1]; simp
  obtain ⟨w2, hw2⟩ : ∃ w2, w2 = w1.alloc (.cells #[.int .i64 10, .int .i64 n, .int .i64 p, .int .i64 c, .slice a ks.len cap] 212) := ⟨_, rfl⟩
  have b1 : Below w1.heap.size w1 w2 := by rw [hw2]; exact (Below.refl _ _).alloc (Nat.le_refl _) _
  have e2 := e1.next b1
  have q2 := q1.more b1
  have x2 := hE.c2
  have xf := hE.fz 2
  have P2 := hP.keepE q2 hBv hbw
  have F2 := hF.keepE q2 hBv hbw
  have L2 := hL.keep q2
  have hz12 := b1.size
  obtain ⟨r1, r2, r3, _⟩ := node_call hn (.inl rfl)
  have HEV : Hid (nodE nA fs (evE nA fs f) 10 n p c ks vars (s + 1) = bindL nA (lisE nA (evE nA fs f) ks vars (s + 1) ks.len) fun l s => atE nA (evE nA fs f) (fs.getD n.toNat noFn).outs p.toNat l s) := rfl
  generalize nodE nA fs (evE nA fs f) 10 n p c ks vars (s + 1) = R at HEV ⊢
  have HS := fun (W : World) (hk : Below w2.heap.size w2 W) => Lib.hid (iCall hBv hV hVL hFn hfl fi n p ks a cap av cav vars (s + 1) W (by omega) (by omega) hfi (e2.next hk) (P2.below (hk.mono (by omega))) (L2.keep (Kp.of_below hk)) hN (by omega) hcv hcv2 r1 r2 r3 ht (F2.agree (fun j _ h2 => hk.block j (by omega))))
  clear r1 r2 r3
  have HND := Lib.hid (iNodeCall n p c a ks.len cap w2)
  clear hE hP hF hL P2 F2 hn ht e1 b1
  go_enter Tryz.func150, Tryz.ntmps150
  go_wp2_with fail
  rw [← hw1]
  rw [← hw2]
  clear hw1 hw2
  refine HND.out.mono ?_; rintro e w3 ⟨rfl, b3⟩
  clear HND x2 xf
  have q3 := q2.more b3
  have e3 := e2.next b3
  have hz3 := b3.size
  have qNum := fun W v => asNum_no W 266 v (by decide)
  have qVar := fun W v => asVar_no W 266 v (by decide)
  have qOp := fun W v => asOp_no W 266 v (by decide)
  have qNeg := fun W v => asNeg_no W 266 v (by decide)
  have qIf := fun W v => asIf_no W 266 v (by decide)
  have qLet := fun W v => asLet_no W 266 v (by decide)
  have qCall := fun W v => asCall_yes W v

  have HB4 : Hid (∀ o, Below w2.heap.size w2 (w3.alloc o)) := fun o => b3.alloc hz3 o
  go_wp2_with fail
  refine (HS _ (HB4.out _)).out.mono ?_; rintro e w5 ⟨q5, e5, v5, rfl, hv5⟩
  go_wp2_with fail
  go_ret2
  rw [HEV.out]
  exact .mk ((q2.more (HB4.out _)).trans q5) e5 rfl hv5

set_option maxRecDepth 100000 in
set_option maxHeartbeats 6400000 in
theorem iValueLoop {fs : List Fn} {ap : Option Addr} {capp bv B f : Nat} (hBv : B ≤ bv) (hV : PV fs ap capp bv B f) (hVL : PL fs ap capp bv B f) (hFn : ∀ i, i < fs.length → fnB fs i = true) (hfl : fs.length ≤ 1048576) (fi : Nat) (n p c : Int) (ks : Fo) (a : Option Addr) (cap : Nat) (av : Option Addr) (cav : Nat) (vars : List Int) (s : Nat) (w : World)
    (hf : 3000 < f + 1 + s) (hs : s ≤ 3000) (h3 : ¬ s = 3000) (hfi : fi ≤ fs.length) (hn : nodeB fs (vars.length : Int) (fi : Int) 11 n p c ks.len = true) (ht : treeB fs (fi : Int) ks (vars.length : Int) 11 0 = true) (hE : EvAt w bv ap fs.length capp s) (hP : Pat w 0 B fs ap) (hF : Fat w 0 B ks a) (hkl : ks.len ≤ maxLen) (hL : Ls w bv av vars) (hN : Nums vars) (hvl : vars.length ≤ 412 + s) (hcv : vars.length ≤ cav) (hcv2 : cav ≤ 9223372036854775807) :
    Calls Tryz.prog 150 #[.pointer (some ⟨bv, 0, none⟩), .agg #[.int .i64 11, .int .i64 n, .int .i64 p, .int .i64 c, .slice a ks.len cap], .slice av vars.length cav] w (VRes bv ap fs.length capp w (evE nA fs (f + 1) 11 n p c ks vars s)) := by
  have h3b : ((s : Int) == 3000) = false := ne_beq (by omega)
  have hbw := cell_lt hE.c0
  have hne : w.heap.size ≠ bv := by omega
  have hne2 : ¬ bv = w.heap.size := by omega
  rw [evE_go h3]
  obtain ⟨w1, hw1⟩ : ∃ w1, w1 = w.setCell ⟨bv, 2, none⟩ (.int .i64 ((s : Int) + 1)) := ⟨_, rfl⟩
  have e1 : EvAt w1 bv ap fs.length capp (s + 1) := by rw [hw1]; exact hE.step
  have q1 : Kp (fun b => b = bv) w w1 := by rw [hw1]; exact Kp.set (p := ⟨bv, 2, none⟩) rfl
  have z1 : w1.heap.size = w.heap.size := by rw [hw1]; simp
  obtain ⟨w2, hw2⟩ : ∃ w2, w2 = w1.alloc (.cells #[.int .i64 11, .int .i64 n, .int .i64 p, .int .i64 c, .slice a ks.len cap] 212) := ⟨_, rfl⟩
  have b1 : Below w1.heap.size w1 w2 := by rw [hw2]; exact (Below.refl _ _).alloc (Nat.le_refl _) _
  have e2 := e1.next b1
  have q2 := q1.more b1
  have x2 := hE.c2
  have xf := hE.fz 2
  have P2 := hP.keepE q2 hBv hbw
  have F2 := hF.keepE q2 hBv hbw
  have L2 := hL.keep q2
  have hz12 := b1.size
  obtain ⟨r1, r2, r3, r4⟩ := node_call hn (.inr rfl)
  obtain ⟨r5, r6⟩ := r4 rfl
  have HEV : Hid (nodE nA fs (evE nA fs f) 11 n p c ks vars (s + 1) = bindL nA (lopE nA (evE nA fs f) (fs.getD n.toNat noFn).outs (lisE nA (evE nA fs f) ks vars (s + 1) ks.len) c.toNat) fun l s => ⟨l.getD p.toNat (nA.cst 0), s, 0⟩) := rfl
  generalize nodE nA fs (evE nA fs f) 11 n p c ks vars (s + 1) = R at HEV ⊢
  have HS := fun (W : World) (hk : Below w2.heap.size w2 W) => Lib.hid (iLoop hBv hVL hFn hfl fi n p c ks a cap av cav vars (s + 1) W (by omega) (by omega) hfi (e2.next hk) (P2.below (hk.mono (by omega))) (L2.keep (Kp.of_below hk)) hN (by omega) hcv hcv2 r1 r2 r3 r5 r6 ht (F2.agree (fun j _ h2 => hk.block j (by omega))))
  clear r1 r2 r3 r4 r5 r6
  have HND := Lib.hid (iNodeLoop n p c a ks.len cap w2)
  clear hE hP hF hL P2 F2 hn ht e1 b1
  go_enter Tryz.func150, Tryz.ntmps150
  go_wp2_with fail
  rw [← hw1]
  rw [← hw2]
  clear hw1 hw2
  refine HND.out.mono ?_; rintro e w3 ⟨rfl, b3⟩
  clear HND x2 xf
  have q3 := q2.more b3
  have e3 := e2.next b3
  have hz3 := b3.size
  have qNum := fun W v => asNum_no W 269 v (by decide)
  have qVar := fun W v => asVar_no W 269 v (by decide)
  have qOp := fun W v => asOp_no W 269 v (by decide)
  have qNeg := fun W v => asNeg_no W 269 v (by decide)
  have qIf := fun W v => asIf_no W 269 v (by decide)
  have qLet := fun W v => asLet_no W 269 v (by decide)
  have qCall := fun W v => asCall_no W 269 v (by decide)
  have qLoop := fun W v => asLoop_yes W v

  have HB4 : Hid (∀ o, Below w2.heap.size w2 (w3.alloc o)) := fun o => b3.alloc hz3 o
  go_wp2_with fail
  refine (HS _ (HB4.out _)).out.mono ?_; rintro e w5 ⟨q5, e5, v5, rfl, hv5⟩
  go_wp2_with fail
  go_ret2
  rw [HEV.out]
  exact .mk ((q2.more (HB4.out _)).trans q5) e5 rfl hv5

set_option maxRecDepth 100000 in
set_option maxHeartbeats 6400000 in
theorem iValueOp {fs : List Fn} {ap : Option Addr} {capp bv B f : Nat} (hBv : B ≤ bv) (hV : PV fs ap capp bv B f) (hVL : PL fs ap capp bv B f) (hFn : ∀ i, i < fs.length → fnB fs i = true) (hfl : fs.length ≤ 1048576) (fi : Nat) (k : Int) (n p c : Int) (ks : Fo) (a : Option Addr) (cap : Nat) (av : Option Addr) (cav : Nat) (vars : List Int) (s : Nat) (w : World)
    (hf : 3000 < f + 1 + s) (hs : s ≤ 3000) (h3 : ¬ s = 3000) (hfi : fi ≤ fs.length) (hko : k ≠ 1 ∧ k ≠ 2 ∧ k ≠ 7 ∧ k ≠ 8 ∧ k ≠ 9 ∧ k ≠ 10 ∧ k ≠ 11) (hn : nodeB fs (vars.length : Int) (fi : Int) k n p c ks.len = true) (ht : treeB fs (fi : Int) ks (vars.length : Int) k 0 = true) (hE : EvAt w bv ap fs.length capp s) (hP : Pat w 0 B fs ap) (hF : Fat w 0 B ks a) (hkl : ks.len ≤ maxLen) (hL : Ls w bv av vars) (hN : Nums vars) (hvl : vars.length ≤ 412 + s) (hcv : vars.length ≤ cav) (hcv2 : cav ≤ 9223372036854775807) :
    Calls Tryz.prog 150 #[.pointer (some ⟨bv, 0, none⟩), .agg #[.int .i64 k, .int .i64 n, .int .i64 p, .int .i64 c, .slice a ks.len cap], .slice av vars.length cav] w (VRes bv ap fs.length capp w (evE nA fs (f + 1) k n p c ks vars s)) := by
  have h3b : ((s : Int) == 3000) = false := ne_beq (by omega)
  have hbw := cell_lt hE.c0
  have hne : w.heap.size ≠ bv := by omega
  have hne2 : ¬ bv = w.heap.size := by omega
  rw [evE_go h3]
  obtain ⟨w1, hw1⟩ : ∃ w1, w1 = w.setCell ⟨bv, 2, none⟩ (.int .i64 ((s : Int) + 1)) := ⟨_, rfl⟩
  have e1 : EvAt w1 bv ap fs.length capp (s + 1) := by rw [hw1]; exact hE.step
  have q1 : Kp (fun b => b = bv) w w1 := by rw [hw1]; exact Kp.set (p := ⟨bv, 2, none⟩) rfl
  have z1 : w1.heap.size = w.heap.size := by rw [hw1]; simp
  obtain ⟨w2, hw2⟩ : ∃ w2, w2 = w1.alloc (.cells #[.int .i64 k, .int .i64 n, .int .i64 p, .int .i64 c, .slice a ks.len cap] 212) := ⟨_, rfl⟩
  have b1 : Below w1.heap.size w1 w2 := by rw [hw2]; exact (Below.refl _ _).alloc (Nat.le_refl _) _
  have e2 := e1.next b1
  have q2 := q1.more b1
  have x2 := hE.c2
  have xf := hE.fz 2
  have P2 := hP.keepE q2 hBv hbw
  have F2 := hF.keepE q2 hBv hbw
  have L2 := hL.keep q2
  have hz12 := b1.size
  have hk1 : ks.len = 2 := by
    have h := (node_kids hn (by omega)).1
    have := node_kind hn
    have e : kidsNo k = 2 := by unfold kidsNo; rw [if_neg (by omega), if_pos (by omega)]
    omega
  have HEV : Hid (nodE nA fs (evE nA fs f) k n p c ks vars (s + 1) = bindL nA (lisE nA (evE nA fs f) ks vars (s + 1) ks.len) fun l s => opE nA k l s) := by
    show _ = _
    unfold nodE
    rw [if_neg (by omega), if_neg (by omega), if_neg (by omega), if_neg (by omega), if_neg (by omega), if_neg (by omega), if_neg (by omega)]
  generalize nodE nA fs (evE nA fs f) k n p c ks vars (s + 1) = R at HEV ⊢
  have HS := fun (W : World) (hk : Below w2.heap.size w2 W) => Lib.hid (iOperation hBv hVL fi k ks a cap av cav vars (s + 1) W (by omega) (by omega) hfi (e2.next hk) (P2.below (hk.mono (by omega))) (L2.keep (Kp.of_below hk)) hN (by omega) hcv hcv2 (by omega) ht (F2.agree (fun j _ h2 => hk.block j (by omega))) hk1)
  have HND := Lib.hid (iNodeOp k n p c a ks.len cap w2 hko)
  clear hk1
  clear hE hP hF hL P2 F2 hn ht e1 b1
  go_enter Tryz.func150, Tryz.ntmps150
  go_wp2_with fail
  rw [← hw1]
  rw [← hw2]
  clear hw1 hw2
  refine HND.out.mono ?_; rintro e w3 ⟨rfl, b3⟩
  clear HND x2 xf
  have q3 := q2.more b3
  have e3 := e2.next b3
  have hz3 := b3.size
  have qNum := fun W v => asNum_no W 254 v (by decide)
  have qVar := fun W v => asVar_no W 254 v (by decide)
  have qOp := fun W v => asOp_yes W v

  have HB4 : Hid (∀ o, Below w2.heap.size w2 (w3.alloc o)) := fun o => b3.alloc hz3 o
  go_wp2_with fail
  refine (HS _ (HB4.out _)).out.mono ?_; rintro e w5 ⟨q5, e5, v5, rfl, hv5⟩
  go_wp2_with fail
  go_ret2
  rw [HEV.out]
  exact .mk ((q2.more (HB4.out _)).trans q5) e5 rfl hv5

end Go.Proofs.YtemmbacdilepgaaGreat

namespace Go.Proofs.YtemmbacdilepgaaGreat
open Go.RowKit
set_option linter.unusedVariables false

def FnResF (B : Nat) (fs : List Fn) (f : Int) (w : World) (e : Ending) (w' : World) : Prop := Below w.heap.size w w' ∧
  ((¬ FnAt fs f ∧ e = .returned (.tuple #[.agg #[.string ⟨#[]⟩, .int .i64 0, .slice none 0 0], .int .i64 (if progB fs = true then 2 else 1)])) ∨
   (FnAt fs f ∧ ∃ af cf, e = .returned (.tuple #[.agg #[.string (fs.getD f.toNat noFn).name, .int .i64 (fs.getD f.toNat noFn).params, .slice af (fs.getD f.toNat noFn).outs.len cf], .int .i64 0]) ∧ Fat w 0 B (fs.getD f.toNat noFn).outs af))

set_option maxRecDepth 100000 in
set_option maxHeartbeats 3200000 in
theorem iFunctionOfF (fs : List Fn) (ap : Option Addr) (capp : Nat) (f : Int) (w : World) (B : Nat) (hBB : B ≤ w.heap.size) (hPB : Pat w 0 B fs ap) (hsz : pgSize fs ≤ 1048576) (hcap : fs.length ≤ capp) (hcm : capp ≤ 1048576) :
    Calls Tryz.prog 59 #[.agg #[.slice ap fs.length capp], .int .i64 f] w (FnResF B fs f w) := by
  have hP := hPB.mono (Nat.le_refl 0) hBB
  have hl : fs.length ≤ 1048576 := by unfold pgSize at hsz; omega
  obtain ⟨w0, hw0⟩ : ∃ w0, w0 = (w.alloc (.cells #[.slice ap fs.length capp] 31)).alloc (.cells #[.string ⟨#[]⟩, .int .i64 0, .slice none 0 0] 86) := ⟨_, rfl⟩
  have hb0 : Below w.heap.size w w0 := by rw [hw0]; exact ((Below.refl _ _).alloc (Nat.le_refl _) _).alloc (by simp) _
  have z0 : w0.heap.size = w.heap.size + 2 := by rw [hw0]; simp
  have c0 : w0.cell? ⟨w.heap.size, 0, none⟩ = some (.slice ap fs.length capp) := by rw [hw0]; simp [go_sem]
  have r0 : w0.cell? ⟨w.heap.size + 1, 0, none⟩ = some (.string ⟨#[]⟩) := by rw [hw0]; simp [go_sem]
  have r1 : w0.cell? ⟨w.heap.size + 1, 1, none⟩ = some (.int .i64 0) := by rw [hw0]; simp [go_sem]
  have r2 : w0.cell? ⟨w.heap.size + 1, 2, none⟩ = some (.slice none 0 0) := by rw [hw0]; simp [go_sem]
  have rz : ∀ o, w0.frozen? ⟨w.heap.size + 1, o, none⟩ = false := fun o => by rw [hw0]; simp [go_sem]
  have hP0 : Pat w0 0 w0.heap.size fs ap := (hP.below hb0).mono (Nat.le_refl _) hb0.size
  have HV := Lib.hid (iValidProgram fs ap capp w0 hP0 hsz hcap hcm)
  cases hpb : progB fs with
  | false =>
    have HN : Hid (¬ FnAt fs f) := fun h => by have := h.1; rw [hpb] at this; cases this
    have HPB := Lib.hid hpb
    rw [hpb] at HV
    clear hpb hP hP0
    go_enter Tryz.func59, Tryz.ntmps59
    go_wp2_with fail
    rw [← hw0]
    clear hw0
    refine (HV.out).mono ?_; rintro e w1 ⟨rfl, hb1⟩
    have hB1 := hb0.trans (hb1.mono (by omega))
    have k0 := (hb1.cell (p := ⟨w.heap.size + 1, 0, none⟩) (by show w.heap.size + 1 < _; omega)).trans r0
    have k1 := (hb1.cell (p := ⟨w.heap.size + 1, 1, none⟩) (by show w.heap.size + 1 < _; omega)).trans r1
    have k2 := (hb1.cell (p := ⟨w.heap.size + 1, 2, none⟩) (by show w.heap.size + 1 < _; omega)).trans r2
    have kz0 := (hb1.frozen (p := ⟨w.heap.size + 1, 0, none⟩) (by show w.heap.size + 1 < _; omega)).trans (rz 0)
    have kz1 := (hb1.frozen (p := ⟨w.heap.size + 1, 1, none⟩) (by show w.heap.size + 1 < _; omega)).trans (rz 1)
    have kz2 := (hb1.frozen (p := ⟨w.heap.size + 1, 2, none⟩) (by show w.heap.size + 1 < _; omega)).trans (rz 2)
    clear c0 r0 r1 r2 rz HV hb1
    go_wp2_with fail
    refine bodyPost_ret (v := .tuple #[.agg #[.string ⟨#[]⟩, .int .i64 0, .slice none 0 0], .int .i64 1]) (by simp [results, Tryz.results59, go_sem, k0, k1, k2]) rfl ⟨?_, .inl ⟨HN.out, by rw [HPB.out]; rfl⟩⟩
    exact ((hB1.setCell (p := ⟨w.heap.size + 1, 0, none⟩) (by show w.heap.size ≤ w.heap.size + 1; omega) _).setCell (p := ⟨w.heap.size + 1, 1, none⟩) (by show w.heap.size ≤ w.heap.size + 1; omega) _).setCell (p := ⟨w.heap.size + 1, 2, none⟩) (by show w.heap.size ≤ w.heap.size + 1; omega) _
  | true =>
    rw [hpb] at HV
    by_cases hf : 0 ≤ f ∧ f < (fs.length : Int)
    · have HN : Hid (FnAt fs f) := ⟨hpb, hf⟩
      have HX := fun W => Lib.hid (iIndex f (fs.length : Int) W)
      rw [decide_eq_true hf] at HX
      have hf2 := hf.2
      obtain ⟨j, rfl⟩ := Int.eq_ofNat_of_zero_le hf.1
      have hj : j < fs.length := by omega
      obtain ⟨bf, of, rfl, hbB, hall⟩ := hPB.resolve_left (by intro e; rw [e] at hj; simp at hj)
      obtain ⟨hrr, af, cf, f0, f1, f2, hFo⟩ := hall j hj
      clear hpb hP hf hall
      go_enter Tryz.func59, Tryz.ntmps59
      go_wp2_with fail
      rw [← hw0]
      clear hw0
      refine (HV.out).mono ?_; rintro e w1 ⟨rfl, hb1⟩
      have hB1 := hb0.trans (hb1.mono (by omega))
      have k := (hb1.cell (p := ⟨w.heap.size, 0, none⟩) (by show w.heap.size < _; omega)).trans c0
      have k0 := (hb1.cell (p := ⟨w.heap.size + 1, 0, none⟩) (by show w.heap.size + 1 < _; omega)).trans r0
      have k1 := (hb1.cell (p := ⟨w.heap.size + 1, 1, none⟩) (by show w.heap.size + 1 < _; omega)).trans r1
      have k2 := (hb1.cell (p := ⟨w.heap.size + 1, 2, none⟩) (by show w.heap.size + 1 < _; omega)).trans r2
      have kz0 := (hb1.frozen (p := ⟨w.heap.size + 1, 0, none⟩) (by show w.heap.size + 1 < _; omega)).trans (rz 0)
      have kz1 := (hb1.frozen (p := ⟨w.heap.size + 1, 1, none⟩) (by show w.heap.size + 1 < _; omega)).trans (rz 1)
      have kz2 := (hb1.frozen (p := ⟨w.heap.size + 1, 2, none⟩) (by show w.heap.size + 1 < _; omega)).trans (rz 2)
      replace f0 := (hB1.cell (p := ⟨bf, of + j * 3, none⟩) (by show bf < _; omega)).trans f0
      replace f1 := (hB1.cell (p := ⟨bf, of + j * 3 + 1, none⟩) (by show bf < _; omega)).trans f1
      replace f2 := (hB1.cell (p := ⟨bf, of + j * 3 + 2, none⟩) (by show bf < _; omega)).trans f2
      have HFO := Lib.hid hFo
      have HRES : Hid (FnAt fs (j : Int) ∧ Ending.returned (.tuple #[.agg #[.string (fs.getD j noFn).name, .int .i64 (fs.getD j noFn).params, .slice af (fs.getD j noFn).outs.len cf], .int .i64 0]) = .returned (.tuple #[.agg #[.string (fs.getD (j : Int).toNat noFn).name, .int .i64 (fs.getD (j : Int).toNat noFn).params, .slice af (fs.getD (j : Int).toNat noFn).outs.len cf], .int .i64 0])) := ⟨HN.out, rfl⟩
      clear hrr hFo c0 r0 r1 r2 rz HV hb1 hP0
      have HFO2 : Hid (Fat w 0 B (fs.getD (j : Int).toNat noFn).outs af) := HFO.out
      clear HFO
      generalize (fs.getD j noFn).name = nm at *
      generalize (fs.getD j noFn).outs.len = mo at *
      generalize (fs.getD j noFn).params = pa at *
      go_wp2_with fail
      refine (HX _).out.mono ?_; rintro e w2 ⟨rfl, rfl⟩
      go_wp2_with fail
      refine bodyPost_ret (v := .tuple #[.agg #[.string nm, .int .i64 pa, .slice af mo cf], .int .i64 0]) (by simp [results, Tryz.results59, go_sem, k0, k1, k2]) rfl ⟨?_, .inr ⟨HRES.out.1, af, cf, HRES.out.2, HFO2.out⟩⟩
      exact ((hB1.setCell (p := ⟨w.heap.size + 1, 0, none⟩) (by show w.heap.size ≤ w.heap.size + 1; omega) _).setCell (p := ⟨w.heap.size + 1, 1, none⟩) (by show w.heap.size ≤ w.heap.size + 1; omega) _).setCell (p := ⟨w.heap.size + 1, 2, none⟩) (by show w.heap.size ≤ w.heap.size + 1; omega) _
    · have HN : Hid (¬ FnAt fs f) := fun h => hf h.2
      have HPB := Lib.hid hpb
      have HX := fun W => Lib.hid (iIndex f (fs.length : Int) W)
      rw [decide_eq_false hf] at HX
      clear hpb hP hf hP0
      go_enter Tryz.func59, Tryz.ntmps59
      go_wp2_with fail
      rw [← hw0]
      clear hw0
      refine (HV.out).mono ?_; rintro e w1 ⟨rfl, hb1⟩
      have hB1 := hb0.trans (hb1.mono (by omega))
      have k := (hb1.cell (p := ⟨w.heap.size, 0, none⟩) (by show w.heap.size < _; omega)).trans c0
      have k0 := (hb1.cell (p := ⟨w.heap.size + 1, 0, none⟩) (by show w.heap.size + 1 < _; omega)).trans r0
      have k1 := (hb1.cell (p := ⟨w.heap.size + 1, 1, none⟩) (by show w.heap.size + 1 < _; omega)).trans r1
      have k2 := (hb1.cell (p := ⟨w.heap.size + 1, 2, none⟩) (by show w.heap.size + 1 < _; omega)).trans r2
      have kz0 := (hb1.frozen (p := ⟨w.heap.size + 1, 0, none⟩) (by show w.heap.size + 1 < _; omega)).trans (rz 0)
      have kz1 := (hb1.frozen (p := ⟨w.heap.size + 1, 1, none⟩) (by show w.heap.size + 1 < _; omega)).trans (rz 1)
      have kz2 := (hb1.frozen (p := ⟨w.heap.size + 1, 2, none⟩) (by show w.heap.size + 1 < _; omega)).trans (rz 2)
      clear c0 r0 r1 r2 rz HV hb1
      go_wp2_with fail
      refine (HX _).out.mono ?_; rintro e w2 ⟨rfl, rfl⟩
      go_wp2_with fail
      refine bodyPost_ret (v := .tuple #[.agg #[.string ⟨#[]⟩, .int .i64 0, .slice none 0 0], .int .i64 2]) (by simp [results, Tryz.results59, go_sem, k0, k1, k2]) rfl ⟨?_, .inl ⟨HN.out, by rw [HPB.out]; rfl⟩⟩
      exact ((hB1.setCell (p := ⟨w.heap.size + 1, 0, none⟩) (by show w.heap.size ≤ w.heap.size + 1; omega) _).setCell (p := ⟨w.heap.size + 1, 1, none⟩) (by show w.heap.size ≤ w.heap.size + 1; omega) _).setCell (p := ⟨w.heap.size + 1, 2, none⟩) (by show w.heap.size ≤ w.heap.size + 1; omega) _

end Go.Proofs.YtemmbacdilepgaaGreat

namespace Go.Proofs.YtemmbacdilepgaaGreat
open Go.RowKit
set_option linter.unusedVariables false

set_option maxRecDepth 100000 in
set_option maxHeartbeats 3200000 in
theorem iValueEnd {fs : List Fn} {ap : Option Addr} {capp bv f : Nat} (k n p c : Int) (ks : Fo) (a : Option Addr) (cap : Nat) (av : Option Addr) (cav : Nat) (vars : List Int) (s : Nat) (w : World) (h3 : s = 3000) (hE : EvAt w bv ap fs.length capp s) :
    Calls Tryz.prog 150 #[.pointer (some ⟨bv, 0, none⟩), .agg #[.int .i64 k, .int .i64 n, .int .i64 p, .int .i64 c, .slice a ks.len cap], .slice av vars.length cav] w (VRes bv ap fs.length capp w (evE nA fs (f + 1) k n p c ks vars s)) := by
  rw [evE_end h3]
  have h3b : ((s : Int) == 3000) = true := by subst h3; rfl
  have hbw := cell_lt hE.c0
  have hne2 : ¬ bv = w.heap.size := by omega
  have x2 := hE.c2
  have b1 : Below w.heap.size w (w.alloc (.cells #[.int .i64 k, .int .i64 n, .int .i64 p, .int .i64 c, .slice a ks.len cap] 212)) := (Below.refl _ _).alloc (Nat.le_refl _) _
  have e1 := hE.next b1
  clear h3
  go_enter Tryz.func150, Tryz.ntmps150
  go_wp2_with fail
  go_ret2
  exact .mk (Kp.of_below b1) e1 rfl (fun h => by cases h)

theorem iPV {fs : List Fn} {ap : Option Addr} {capp bv B : Nat} (hBv : B ≤ bv) (hFn : ∀ i, i < fs.length → fnB fs i = true) (hfl : fs.length ≤ 1048576) : ∀ f, PV fs ap capp bv B f
  | 0 => by
    intro fi k n p c ks a cap av cav vars s w hf hs
    omega
  | f + 1 => by
    have hV := iPV (ap := ap) (capp := capp) hBv hFn hfl f
    have hVL := iValues hBv hV
    intro fi k n p c ks a cap av cav vars s w hf hs hfi hn ht hE hP hF hkl hL hN hvl hcv hcv2
    by_cases h3 : s = 3000
    · exact iValueEnd k n p c ks a cap av cav vars s w h3 hE
    by_cases h1 : k = 1
    · subst h1; exact iValueNum hBv hV hVL hFn hfl fi n p c ks a cap av cav vars s w hf hs h3 hfi hn ht hE hP hF hkl hL hN hvl hcv hcv2
    by_cases h2 : k = 2
    · subst h2; exact iValueVar hBv hV hVL hFn hfl fi n p c ks a cap av cav vars s w hf hs h3 hfi hn ht hE hP hF hkl hL hN hvl hcv hcv2
    by_cases h7 : k = 7
    · subst h7; exact iValueNeg hBv hV hVL hFn hfl fi n p c ks a cap av cav vars s w hf hs h3 hfi hn ht hE hP hF hkl hL hN hvl hcv hcv2
    by_cases h8 : k = 8
    · subst h8; exact iValueIf hBv hV hVL hFn hfl fi n p c ks a cap av cav vars s w hf hs h3 hfi hn ht hE hP hF hkl hL hN hvl hcv hcv2
    by_cases h9 : k = 9
    · subst h9; exact iValueLet hBv hV hVL hFn hfl fi n p c ks a cap av cav vars s w hf hs h3 hfi hn ht hE hP hF hkl hL hN hvl hcv hcv2
    by_cases h10 : k = 10
    · subst h10; exact iValueCall hBv hV hVL hFn hfl fi n p c ks a cap av cav vars s w hf hs h3 hfi hn ht hE hP hF hkl hL hN hvl hcv hcv2
    by_cases h11 : k = 11
    · subst h11; exact iValueLoop hBv hV hVL hFn hfl fi n p c ks a cap av cav vars s w hf hs h3 hfi hn ht hE hP hF hkl hL hN hvl hcv hcv2
    exact iValueOp hBv hV hVL hFn hfl fi k n p c ks a cap av cav vars s w hf hs h3 hfi ⟨h1, h2, h7, h8, h9, h10, h11⟩ hn ht hE hP hF hkl hL hN hvl hcv hcv2

/-- the answer of an evaluation -/
def EvRes (w : World) (r : Rl Int) (e : Ending) (w' : World) : Prop :=
  Below w.heap.size w w' ∧ ((r.c = 0 ∧ ∃ g, e = .returned (.tuple #[.slice (some ⟨g, 0, none⟩) r.l.length r.l.length, .int .i64 r.s, .int .i64 0]) ∧ Own w.heap.size w' g r.l.length r.l ∧ Nums r.l) ∨ (¬ r.c = 0 ∧ e = .returned (.tuple #[.slice none 0 0, .int .i64 0, .int .i64 r.c])))

set_option maxRecDepth 100000 in
set_option maxHeartbeats 3200000 in
theorem iEvaluateN (fs : List Fn) (ap : Option Addr) (capp : Nat) (j : Nat) (af : Option Addr) (cf : Nat) (aa : Option Addr) (ca : Nat) (args : List Int) (w : World)
    (hpb : progB fs = true) (hj : j < fs.length) (hfl : fs.length ≤ 1048576) (hP : Pat w 0 w.heap.size fs ap) (hFo : Fat w 0 w.heap.size (fs.getD j noFn).outs af) (hA : At w aa args) (hN : Nums args) (hal : (args.length : Int) = (fs.getD j noFn).params) (hca : args.length ≤ ca) (hca2 : ca ≤ 9223372036854775807) :
    Calls Tryz.prog 52 #[ofN, .slice ap fs.length capp, .agg #[.string (fs.getD j noFn).name, .int .i64 (fs.getD j noFn).params, .slice af (fs.getD j noFn).outs.len cf], .slice aa args.length ca] w (EvRes w (lisE nA (evE nA fs 3001) (fs.getD j noFn).outs args 0 (fs.getD j noFn).outs.len)) := by
  obtain ⟨g1, g2, g3⟩ := fn_parts (progB_fn hpb hj)
  obtain ⟨w1, hw1⟩ : ∃ w1, w1 = (w.alloc (.cells #[.string (fs.getD j noFn).name, .int .i64 (fs.getD j noFn).params, .slice af (fs.getD j noFn).outs.len cf] 86)).alloc (.cells #[ofN, .slice ap fs.length capp, .int .i64 0] 167) := ⟨_, rfl⟩
  have b1 : Below w.heap.size w w1 := by rw [hw1]; exact ((Below.refl _ _).alloc (Nat.le_refl _) _).alloc (by simp) _
  have z1 : w1.heap.size = w.heap.size + 1 + 1 := by rw [hw1]; simp
  have E1 : EvAt w1 (w.heap.size + 1) ap fs.length capp 0 := ⟨by rw [hw1]; simp [go_sem], by rw [hw1]; simp [go_sem], by rw [hw1]; simp [go_sem], fun o => by rw [hw1]; simp [go_sem]⟩
  have y2 : w1.cell? ⟨w.heap.size, 2, none⟩ = some (.slice af (fs.getD j noFn).outs.len cf) := by rw [hw1]; simp [go_sem]
  have hL : Ls w1 (w.heap.size + 1) aa args := by
    refine ⟨hA.below b1 (Nat.le_refl _), fun g hg => ?_⟩
    by_cases hl : args = []
    · simp [blk, hl] at hg
    · obtain ⟨b, off, rfl, hb, _⟩ := hA.resolve_left hl
      simp [blk, hl] at hg
      omega
  have HV := Lib.hid (iValues (Nat.le_succ _) (iPV (ap := ap) (capp := capp) (bv := w.heap.size + 1) (B := w.heap.size) (Nat.le_succ _) (fun i hi => progB_fn hpb hi) hfl 3001) j 0 (fs.getD j noFn).outs af cf aa ca args 0 w1 (by omega) (by omega) (by omega) (by decide) (by rw [hal]; exact g3) E1 (hP.below b1) (hFo.agree (fun i _ h2 => b1.block i h2)) (by omega) hL hN (by omega) hca hca2)
  generalize lisE nA (evE nA fs 3001) (fs.getD j noFn).outs args 0 (fs.getD j noFn).outs.len = r at HV ⊢
  clear g1 g2 g3 E1 hL hP hFo hA
  generalize (fs.getD j noFn).name = nm at *
  generalize (fs.getD j noFn).params = pa at *
  generalize (fs.getD j noFn).outs.len = ml at *
  go_enter Tryz.func52, Tryz.ntmps52
  go_wp2_with fail
  rw [← hw1]
  clear hw1
  refine HV.out.mono ?_; rintro e w2 ⟨k2, e2, ⟨hc, g, rfl, ho, hnm⟩ | ⟨hc, rfl⟩⟩
  · have B2 : Below w.heap.size w w2 := b1.trans (k2.below (by omega) (fun b hb => by omega))
    have x2 := e2.c2
    have HX : Hid (∀ q, EvRes w r (.returned (.tuple #[.slice (some ⟨g, 0, none⟩) r.l.length r.l.length, .int .i64 r.s, .int .i64 0])) (w2.drewN q)) := fun q => ⟨below_drewN B2 _, .inl ⟨hc, g, rfl, (ho.mono (by omega)).kept (below_drewN (Below.refl w2.heap.size w2) q) ho.base.2, hnm⟩⟩
    clear HV ho hnm
    go_wp2_with fail
    go_quiet (fail)
    go_wp2_with fail
    go_ret3
    exact HX.out _
  · have hbf : (r.c != 0) = true := by simp [hc]
    have B2 : Below w.heap.size w w2 := b1.trans (k2.below (by omega) (fun b hb => by omega))
    clear HV
    go_wp2_with fail
    go_ret3
    exact ⟨B2, .inr ⟨hc, rfl⟩⟩

end Go.Proofs.YtemmbacdilepgaaGreat

namespace Go.Proofs.YtemmbacdilepgaaGreat
open Go.RowKit
set_option linter.unusedVariables false

/-- the code for a place -/
def plC (fs : List Fn) (f : Int) (args : List Int) : Int := if progB fs = true then (if 0 ≤ f ∧ f < (fs.length : Int) then (if areB args (fs.getD f.toNat noFn).params = true then 0 else 2) else 2) else 1
theorem plC_no {fs : List Fn} {f : Int} {args : List Int} (h : ¬ FnAt fs f) : plC fs f args = if progB fs = true then 2 else 1 := by
  unfold plC
  by_cases hp : progB fs = true
  · rw [if_pos hp, if_pos hp, if_neg (fun h2 => h ⟨hp, h2⟩)]
  · rw [if_neg hp, if_neg hp]
theorem plC_yes {fs : List Fn} {f : Int} {args : List Int} (h : FnAt fs f) : plC fs f args = if areB args (fs.getD f.toNat noFn).params = true then 0 else 2 := by
  unfold plC
  rw [if_pos h.1, if_pos h.2]
theorem plC_ne {fs : List Fn} {f : Int} {args : List Int} (h : ¬ FnAt fs f) : ¬ plC fs f args = 0 := by
  rw [plC_no h]; split <;> decide
/-- the answer for a place -/
def PlRes (fs : List Fn) (ap : Option Addr) (capp : Nat) (f : Int) (aa : Option Addr) (ca : Nat) (args : List Int) (w : World) (e : Ending) (w' : World) : Prop := Below w.heap.size w w' ∧
  ((¬ plC fs f args = 0 ∧ e = .returned (.tuple #[.agg #[.nilIface, .slice none 0 0, .string ⟨#[]⟩, .int .i64 0, .slice none 0 0, .slice none 0 0], .int .i64 (plC fs f args)])) ∨
   (plC fs f args = 0 ∧ FnAt fs f ∧ areB args (fs.getD f.toNat noFn).params = true ∧ ∃ af cf, e = .returned (.tuple #[.agg #[ofN, .slice ap fs.length capp, .string (fs.getD f.toNat noFn).name, .int .i64 (fs.getD f.toNat noFn).params, .slice af (fs.getD f.toNat noFn).outs.len cf, .slice aa args.length ca], .int .i64 0]) ∧ Fat w 0 w.heap.size (fs.getD f.toNat noFn).outs af))
set_option maxRecDepth 100000 in
set_option maxHeartbeats 3200000 in
theorem iPlaceOf (fs : List Fn) (ap : Option Addr) (capp : Nat) (f : Int) (aa : Option Addr) (ca : Nat) (args : List Int) (w : World) (hP : Pat w 0 w.heap.size fs ap) (hsz : pgSize fs ≤ 1048576) (hcap : fs.length ≤ capp) (hcm : capp ≤ 1048576) (hA : At w aa args) (hal : args.length ≤ 1048576) :
    Calls Tryz.prog 51 #[.agg #[.slice ap fs.length capp], .int .i64 f, .slice aa args.length ca] w (PlRes fs ap capp f aa ca args w) := by
  obtain ⟨w0, hw0⟩ : ∃ w0, w0 = (w.alloc (.cells #[.slice ap fs.length capp] 31)).alloc (.cells #[.nilIface, .slice none 0 0, .string ⟨#[]⟩, .int .i64 0, .slice none 0 0, .slice none 0 0] 90) := ⟨_, rfl⟩
  have hb0 : Below w.heap.size w w0 := by rw [hw0]; exact ((Below.refl _ _).alloc (Nat.le_refl _) _).alloc (by simp) _
  have z0 : w0.heap.size = w.heap.size + 2 := by rw [hw0]; simp
  have c0 : w0.cell? ⟨w.heap.size, 0, none⟩ = some (.slice ap fs.length capp) := by rw [hw0]; simp [go_sem]
  have r0 : w0.cell? ⟨w.heap.size + 1, 0, none⟩ = some (.nilIface) := by rw [hw0]; simp [go_sem]
  have r1 : w0.cell? ⟨w.heap.size + 1, 1, none⟩ = some (.slice none 0 0) := by rw [hw0]; simp [go_sem]
  have r2 : w0.cell? ⟨w.heap.size + 1, 2, none⟩ = some (.string ⟨#[]⟩) := by rw [hw0]; simp [go_sem]
  have r3 : w0.cell? ⟨w.heap.size + 1, 3, none⟩ = some (.int .i64 0) := by rw [hw0]; simp [go_sem]
  have r4 : w0.cell? ⟨w.heap.size + 1, 4, none⟩ = some (.slice none 0 0) := by rw [hw0]; simp [go_sem]
  have r5 : w0.cell? ⟨w.heap.size + 1, 5, none⟩ = some (.slice none 0 0) := by rw [hw0]; simp [go_sem]
  have rz : ∀ o, w0.frozen? ⟨w.heap.size + 1, o, none⟩ = false := fun o => by rw [hw0]; simp [go_sem]
  have HF := Lib.hid (iFunctionOfF fs ap capp f w0 w.heap.size hb0.size (hP.below hb0) hsz hcap hcm)
  have HA := Lib.hid hA
  have HP := Lib.hid hP
  clear hP hA
  go_enter Tryz.func51, Tryz.ntmps51
  go_wp2_with fail
  rw [← hw0]
  clear hw0
  refine HF.out.mono ?_; rintro e w1 ⟨hb1, ⟨hn, rfl⟩ | ⟨hy, af, cf, rfl, hFo⟩⟩
  · have hB1 := hb0.trans (hb1.mono (by omega))
    have k0 := (hb1.cell (p := ⟨w.heap.size + 1, 0, none⟩) (by show w.heap.size + 1 < _; omega)).trans r0
    have kz0 := (hb1.frozen (p := ⟨w.heap.size + 1, 0, none⟩) (by show w.heap.size + 1 < _; omega)).trans (rz 0)
    have k1 := (hb1.cell (p := ⟨w.heap.size + 1, 1, none⟩) (by show w.heap.size + 1 < _; omega)).trans r1
    have kz1 := (hb1.frozen (p := ⟨w.heap.size + 1, 1, none⟩) (by show w.heap.size + 1 < _; omega)).trans (rz 1)
    have k2 := (hb1.cell (p := ⟨w.heap.size + 1, 2, none⟩) (by show w.heap.size + 1 < _; omega)).trans r2
    have kz2 := (hb1.frozen (p := ⟨w.heap.size + 1, 2, none⟩) (by show w.heap.size + 1 < _; omega)).trans (rz 2)
    have k3 := (hb1.cell (p := ⟨w.heap.size + 1, 3, none⟩) (by show w.heap.size + 1 < _; omega)).trans r3
    have kz3 := (hb1.frozen (p := ⟨w.heap.size + 1, 3, none⟩) (by show w.heap.size + 1 < _; omega)).trans (rz 3)
    have k4 := (hb1.cell (p := ⟨w.heap.size + 1, 4, none⟩) (by show w.heap.size + 1 < _; omega)).trans r4
    have kz4 := (hb1.frozen (p := ⟨w.heap.size + 1, 4, none⟩) (by show w.heap.size + 1 < _; omega)).trans (rz 4)
    have k5 := (hb1.cell (p := ⟨w.heap.size + 1, 5, none⟩) (by show w.heap.size + 1 < _; omega)).trans r5
    have kz5 := (hb1.frozen (p := ⟨w.heap.size + 1, 5, none⟩) (by show w.heap.size + 1 < _; omega)).trans (rz 5)
    have z1 := hb1.size
    have lw : w.heap.size + 1 < w1.heap.size := by omega
    have hne1 : ¬ w.heap.size + 1 = w1.heap.size := by omega
    have hne2 : ¬ w1.heap.size = w.heap.size + 1 := by omega
    have HC : Hid (plC fs f args = if progB fs = true then 2 else 1) := plC_no hn
    have HN := Lib.hid (plC_ne (args := args) hn)
    rw [← HC.out]
    have HRA : Hid (∀ W, Below w.heap.size w W → PlRes fs ap capp f aa ca args w (.returned (.tuple #[.agg #[.nilIface, .slice none 0 0, .string ⟨#[]⟩, .int .i64 0, .slice none 0 0, .slice none 0 0], .int .i64 (plC fs f args)])) W) := fun W hW => ⟨hW, .inl ⟨HN.out, rfl⟩⟩
    have hbf : (plC fs f args != 0) = true := by simp [HN.out]
    generalize plC fs f args = pc at *
    obtain ⟨w2, hal⟩ : ∃ w2, w1.alloc (.cells #[.string ⟨#[]⟩, .int .i64 0, .slice none 0 0] 86) = w2 := ⟨_, rfl⟩
    have b2 : Below w1.heap.size w1 w2 := by rw [← hal]; exact (Below.refl _ _).alloc (Nat.le_refl _) _
    have hB2 := hB1.trans (b2.mono hB1.size)
    have q0 : w2.cell? ⟨w1.heap.size, 0, none⟩ = some (.string ⟨#[]⟩) := by rw [← hal]; simp [go_sem]
    have q1 : w2.cell? ⟨w1.heap.size, 1, none⟩ = some (.int .i64 0) := by rw [← hal]; simp [go_sem]
    have q2 : w2.cell? ⟨w1.heap.size, 2, none⟩ = some (.slice none 0 0) := by rw [← hal]; simp [go_sem]
    have qz0 : w2.frozen? ⟨w1.heap.size, 0, none⟩ = false := by rw [← hal]; simp [go_sem]
    have qz1 : w2.frozen? ⟨w1.heap.size, 1, none⟩ = false := by rw [← hal]; simp [go_sem]
    have qz2 : w2.frozen? ⟨w1.heap.size, 2, none⟩ = false := by rw [← hal]; simp [go_sem]
    have hs1 := hB1.size
    replace k0 := (b2.cell (p := ⟨w.heap.size + 1, 0, none⟩) lw).trans k0
    replace kz0 := (b2.frozen (p := ⟨w.heap.size + 1, 0, none⟩) lw).trans kz0
    replace k1 := (b2.cell (p := ⟨w.heap.size + 1, 1, none⟩) lw).trans k1
    replace kz1 := (b2.frozen (p := ⟨w.heap.size + 1, 1, none⟩) lw).trans kz1
    replace k2 := (b2.cell (p := ⟨w.heap.size + 1, 2, none⟩) lw).trans k2
    replace kz2 := (b2.frozen (p := ⟨w.heap.size + 1, 2, none⟩) lw).trans kz2
    replace k3 := (b2.cell (p := ⟨w.heap.size + 1, 3, none⟩) lw).trans k3
    replace kz3 := (b2.frozen (p := ⟨w.heap.size + 1, 3, none⟩) lw).trans kz3
    replace k4 := (b2.cell (p := ⟨w.heap.size + 1, 4, none⟩) lw).trans k4
    replace kz4 := (b2.frozen (p := ⟨w.heap.size + 1, 4, none⟩) lw).trans kz4
    replace k5 := (b2.cell (p := ⟨w.heap.size + 1, 5, none⟩) lw).trans k5
    replace kz5 := (b2.frozen (p := ⟨w.heap.size + 1, 5, none⟩) lw).trans kz5
    clear HF c0 r0 r1 r2 r3 r4 r5 rz hb1 hn HA HP hb0 z0 HC b2 hB1 z1 lw
    go_wp2_with fail
    refine bodyPost_ret (v := .tuple #[.agg #[.nilIface, .slice none 0 0, .string ⟨#[]⟩, .int .i64 0, .slice none 0 0, .slice none 0 0], .int .i64 pc]) (by simp [results, Tryz.results51, go_sem, k0, k1, k2, k3, k4, k5]) rfl (HRA.out _ (((((((((hB2.setCell (p := ⟨w1.heap.size, 0, none⟩) (by show w.heap.size ≤ w1.heap.size; omega) _).setCell (p := ⟨w1.heap.size, 1, none⟩) (by show w.heap.size ≤ w1.heap.size; omega) _).setCell (p := ⟨w1.heap.size, 2, none⟩) (by show w.heap.size ≤ w1.heap.size; omega) _).setCell (p := ⟨w.heap.size + 1, 0, none⟩) (by show w.heap.size ≤ w.heap.size + 1; omega) _).setCell (p := ⟨w.heap.size + 1, 1, none⟩) (by show w.heap.size ≤ w.heap.size + 1; omega) _).setCell (p := ⟨w.heap.size + 1, 2, none⟩) (by show w.heap.size ≤ w.heap.size + 1; omega) _).setCell (p := ⟨w.heap.size + 1, 3, none⟩) (by show w.heap.size ≤ w.heap.size + 1; omega) _).setCell (p := ⟨w.heap.size + 1, 4, none⟩) (by show w.heap.size ≤ w.heap.size + 1; omega) _).setCell (p := ⟨w.heap.size + 1, 5, none⟩) (by show w.heap.size ≤ w.heap.size + 1; omega) _))
  · have hB1 := hb0.trans (hb1.mono (by omega))
    have k0 := (hb1.cell (p := ⟨w.heap.size + 1, 0, none⟩) (by show w.heap.size + 1 < _; omega)).trans r0
    have kz0 := (hb1.frozen (p := ⟨w.heap.size + 1, 0, none⟩) (by show w.heap.size + 1 < _; omega)).trans (rz 0)
    have k1 := (hb1.cell (p := ⟨w.heap.size + 1, 1, none⟩) (by show w.heap.size + 1 < _; omega)).trans r1
    have kz1 := (hb1.frozen (p := ⟨w.heap.size + 1, 1, none⟩) (by show w.heap.size + 1 < _; omega)).trans (rz 1)
    have k2 := (hb1.cell (p := ⟨w.heap.size + 1, 2, none⟩) (by show w.heap.size + 1 < _; omega)).trans r2
    have kz2 := (hb1.frozen (p := ⟨w.heap.size + 1, 2, none⟩) (by show w.heap.size + 1 < _; omega)).trans (rz 2)
    have k3 := (hb1.cell (p := ⟨w.heap.size + 1, 3, none⟩) (by show w.heap.size + 1 < _; omega)).trans r3
    have kz3 := (hb1.frozen (p := ⟨w.heap.size + 1, 3, none⟩) (by show w.heap.size + 1 < _; omega)).trans (rz 3)
    have k4 := (hb1.cell (p := ⟨w.heap.size + 1, 4, none⟩) (by show w.heap.size + 1 < _; omega)).trans r4
    have kz4 := (hb1.frozen (p := ⟨w.heap.size + 1, 4, none⟩) (by show w.heap.size + 1 < _; omega)).trans (rz 4)
    have k5 := (hb1.cell (p := ⟨w.heap.size + 1, 5, none⟩) (by show w.heap.size + 1 < _; omega)).trans r5
    have kz5 := (hb1.frozen (p := ⟨w.heap.size + 1, 5, none⟩) (by show w.heap.size + 1 < _; omega)).trans (rz 5)
    have z1 := hb1.size
    have lw : w.heap.size + 1 < w1.heap.size := by omega
    have lw0 : w.heap.size < w1.heap.size := by omega
    have c1 := (hb1.cell (p := ⟨w.heap.size, 0, none⟩) (by show w.heap.size < _; omega)).trans c0
    have HC : Hid (plC fs f args = if areB args (fs.getD f.toNat noFn).params = true then 0 else 2) := plC_yes hy
    obtain ⟨w2, hw2⟩ : ∃ w2, w2 = w1.alloc (.cells #[.string (fs.getD f.toNat noFn).name, .int .i64 (fs.getD f.toNat noFn).params, .slice af (fs.getD f.toNat noFn).outs.len cf] 86) := ⟨_, rfl⟩
    have b2 : Below w1.heap.size w1 w2 := by rw [hw2]; exact (Below.refl _ _).alloc (Nat.le_refl _) _
    have f0 : w2.cell? ⟨w1.heap.size, 0, none⟩ = some (.string (fs.getD f.toNat noFn).name) := by rw [hw2]; simp [go_sem]
    have f1 : w2.cell? ⟨w1.heap.size, 1, none⟩ = some (.int .i64 (fs.getD f.toNat noFn).params) := by rw [hw2]; simp [go_sem]
    have f2 : w2.cell? ⟨w1.heap.size, 2, none⟩ = some (.slice af (fs.getD f.toNat noFn).outs.len cf) := by rw [hw2]; simp [go_sem]
    have hB2 := hB1.trans (b2.mono hB1.size)
    have HQ := Lib.hid (iAre aa ca args (fs.getD f.toNat noFn).params w2 (HA.out.below hB2 (Nat.le_refl _)) hal)
    have HFO : Hid (Fat w 0 w.heap.size (fs.getD f.toNat noFn).outs af) := hFo.agree (fun i _ h2 => (hb0.block i h2).symm)
    have HY := Lib.hid hy
    cases hq : areB args (fs.getD f.toNat noFn).params with
    | false =>
      rw [hq] at HQ HC
      have HPC : Hid (plC fs f args = 2) := HC.out
      clear HF c0 r0 r1 r2 r3 r4 r5 rz hy hFo HC hq f0 f1 f2
      generalize (fs.getD f.toNat noFn).name = nm at *
      generalize (fs.getD f.toNat noFn).params = pa at *
      generalize (fs.getD f.toNat noFn).outs.len = mo at *
      go_wp2_with fail
      rw [← hw2]
      clear hw2
      refine HQ.out.mono ?_; rintro e w3 ⟨rfl, rfl⟩
      replace k0 := (b2.cell (p := ⟨w.heap.size + 1, 0, none⟩) lw).trans k0
      replace kz0 := (b2.frozen (p := ⟨w.heap.size + 1, 0, none⟩) lw).trans kz0
      replace k1 := (b2.cell (p := ⟨w.heap.size + 1, 1, none⟩) lw).trans k1
      replace kz1 := (b2.frozen (p := ⟨w.heap.size + 1, 1, none⟩) lw).trans kz1
      replace k2 := (b2.cell (p := ⟨w.heap.size + 1, 2, none⟩) lw).trans k2
      replace kz2 := (b2.frozen (p := ⟨w.heap.size + 1, 2, none⟩) lw).trans kz2
      replace k3 := (b2.cell (p := ⟨w.heap.size + 1, 3, none⟩) lw).trans k3
      replace kz3 := (b2.frozen (p := ⟨w.heap.size + 1, 3, none⟩) lw).trans kz3
      replace k4 := (b2.cell (p := ⟨w.heap.size + 1, 4, none⟩) lw).trans k4
      replace kz4 := (b2.frozen (p := ⟨w.heap.size + 1, 4, none⟩) lw).trans kz4
      replace k5 := (b2.cell (p := ⟨w.heap.size + 1, 5, none⟩) lw).trans k5
      replace kz5 := (b2.frozen (p := ⟨w.heap.size + 1, 5, none⟩) lw).trans kz5
      go_wp2_with fail
      refine bodyPost_ret (v := .tuple #[.agg #[.nilIface, .slice none 0 0, .string ⟨#[]⟩, .int .i64 0, .slice none 0 0, .slice none 0 0], .int .i64 2]) (by simp [results, Tryz.results51, go_sem, k0, k1, k2, k3, k4, k5]) rfl ⟨((((((hB2.setCell (p := ⟨w.heap.size + 1, 0, none⟩) (by show w.heap.size ≤ w.heap.size + 1; omega) _).setCell (p := ⟨w.heap.size + 1, 1, none⟩) (by show w.heap.size ≤ w.heap.size + 1; omega) _).setCell (p := ⟨w.heap.size + 1, 2, none⟩) (by show w.heap.size ≤ w.heap.size + 1; omega) _).setCell (p := ⟨w.heap.size + 1, 3, none⟩) (by show w.heap.size ≤ w.heap.size + 1; omega) _).setCell (p := ⟨w.heap.size + 1, 4, none⟩) (by show w.heap.size ≤ w.heap.size + 1; omega) _).setCell (p := ⟨w.heap.size + 1, 5, none⟩) (by show w.heap.size ≤ w.heap.size + 1; omega) _), .inl ⟨by rw [HPC.out]; decide, by rw [HPC.out]⟩⟩
    | true =>
      have HAB := Lib.hid hq
      rw [hq] at HQ HC
      have HPC : Hid (plC fs f args = 0) := HC.out
      have HRS : Hid (∀ W, Below w.heap.size w W → PlRes fs ap capp f aa ca args w (.returned (.tuple #[.agg #[ofN, .slice ap fs.length capp, .string (fs.getD f.toNat noFn).name, .int .i64 (fs.getD f.toNat noFn).params, .slice af (fs.getD f.toNat noFn).outs.len cf, .slice aa args.length ca], .int .i64 0])) W) := fun W hW => ⟨hW, .inr ⟨HPC.out, HY.out, HAB.out, af, cf, rfl, HFO.out⟩⟩
      clear HF c0 r0 r1 r2 r3 r4 r5 rz hy hFo HC hq HFO HAB HPC HY
      generalize (fs.getD f.toNat noFn).name = nm at *
      generalize (fs.getD f.toNat noFn).params = pa at *
      generalize (fs.getD f.toNat noFn).outs.len = mo at *
      go_wp2_with fail
      rw [← hw2]
      clear hw2
      refine HQ.out.mono ?_; rintro e w3 ⟨rfl, rfl⟩
      replace k0 := (b2.cell (p := ⟨w.heap.size + 1, 0, none⟩) lw).trans k0
      replace kz0 := (b2.frozen (p := ⟨w.heap.size + 1, 0, none⟩) lw).trans kz0
      replace k1 := (b2.cell (p := ⟨w.heap.size + 1, 1, none⟩) lw).trans k1
      replace kz1 := (b2.frozen (p := ⟨w.heap.size + 1, 1, none⟩) lw).trans kz1
      replace k2 := (b2.cell (p := ⟨w.heap.size + 1, 2, none⟩) lw).trans k2
      replace kz2 := (b2.frozen (p := ⟨w.heap.size + 1, 2, none⟩) lw).trans kz2
      replace k3 := (b2.cell (p := ⟨w.heap.size + 1, 3, none⟩) lw).trans k3
      replace kz3 := (b2.frozen (p := ⟨w.heap.size + 1, 3, none⟩) lw).trans kz3
      replace k4 := (b2.cell (p := ⟨w.heap.size + 1, 4, none⟩) lw).trans k4
      replace kz4 := (b2.frozen (p := ⟨w.heap.size + 1, 4, none⟩) lw).trans kz4
      replace k5 := (b2.cell (p := ⟨w.heap.size + 1, 5, none⟩) lw).trans k5
      replace kz5 := (b2.frozen (p := ⟨w.heap.size + 1, 5, none⟩) lw).trans kz5
      have c2 := (b2.cell (p := ⟨w.heap.size, 0, none⟩) lw0).trans c1
      go_wp2_with fail
      refine bodyPost_ret (v := .tuple #[.agg #[ofN, .slice ap fs.length capp, .string nm, .int .i64 pa, .slice af mo cf, .slice aa args.length ca], .int .i64 0]) (by simp [results, Tryz.results51, go_sem, k0, k1, k2, k3, k4, k5]) rfl (HRS.out _ ((((((hB2.setCell (p := ⟨w.heap.size + 1, 0, none⟩) (by show w.heap.size ≤ w.heap.size + 1; omega) _).setCell (p := ⟨w.heap.size + 1, 1, none⟩) (by show w.heap.size ≤ w.heap.size + 1; omega) _).setCell (p := ⟨w.heap.size + 1, 2, none⟩) (by show w.heap.size ≤ w.heap.size + 1; omega) _).setCell (p := ⟨w.heap.size + 1, 3, none⟩) (by show w.heap.size ≤ w.heap.size + 1; omega) _).setCell (p := ⟨w.heap.size + 1, 4, none⟩) (by show w.heap.size ≤ w.heap.size + 1; omega) _).setCell (p := ⟨w.heap.size + 1, 5, none⟩) (by show w.heap.size ≤ w.heap.size + 1; omega) _))

/-- what Evaluate answers -/
def evL (fs : List Fn) (f : Int) (args : List Int) : Rl Int := if plC fs f args = 0 then lisE nA (evE nA fs 3001) (fs.getD f.toNat noFn).outs args 0 (fs.getD f.toNat noFn).outs.len else ⟨[], 0, plC fs f args⟩
theorem evL_no {fs : List Fn} {f : Int} {args : List Int} (h : ¬ plC fs f args = 0) : evL fs f args = ⟨[], 0, plC fs f args⟩ := if_neg h
theorem evL_yes {fs : List Fn} {f : Int} {args : List Int} (h : plC fs f args = 0) : evL fs f args = lisE nA (evE nA fs 3001) (fs.getD f.toNat noFn).outs args 0 (fs.getD f.toNat noFn).outs.len := if_pos h
set_option maxRecDepth 100000 in
set_option maxHeartbeats 3200000 in
theorem iEvaluate (fs : List Fn) (ap : Option Addr) (capp : Nat) (f : Int) (aa : Option Addr) (ca : Nat) (args : List Int) (w : World) (hP : Pat w 0 w.heap.size fs ap) (hsz : pgSize fs ≤ 1048576) (hcap : fs.length ≤ capp) (hcm : capp ≤ 1048576) (hA : At w aa args) (hal : args.length ≤ 1048576) (hca : args.length ≤ ca) (hca2 : ca ≤ 9223372036854775807) :
    Calls Tryz.prog 16 #[.agg #[.slice ap fs.length capp], .int .i64 f, .slice aa args.length ca] w (EvRes w (evL fs f args)) := by
  have hfl : fs.length ≤ 1048576 := by unfold pgSize at hsz; omega
  obtain ⟨w0, hw0⟩ : ∃ w0, w0 = w.alloc (.cells #[.slice ap fs.length capp] 31) := ⟨_, rfl⟩
  have hb0 : Below w.heap.size w w0 := by rw [hw0]; exact (Below.refl _ _).alloc (Nat.le_refl _) _
  have P0 := (hP.below hb0).mono (Nat.le_refl _) hb0.size
  have A0 := hA.below hb0 (Nat.le_refl _)
  have HF := Lib.hid (iPlaceOf fs ap capp f aa ca args w0 P0 hsz hcap hcm A0 hal)
  have HP := Lib.hid P0
  have HA := Lib.hid A0
  clear hP hA P0 A0
  go_enter Tryz.func16, Tryz.ntmps16
  go_wp2_with fail
  rw [← hw0]
  clear hw0
  refine HF.out.mono ?_; rintro e w1 ⟨hb1, ⟨hn, rfl⟩ | ⟨hy, hfa, hab, af, cf, rfl, hFo⟩⟩
  · have hB1 := hb0.trans (hb1.mono hb0.size)
    have hbf : (plC fs f args != 0) = true := by simp [hn]
    have HR := Lib.hid (evL_no hn)
    have HX : Hid (∀ W, Below w.heap.size w W → EvRes w (evL fs f args) (.returned (.tuple #[.slice none 0 0, .int .i64 0, .int .i64 (plC fs f args)])) W) := fun W hW => ⟨hW, .inr (by rw [HR.out]; exact ⟨hn, rfl⟩)⟩
    have hs1 := hB1.size
    clear HF HP HA hn HR
    generalize plC fs f args = pc at *
    go_wp2_with fail
    go_ret3
    exact HX.out _ (hB1.alloc hs1 _)
  · have hB1 := hb0.trans (hb1.mono hb0.size)
    have HR := Lib.hid (evL_yes hy)
    obtain ⟨hp1, hf1, hf2⟩ := hfa
    obtain ⟨j, rfl⟩ := Int.eq_ofNat_of_zero_le hf1
    have ej : (j : Int).toNat = j := rfl
    rw [ej] at hab hFo ⊢
    have HR2 : Hid (evL fs (j : Int) args = lisE nA (evE nA fs 3001) (fs.getD j noFn).outs args 0 (fs.getD j noFn).outs.len) := HR.out
    have hj : j < fs.length := by omega
    have hln : (args.length : Int) = (fs.getD j noFn).params := by unfold areB at hab; rw [Bool.and_eq_true] at hab; exact of_decide_eq_true hab.1
    have hnm : Nums args := by unfold areB at hab; rw [Bool.and_eq_true] at hab; exact okNums_nums hab.2
    have hs1 := hb1.size
    obtain ⟨w2, hw2⟩ : ∃ w2, w2 = w1.alloc (.cells #[ofN, .slice ap fs.length capp, .string (fs.getD j noFn).name, .int .i64 (fs.getD j noFn).params, .slice af (fs.getD j noFn).outs.len cf, .slice aa args.length ca] 90) := ⟨_, rfl⟩
    have b2 : Below w1.heap.size w1 w2 := by rw [hw2]; exact (Below.refl _ _).alloc (Nat.le_refl _) _
    have hs2 := b2.size
    have hb12 := hb1.trans (b2.mono hs1)
    have p1 : w2.cell? ⟨w1.heap.size, 1, none⟩ = some (.slice ap fs.length capp) := by rw [hw2]; simp [go_sem]
    have p2 : w2.cell? ⟨w1.heap.size, 2, none⟩ = some (.string (fs.getD j noFn).name) := by rw [hw2]; simp [go_sem]
    have p3 : w2.cell? ⟨w1.heap.size, 3, none⟩ = some (.int .i64 (fs.getD j noFn).params) := by rw [hw2]; simp [go_sem]
    have p4 : w2.cell? ⟨w1.heap.size, 4, none⟩ = some (.slice af (fs.getD j noFn).outs.len cf) := by rw [hw2]; simp [go_sem]
    have p5 : w2.cell? ⟨w1.heap.size, 5, none⟩ = some (.slice aa args.length ca) := by rw [hw2]; simp [go_sem]
    have HV := Lib.hid (iEvaluateN fs ap capp j af cf aa ca args w2 hp1 hj hfl ((HP.out.below hb12).mono (Nat.le_refl _) hb12.size) ((hFo.agree (fun i _ h2 => hb12.block i h2)).mono (Nat.le_refl _) hb12.size) (HA.out.below hb12 (Nat.le_refl _)) hnm hln hca hca2)
    have hB2 := hB1.trans (b2.mono hB1.size)
    generalize lisE nA (evE nA fs 3001) (fs.getD j noFn).outs args 0 (fs.getD j noFn).outs.len = r at HV HR2
    have HX : Hid (∀ e W, EvRes w2 r e W → EvRes w r e W) := fun e W h => ⟨hB2.trans (h.1.mono hB2.size), h.2.imp (fun ⟨h1, g, h2, h3, h4⟩ => ⟨h1, g, h2, h3.mono hB2.size, h4⟩) id⟩
    clear HF HP HA hp1 hf1 hf2 hab hFo hln hnm hy HR b2 hb12
    generalize (fs.getD j noFn).name = nm at *
    generalize (fs.getD j noFn).params = pa at *
    generalize (fs.getD j noFn).outs.len = mo at *
    go_wp2_with fail
    rw [← hw2]
    clear hw2
    refine HV.out.mono ?_; intro e w3 hres
    have HRR := Lib.hid (HX.out _ _ hres)
    rcases hres with ⟨_, ⟨_, g, rfl, _⟩ | ⟨_, rfl⟩⟩
    · go_wp2_with fail
      go_ret3
      rw [HR2.out]
      exact HRR.out
    · go_wp2_with fail
      go_ret3
      rw [HR2.out]
      exact HRR.out

end Go.Proofs.YtemmbacdilepgaaGreat
