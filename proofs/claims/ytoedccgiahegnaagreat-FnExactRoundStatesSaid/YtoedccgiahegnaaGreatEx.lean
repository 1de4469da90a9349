/- The program's evaluation with numbers: operations, negations, choices. -/
import Derived.Test.YtoedccgiahegnaaGreatDw
namespace Go.Proofs.YtoedccgiahegnaaGreat
open Go.RowKit
set_option linter.unusedVariables false

set_option maxRecDepth 100000 in
theorem nDecides (a : Int) (w : World) :
    Calls Tryz.prog 171 #[.agg #[], .int .i64 a] w fun e w' => e = .returned (.bool (a == 0)) ∧ Below w.heap.size w w' := by
  have hb := below_box w 72
  go_enter Tryz.func171, Tryz.ntmps171
  go_wp2_with fail
  refine (nZero a _).mono ?_; rintro e w' ⟨rfl, hb2⟩
  go_wp2_with fail
  go_ret
  exact ⟨rfl, hb.trans (hb2.mono hb.size)⟩
set_option maxRecDepth 100000 in
theorem decAhead (W : World) : (nilAhead 339 72 (.agg #[]) "loop.example/g01091/impl.decides").run Tryz.prog W = .ok (some false) W := by kernel_rfl
set_option maxRecDepth 100000 in
theorem decMeth (W : World) : (method 339 72 (.agg #[]) "loop.example/g01091/impl.decides").run Tryz.prog W = .ok (171, .agg #[]) W := by kernel_rfl

theorem VRes.mk {bv : Nat} {ap : Option Addr} {fl capp : Nat} {w : World} {r : Rv Int} {e : Ending} {w' : World} {v : Int} (k : Kp (fun b => b = bv) w w') (h : EvAt w' bv ap fl capp r.s) (he : e = .returned (.tuple #[.int .i64 v, .int .i64 r.c])) (hv : r.c = 0 → v = r.v ∧ 0 ≤ v ∧ v < 1000003) : VRes bv ap fl capp w r e w' := ⟨k, h, v, he, hv⟩
theorem keepKid {w w' : World} {bv : Nat} (k : Kp (fun b => b = bv) w w') {b : Nat} (hb : b ≠ bv) {o : Nat} {v : Value} (h : w.cell? ⟨b, o, none⟩ = some v) : w'.cell? ⟨b, o, none⟩ = some v := k.cell h hb
set_option maxRecDepth 100000 in
set_option maxHeartbeats 6400000 in
theorem iNegation {fs : List Fn} {ap : Option Addr} {capp bv B f : Nat} (hBv : B ≤ bv) (hV : PV fs ap capp bv B f) (fi : Nat) (k0 n0 p0 c0 : Int) (kk0 : Fo) (a0 : Option Addr) (cap0 : Nat) (av : Option Addr) (cav : Nat) (vars : List Int) (s : Nat) (w : World)
    (hf : 3000 < f + s) (hs : s ≤ 3000) (hfi : fi ≤ fs.length) (hE : EvAt w bv ap fs.length capp s) (hP : Pat w 0 B fs ap) (hL : Ls w bv av vars) (hN : Nums vars) (hvl : vars.length ≤ 412 + s) (hcv : vars.length ≤ cav) (hcv2 : cav ≤ 9223372036854775807)
    (kn0 : nodeB fs (vars.length : Int) (fi : Int) k0 n0 p0 c0 kk0.len = true) (kt0 : treeB fs (fi : Int) kk0 (vars.length : Int) k0 0 = true) (kf0 : Fat w 0 B kk0 a0) (kl0 : kk0.len ≤ maxLen) :
    Calls Tryz.prog 116 #[.pointer (some ⟨bv, 0, none⟩), .agg #[.int .i64 k0, .int .i64 n0, .int .i64 p0, .int .i64 c0, .slice a0 kk0.len cap0], .slice av vars.length cav] w (VRes bv ap fs.length capp w (oneE (evE nA fs f k0 n0 p0 c0 kk0 vars s) nA.neg)) := by
  obtain ⟨w1, hw1⟩ : ∃ w1, w1 = w.alloc (.cells #[.int .i64 k0, .int .i64 n0, .int .i64 p0, .int .i64 c0, .slice a0 kk0.len cap0] 175) := ⟨_, rfl⟩
  have b1 : Below w.heap.size w w1 := by rw [hw1]; exact (Below.refl _ _).alloc (Nat.le_refl _) _
  have k1 : Kp (fun b => b = bv) w w1 := Kp.of_below b1
  have hbw := cell_lt hE.c0
  have HC := Lib.hid (hV fi k0 n0 p0 c0 kk0 a0 cap0 av cav vars s w1 hf hs hfi kn0 kt0 (hE.next b1) (hP.keepE k1 hBv hbw) (kf0.keepE k1 hBv hbw) kl0 (hL.keep k1) hN hvl hcv hcv2)
  generalize (evE nA fs f k0 n0 p0 c0 kk0 vars s) = r at HC
  clear hE hP hL kn0 kt0 kf0 kl0
  go_enter Tryz.func116, Tryz.ntmps116
  go_wp2_with fail
  rw [← hw1]
  clear hw1
  refine HC.out.mono ?_; rintro e w2 ⟨k2, e2, v, rfl, hv⟩
  have kk := k1.trans k2
  by_cases hc : r.c = 0
  · obtain ⟨rfl, hv0, hv1⟩ := hv hc
    have hbf : (r.c != 0) = false := by rw [hc]; rfl
    have HR : Hid (oneE r nA.neg = ⟨mns 0 r.v, r.s, 0⟩) := by show _ = _; unfold oneE; rw [if_pos hc]; rfl
    have x0 := e2.c0
    have nA1 := negAhead
    have nA2 := negMeth
    have HNG := fun W => Lib.hid (nNeg r.v ⟨hv0, hv1⟩ W)
    clear HC
    go_wp2_with fail
    refine (HNG _).out.mono ?_; rintro e w3 ⟨rfl, b3⟩
    go_wp2_with fail
    go_ret2
    rw [HR.out]
    exact .mk (kk.more b3) (e2.next b3) rfl (fun _ => ⟨rfl, mns_bd _ _⟩)
  · have hbf : (r.c != 0) = true := by simp [hc]
    have HR : Hid (oneE r nA.neg = r) := by show _ = _; unfold oneE; rw [if_neg hc]
    clear HC hv
    go_wp2_with fail
    go_ret2
    rw [HR.out]
    exact .mk kk e2 rfl (fun h => absurd h hc)
set_option maxRecDepth 100000 in
set_option maxHeartbeats 6400000 in
theorem iChoice {fs : List Fn} {ap : Option Addr} {capp bv B f : Nat} (hBv : B ≤ bv) (hV : PV fs ap capp bv B f) (fi : Nat) (k0 n0 p0 c0 : Int) (kk0 : Fo) (a0 : Option Addr) (cap0 : Nat) (k1 n1 p1 c1 : Int) (kk1 : Fo) (a1 : Option Addr) (cap1 : Nat) (k2 n2 p2 c2 : Int) (kk2 : Fo) (a2 : Option Addr) (cap2 : Nat) (av : Option Addr) (cav : Nat) (vars : List Int) (s : Nat) (w : World)
    (hf : 3000 < f + s) (hs : s ≤ 3000) (hfi : fi ≤ fs.length) (hE : EvAt w bv ap fs.length capp s) (hP : Pat w 0 B fs ap) (hL : Ls w bv av vars) (hN : Nums vars) (hvl : vars.length ≤ 412 + s) (hcv : vars.length ≤ cav) (hcv2 : cav ≤ 9223372036854775807)
    (kn0 : nodeB fs (vars.length : Int) (fi : Int) k0 n0 p0 c0 kk0.len = true) (kt0 : treeB fs (fi : Int) kk0 (vars.length : Int) k0 0 = true) (kf0 : Fat w 0 B kk0 a0) (kl0 : kk0.len ≤ maxLen)
    (kn1 : nodeB fs (vars.length : Int) (fi : Int) k1 n1 p1 c1 kk1.len = true) (kt1 : treeB fs (fi : Int) kk1 (vars.length : Int) k1 0 = true) (kf1 : Fat w 0 B kk1 a1) (kl1 : kk1.len ≤ maxLen)
    (kn2 : nodeB fs (vars.length : Int) (fi : Int) k2 n2 p2 c2 kk2.len = true) (kt2 : treeB fs (fi : Int) kk2 (vars.length : Int) k2 0 = true) (kf2 : Fat w 0 B kk2 a2) (kl2 : kk2.len ≤ maxLen) :
    Calls Tryz.prog 117 #[.pointer (some ⟨bv, 0, none⟩), .agg #[.int .i64 k0, .int .i64 n0, .int .i64 p0, .int .i64 c0, .slice a0 kk0.len cap0, .int .i64 k1, .int .i64 n1, .int .i64 p1, .int .i64 c1, .slice a1 kk1.len cap1, .int .i64 k2, .int .i64 n2, .int .i64 p2, .int .i64 c2, .slice a2 kk2.len cap2], .slice av vars.length cav] w (VRes bv ap fs.length capp w (bindE (evE nA fs f k0 n0 p0 c0 kk0 vars s) fun v s => if nA.zer v = true then (evE nA fs f k1 n1 p1 c1 kk1 vars s) else (evE nA fs f k2 n2 p2 c2 kk2 vars s))) := by
  obtain ⟨w1, hw1⟩ : ∃ w1, w1 = w.alloc (.cells #[.int .i64 k0, .int .i64 n0, .int .i64 p0, .int .i64 c0, .slice a0 kk0.len cap0, .int .i64 k1, .int .i64 n1, .int .i64 p1, .int .i64 c1, .slice a1 kk1.len cap1, .int .i64 k2, .int .i64 n2, .int .i64 p2, .int .i64 c2, .slice a2 kk2.len cap2] 178) := ⟨_, rfl⟩
  have b1 : Below w.heap.size w w1 := by rw [hw1]; exact (Below.refl _ _).alloc (Nat.le_refl _) _
  have q1 : Kp (fun b => b = bv) w w1 := Kp.of_below b1
  have hbw := cell_lt hE.c0
  have hne : w.heap.size ≠ bv := by omega
  have y0 : w1.cell? ⟨w.heap.size, 5, none⟩ = some (.int .i64 k1) := by rw [hw1]; simp [go_sem]
  have y1 : w1.cell? ⟨w.heap.size, 6, none⟩ = some (.int .i64 n1) := by rw [hw1]; simp [go_sem]
  have y2 : w1.cell? ⟨w.heap.size, 7, none⟩ = some (.int .i64 p1) := by rw [hw1]; simp [go_sem]
  have y3 : w1.cell? ⟨w.heap.size, 8, none⟩ = some (.int .i64 c1) := by rw [hw1]; simp [go_sem]
  have y4 : w1.cell? ⟨w.heap.size, 9, none⟩ = some (.slice a1 kk1.len cap1) := by rw [hw1]; simp [go_sem]
  have z0 : w1.cell? ⟨w.heap.size, 10, none⟩ = some (.int .i64 k2) := by rw [hw1]; simp [go_sem]
  have z1 : w1.cell? ⟨w.heap.size, 11, none⟩ = some (.int .i64 n2) := by rw [hw1]; simp [go_sem]
  have z2 : w1.cell? ⟨w.heap.size, 12, none⟩ = some (.int .i64 p2) := by rw [hw1]; simp [go_sem]
  have z3 : w1.cell? ⟨w.heap.size, 13, none⟩ = some (.int .i64 c2) := by rw [hw1]; simp [go_sem]
  have z4 : w1.cell? ⟨w.heap.size, 14, none⟩ = some (.slice a2 kk2.len cap2) := by rw [hw1]; simp [go_sem]
  have hst := evE_stp (A := nA) fs f s hf k0 n0 p0 c0 kk0 vars s (Nat.le_refl _) hs
  have HC := Lib.hid (hV fi k0 n0 p0 c0 kk0 a0 cap0 av cav vars s w1 hf hs hfi kn0 kt0 (hE.next b1) (hP.keepE q1 hBv hbw) (kf0.keepE q1 hBv hbw) kl0 (hL.keep q1) hN hvl hcv hcv2)
  have HK1 := fun (W : World) (s : Nat) (hss : 3000 < f + s ∧ s ≤ 3000 ∧ vars.length ≤ 412 + s) (hk : Kp (fun b => b = bv) w W) (he : EvAt W bv ap fs.length capp s) => Lib.hid (hV fi k1 n1 p1 c1 kk1 a1 cap1 av cav vars s W hss.1 hss.2.1 hfi kn1 kt1 he (hP.keepE hk hBv hbw) (kf1.keepE hk hBv hbw) kl1 (hL.keep hk) hN hss.2.2 hcv hcv2)
  have HK2 := fun (W : World) (s : Nat) (hss : 3000 < f + s ∧ s ≤ 3000 ∧ vars.length ≤ 412 + s) (hk : Kp (fun b => b = bv) w W) (he : EvAt W bv ap fs.length capp s) => Lib.hid (hV fi k2 n2 p2 c2 kk2 a2 cap2 av cav vars s W hss.1 hss.2.1 hfi kn2 kt2 he (hP.keepE hk hBv hbw) (kf2.keepE hk hBv hbw) kl2 (hL.keep hk) hN hss.2.2 hcv hcv2)
  generalize (evE nA fs f k0 n0 p0 c0 kk0 vars s) = r at HC hst
  clear hE hP hL kn0 kt0 kf0 kl0 kn1 kt1 kf1 kl1 kn2 kt2 kf2 kl2
  go_enter Tryz.func117, Tryz.ntmps117
  go_wp2_with fail
  rw [← hw1]
  clear hw1
  refine HC.out.mono ?_; rintro e w2 ⟨q2, e2, v, rfl, hv⟩
  have qq := q1.trans q2
  replace y0 := q2.cell y0 hne
  replace y1 := q2.cell y1 hne
  replace y2 := q2.cell y2 hne
  replace y3 := q2.cell y3 hne
  replace y4 := q2.cell y4 hne
  replace z0 := q2.cell z0 hne
  replace z1 := q2.cell z1 hne
  replace z2 := q2.cell z2 hne
  replace z3 := q2.cell z3 hne
  replace z4 := q2.cell z4 hne
  by_cases hc : r.c = 0
  rotate_left
  · have hbf : (r.c != 0) = true := by simp [hc]
    have HR : Hid ((bindE r fun v s => if nA.zer v = true then (evE nA fs f k1 n1 p1 c1 kk1 vars s) else (evE nA fs f k2 n2 p2 c2 kk2 vars s)) = r) := by show _ = _; unfold bindE; rw [if_neg hc]
    clear HC hv HK1 HK2 y0 y1 y2 y3 y4 z0 z1 z2 z3 z4
    go_wp2_with fail
    go_ret2
    rw [HR.out]
    exact .mk qq e2 rfl (fun h => absurd h hc)
  obtain ⟨rfl, hv0, hv1⟩ := hv hc
  have hbf : (r.c != 0) = false := by rw [hc]; rfl
  have x0 := e2.c0
  have nA1 := decAhead
  have nA2 := decMeth
  have HNG := fun W => Lib.hid (nDecides r.v W)
  clear HC
  by_cases hz : r.v = 0
  · have hzb : (r.v == 0) = true := by simp [hz]
    have HR : Hid ((bindE r fun v s => if nA.zer v = true then (evE nA fs f k1 n1 p1 c1 kk1 vars s) else (evE nA fs f k2 n2 p2 c2 kk2 vars s)) = (evE nA fs f k1 n1 p1 c1 kk1 vars r.s)) := by show _ = _; unfold bindE; rw [if_pos hc]; exact if_pos hzb
    rw [hzb] at HNG
    clear HK2 hz
    go_wp2_with fail
    refine (HNG _).out.mono ?_; rintro e w3 ⟨rfl, b3⟩
    have q3 := qq.more b3
    have e3 := e2.next b3
    replace y0 := (b3.cell (p := ⟨w.heap.size, 5, none⟩) (cell_lt y0)).trans y0
    replace y1 := (b3.cell (p := ⟨w.heap.size, 6, none⟩) (cell_lt y1)).trans y1
    replace y2 := (b3.cell (p := ⟨w.heap.size, 7, none⟩) (cell_lt y2)).trans y2
    replace y3 := (b3.cell (p := ⟨w.heap.size, 8, none⟩) (cell_lt y3)).trans y3
    replace y4 := (b3.cell (p := ⟨w.heap.size, 9, none⟩) (cell_lt y4)).trans y4
    have HV := HK1 w3 r.s ⟨by omega, hst.2, by omega⟩ q3 e3
    rw [← HR.out] at HV
    go_wp2_with fail
    refine HV.out.mono ?_; rintro e w4 ⟨q4, e4, v4, rfl, hv4⟩
    go_wp2_with fail
    go_ret2
    exact .mk (q3.trans q4) e4 rfl hv4
  · have hzb : (r.v == 0) = false := by simp [hz]
    have HR : Hid ((bindE r fun v s => if nA.zer v = true then (evE nA fs f k1 n1 p1 c1 kk1 vars s) else (evE nA fs f k2 n2 p2 c2 kk2 vars s)) = (evE nA fs f k2 n2 p2 c2 kk2 vars r.s)) := by show _ = _; unfold bindE; rw [if_pos hc]; exact if_neg (by show ¬ (r.v == 0) = true; rw [hzb]; simp)
    rw [hzb] at HNG
    clear HK1 hz
    go_wp2_with fail
    refine (HNG _).out.mono ?_; rintro e w3 ⟨rfl, b3⟩
    have q3 := qq.more b3
    have e3 := e2.next b3
    replace z0 := (b3.cell (p := ⟨w.heap.size, 10, none⟩) (cell_lt z0)).trans z0
    replace z1 := (b3.cell (p := ⟨w.heap.size, 11, none⟩) (cell_lt z1)).trans z1
    replace z2 := (b3.cell (p := ⟨w.heap.size, 12, none⟩) (cell_lt z2)).trans z2
    replace z3 := (b3.cell (p := ⟨w.heap.size, 13, none⟩) (cell_lt z3)).trans z3
    replace z4 := (b3.cell (p := ⟨w.heap.size, 14, none⟩) (cell_lt z4)).trans z4
    have HV := HK2 w3 r.s ⟨by omega, hst.2, by omega⟩ q3 e3
    rw [← HR.out] at HV
    go_wp2_with fail
    refine HV.out.mono ?_; rintro e w4 ⟨q4, e4, v4, rfl, hv4⟩
    go_wp2_with fail
    go_ret2
    exact .mk (q3.trans q4) e4 rfl hv4
set_option maxRecDepth 100000 in
set_option maxHeartbeats 6400000 in
theorem iOperation {fs : List Fn} {ap : Option Addr} {capp bv B f : Nat} (hBv : B ≤ bv) (hV : PL fs ap capp bv B f) (fi : Nat) (k : Int) (ks : Fo) (a : Option Addr) (cap : Nat) (av : Option Addr) (cav : Nat) (vars : List Int) (s : Nat) (w : World)
    (hf : 3000 < f + s) (hs : s ≤ 3000) (hfi : fi ≤ fs.length) (hE : EvAt w bv ap fs.length capp s) (hP : Pat w 0 B fs ap) (hL : Ls w bv av vars) (hN : Nums vars) (hvl : vars.length ≤ 412 + s) (hcv : vars.length ≤ cav) (hcv2 : cav ≤ 9223372036854775807)
    (hk9 : k ≠ 9) (kt : treeB fs (fi : Int) ks (vars.length : Int) k 0 = true) (kf : Fat w 0 B ks a) (kl : ks.len = 2) :
    Calls Tryz.prog 115 #[.pointer (some ⟨bv, 0, none⟩), .agg #[.int .i64 k, .slice a ks.len cap], .slice av vars.length cav] w (VRes bv ap fs.length capp w (bindL nA (lisE nA (evE nA fs f) ks vars s ks.len) fun l s => opE nA k l s)) := by
  obtain ⟨w1, hw1⟩ : ∃ w1, w1 = w.alloc (.cells #[.int .i64 k, .slice a ks.len cap] 172) := ⟨_, rfl⟩
  have b1 : Below w.heap.size w w1 := by rw [hw1]; exact (Below.refl _ _).alloc (Nat.le_refl _) _
  have q1 : Kp (fun b => b = bv) w w1 := Kp.of_below b1
  have hbw := cell_lt hE.c0
  have hne : w.heap.size ≠ bv := by omega
  have y0 : w1.cell? ⟨w.heap.size, 0, none⟩ = some (.int .i64 k) := by rw [hw1]; simp [go_sem]
  have z1 : w1.heap.size = w.heap.size + 1 := by rw [hw1]; simp
  have HC := Lib.hid (hV fi k ks a cap av cav vars s w1 hf hs hfi hk9 kt (hE.next b1) (hP.keepE q1 hBv hbw) (kf.keepE q1 hBv hbw) (by omega) (hL.keep q1) hN hvl hcv hcv2)
  have HL := Lib.hid (lisE_len (A := nA) (E := evE nA fs f) (f := ks) (vars := vars) (s := s) ks.len)
  generalize lisE nA (evE nA fs f) ks vars s ks.len = r at HC HL
  have KL := Lib.hid kl
  clear hE hP hL kt kf kl
  go_enter Tryz.func115, Tryz.ntmps115
  go_wp2_with fail
  rw [← hw1]
  clear hw1
  refine HC.out.mono ?_; rintro e w2 ⟨q2, e2, ⟨hc, g, rfl, ho, hnm⟩ | ⟨hc, rfl⟩⟩
  rotate_left
  · have hbf : (r.c != 0) = true := by simp [hc]
    have HR : Hid ((bindL nA r fun l s => opE nA k l s) = ⟨0, r.s, r.c⟩) := by show _ = _; unfold bindL; rw [if_neg hc]; rfl
    clear HC HL
    go_wp2_with fail
    go_ret2
    rw [HR.out]
    exact .mk (q1.trans q2) e2 rfl (fun h => absurd h hc)
  have hln := (HL.out hc).trans KL.out
  have HR : Hid ((bindL nA r fun l s => opE nA k l s) = opE nA k r.l r.s) := by show _ = _; unfold bindL; rw [if_pos hc]
  have qq := q1.trans q2
  replace y0 := q2.cell y0 hne
  have x0 := e2.c0
  have g0 := ho.cellAt 0 (by omega)
  have g1 := ho.cellAt 1 (by omega)
  have r0 := hnm.at 0
  have r1 := hnm.at 1
  have hgb := ho.base
  have HO : Hid (opE nA k r.l r.s = if k = 3 then ⟨pls (r.l.getD 0 0) (r.l.getD 1 0), r.s, 0⟩ else if k = 4 then ⟨mns (r.l.getD 0 0) (r.l.getD 1 0), r.s, 0⟩ else if k = 5 then ⟨tms (r.l.getD 0 0) (r.l.getD 1 0), r.s, 0⟩ else if (r.l.getD 1 0 == 0) = true then ⟨0, r.s, 6⟩ else ⟨tms (r.l.getD 0 0) (inv (r.l.getD 1 0)), r.s, 0⟩) := rfl
  have h1l : (0 : Int) < (r.l.length : Int) := by omega
  have h2l : (1 : Int) < (r.l.length : Int) := by omega
  clear HC HL ho hnm q1 q2 b1 hln
  generalize r.l.getD 0 0 = x at *
  generalize r.l.getD 1 0 = y at *
  generalize opE nA k r.l r.s = R at HO HR
  generalize r.l.length = m at *
  by_cases h3 : k = 3
  · subst h3
    have HR2 : Hid (R = ⟨pls x y, r.s, 0⟩) := by show _ = _; rw [HO.out]; rfl
    have nA1 := plsAhead
    have nA2 := plsMeth
    have HNG := fun W => Lib.hid (nPlus x y r0 r1 W)
    clear HO
    go_wp2_with fail
    go_quiet (fail)
    have x0q : (w2.drewN nq).cell? ⟨bv, 0, none⟩ = some ofN := x0
    go_wp2_with fail
    refine (HNG _).out.mono ?_; rintro e w3 ⟨rfl, b3⟩
    go_wp2_with fail
    go_ret2
    rw [HR.out, HR2.out]
    have bq := below_drewN (Below.refl w2.heap.size w2) nq
    exact .mk ((qq.more bq).more b3) ((e2.next bq).next b3) rfl (fun _ => ⟨rfl, pls_bd _ _⟩)
  have d3 : (k == 3) = false := ne_beq h3
  by_cases h4 : k = 4
  · subst h4
    have HR2 : Hid (R = ⟨mns x y, r.s, 0⟩) := by show _ = _; rw [HO.out]; rfl
    have nA1 := minAhead
    have nA2 := minMeth
    have HNG := fun W => Lib.hid (nMinus x y r0 r1 W)
    clear HO
    go_wp2_with fail
    go_quiet (fail)
    have x0q : (w2.drewN nq).cell? ⟨bv, 0, none⟩ = some ofN := x0
    go_wp2_with fail
    refine (HNG _).out.mono ?_; rintro e w3 ⟨rfl, b3⟩
    go_wp2_with fail
    go_ret2
    rw [HR.out, HR2.out]
    have bq := below_drewN (Below.refl w2.heap.size w2) nq
    exact .mk ((qq.more bq).more b3) ((e2.next bq).next b3) rfl (fun _ => ⟨rfl, mns_bd _ _⟩)
  have d4 : (k == 4) = false := ne_beq h4
  by_cases h5 : k = 5
  · subst h5
    have HR2 : Hid (R = ⟨tms x y, r.s, 0⟩) := by show _ = _; rw [HO.out]; rfl
    have nA1 := timAhead
    have nA2 := timMeth
    have HNG := fun W => Lib.hid (nTimes x y r0 r1 W)
    clear HO
    go_wp2_with fail
    go_quiet (fail)
    have x0q : (w2.drewN nq).cell? ⟨bv, 0, none⟩ = some ofN := x0
    go_wp2_with fail
    refine (HNG _).out.mono ?_; rintro e w3 ⟨rfl, b3⟩
    go_wp2_with fail
    go_ret2
    rw [HR.out, HR2.out]
    have bq := below_drewN (Below.refl w2.heap.size w2) nq
    exact .mk ((qq.more bq).more b3) ((e2.next bq).next b3) rfl (fun _ => ⟨rfl, tms_bd _ _⟩)
  have d5 : (k == 5) = false := ne_beq h5
  have HO2 : Hid (R = if (y == 0) = true then ⟨0, r.s, 6⟩ else ⟨tms x (inv y), r.s, 0⟩) := by show _ = _; rw [HO.out, if_neg h3, if_neg h4, if_neg h5]
  have nA1 := zerAhead
  have nA2 := zerMeth
  have nA3 := ovrAhead
  have nA4 := ovrMeth
  have HNG := fun W => Lib.hid (nZero y W)
  clear HO
  by_cases hz : y = 0
  · have hzb : (y == 0) = true := by simp [hz]
    have HR2 : Hid (R = ⟨0, r.s, 6⟩) := by show _ = _; rw [HO2.out, if_pos hzb]
    rw [hzb] at HNG
    clear HO2 hz
    go_wp2_with fail
    go_quiet (fail)
    have x0q : (w2.drewN nq).cell? ⟨bv, 0, none⟩ = some ofN := x0
    go_wp2_with fail
    refine (HNG _).out.mono ?_; rintro e w3 ⟨rfl, b3⟩
    go_wp2_with fail
    go_ret2
    rw [HR.out, HR2.out]
    have bq := below_drewN (Below.refl w2.heap.size w2) nq
    exact .mk ((qq.more bq).more b3) ((e2.next bq).next b3) rfl (fun h => by cases h)
  · have hzb : (y == 0) = false := by simp [hz]
    have HR2 : Hid (R = ⟨tms x (inv y), r.s, 0⟩) := by show _ = _; rw [HO2.out, hzb]; rfl
    rw [hzb] at HNG
    have HNO := fun W => Lib.hid (nOver x y r0 r1 W)
    clear HO2 hz
    go_wp2_with fail
    go_quiet (fail)
    have x0q : (w2.drewN nq).cell? ⟨bv, 0, none⟩ = some ofN := x0
    go_wp2_with fail
    refine (HNG _).out.mono ?_; rintro e w3 ⟨rfl, b3⟩
    have bq := below_drewN (Below.refl w2.heap.size w2) nq
    have x1q := ((e2.next bq).next b3).c0
    go_wp2_with fail
    refine (HNO _).out.mono ?_; rintro e w4 ⟨rfl, b4⟩
    go_wp2_with fail
    go_ret2
    rw [HR.out, HR2.out]
    exact .mk (((qq.more bq).more b3).more b4) (((e2.next bq).next b3).next b4) rfl (fun _ => ⟨rfl, tms_bd _ _⟩)

end Go.Proofs.YtoedccgiahegnaaGreat
