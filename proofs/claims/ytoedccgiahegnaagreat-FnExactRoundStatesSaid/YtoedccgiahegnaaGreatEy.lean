/- The program's evaluation with numbers: lets, calls, loops. -/
import Derived.Test.YtoedccgiahegnaaGreatEx
import Derived.Deep.RegionLawGrows
import Derived.Deep.RegionHeld3
import Derived.Deep.RegionWith
namespace Go.Proofs.YtoedccgiahegnaaGreat
open Go.RowKit
set_option linter.unusedVariables false

set_option maxRecDepth 100000 in
theorem iClip (a : Option Addr) (n cap : Nat) (w : World) (hn : a = none → n = 0) (hc : n ≤ cap) (hc2 : cap ≤ 9223372036854775807) :
    Calls Tryz.prog 133 #[.slice a n cap] w fun e w' => e = .returned (.slice a n n) ∧ w = w' := by
  have h1 : (n : Int) ≤ (cap : Int) := by omega
  cases a with
  | none =>
    obtain rfl := hn rfl
    go_enter Tryz.func133, Tryz.ntmps133
    go_wp2_with fail
    go_ret
    exact ⟨rfl, rfl⟩
  | some p =>
    obtain ⟨b, o, s⟩ := p
    go_enter Tryz.func133, Tryz.ntmps133
    go_wp2_with fail
    go_ret
    exact ⟨rfl, rfl⟩
theorem row_succ {W : World} {base : Nat} {e : TypeId} {size : Nat} {v : Value} {k : Nat} {xs : List Value} (h : W.ownsRow base e size v (k + 1) xs) : ∃ g cap, v = .slice (some ⟨g, 0, none⟩) (k + 1) cap := by
  rcases h.2 with ⟨_, h0⟩ | ⟨g, cap, _, rfl, _⟩
  · omega
  · exact ⟨g, cap, rfl⟩
theorem At.olds {w : World} {a : Option Addr} {l : List Int} (h : At w a l) : ∀ b, a = some b → ∀ j u, (l.map (Value.int .i64))[j]? = some u → w.cell? (b.add j) = some u := by
  intro b hb j u hj
  rw [List.getElem?_map] at hj
  by_cases hl : l = []
  · rw [hl] at hj; simp at hj
  · obtain ⟨bb, off, h1, _, hc⟩ := h.resolve_left hl
    rw [h1] at hb; cases hb
    by_cases hjl : j < l.length
    · rw [List.getElem?_eq_getElem hjl] at hj
      simp at hj
      rw [Addr.add_lit, hc j hjl, List.getD_eq_getElem?_getD, List.getElem?_eq_getElem hjl]
      simp [hj]
    · rw [List.getElem?_eq_none (by omega)] at hj; simp at hj
theorem At.none0 {w : World} {a : Option Addr} {l : List Int} (h : At w a l) : a = none → l.length = 0 := by
  intro ha
  rcases h with rfl | ⟨b, off, h1, _⟩
  · rfl
  · rw [ha] at h1; cases h1
theorem resL {w w' : World} {r : Rl Int} {e : Ending} (h : (r.c = 0 ∧ ∃ g, e = .returned (.tuple #[.slice (some ⟨g, 0, none⟩) r.l.length r.l.length, .int .i64 0]) ∧ Own w.heap.size w' g r.l.length r.l ∧ Nums r.l) ∨ (¬ r.c = 0 ∧ e = .returned (.tuple #[.slice none 0 0, .int .i64 r.c]))) :
    ∃ lv, e = .returned (.tuple #[lv, .int .i64 r.c]) ∧ ((r.c = 0 ∧ ∃ g, lv = .slice (some ⟨g, 0, none⟩) r.l.length r.l.length ∧ Own w.heap.size w' g r.l.length r.l ∧ Nums r.l) ∨ ¬ r.c = 0) := by
  rcases h with ⟨hc, g, he, ho, hnm⟩ | ⟨hc, he⟩
  · exact ⟨_, by rw [hc]; exact he, .inl ⟨hc, g, rfl, ho, hnm⟩⟩
  · exact ⟨_, he, .inr hc⟩
theorem resLm {L L' : Nat} {w' : World} {r : Rl Int} {lv : Value} (h : (r.c = 0 ∧ ∃ g, lv = .slice (some ⟨g, 0, none⟩) r.l.length r.l.length ∧ Own L' w' g r.l.length r.l ∧ Nums r.l) ∨ ¬ r.c = 0) (hL : L ≤ L') : (r.c = 0 ∧ ∃ g, lv = .slice (some ⟨g, 0, none⟩) r.l.length r.l.length ∧ Own L w' g r.l.length r.l ∧ Nums r.l) ∨ ¬ r.c = 0 :=
  h.imp (fun ⟨h1, g, h2, h3, h4⟩ => ⟨h1, g, h2, h3.mono hL, h4⟩) id
theorem row_cap {W : World} {base : Nat} {e : TypeId} {size : Nat} {g k cap : Nat} {xs : List Value} (h : W.ownsRow base e size (.slice (some ⟨g, 0, none⟩) k cap) k xs) : cap ≤ 9223372036854775807 := by
  rcases h.2 with ⟨h1, _⟩ | ⟨g', cap', cur, hv, _, _, _, hm, _⟩
  · cases h1
  · cases hv; unfold maxLen at hm; omega
theorem Kp.grown {S : Nat → Prop} {w w' : World} {row : Option Nat} (h : w.grownBy w' row) (hS : ∀ g, row = some g → S g) : Kp S w w' :=
  ⟨h.os, h.tape, h.output, h.size, fun i hi hn => h.block i hi (fun e => hn (hS i e.symm))⟩
set_option maxRecDepth 100000 in
set_option maxHeartbeats 6400000 in
theorem iBinding {fs : List Fn} {ap : Option Addr} {capp bv B f : Nat} (hBv : B ≤ bv) (hV : PV fs ap capp bv B f) (fi : Nat) (k0 n0 p0 c0 : Int) (kk0 : Fo) (a0 : Option Addr) (cap0 : Nat) (k1 n1 p1 c1 : Int) (kk1 : Fo) (a1 : Option Addr) (cap1 : Nat) (av : Option Addr) (cav : Nat) (vars : List Int) (s : Nat) (w : World)
    (hf : 3000 < f + s) (hs : s ≤ 3000) (hfi : fi ≤ fs.length) (hE : EvAt w bv ap fs.length capp s) (hP : Pat w 0 B fs ap) (hL : Ls w bv av vars) (hN : Nums vars) (hvl1 : vars.length + 1 ≤ 412 + s) (hcv : vars.length ≤ cav) (hcv2 : cav ≤ 9223372036854775807)
    (kn0 : nodeB fs (vars.length : Int) (fi : Int) k0 n0 p0 c0 kk0.len = true) (kt0 : treeB fs (fi : Int) kk0 (vars.length : Int) k0 0 = true) (kf0 : Fat w 0 B kk0 a0) (kl0 : kk0.len ≤ maxLen)
    (kn1 : nodeB fs ((vars.length : Int) + 1) (fi : Int) k1 n1 p1 c1 kk1.len = true) (kt1 : treeB fs (fi : Int) kk1 ((vars.length : Int) + 1) k1 0 = true) (kf1 : Fat w 0 B kk1 a1) (kl1 : kk1.len ≤ maxLen) :
    Calls Tryz.prog 118 #[.pointer (some ⟨bv, 0, none⟩), .agg #[.int .i64 k0, .int .i64 n0, .int .i64 p0, .int .i64 c0, .slice a0 kk0.len cap0, .int .i64 k1, .int .i64 n1, .int .i64 p1, .int .i64 c1, .slice a1 kk1.len cap1], .slice av vars.length cav] w (VRes bv ap fs.length capp w (bindE (evE nA fs f k0 n0 p0 c0 kk0 vars s) fun v s => (evE nA fs f k1 n1 p1 c1 kk1 (vars ++ [v]) s))) := by
  obtain ⟨i0, hi, hz0, hz1, hz2⟩ := info_parts info64
  obtain ⟨w1, hw1⟩ : ∃ w1, w1 = w.alloc (.cells #[.int .i64 k0, .int .i64 n0, .int .i64 p0, .int .i64 c0, .slice a0 kk0.len cap0, .int .i64 k1, .int .i64 n1, .int .i64 p1, .int .i64 c1, .slice a1 kk1.len cap1] 181) := ⟨_, rfl⟩
  have b1 : Below w.heap.size w w1 := by rw [hw1]; exact (Below.refl _ _).alloc (Nat.le_refl _) _
  have q1 : Kp (fun b => b = bv) w w1 := Kp.of_below b1
  have hbw := cell_lt hE.c0
  have hne : w.heap.size ≠ bv := by omega
  have y0 : w1.cell? ⟨w.heap.size, 5, none⟩ = some (.int .i64 k1) := by rw [hw1]; simp [go_sem]
  have y1 : w1.cell? ⟨w.heap.size, 6, none⟩ = some (.int .i64 n1) := by rw [hw1]; simp [go_sem]
  have y2 : w1.cell? ⟨w.heap.size, 7, none⟩ = some (.int .i64 p1) := by rw [hw1]; simp [go_sem]
  have y3 : w1.cell? ⟨w.heap.size, 8, none⟩ = some (.int .i64 c1) := by rw [hw1]; simp [go_sem]
  have y4 : w1.cell? ⟨w.heap.size, 9, none⟩ = some (.slice a1 kk1.len cap1) := by rw [hw1]; simp [go_sem]
  have hst := evE_stp (A := nA) fs f s hf k0 n0 p0 c0 kk0 vars s (Nat.le_refl _) hs
  have HC := Lib.hid (hV fi k0 n0 p0 c0 kk0 a0 cap0 av cav vars s w1 hf hs hfi kn0 kt0 (hE.next b1) (hP.keepE q1 hBv hbw) (kf0.keepE q1 hBv hbw) kl0 (hL.keep q1) hN (by omega) hcv hcv2)
  have HLV := Lib.hid hL
  have HK1 := fun (W : World) (s : Nat) (x : Int) (g cg : Nat) (hx : 0 ≤ x ∧ x < 1000003) (hss : 3000 < f + s ∧ s ≤ 3000 ∧ vars.length + 1 ≤ 412 + s) (hk : Kp (fun b => b = bv) w W) (he : EvAt W bv ap fs.length capp s) (ho : Own w.heap.size W g cg (vars ++ [x])) (hcg : cg ≤ 9223372036854775807) => Lib.hid (show Calls Tryz.prog 96 #[.pointer (some ⟨bv, 0, none⟩), .agg #[.int .i64 k1, .int .i64 n1, .int .i64 p1, .int .i64 c1, .slice a1 kk1.len cap1], .slice (some ⟨g, 0, none⟩) (vars.length + 1) cg] W (VRes bv ap fs.length capp W (evE nA fs f k1 n1 p1 c1 kk1 (vars ++ [x]) s)) from by have h := hV fi k1 n1 p1 c1 kk1 a1 cap1 (some ⟨g, 0, none⟩) cg (vars ++ [x]) s W hss.1 hss.2.1 hfi (by rw [List.length_append]; exact kn1) (by rw [List.length_append]; exact kt1) he (hP.keepE hk hBv hbw) (kf1.keepE hk hBv hbw) kl1 (ho.ls hbw) (nums_snoc hN hx) (by rw [List.length_append]; exact hss.2.2) ho.cap_le hcg; rw [List.length_append] at h; exact h)
  generalize (evE nA fs f k0 n0 p0 c0 kk0 vars s) = r at HC hst
  clear hE hP hL kn0 kt0 kf0 kl0 kn1 kt1 kf1 kl1
  go_enter Tryz.func118, Tryz.ntmps118
  go_wp2_with fail
  rw [← hw1]
  clear hw1
  refine HC.out.mono ?_; rintro e w2 ⟨q2, e2, v, rfl, hv⟩
  have qq := q1.trans q2
  replace y0 := q2.cell y0 hne
  replace y1 := q2.cell y1 hne
  replace y2 := q2.cell y2 hne
  replace y3 := q2.cell y3 hne
  replace y4 := q2.cell y4 hne
  by_cases hc : r.c = 0
  rotate_left
  · have hbf : (r.c != 0) = true := by simp [hc]
    have HR : Hid ((bindE r fun v s => (evE nA fs f k1 n1 p1 c1 kk1 (vars ++ [v]) s)) = r) := by show _ = _; unfold bindE; rw [if_neg hc]
    clear HC hv HK1 HLV y0 y1 y2 y3 y4
    go_wp2_with fail
    go_ret2
    rw [HR.out]
    exact .mk qq e2 rfl (fun h => absurd h hc)
  obtain ⟨rfl, hv0, hv1⟩ := hv hc
  have hbf : (r.c != 0) = false := by rw [hc]; rfl
  have HR : Hid ((bindE r fun v s => (evE nA fs f k1 n1 p1 c1 kk1 (vars ++ [v]) s)) = evE nA fs f k1 n1 p1 c1 kk1 (vars ++ [r.v]) r.s) := by show _ = _; unfold bindE; rw [if_pos hc]
  have hz2w : w.heap.size ≤ w2.heap.size := qq.size
  have hlw := cell_lt y0
  obtain ⟨WA, hWA⟩ : ∃ WA, WA = (w2.alloc (.cells #[.int .i64 r.v] 2)).drew := ⟨_, rfl⟩
  have bA : Below w2.heap.size w2 WA := by rw [hWA]; exact ((Below.refl _ _).alloc (Nat.le_refl _) _).drew
  have zA : WA.heap.size = w2.heap.size + 1 := by rw [hWA]; simp
  have hLA := (HLV.out.keep qq).keep (Kp.of_below bA)
  have HOL := Lib.hid hLA.at_.olds
  have hnn := hLA.at_.none0
  have hnw : ∀ j u, [Value.int .i64 r.v][j]? = some u → WA.cell? ((⟨w2.heap.size, 0, none⟩ : Addr).add j) = some u := by
    intro j u hj
    cases j with
    | zero => simp at hj; subst hj; rw [hWA]; simp [go_sem, Addr.add]
    | succ j => simp at hj
  have HNW := Lib.hid hnw
  have HCL := fun W => Lib.hid (iClip av vars.length cav W hnn hcv hcv2)
  have qA := qq.more bA
  have eA := e2.next bA
  have HKA := fun (W : World) (hg : WA.grownBy W none) => Lib.hid (show Kp (fun b => b = bv) w W from qA.trans (Kp.grown hg (fun _ h => by cases h)))
  have HEA := fun (W : World) (hg : WA.grownBy W none) => Lib.hid (show EvAt W bv ap fs.length capp r.s from eA.next ⟨hg.os, hg.tape, hg.output, hg.size, fun j hj => hg.block j hj (by simp)⟩)
  have hvb : vars.length + 1 ≤ 412 + r.s := by omega
  have hr3 : 3000 < f + r.s := by omega
  have hr4 := hst.2
  clear HC hnw hLA qA eA bA HLV
  go_wp2_with fail
  rw [hWA] at HOL HNW HKA HEA
  have YD : Hid (w2.drew.cell? ⟨w.heap.size, 5, none⟩ = some (.int .i64 k1) ∧ w2.drew.cell? ⟨w.heap.size, 6, none⟩ = some (.int .i64 n1) ∧ w2.drew.cell? ⟨w.heap.size, 7, none⟩ = some (.int .i64 p1) ∧ w2.drew.cell? ⟨w.heap.size, 8, none⟩ = some (.int .i64 c1) ∧ w2.drew.cell? ⟨w.heap.size, 9, none⟩ = some (.slice a1 kk1.len cap1)) := ⟨y0, y1, y2, y3, y4⟩
  have YA : Hid (((w2.alloc (.cells #[.int .i64 r.v] 2)).drew).cell? ⟨w.heap.size, 5, none⟩ = some (.int .i64 k1) ∧ ((w2.alloc (.cells #[.int .i64 r.v] 2)).drew).cell? ⟨w.heap.size, 6, none⟩ = some (.int .i64 n1) ∧ ((w2.alloc (.cells #[.int .i64 r.v] 2)).drew).cell? ⟨w.heap.size, 7, none⟩ = some (.int .i64 p1) ∧ ((w2.alloc (.cells #[.int .i64 r.v] 2)).drew).cell? ⟨w.heap.size, 8, none⟩ = some (.int .i64 c1) ∧ ((w2.alloc (.cells #[.int .i64 r.v] 2)).drew).cell? ⟨w.heap.size, 9, none⟩ = some (.slice a1 kk1.len cap1)) := by
    have k := Kp.of_below (S := fun b => b = bv) (((Below.refl w2.heap.size w2).alloc (Nat.le_refl _) (.cells #[.int .i64 r.v] 2)).drew)
    exact ⟨k.cell y0 hne, k.cell y1 hne, k.cell y2 hne, k.cell y3 hne, k.cell y4 hne⟩
  have YB : Hid ((w2.drew.alloc (.cells #[.int .i64 r.v] 2)).cell? ⟨w.heap.size, 5, none⟩ = some (.int .i64 k1) ∧ (w2.drew.alloc (.cells #[.int .i64 r.v] 2)).cell? ⟨w.heap.size, 6, none⟩ = some (.int .i64 n1) ∧ (w2.drew.alloc (.cells #[.int .i64 r.v] 2)).cell? ⟨w.heap.size, 7, none⟩ = some (.int .i64 p1) ∧ (w2.drew.alloc (.cells #[.int .i64 r.v] 2)).cell? ⟨w.heap.size, 8, none⟩ = some (.int .i64 c1) ∧ (w2.drew.alloc (.cells #[.int .i64 r.v] 2)).cell? ⟨w.heap.size, 9, none⟩ = some (.slice a1 kk1.len cap1)) := by
    have k := Kp.of_below (S := fun b => b = bv) ((Below.refl w2.drew.heap.size w2.drew).alloc (Nat.le_refl _) (.cells #[.int .i64 r.v] 2))
    exact ⟨k.cell YD.out.1 hne, k.cell YD.out.2.1 hne, k.cell YD.out.2.2.1 hne, k.cell YD.out.2.2.2.1 hne, k.cell YD.out.2.2.2.2 hne⟩
  go_region_held3 (fun w' => w'.cell? ⟨w.heap.size, 5, none⟩ = some (.int .i64 k1) ∧ w'.cell? ⟨w.heap.size, 6, none⟩ = some (.int .i64 n1) ∧ w'.cell? ⟨w.heap.size, 7, none⟩ = some (.int .i64 p1) ∧ w'.cell? ⟨w.heap.size, 8, none⟩ = some (.int .i64 c1) ∧ w'.cell? ⟨w.heap.size, 9, none⟩ = some (.slice a1 kk1.len cap1))
    (first
      | with_reducible exact ⟨y0, y1, y2, y3, y4⟩
      | with_reducible exact YD.out
      | with_reducible exact YA.out
      | with_reducible exact YB.out
      | with_reducible exact YG.out
      | with_reducible exact Y9.out
      | go_keep)
    (first
      | (refine step_append_grows rfl (.tmp 26) (.tmp 28) 25 rfl 2 i0 _ 1 8 Tryz.underlying25 hi hz0 hz1 hz2 rfl (by omega) av vars.length vars.length (vars.map (Value.int .i64)) (by first | rfl | simp [Act.eval]) (fun h => ⟨hnn h, hnn h⟩) (by simp) HOL.out ⟨w2.heap.size, 0, none⟩ 1 1 [.int .i64 r.v] (by first | rfl | simp [Act.eval]) rfl HNW.out (by simp [Value.oneCell']) (by omega) (by unfold maxLen; omega) (by omega) ?_; intro v' wg hown hgrow; obtain ⟨g', cap', rfl⟩ := row_succ hown; have HG := Lib.hid hgrow; have HOW := Lib.hid (own_appended hown); have hcap := row_cap hown; have kg := (Kp.of_below (S := fun b => b = bv) (((Below.refl w2.heap.size w2).alloc (Nat.le_refl _) (.cells #[.int .i64 r.v] 2)).drew)).trans (Kp.grown hgrow (fun _ h => by cases h)); have YG : Hid (wg.cell? ⟨w.heap.size, 5, none⟩ = some (.int .i64 k1) ∧ wg.cell? ⟨w.heap.size, 6, none⟩ = some (.int .i64 n1) ∧ wg.cell? ⟨w.heap.size, 7, none⟩ = some (.int .i64 p1) ∧ wg.cell? ⟨w.heap.size, 8, none⟩ = some (.int .i64 c1) ∧ wg.cell? ⟨w.heap.size, 9, none⟩ = some (.slice a1 kk1.len cap1)) := ⟨kg.cell y0 hne, kg.cell y1 hne, kg.cell y2 hne, kg.cell y3 hne, kg.cell y4 hne⟩)
      | (go_at_call 133; refine (HCL _).out.mono ?_; rintro e w' ⟨rfl, rfl⟩)
      | (go_at_call 96; refine (HK1 _ r.s r.v _ _ ⟨hv0, hv1⟩ ⟨hr3, hr4, hvb⟩ (HKA _ HG.out).out (HEA _ HG.out).out (HOW.out.mono (by simp; omega)) hcap).out.mono ?_; rintro e w9 ⟨q9, e9, v9, rfl, hv9⟩; have k9 := kg.trans q9; have Y9 : Hid (w9.cell? ⟨w.heap.size, 5, none⟩ = some (.int .i64 k1) ∧ w9.cell? ⟨w.heap.size, 6, none⟩ = some (.int .i64 n1) ∧ w9.cell? ⟨w.heap.size, 7, none⟩ = some (.int .i64 p1) ∧ w9.cell? ⟨w.heap.size, 8, none⟩ = some (.int .i64 c1) ∧ w9.cell? ⟨w.heap.size, 9, none⟩ = some (.slice a1 kk1.len cap1)) := ⟨k9.cell y0 hne, k9.cell y1 hne, k9.cell y2 hne, k9.cell y3 hne, k9.cell y4 hne⟩))
  all_goals
    go_wp2_with fail
    go_ret2
    rw [HR.out]
    exact .mk ((HKA _ HG.out).out.trans q9) e9 rfl hv9

set_option maxRecDepth 100000 in
set_option maxHeartbeats 6400000 in
theorem iCall {fs : List Fn} {ap : Option Addr} {capp bv B f : Nat} (hBv : B ≤ bv) (hV : PV fs ap capp bv B f) (hVL : PL fs ap capp bv B f) (hFn : ∀ i, i < fs.length → fnB fs i = true) (hfl : fs.length ≤ 1048576) (fi : Nat) (n p : Int) (ks : Fo) (a : Option Addr) (cap : Nat) (av : Option Addr) (cav : Nat) (vars : List Int) (s : Nat) (w : World)
    (hf : 3000 < f + s) (hs : s ≤ 3000) (hfi : fi ≤ fs.length) (hE : EvAt w bv ap fs.length capp s) (hP : Pat w 0 B fs ap) (hL : Ls w bv av vars) (hN : Nums vars) (hvl : vars.length ≤ 412 + s) (hcv : vars.length ≤ cav) (hcv2 : cav ≤ 9223372036854775807)
    (hn : 0 ≤ n ∧ n < (fi : Int)) (hp : 0 ≤ p ∧ p < ((fs.getD n.toNat noFn).outs.len : Int)) (hm : (ks.len : Int) = (fs.getD n.toNat noFn).params) (kt : treeB fs (fi : Int) ks (vars.length : Int) 10 0 = true) (kf : Fat w 0 B ks a) :
    Calls Tryz.prog 119 #[.pointer (some ⟨bv, 0, none⟩), .agg #[.int .i64 n, .int .i64 p, .slice a ks.len cap], .slice av vars.length cav] w (VRes bv ap fs.length capp w (bindL nA (lisE nA (evE nA fs f) ks vars s ks.len) fun l s => atE nA (evE nA fs f) (fs.getD n.toNat noFn).outs p.toNat l s)) := by
  obtain ⟨w1, hw1⟩ : ∃ w1, w1 = w.alloc (.cells #[.int .i64 n, .int .i64 p, .slice a ks.len cap] 184) := ⟨_, rfl⟩
  have b1 : Below w.heap.size w w1 := by rw [hw1]; exact (Below.refl _ _).alloc (Nat.le_refl _) _
  have q1 : Kp (fun b => b = bv) w w1 := Kp.of_below b1
  have hbw := cell_lt hE.c0
  have hne : w.heap.size ≠ bv := by omega
  have y0 : w1.cell? ⟨w.heap.size, 0, none⟩ = some (.int .i64 n) := by rw [hw1]; simp [go_sem]
  have y1 : w1.cell? ⟨w.heap.size, 1, none⟩ = some (.int .i64 p) := by rw [hw1]; simp [go_sem]
  obtain ⟨j, rfl⟩ := Int.eq_ofNat_of_zero_le hn.1
  obtain ⟨jp, rfl⟩ := Int.eq_ofNat_of_zero_le hp.1
  have hj : j < fs.length := by omega
  have ej : (j : Int).toNat = j := rfl
  have ejp : (jp : Int).toNat = jp := rfl
  rw [ej] at hp hm ⊢
  rw [ejp]
  obtain ⟨g1, g2, g3⟩ := fn_parts (hFn j hj)
  have hjp : jp < (fs.getD j noFn).outs.len := by omega
  have hst := lisE_stp (A := nA) (evE_stp (A := nA) fs f s hf) ks vars s (Nat.le_refl _) hs ks.len
  have HC := Lib.hid (hVL fi 10 ks a cap av cav vars s w1 hf hs hfi (by decide) kt (hE.next b1) (hP.keepE q1 hBv hbw) (kf.keepE q1 hBv hbw) (by omega) (hL.keep q1) hN hvl hcv hcv2)
  have HL := Lib.hid (lisE_len (A := nA) (E := evE nA fs f) (f := ks) (vars := vars) (s := s) ks.len)
  have HP := Lib.hid hP
  generalize lisE nA (evE nA fs f) ks vars s ks.len = r at HC HL hst
  clear hE hP hL kt kf
  go_enter Tryz.func119, Tryz.ntmps119
  go_wp2_with fail
  rw [← hw1]
  clear hw1
  refine HC.out.mono ?_; rintro e w2 ⟨q2, e2, ⟨hc, g, rfl, ho, hnm⟩ | ⟨hc, rfl⟩⟩
  rotate_left
  · have hbf : (r.c != 0) = true := by simp [hc]
    have HR : Hid ((bindL nA r fun l s => atE nA (evE nA fs f) (fs.getD j noFn).outs jp l s) = ⟨0, r.s, r.c⟩) := by show _ = _; unfold bindL; rw [if_neg hc]; rfl
    clear HC HL y0 y1
    go_wp2_with fail
    go_ret2
    rw [HR.out]
    exact .mk (q1.trans q2) e2 rfl (fun h => absurd h hc)
  have hln := HL.out hc
  have qq := q1.trans q2
  replace y0 := q2.cell y0 hne
  replace y1 := q2.cell y1 hne
  have x1 := e2.c1
  have z1 := b1.size
  have z2 := q2.size
  obtain ⟨bf, of, rfl, hbB, hall⟩ := (HP.out.keepE qq hBv hbw).resolve_left (by intro e; rw [e] at hj; simp at hj)
  obtain ⟨hr, af, cf, f0, f1, f2, hFo⟩ := hall j hj
  obtain ⟨bo, oo, rfl, hoB⟩ := hFo.blk (by omega)
  obtain ⟨k', n', p', c', kk, a', cap', hd, hR, hkl, t0, t1, t2, t3, t4, hFk⟩ := Fat.node hFo hjp
  obtain ⟨v1, v2⟩ := treeB_at (fs.getD j noFn).outs 0 jp g3 hd
  have hmo : more 0 (0 + jp) = 0 := by unfold more; rw [if_neg (by omega)]
  have hlp : (r.l.length : Int) = (fs.getD j noFn).params := by rw [hln]; exact hm
  rw [hmo, Int.add_zero, ← hlp] at v1 v2
  have HR : Hid ((bindL nA r fun l s => atE nA (evE nA fs f) (fs.getD j noFn).outs jp l s) = evE nA fs f k' n' p' c' kk r.l r.s) := by show _ = _; unfold bindL; rw [if_pos hc]; exact atE_eq hd
  have HVC := fun (W : World) (hk : Below w2.heap.size w2 W) => Lib.hid (hV j k' n' p' c' kk a' cap' (some ⟨g, 0, none⟩) r.l.length r.l r.s W (by omega) hst.2 (by omega) v1 v2 (e2.next hk) ((HP.out.keepE qq hBv hbw).below (hk.mono (by omega))) (hFk.agree (fun j _ h2 => hk.block j (by omega))) hkl ((ho.ls (by omega)).keep (Kp.of_below hk)) hnm (by omega) (Nat.le_refl _) (by omega))
  have hji : (j : Int) < (fs.length : Int) := by omega
  have hjpi : (jp : Int) < ((fs.getD j noFn).outs.len : Int) := by omega
  clear HC HL hall hr f0 f1 hFo hFk v1 v2 hd hR ho hnm hln hlp hm hp g1 g2 g3 hmo
  generalize (fs.getD j noFn).outs.len = ml at *
  go_wp2_with fail
  go_region_with (go_at_call 96; refine (HVC _ (Below.refl w2.heap.size w2).drew).out.mono ?_; rintro e w9 ⟨q9, e9, v9, rfl, hv9⟩)
  all_goals
    go_wp2_with fail
    go_ret2
    rw [HR.out]
    exact .mk ((qq.more (Below.refl w2.heap.size w2).drew).trans q9) e9 rfl hv9

set_option maxRecDepth 100000 in
set_option maxHeartbeats 6400000 in
theorem iLoop {fs : List Fn} {ap : Option Addr} {capp bv B f : Nat} (hBv : B ≤ bv) (hVL : PL fs ap capp bv B f) (hFn : ∀ i, i < fs.length → fnB fs i = true) (hfl : fs.length ≤ 1048576) (fi : Nat) (n p c : Int) (ks : Fo) (a : Option Addr) (cap : Nat) (av : Option Addr) (cav : Nat) (vars : List Int) (s : Nat) (w : World)
    (hf : 3000 < f + s) (hs : s ≤ 3000) (hfi : fi ≤ fs.length) (hE : EvAt w bv ap fs.length capp s) (hP : Pat w 0 B fs ap) (hL : Ls w bv av vars) (hN : Nums vars) (hvl : vars.length ≤ 412 + s) (hcv : vars.length ≤ cav) (hcv2 : cav ≤ 9223372036854775807)
    (hn : 0 ≤ n ∧ n < (fi : Int)) (hp : 0 ≤ p ∧ p < ((fs.getD n.toNat noFn).outs.len : Int)) (hm : (ks.len : Int) = (fs.getD n.toNat noFn).params) (hcc : 0 ≤ c ∧ c ≤ 8) (hop : ((fs.getD n.toNat noFn).outs.len : Int) = (fs.getD n.toNat noFn).params) (kt : treeB fs (fi : Int) ks (vars.length : Int) 11 0 = true) (kf : Fat w 0 B ks a) :
    Calls Tryz.prog 120 #[.pointer (some ⟨bv, 0, none⟩), .agg #[.int .i64 n, .int .i64 p, .int .i64 c, .slice a ks.len cap], .slice av vars.length cav] w (VRes bv ap fs.length capp w (bindL nA (lopE nA (evE nA fs f) (fs.getD n.toNat noFn).outs (lisE nA (evE nA fs f) ks vars s ks.len) c.toNat) fun l s => ⟨l.getD p.toNat (nA.cst 0), s, 0⟩)) := by
  obtain ⟨w1, hw1⟩ : ∃ w1, w1 = w.alloc (.cells #[.int .i64 n, .int .i64 p, .int .i64 c, .slice a ks.len cap] 187) := ⟨_, rfl⟩
  have b1 : Below w.heap.size w w1 := by rw [hw1]; exact (Below.refl _ _).alloc (Nat.le_refl _) _
  have q1 : Kp (fun b => b = bv) w w1 := Kp.of_below b1
  have hbw := cell_lt hE.c0
  have hne : w.heap.size ≠ bv := by omega
  have y0 : w1.cell? ⟨w.heap.size, 0, none⟩ = some (.int .i64 n) := by rw [hw1]; simp [go_sem]
  have y1 : w1.cell? ⟨w.heap.size, 1, none⟩ = some (.int .i64 p) := by rw [hw1]; simp [go_sem]
  have y2 : w1.cell? ⟨w.heap.size, 2, none⟩ = some (.int .i64 c) := by rw [hw1]; simp [go_sem]
  obtain ⟨j, rfl⟩ := Int.eq_ofNat_of_zero_le hn.1
  obtain ⟨jp, rfl⟩ := Int.eq_ofNat_of_zero_le hp.1
  obtain ⟨m, rfl⟩ := Int.eq_ofNat_of_zero_le hcc.1
  have hj : j < fs.length := by omega
  have ej : (j : Int).toNat = j := rfl
  have ejp : (jp : Int).toNat = jp := rfl
  have em : (m : Int).toNat = m := rfl
  rw [ej] at hp hm hop ⊢
  rw [ejp, em]
  obtain ⟨g1, g2, g3⟩ := fn_parts (hFn j hj)
  have hjp : jp < (fs.getD j noFn).outs.len := by omega
  obtain ⟨O, hO⟩ : ∃ O, O = (fs.getD j noFn).outs := ⟨_, rfl⟩
  have HOE := Lib.hid hO
  rw [← hO] at hjp hp hop g2 g3 ⊢
  clear hO
  have hst := lisE_stp (A := nA) (evE_stp (A := nA) fs f s hf) ks vars s (Nat.le_refl _) hs ks.len
  have hsl := lopE_stp (A := nA) (evE_stp (A := nA) fs f s hf) O (lisE nA (evE nA fs f) ks vars s ks.len) hst.1 hst.2
  have HC := Lib.hid (hVL fi 11 ks a cap av cav vars s w1 hf hs hfi (by decide) kt (hE.next b1) (hP.keepE q1 hBv hbw) (kf.keepE q1 hBv hbw) (by omega) (hL.keep q1) hN hvl hcv hcv2)
  have HL := Lib.hid (lisE_len (A := nA) (E := evE nA fs f) (f := ks) (vars := vars) (s := s) ks.len)
  have HP := Lib.hid hP
  generalize lisE nA (evE nA fs f) ks vars s ks.len = r at HC HL hst hsl
  have HLN : Hid (∀ i, (lopE nA (evE nA fs f) O r i).c = 0 → ((lopE nA (evE nA fs f) O r i).l.length : Int) = (fs.getD j noFn).params) := by
    intro i
    induction i with
    | zero => intro h; show (r.l.length : Int) = _; rw [HL.out h]; exact hm
    | succ i ih =>
      intro h
      by_cases h0 : (lopE nA (evE nA fs f) O r i).c = 0
      · rw [lopE_step h0] at h ⊢; rw [lisE_len _ h]; exact hop
      · rw [lopE, if_neg h0] at h; exact absurd h h0
  obtain ⟨R0, hR0⟩ : ∃ R0, R0 = (bindL nA (lopE nA (evE nA fs f) O r m) fun l s => (⟨l.getD jp (nA.cst 0), s, 0⟩ : Rv Int)) := ⟨_, rfl⟩
  rw [← hR0]
  have HR0 := Lib.hid hR0
  have HSL := Lib.hid hsl
  have HOUT := Lib.hid hop
  clear hE hP hL kt kf hsl hop hR0
  go_enter Tryz.func120, Tryz.ntmps120
  go_wp2_with fail
  rw [← hw1]
  clear hw1
  have z1 := b1.size
  refine HC.out.mono ?_; intro e w2 hres
  obtain ⟨q2, e2, hres⟩ := hres
  have qq := q1.trans q2
  have z2 := q2.size
  replace y0 := q2.cell y0 hne
  replace y1 := q2.cell y1 hne
  replace y2 := q2.cell y2 hne
  have hlist : ∃ lv, e = .returned (.tuple #[lv, .int .i64 r.c]) ∧ ((r.c = 0 ∧ ∃ g, lv = .slice (some ⟨g, 0, none⟩) r.l.length r.l.length ∧ Own w.heap.size w2 g r.l.length r.l ∧ Nums r.l) ∨ ¬ r.c = 0) := by
    rcases hres with ⟨hc, g, he, ho, hnm⟩ | ⟨hc, he⟩
    · exact ⟨_, by rw [hc]; exact he, .inl ⟨hc, g, rfl, ho.mono z1, hnm⟩⟩
    · exact ⟨_, he, .inr hc⟩
  obtain ⟨lv, rfl, hlv⟩ := hlist
  have HQ0 := Lib.hid qq
  have HE0 := Lib.hid e2
  have HLV0 := Lib.hid hlv
  have HY0 : Hid (w2.cell? ⟨w.heap.size, 0, none⟩ = some (.int .i64 j) ∧ w2.cell? ⟨w.heap.size, 1, none⟩ = some (.int .i64 jp) ∧ w2.cell? ⟨w.heap.size, 2, none⟩ = some (.int .i64 m)) := ⟨y0, y1, y2⟩
  have hzz : w.heap.size < w2.heap.size := cell_lt y0
  clear HC hres hlv qq q1 q2 b1 e2 y0 y1 y2
  go_wp2_with fail
  go_loopw [8, 9, 10] (fun lx cx x wr => ∃ i : Nat, i ≤ m ∧ x = .int .i64 i ∧ cx = .int .i64 (lopE nA (evE nA fs f) O r i).c ∧ Hid (Kp (fun b => b = bv) w wr) ∧ Hid (EvAt wr bv ap fs.length capp (lopE nA (evE nA fs f) O r i).s) ∧ Hid (((lopE nA (evE nA fs f) O r i).c = 0 ∧ ∃ g, lx = .slice (some ⟨g, 0, none⟩) (lopE nA (evE nA fs f) O r i).l.length (lopE nA (evE nA fs f) O r i).l.length ∧ Own w.heap.size wr g (lopE nA (evE nA fs f) O r i).l.length (lopE nA (evE nA fs f) O r i).l ∧ Nums (lopE nA (evE nA fs f) O r i).l) ∨ ¬ (lopE nA (evE nA fs f) O r i).c = 0) ∧ Hid (wr.cell? ⟨w.heap.size, 0, none⟩ = some (.int .i64 j) ∧ wr.cell? ⟨w.heap.size, 1, none⟩ = some (.int .i64 jp) ∧ wr.cell? ⟨w.heap.size, 2, none⟩ = some (.int .i64 m)) ∧ w.heap.size < wr.heap.size) (fun _ _ x _ => m - (intOf x).toNat)
  case atStart => exact ⟨0, Nat.zero_le _, rfl, rfl, HQ0.out, HE0.out, HLV0.out, HY0.out, hzz⟩
  case round =>
    obtain ⟨i, hi, rfl, rfl, HQ, HE, HLV, HY, hzr⟩ := hrel
    clear HQ0 HE0 HLV0 HY0 hzz
    obtain ⟨y0, y1, y2⟩ := id HY.out
    have hsi := HSL.out i
    by_cases hc : (lopE nA (evE nA fs f) O r i).c = 0
    · have hcb : ((lopE nA (evE nA fs f) O r i).c == 0) = true := by rw [hc]; rfl
      obtain ⟨_, g, rfl, ho, hnm⟩ := HLV.out.resolve_right (fun h => h hc)
      have hlen := HLN.out i hc
      by_cases hlt : i < m
      · have hii : (i : Int) < (m : Int) := by omega
        have HS : Hid (lopE nA (evE nA fs f) O r (i + 1) = lisE nA (evE nA fs f) O (lopE nA (evE nA fs f) O r i).l (lopE nA (evE nA fs f) O r i).s O.len) := lopE_step hc
        generalize lopE nA (evE nA fs f) O r i = X at *
        have x1 := HE.out.c1
        obtain ⟨bf, of, rfl, hbB, hall⟩ := (HP.out.keepE HQ.out hBv hbw).resolve_left (by intro e; rw [e] at hj; simp at hj)
        obtain ⟨hr, af, cf, f0, f1, f2, hFo⟩ := hall j hj
        rw [← HOE.out] at f2 hFo
        have g3' : treeB fs (j : Int) O (X.l.length : Int) 0 0 = true := by rw [hlen]; exact g3
        have HVC := fun (W : World) (hk : Below wr.heap.size wr W) => Lib.hid (hVL j 0 O af cf (some ⟨g, 0, none⟩) X.l.length X.l X.s W (by omega) hsi.2 (by omega) (by decide) g3' (HE.out.next hk) ((HP.out.keepE HQ.out hBv hbw).below (hk.mono (by omega))) (hFo.agree (fun j _ h2 => hk.block j (by omega))) (by omega) ((ho.ls hbw).keep (Kp.of_below hk)) hnm (by omega) (Nat.le_refl _) (by omega))
        rw [← HS.out] at HVC
        have hji : (j : Int) < (fs.length : Int) := by omega
        clear hall hr f0 f1 hFo ho hnm HLV g3' HS
        generalize O.len = ml at *
        go_wp2_with fail
        go_region_with (go_at_call 73; refine (HVC _ (Below.refl wr.heap.size wr).drew).out.mono ?_; intro e w9 hres9; obtain ⟨q9, e9, hl9⟩ := hres9; obtain ⟨lv9, rfl, hlv9⟩ := resL hl9)
        all_goals
          have hk9 := (Kp.of_below (S := fun b => b = bv) (Below.refl wr.heap.size wr).drew).trans q9
          have hq9 := HQ.out.trans hk9
          have HL9 := Lib.hid (resLm hlv9 (L := w.heap.size) (by have := HQ.out.size; simp; omega))
          go_wp2_with fail
          go_roundw
          case rel => exact ⟨i + 1, by omega, by go_num, rfl, hq9, e9, HL9.out, ⟨hk9.cell y0 hne, hk9.cell y1 hne, hk9.cell y2 hne⟩, Nat.lt_of_lt_of_le hzr hk9.size⟩
          case measure => simp [intOf]; omega
      · have hii : ¬ (i : Int) < (m : Int) := by omega
        obtain rfl : i = m := by omega
        have hbf : ((lopE nA (evE nA fs f) O r i).c != 0) = false := by rw [hc]; rfl
        have HR : Hid (R0 = ⟨(lopE nA (evE nA fs f) O r i).l.getD jp 0, (lopE nA (evE nA fs f) O r i).s, 0⟩) := by show _ = _; rw [HR0.out]; unfold bindL; rw [if_pos hc]; rfl
        have hx := ho.cellAt jp (by have := HOUT.out; omega)
        have hxn := hnm.at jp
        have hjl : (jp : Int) < ((lopE nA (evE nA fs f) O r i).l.length : Int) := by have := HOUT.out; omega
        have hgb := ho.base.2
        clear ho hnm HLV HR0
        generalize lopE nA (evE nA fs f) O r i = X at *
        generalize X.l.getD jp 0 = x at *
        generalize X.l.length = ml at *
        go_wp2_with fail
        go_ret2
        rw [HR.out]
        exact .mk HQ.out HE.out rfl (fun _ => ⟨rfl, hxn⟩)
    · have hcb : ((lopE nA (evE nA fs f) O r i).c == 0) = false := by simp [hc]
      have hbf : ((lopE nA (evE nA fs f) O r i).c != 0) = true := by simp [hc]
      have HST : Hid (lopE nA (evE nA fs f) O r m = lopE nA (evE nA fs f) O r i) := by
        show _ = _
        have := lopE_stop hc (m - i)
        rwa [show i + (m - i) = m by omega] at this
      have HR : Hid (R0 = ⟨0, (lopE nA (evE nA fs f) O r i).s, (lopE nA (evE nA fs f) O r i).c⟩) := by show _ = _; rw [HR0.out, HST.out]; unfold bindL; rw [if_neg hc]; rfl
      clear HLV HST HR0
      generalize lopE nA (evE nA fs f) O r i = X at *
      by_cases hlt : (i : Int) < (m : Int)
      · go_wp2_with fail
        go_ret2
        rw [HR.out]
        exact .mk HQ.out HE.out rfl (fun h => absurd h hc)
      · go_wp2_with fail
        go_ret2
        rw [HR.out]
        exact .mk HQ.out HE.out rfl (fun h => absurd h hc)

end Go.Proofs.YtoedccgiahegnaaGreat
