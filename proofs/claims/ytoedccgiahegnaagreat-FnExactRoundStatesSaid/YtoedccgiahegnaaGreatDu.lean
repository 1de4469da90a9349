/- The program's evaluation with pairs, whole. -/
import Derived.Test.YtoedccgiahegnaaGreatDz
import Derived.Test.YtoedccgiahegnaaGreatAre
namespace Go.Proofs.YtoedccgiahegnaaGreat
open Go.RowKit
set_option linter.unusedVariables false

namespace Pr
set_option maxRecDepth 100000 in
set_option maxHeartbeats 3200000 in
theorem iValueEnd {fs : List Fn} {ap : Option Addr} {capp bv f : Nat} (k n p c : Int) (ks : Fo) (a : Option Addr) (cap : Nat) (av : Option Addr) (cav : Nat) (vars : List (Int × Int)) (s : Nat) (w : World) (h3 : s = 3000) (hE : EvAt w bv ap fs.length capp s) :
    Calls Tryz.prog 122 #[.pointer (some ⟨bv, 0, none⟩), .agg #[.int .i64 k, .int .i64 n, .int .i64 p, .int .i64 c, .slice a ks.len cap], .slice av vars.length cav] w (VRes bv ap fs.length capp w (evE pA fs (f + 1) k n p c ks vars s)) := by
  rw [evE_end h3]
  have h3b : ((s : Int) == 3000) = true := by subst h3; rfl
  have hbw := cell_lt hE.c0
  have hne2 : ¬ bv = w.heap.size := by omega
  obtain ⟨wA, hwA⟩ : ∃ wA, ((w.alloc (.cells #[.int .i64 k, .int .i64 n, .int .i64 p, .int .i64 c, .slice a ks.len cap] 137)).alloc (.cells #[.int .i64 0, .int .i64 0] 121)).alloc (.cells #[.int .i64 0, .int .i64 0] 121) = wA := ⟨_, rfl⟩
  have bA : Below w.heap.size w wA := by rw [← hwA]; exact (((Below.refl _ _).alloc (Nat.le_refl _) _).alloc (by simp) _).alloc (by simp; omega) _
  have r0 : wA.cell? ⟨w.heap.size + 1, 0, none⟩ = some (.int .i64 0) := by rw [← hwA]; simp [go_sem]
  have r1 : wA.cell? ⟨w.heap.size + 1, 1, none⟩ = some (.int .i64 0) := by rw [← hwA]; simp [go_sem]
  have f0 : wA.frozen? ⟨w.heap.size + 1, 0, none⟩ = false := by rw [← hwA]; simp [go_sem]
  have f1 : wA.frozen? ⟨w.heap.size + 1, 1, none⟩ = false := by rw [← hwA]; simp [go_sem]
  have n0 : wA.cell? ⟨w.heap.size + 1 + 1, 0, none⟩ = some (.int .i64 0) := by rw [← hwA]; simp [go_sem]
  have n1 : wA.cell? ⟨w.heap.size + 1 + 1, 1, none⟩ = some (.int .i64 0) := by rw [← hwA]; simp [go_sem]
  have e1 := hE.next bA
  have x2 := e1.c2
  have hRb : w.heap.size + 1 ≠ bv := by omega
  clear h3
  go_enter Tryz.func122, Tryz.ntmps122
  go_wp2_with fail
  refine bodyPost_ret (v := .tuple #[.agg #[.int .i64 0, .int .i64 0], .int .i64 7]) (by simp [results, Tryz.results122, go_sem, r0, r1]) rfl ?_
  exact .mk (v := (0, 0)) (kp_pair (Kp.of_below bA) (by omega) _ _) (e1.pair hRb _ _) rfl (fun h => by cases h)

theorem iPV {fs : List Fn} {ap : Option Addr} {capp bv B : Nat} (hBv : B ≤ bv) (hFn : ∀ i, i < fs.length → fnB fs i = true) (hfl : fs.length ≤ 1048576) : ∀ f, PV fs ap capp bv B f
  | 0 => by
    intro fi k n p c ks a cap av cav vars s w hf hs
    omega
  | f + 1 => by
    have hV := iPV (ap := ap) (capp := capp) hBv hFn hfl f
    have hVL := iValues hBv hV
    intro fi k n p c ks a cap av cav vars s w hf hs hfi hn ht hE hP hF hkl hL hN hvl hcv hcv2
    by_cases h3 : s = 3000
    · exact iValueEnd k n p c ks a cap av cav vars s w h3 hE
    by_cases h1 : k = 1
    · subst h1; exact iValueNum hBv hV hVL hFn hfl fi n p c ks a cap av cav vars s w hf hs h3 hfi hn ht hE hP hF hkl hL hN hvl hcv hcv2
    by_cases h2 : k = 2
    · subst h2; exact iValueVar hBv hV hVL hFn hfl fi n p c ks a cap av cav vars s w hf hs h3 hfi hn ht hE hP hF hkl hL hN hvl hcv hcv2
    by_cases h7 : k = 7
    · subst h7; exact iValueNeg hBv hV hVL hFn hfl fi n p c ks a cap av cav vars s w hf hs h3 hfi hn ht hE hP hF hkl hL hN hvl hcv hcv2
    by_cases h8 : k = 8
    · subst h8; exact iValueIf hBv hV hVL hFn hfl fi n p c ks a cap av cav vars s w hf hs h3 hfi hn ht hE hP hF hkl hL hN hvl hcv hcv2
    by_cases h9 : k = 9
    · subst h9; exact iValueLet hBv hV hVL hFn hfl fi n p c ks a cap av cav vars s w hf hs h3 hfi hn ht hE hP hF hkl hL hN hvl hcv hcv2
    by_cases h10 : k = 10
    · subst h10; exact iValueCall hBv hV hVL hFn hfl fi n p c ks a cap av cav vars s w hf hs h3 hfi hn ht hE hP hF hkl hL hN hvl hcv hcv2
    by_cases h11 : k = 11
    · subst h11; exact iValueLoop hBv hV hVL hFn hfl fi n p c ks a cap av cav vars s w hf hs h3 hfi hn ht hE hP hF hkl hL hN hvl hcv hcv2
    exact iValueOp hBv hV hVL hFn hfl fi k n p c ks a cap av cav vars s w hf hs h3 hfi ⟨h1, h2, h7, h8, h9, h10, h11⟩ hn ht hE hP hF hkl hL hN hvl hcv hcv2

/-- the answer of an evaluation -/
def EvRes (w : World) (r : Rl (Int × Int)) (e : Ending) (w' : World) : Prop :=
  Below w.heap.size w w' ∧ ((r.c = 0 ∧ ∃ g, e = .returned (.tuple #[.slice (some ⟨g, 0, none⟩) r.l.length r.l.length, .int .i64 r.s, .int .i64 0]) ∧ Own w.heap.size w' g r.l.length r.l ∧ Nums r.l) ∨ (¬ r.c = 0 ∧ e = .returned (.tuple #[.slice none 0 0, .int .i64 0, .int .i64 r.c])))

set_option maxRecDepth 100000 in
set_option maxHeartbeats 3200000 in
theorem iEvaluateN (fs : List Fn) (ap : Option Addr) (capp : Nat) (j : Nat) (af : Option Addr) (cf : Nat) (aa : Option Addr) (ca : Nat) (args : List (Int × Int)) (w : World)
    (hpb : progB fs = true) (hj : j < fs.length) (hfl : fs.length ≤ 1048576) (hP : Pat w 0 w.heap.size fs ap) (hFo : Fat w 0 w.heap.size (fs.getD j noFn).outs af) (hA : At w aa args) (hN : Nums args) (hal : (args.length : Int) = (fs.getD j noFn).params) (hca : args.length ≤ ca) (hca2 : ca ≤ 9223372036854775807) :
    Calls Tryz.prog 79 #[ofP, .slice ap fs.length capp, .agg #[.string (fs.getD j noFn).name, .int .i64 (fs.getD j noFn).params, .slice af (fs.getD j noFn).outs.len cf], .slice aa args.length ca] w (EvRes w (lisE pA (evE pA fs 3001) (fs.getD j noFn).outs args 0 (fs.getD j noFn).outs.len)) := by
  obtain ⟨g1, g2, g3⟩ := fn_parts (progB_fn hpb hj)
  obtain ⟨w1, hw1⟩ : ∃ w1, w1 = (w.alloc (.cells #[.string (fs.getD j noFn).name, .int .i64 (fs.getD j noFn).params, .slice af (fs.getD j noFn).outs.len cf] 63)).alloc (.cells #[ofP, .slice ap fs.length capp, .int .i64 0] 149) := ⟨_, rfl⟩
  have b1 : Below w.heap.size w w1 := by rw [hw1]; exact ((Below.refl _ _).alloc (Nat.le_refl _) _).alloc (by simp) _
  have z1 : w1.heap.size = w.heap.size + 1 + 1 := by rw [hw1]; simp
  have E1 : EvAt w1 (w.heap.size + 1) ap fs.length capp 0 := ⟨by rw [hw1]; simp [go_sem], by rw [hw1]; simp [go_sem], by rw [hw1]; simp [go_sem], fun o => by rw [hw1]; simp [go_sem]⟩
  have y2 : w1.cell? ⟨w.heap.size, 2, none⟩ = some (.slice af (fs.getD j noFn).outs.len cf) := by rw [hw1]; simp [go_sem]
  have hL : Ls w1 (w.heap.size + 1) aa args := by
    refine ⟨hA.below b1 (Nat.le_refl _), fun g hne0 hg => ?_⟩
    by_cases hl : args = []
    · exact absurd hl hne0
    · obtain ⟨b, off, rfl, hb, _⟩ := hA.resolve_left hl
      simp at hg
      omega
  have HV := Lib.hid (iValues (Nat.le_succ _) (iPV (ap := ap) (capp := capp) (bv := w.heap.size + 1) (B := w.heap.size) (Nat.le_succ _) (fun i hi => progB_fn hpb hi) hfl 3001) j 0 (fs.getD j noFn).outs af cf aa ca args 0 w1 (by omega) (by omega) (by omega) (by decide) (by rw [hal]; exact g3) E1 (hP.below b1) (hFo.agree (fun i _ h2 => b1.block i h2)) (by omega) hL hN (by omega) hca hca2)
  generalize lisE pA (evE pA fs 3001) (fs.getD j noFn).outs args 0 (fs.getD j noFn).outs.len = r at HV ⊢
  clear g1 g2 g3 E1 hL hP hFo hA
  generalize (fs.getD j noFn).name = nm at *
  generalize (fs.getD j noFn).params = pa at *
  generalize (fs.getD j noFn).outs.len = ml at *
  go_enter Tryz.func79, Tryz.ntmps79
  go_wp2_with fail
  rw [← hw1]
  clear hw1
  refine HV.out.mono ?_; rintro e w2 ⟨k2, e2, ⟨hc, g, rfl, ho, hnm⟩ | ⟨hc, rfl⟩⟩
  · have B2 : Below w.heap.size w w2 := b1.trans (k2.below (by omega) (fun b hb => by omega))
    have x2 := e2.c2
    have HX : Hid (∀ q, EvRes w r (.returned (.tuple #[.slice (some ⟨g, 0, none⟩) r.l.length r.l.length, .int .i64 r.s, .int .i64 0])) (w2.drewN q)) := fun q => ⟨below_drewN B2 _, .inl ⟨hc, g, rfl, (ho.mono (by omega)).kept (below_drewN (Below.refl w2.heap.size w2) q) ho.base.2, hnm⟩⟩
    clear HV ho hnm
    go_wp2_with fail
    go_quiet (fail)
    go_wp2_with fail
    go_ret3
    exact HX.out _
  · have hbf : (r.c != 0) = true := by simp [hc]
    have B2 : Below w.heap.size w w2 := b1.trans (k2.below (by omega) (fun b hb => by omega))
    clear HV
    go_wp2_with fail
    go_ret3
    exact ⟨B2, .inr ⟨hc, rfl⟩⟩

end Pr

end Go.Proofs.YtoedccgiahegnaaGreat
