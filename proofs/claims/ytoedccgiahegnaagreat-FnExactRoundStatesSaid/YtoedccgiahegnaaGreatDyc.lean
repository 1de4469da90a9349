/- The program's evaluation with pairs: calls. -/
import Derived.Deep.RegionHeld3
import Derived.Deep.RegionWith
import Derived.Test.YtoedccgiahegnaaGreatDx
namespace Go.Proofs.YtoedccgiahegnaaGreat
open Go.RowKit
set_option linter.unusedVariables false

namespace Pr
set_option maxRecDepth 100000 in
set_option maxHeartbeats 6400000 in
theorem iCall {fs : List Fn} {ap : Option Addr} {capp bv B f : Nat} (hBv : B ≤ bv) (hV : PV fs ap capp bv B f) (hVL : PL fs ap capp bv B f) (hFn : ∀ i, i < fs.length → fnB fs i = true) (hfl : fs.length ≤ 1048576) (fi : Nat) (n p : Int) (ks : Fo) (a : Option Addr) (cap : Nat) (av : Option Addr) (cav : Nat) (vars : List (Int × Int)) (s : Nat) (w : World)
    (hf : 3000 < f + s) (hs : s ≤ 3000) (hfi : fi ≤ fs.length) (hE : EvAt w bv ap fs.length capp s) (hP : Pat w 0 B fs ap) (hL : Ls w bv av vars) (hN : Nums vars) (hvl : vars.length ≤ 412 + s) (hcv : vars.length ≤ cav) (hcv2 : cav ≤ 9223372036854775807)
    (hn : 0 ≤ n ∧ n < (fi : Int)) (hp : 0 ≤ p ∧ p < ((fs.getD n.toNat noFn).outs.len : Int)) (hm : (ks.len : Int) = (fs.getD n.toNat noFn).params) (kt : treeB fs (fi : Int) ks (vars.length : Int) 10 0 = true) (kf : Fat w 0 B ks a) :
    Calls Tryz.prog 138 #[.pointer (some ⟨bv, 0, none⟩), .agg #[.int .i64 n, .int .i64 p, .slice a ks.len cap], .slice av vars.length cav] w (VRes bv ap fs.length capp w (bindL pA (lisE pA (evE pA fs f) ks vars s ks.len) fun l s => atE pA (evE pA fs f) (fs.getD n.toNat noFn).outs p.toNat l s)) := by
  obtain ⟨w1, hw1⟩ : ∃ w1, (w.alloc (.cells #[.int .i64 n, .int .i64 p, .slice a ks.len cap] 184)).alloc (.cells #[.int .i64 0, .int .i64 0] 121) = w1 := ⟨_, rfl⟩
  have b1 : Below w.heap.size w w1 := by rw [← hw1]; exact ((Below.refl _ _).alloc (Nat.le_refl _) _).alloc (by simp) _
  have q1 : Kp (fun b => b = bv) w w1 := Kp.of_below b1
  have hbw := cell_lt hE.c0
  have hne : w.heap.size ≠ bv := by omega
  have y0 : w1.cell? ⟨w.heap.size, 0, none⟩ = some (.int .i64 n) := by rw [← hw1]; simp [go_sem]
  have y1 : w1.cell? ⟨w.heap.size, 1, none⟩ = some (.int .i64 p) := by rw [← hw1]; simp [go_sem]
  have y2 : w1.cell? ⟨w.heap.size, 2, none⟩ = some (.slice a ks.len cap) := by rw [← hw1]; simp [go_sem]
  have hRb : w.heap.size + 1 ≠ bv := by omega
  have PR : Hid (PB w1 (w.heap.size + 1)) := by
    show PB _ _
    rw [← hw1]
    exact ⟨by simp, ⟨0, by simp [go_sem]⟩, ⟨0, by simp [go_sem]⟩, by simp [go_sem], by simp [go_sem]⟩
  obtain ⟨j, rfl⟩ := Int.eq_ofNat_of_zero_le hn.1
  obtain ⟨jp, rfl⟩ := Int.eq_ofNat_of_zero_le hp.1
  have hj : j < fs.length := by omega
  have ej : (j : Int).toNat = j := rfl
  have ejp : (jp : Int).toNat = jp := rfl
  rw [ej] at hp hm ⊢
  rw [ejp]
  obtain ⟨g1, g2, g3⟩ := fn_parts (hFn j hj)
  have hjp : jp < (fs.getD j noFn).outs.len := by omega
  have hst := lisE_stp (A := pA) (evE_stp (A := pA) fs f s hf) ks vars s (Nat.le_refl _) hs ks.len
  have HC := Lib.hid (hVL fi 10 ks a cap av cav vars s w1 hf hs hfi (by decide) kt (hE.next b1) (hP.keepE q1 hBv hbw) (kf.keepE q1 hBv hbw) (by omega) (hL.keep q1) hN hvl hcv hcv2)
  have HL := Lib.hid (lisE_len (A := pA) (E := evE pA fs f) (f := ks) (vars := vars) (s := s) ks.len)
  have HP := Lib.hid hP
  generalize lisE pA (evE pA fs f) ks vars s ks.len = r at HC HL hst
  clear hE hP hL kt kf
  go_enter Tryz.func138, Tryz.ntmps138
  go_wp2_with fail
  clear hw1 y2
  refine HC.out.mono ?_; rintro e w2 ⟨q2, e2, ⟨hc, g, rfl, ho, hnm⟩ | ⟨hc, rfl⟩⟩
  rotate_left
  · have hbf : (r.c != 0) = true := by simp [hc]
    have HR : Hid ((bindL pA r fun l s => atE pA (evE pA fs f) (fs.getD j noFn).outs jp l s) = ⟨(0, 0), r.s, r.c⟩) := by show _ = _; unfold bindL; rw [if_neg hc]; rfl
    clear HC HL y0 y1
    obtain ⟨w5, hw5⟩ : ∃ w5, w2.alloc (.cells #[.int .i64 0, .int .i64 0] 121) = w5 := ⟨_, rfl⟩
    have b5 : Below w2.heap.size w2 w5 := by rw [← hw5]; exact (Below.refl _ _).alloc (Nat.le_refl _) _
    have m0 : w5.cell? ⟨w2.heap.size, 0, none⟩ = some (.int .i64 0) := by rw [← hw5]; simp [go_sem]
    have m1 : w5.cell? ⟨w2.heap.size, 1, none⟩ = some (.int .i64 0) := by rw [← hw5]; simp [go_sem]
    obtain ⟨hRl, ⟨u0, s0⟩, ⟨u1, s1⟩, f0, f1⟩ := (PR.out.keep q2 hRb).next b5
    go_wp2_with fail
    refine bodyPost_ret (v := .tuple #[.agg #[.int .i64 0, .int .i64 0], .int .i64 r.c]) (by simp [results, Tryz.results138, go_sem, s0, s1]) rfl ?_
    rw [HR.out]
    exact .mk (v := (0, 0)) (kp_pair ((q1.trans q2).more b5) (by omega) _ _) ((e2.next b5).pair hRb _ _) rfl (fun h => absurd h hc)
  have hln := HL.out hc
  have qq := q1.trans q2
  replace y0 := q2.cell y0 hne
  replace y1 := q2.cell y1 hne
  have P5 := PR.out.keep q2 hRb
  have x1 := e2.c1
  have z1 := b1.size
  have z2 := q2.size
  obtain ⟨bf, of, rfl, hbB, hall⟩ := (HP.out.keepE qq hBv hbw).resolve_left (by intro e; rw [e] at hj; simp at hj)
  obtain ⟨hr, af, cf, f0, f1, f2, hFo⟩ := hall j hj
  obtain ⟨bo, oo, rfl, hoB⟩ := hFo.blk (by omega)
  obtain ⟨k', n', p', c', kk, a', cap', hd, hR, hkl, t0, t1, t2, t3, t4, hFk⟩ := Fat.node hFo hjp
  obtain ⟨v1, v2⟩ := treeB_at (fs.getD j noFn).outs 0 jp g3 hd
  have hmo : more 0 (0 + jp) = 0 := by unfold more; rw [if_neg (by omega)]
  have hlp : (r.l.length : Int) = (fs.getD j noFn).params := by rw [hln]; exact hm
  rw [hmo, Int.add_zero, ← hlp] at v1 v2
  have HR : Hid ((bindL pA r fun l s => atE pA (evE pA fs f) (fs.getD j noFn).outs jp l s) = evE pA fs f k' n' p' c' kk r.l r.s) := by show _ = _; unfold bindL; rw [if_pos hc]; exact atE_eq hd
  have HVC := fun (W : World) (hk : Below w2.heap.size w2 W) => Lib.hid (hV j k' n' p' c' kk a' cap' (some ⟨g, 0, none⟩) r.l.length r.l r.s W (by omega) hst.2 (by omega) v1 v2 (e2.next hk) ((HP.out.keepE qq hBv hbw).below (hk.mono (by omega))) (hFk.agree (fun j _ h2 => hk.block j (by omega))) hkl ((ho.ls (by omega)).keep (Kp.of_below hk)) hnm (by omega) (Nat.le_refl _) (by omega))
  have hji : (j : Int) < (fs.length : Int) := by omega
  have hjpi : (jp : Int) < ((fs.getD j noFn).outs.len : Int) := by omega
  clear HC HL hall hr f0 f1 hFo hFk v1 v2 hd hR ho hnm hln hlp hm hp g1 g2 g3 hmo
  generalize (fs.getD j noFn).outs.len = ml at *
  go_wp2_with fail
  go_region_with (go_at_call 122; refine (HVC _ (Below.refl w2.heap.size w2).drew).out.mono ?_; rintro e w9 ⟨q9, e9, v9, rfl, hv9⟩; obtain ⟨hRl, ⟨u0, s0⟩, ⟨u1, s1⟩, f0, f1⟩ := (P5.next (Below.refl w2.heap.size w2).drew).keep q9 hRb)
  all_goals
    go_wp2_with fail
    refine bodyPost_ret (v := .tuple #[.agg #[.int .i64 v9.1, .int .i64 v9.2], .int .i64 (evE pA fs f k' n' p' c' kk r.l r.s).c]) (by simp [results, Tryz.results138, go_sem, s0, s1]) rfl ?_
    rw [HR.out]
    exact .mk (v := v9) (kp_pair ((qq.more (Below.refl w2.heap.size w2).drew).trans q9) (by omega) _ _) (e9.pair hRb _ _) rfl hv9

end Pr

end Go.Proofs.YtoedccgiahegnaaGreat
