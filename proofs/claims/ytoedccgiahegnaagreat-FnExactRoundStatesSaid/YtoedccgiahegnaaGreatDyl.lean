/- The program's evaluation with pairs: loops. -/
import Derived.Deep.RegionHeld3
import Derived.Deep.RegionWith
import Derived.Test.YtoedccgiahegnaaGreatDx
namespace Go.Proofs.YtoedccgiahegnaaGreat
open Go.RowKit
set_option linter.unusedVariables false

namespace Pr
theorem resL {w w' : World} {r : Rl (Int × Int)} {e : Ending} (h : (r.c = 0 ∧ ∃ g, e = .returned (.tuple #[.slice (some ⟨g, 0, none⟩) r.l.length r.l.length, .int .i64 0]) ∧ Own w.heap.size w' g r.l.length r.l ∧ Nums r.l) ∨ (¬ r.c = 0 ∧ e = .returned (.tuple #[.slice none 0 0, .int .i64 r.c]))) :
    ∃ lv, e = .returned (.tuple #[lv, .int .i64 r.c]) ∧ ((r.c = 0 ∧ ∃ g, lv = .slice (some ⟨g, 0, none⟩) r.l.length r.l.length ∧ Own w.heap.size w' g r.l.length r.l ∧ Nums r.l) ∨ ¬ r.c = 0) := by
  rcases h with ⟨hc, g, he, ho, hnm⟩ | ⟨hc, he⟩
  · exact ⟨_, by rw [hc]; exact he, .inl ⟨hc, g, rfl, ho, hnm⟩⟩
  · exact ⟨_, he, .inr hc⟩
theorem resLm {L L' : Nat} {w' : World} {r : Rl (Int × Int)} {lv : Value} (h : (r.c = 0 ∧ ∃ g, lv = .slice (some ⟨g, 0, none⟩) r.l.length r.l.length ∧ Own L' w' g r.l.length r.l ∧ Nums r.l) ∨ ¬ r.c = 0) (hL : L ≤ L') : (r.c = 0 ∧ ∃ g, lv = .slice (some ⟨g, 0, none⟩) r.l.length r.l.length ∧ Own L w' g r.l.length r.l ∧ Nums r.l) ∨ ¬ r.c = 0 :=
  h.imp (fun ⟨h1, g, h2, h3, h4⟩ => ⟨h1, g, h2, h3.mono hL, h4⟩) id

set_option maxRecDepth 100000 in
set_option maxHeartbeats 6400000 in
theorem iLoop {fs : List Fn} {ap : Option Addr} {capp bv B f : Nat} (hBv : B ≤ bv) (hVL : PL fs ap capp bv B f) (hFn : ∀ i, i < fs.length → fnB fs i = true) (hfl : fs.length ≤ 1048576) (fi : Nat) (n p c : Int) (ks : Fo) (a : Option Addr) (cap : Nat) (av : Option Addr) (cav : Nat) (vars : List (Int × Int)) (s : Nat) (w : World)
    (hf : 3000 < f + s) (hs : s ≤ 3000) (hfi : fi ≤ fs.length) (hE : EvAt w bv ap fs.length capp s) (hP : Pat w 0 B fs ap) (hL : Ls w bv av vars) (hN : Nums vars) (hvl : vars.length ≤ 412 + s) (hcv : vars.length ≤ cav) (hcv2 : cav ≤ 9223372036854775807)
    (hn : 0 ≤ n ∧ n < (fi : Int)) (hp : 0 ≤ p ∧ p < ((fs.getD n.toNat noFn).outs.len : Int)) (hm : (ks.len : Int) = (fs.getD n.toNat noFn).params) (hcc : 0 ≤ c ∧ c ≤ 8) (hop : ((fs.getD n.toNat noFn).outs.len : Int) = (fs.getD n.toNat noFn).params) (kt : treeB fs (fi : Int) ks (vars.length : Int) 11 0 = true) (kf : Fat w 0 B ks a) :
    Calls Tryz.prog 139 #[.pointer (some ⟨bv, 0, none⟩), .agg #[.int .i64 n, .int .i64 p, .int .i64 c, .slice a ks.len cap], .slice av vars.length cav] w (VRes bv ap fs.length capp w (bindL pA (lopE pA (evE pA fs f) (fs.getD n.toNat noFn).outs (lisE pA (evE pA fs f) ks vars s ks.len) c.toNat) fun l s => ⟨l.getD p.toNat (pA.cst 0), s, 0⟩)) := by
  obtain ⟨w1, hw1⟩ : ∃ w1, (w.alloc (.cells #[.int .i64 n, .int .i64 p, .int .i64 c, .slice a ks.len cap] 187)).alloc (.cells #[.int .i64 0, .int .i64 0] 121) = w1 := ⟨_, rfl⟩
  have b1 : Below w.heap.size w w1 := by rw [← hw1]; exact ((Below.refl _ _).alloc (Nat.le_refl _) _).alloc (by simp) _
  have q1 : Kp (fun b => b = bv) w w1 := Kp.of_below b1
  have hbw := cell_lt hE.c0
  have hne : w.heap.size ≠ bv := by omega
  have y0 : w1.cell? ⟨w.heap.size, 0, none⟩ = some (.int .i64 n) := by rw [← hw1]; simp [go_sem]
  have y1 : w1.cell? ⟨w.heap.size, 1, none⟩ = some (.int .i64 p) := by rw [← hw1]; simp [go_sem]
  have y2 : w1.cell? ⟨w.heap.size, 2, none⟩ = some (.int .i64 c) := by rw [← hw1]; simp [go_sem]
  have y3 : w1.cell? ⟨w.heap.size, 3, none⟩ = some (.slice a ks.len cap) := by rw [← hw1]; simp [go_sem]
  have hRb : w.heap.size + 1 ≠ bv := by omega
  have PR : Hid (PB w1 (w.heap.size + 1)) := by
    show PB _ _
    rw [← hw1]
    exact ⟨by simp, ⟨0, by simp [go_sem]⟩, ⟨0, by simp [go_sem]⟩, by simp [go_sem], by simp [go_sem]⟩
  obtain ⟨j, rfl⟩ := Int.eq_ofNat_of_zero_le hn.1
  obtain ⟨jp, rfl⟩ := Int.eq_ofNat_of_zero_le hp.1
  obtain ⟨m, rfl⟩ := Int.eq_ofNat_of_zero_le hcc.1
  have hj : j < fs.length := by omega
  have ej : (j : Int).toNat = j := rfl
  have ejp : (jp : Int).toNat = jp := rfl
  have em : (m : Int).toNat = m := rfl
  rw [ej] at hp hm hop ⊢
  rw [ejp, em]
  obtain ⟨g1, g2, g3⟩ := fn_parts (hFn j hj)
  have hjp : jp < (fs.getD j noFn).outs.len := by omega
  obtain ⟨O, hO⟩ : ∃ O, O = (fs.getD j noFn).outs := ⟨_, rfl⟩
  have HOE := Lib.hid hO
  rw [← hO] at hjp hp hop g2 g3 ⊢
  clear hO
  have hst := lisE_stp (A := pA) (evE_stp (A := pA) fs f s hf) ks vars s (Nat.le_refl _) hs ks.len
  have hsl := lopE_stp (A := pA) (evE_stp (A := pA) fs f s hf) O (lisE pA (evE pA fs f) ks vars s ks.len) hst.1 hst.2
  have HC := Lib.hid (hVL fi 11 ks a cap av cav vars s w1 hf hs hfi (by decide) kt (hE.next b1) (hP.keepE q1 hBv hbw) (kf.keepE q1 hBv hbw) (by omega) (hL.keep q1) hN hvl hcv hcv2)
  have HL := Lib.hid (lisE_len (A := pA) (E := evE pA fs f) (f := ks) (vars := vars) (s := s) ks.len)
  have HP := Lib.hid hP
  generalize lisE pA (evE pA fs f) ks vars s ks.len = r at HC HL hst hsl
  have HLN : Hid (∀ i, (lopE pA (evE pA fs f) O r i).c = 0 → ((lopE pA (evE pA fs f) O r i).l.length : Int) = (fs.getD j noFn).params) := by
    intro i
    induction i with
    | zero => intro h; show (r.l.length : Int) = _; rw [HL.out h]; exact hm
    | succ i ih =>
      intro h
      by_cases h0 : (lopE pA (evE pA fs f) O r i).c = 0
      · rw [lopE_step h0] at h ⊢; rw [lisE_len _ h]; exact hop
      · rw [lopE, if_neg h0] at h; exact absurd h h0
  obtain ⟨R0, hR0⟩ : ∃ R0, R0 = (bindL pA (lopE pA (evE pA fs f) O r m) fun l s => (⟨l.getD jp (pA.cst 0), s, 0⟩ : Rv (Int × Int))) := ⟨_, rfl⟩
  rw [← hR0]
  have HR0 := Lib.hid hR0
  have HSL := Lib.hid hsl
  have HOUT := Lib.hid hop
  clear hE hP hL kt kf hsl hop hR0
  go_enter Tryz.func139, Tryz.ntmps139
  go_wp2_with fail
  clear hw1 y3
  have z1 := b1.size
  refine HC.out.mono ?_; intro e w2 hres
  obtain ⟨q2, e2, hres⟩ := hres
  have qq := q1.trans q2
  have z2 := q2.size
  replace y0 := q2.cell y0 hne
  replace y1 := q2.cell y1 hne
  replace y2 := q2.cell y2 hne
  have hlist : ∃ lv, e = .returned (.tuple #[lv, .int .i64 r.c]) ∧ ((r.c = 0 ∧ ∃ g, lv = .slice (some ⟨g, 0, none⟩) r.l.length r.l.length ∧ Own w.heap.size w2 g r.l.length r.l ∧ Nums r.l) ∨ ¬ r.c = 0) := by
    rcases hres with ⟨hc, g, he, ho, hnm⟩ | ⟨hc, he⟩
    · exact ⟨_, by rw [hc]; exact he, .inl ⟨hc, g, rfl, ho.mono z1, hnm⟩⟩
    · exact ⟨_, he, .inr hc⟩
  obtain ⟨lv, rfl, hlv⟩ := hlist
  have HQ0 := Lib.hid qq
  have HE0 := Lib.hid e2
  have HLV0 := Lib.hid hlv
  have HY0 : Hid (w2.cell? ⟨w.heap.size, 0, none⟩ = some (.int .i64 j) ∧ w2.cell? ⟨w.heap.size, 1, none⟩ = some (.int .i64 jp) ∧ w2.cell? ⟨w.heap.size, 2, none⟩ = some (.int .i64 m) ∧ PB w2 (w.heap.size + 1)) := ⟨y0, y1, y2, PR.out.keep q2 hRb⟩
  have hzz : w.heap.size < w2.heap.size := cell_lt y0
  clear HC hres hlv qq q1 q2 b1 e2 y0 y1 y2
  go_wp2_with fail
  go_loopw [8, 9, 10] (fun lx cx x wr => ∃ i : Nat, i ≤ m ∧ x = .int .i64 i ∧ cx = .int .i64 (lopE pA (evE pA fs f) O r i).c ∧ Hid (Kp (fun b => b = bv) w wr) ∧ Hid (EvAt wr bv ap fs.length capp (lopE pA (evE pA fs f) O r i).s) ∧ Hid (((lopE pA (evE pA fs f) O r i).c = 0 ∧ ∃ g, lx = .slice (some ⟨g, 0, none⟩) (lopE pA (evE pA fs f) O r i).l.length (lopE pA (evE pA fs f) O r i).l.length ∧ Own w.heap.size wr g (lopE pA (evE pA fs f) O r i).l.length (lopE pA (evE pA fs f) O r i).l ∧ Nums (lopE pA (evE pA fs f) O r i).l) ∨ ¬ (lopE pA (evE pA fs f) O r i).c = 0) ∧ Hid (wr.cell? ⟨w.heap.size, 0, none⟩ = some (.int .i64 j) ∧ wr.cell? ⟨w.heap.size, 1, none⟩ = some (.int .i64 jp) ∧ wr.cell? ⟨w.heap.size, 2, none⟩ = some (.int .i64 m) ∧ PB wr (w.heap.size + 1)) ∧ w.heap.size < wr.heap.size) (fun _ _ x _ => m - (intOf x).toNat)
  case atStart => exact ⟨0, Nat.zero_le _, rfl, rfl, HQ0.out, HE0.out, HLV0.out, HY0.out, hzz⟩
  case round =>
    obtain ⟨i, hi, rfl, rfl, HQ, HE, HLV, HY, hzr⟩ := hrel
    clear HQ0 HE0 HLV0 HY0 hzz
    obtain ⟨y0, y1, y2, PW⟩ := id HY.out
    have hsi := HSL.out i
    by_cases hc : (lopE pA (evE pA fs f) O r i).c = 0
    · have hcb : ((lopE pA (evE pA fs f) O r i).c == 0) = true := by rw [hc]; rfl
      obtain ⟨_, g, rfl, ho, hnm⟩ := HLV.out.resolve_right (fun h => h hc)
      have hlen := HLN.out i hc
      by_cases hlt : i < m
      · have hii : (i : Int) < (m : Int) := by omega
        have HS : Hid (lopE pA (evE pA fs f) O r (i + 1) = lisE pA (evE pA fs f) O (lopE pA (evE pA fs f) O r i).l (lopE pA (evE pA fs f) O r i).s O.len) := lopE_step hc
        generalize lopE pA (evE pA fs f) O r i = X at *
        have x1 := HE.out.c1
        obtain ⟨bf, of, rfl, hbB, hall⟩ := (HP.out.keepE HQ.out hBv hbw).resolve_left (by intro e; rw [e] at hj; simp at hj)
        obtain ⟨hr, af, cf, f0, f1, f2, hFo⟩ := hall j hj
        rw [← HOE.out] at f2 hFo
        have g3' : treeB fs (j : Int) O (X.l.length : Int) 0 0 = true := by rw [hlen]; exact g3
        have HVC := fun (W : World) (hk : Below wr.heap.size wr W) => Lib.hid (hVL j 0 O af cf (some ⟨g, 0, none⟩) X.l.length X.l X.s W (by omega) hsi.2 (by omega) (by decide) g3' (HE.out.next hk) ((HP.out.keepE HQ.out hBv hbw).below (hk.mono (by omega))) (hFo.agree (fun j _ h2 => hk.block j (by omega))) (by omega) ((ho.ls hbw).keep (Kp.of_below hk)) hnm (by omega) (Nat.le_refl _) (by omega))
        rw [← HS.out] at HVC
        have hji : (j : Int) < (fs.length : Int) := by omega
        clear hall hr f0 f1 hFo ho hnm HLV g3' HS
        generalize O.len = ml at *
        go_wp2_with fail
        go_region_with (go_at_call 99; refine (HVC _ (Below.refl wr.heap.size wr).drew).out.mono ?_; intro e w9 hres9; obtain ⟨q9, e9, hl9⟩ := hres9; obtain ⟨lv9, rfl, hlv9⟩ := resL hl9)
        all_goals
          have hk9 := (Kp.of_below (S := fun b => b = bv) (Below.refl wr.heap.size wr).drew).trans q9
          have hq9 := HQ.out.trans hk9
          have HL9 := Lib.hid (resLm hlv9 (L := w.heap.size) (by have := HQ.out.size; simp; omega))
          go_wp2_with fail
          go_roundw
          case rel => exact ⟨i + 1, by omega, by go_num, rfl, hq9, e9, HL9.out, ⟨hk9.cell y0 hne, hk9.cell y1 hne, hk9.cell y2 hne, PW.keep hk9 hRb⟩, Nat.lt_of_lt_of_le hzr hk9.size⟩
          case measure => simp [intOf]; omega
      · have hii : ¬ (i : Int) < (m : Int) := by omega
        obtain rfl : i = m := by omega
        have hbf : ((lopE pA (evE pA fs f) O r i).c != 0) = false := by rw [hc]; rfl
        have HR : Hid (R0 = ⟨(lopE pA (evE pA fs f) O r i).l.getD jp (0, 0), (lopE pA (evE pA fs f) O r i).s, 0⟩) := by show _ = _; rw [HR0.out]; unfold bindL; rw [if_pos hc]; rfl
        have hx := ho.cell0 jp (by have := HOUT.out; omega)
        have hx1 := ho.cell1 jp (by have := HOUT.out; omega)
        have hxn := hnm.at jp
        have hjl : (jp : Int) < ((lopE pA (evE pA fs f) O r i).l.length : Int) := by have := HOUT.out; omega
        have hgb := ho.base.2
        clear ho hnm HLV HR0
        generalize lopE pA (evE pA fs f) O r i = X at *
        generalize X.l.getD jp (0, 0) = x at *
        generalize X.l.length = ml at *
        obtain ⟨hRl, ⟨u0, s0⟩, ⟨u1, s1⟩, f0, f1⟩ := PW
        go_wp2_with fail
        refine bodyPost_ret (v := .tuple #[.agg #[.int .i64 x.1, .int .i64 x.2], .int .i64 0]) (by simp [results, Tryz.results139, go_sem, s0, s1]) rfl ?_
        rw [HR.out]
        exact .mk (v := x) (kp_pair HQ.out (by omega) _ _) (HE.out.pair hRb _ _) rfl (fun _ => ⟨rfl, hxn⟩)
    · have hcb : ((lopE pA (evE pA fs f) O r i).c == 0) = false := by simp [hc]
      have hbf : ((lopE pA (evE pA fs f) O r i).c != 0) = true := by simp [hc]
      have HST : Hid (lopE pA (evE pA fs f) O r m = lopE pA (evE pA fs f) O r i) := by
        show _ = _
        have := lopE_stop hc (m - i)
        rwa [show i + (m - i) = m by omega] at this
      have HR : Hid (R0 = ⟨(0, 0), (lopE pA (evE pA fs f) O r i).s, (lopE pA (evE pA fs f) O r i).c⟩) := by show _ = _; rw [HR0.out, HST.out]; unfold bindL; rw [if_neg hc]; rfl
      clear HLV HST HR0
      generalize lopE pA (evE pA fs f) O r i = X at *
      by_cases hlt : (i : Int) < (m : Int)
      · obtain ⟨w5, hw5⟩ : ∃ w5, wr.alloc (.cells #[.int .i64 0, .int .i64 0] 121) = w5 := ⟨_, rfl⟩
        have b5 : Below wr.heap.size wr w5 := by rw [← hw5]; exact (Below.refl _ _).alloc (Nat.le_refl _) _
        have m0 : w5.cell? ⟨wr.heap.size, 0, none⟩ = some (.int .i64 0) := by rw [← hw5]; simp [go_sem]
        have m1 : w5.cell? ⟨wr.heap.size, 1, none⟩ = some (.int .i64 0) := by rw [← hw5]; simp [go_sem]
        obtain ⟨hRl, ⟨u0, s0⟩, ⟨u1, s1⟩, f0, f1⟩ := PW.next b5
        go_wp2_with fail
        refine bodyPost_ret (v := .tuple #[.agg #[.int .i64 0, .int .i64 0], .int .i64 X.c]) (by simp [results, Tryz.results139, go_sem, s0, s1]) rfl ?_
        rw [HR.out]
        exact .mk (v := (0, 0)) (kp_pair (HQ.out.more b5) (by omega) _ _) ((HE.out.next b5).pair hRb _ _) rfl (fun h => absurd h hc)
      · obtain ⟨w5, hw5⟩ : ∃ w5, wr.alloc (.cells #[.int .i64 0, .int .i64 0] 121) = w5 := ⟨_, rfl⟩
        have b5 : Below wr.heap.size wr w5 := by rw [← hw5]; exact (Below.refl _ _).alloc (Nat.le_refl _) _
        have m0 : w5.cell? ⟨wr.heap.size, 0, none⟩ = some (.int .i64 0) := by rw [← hw5]; simp [go_sem]
        have m1 : w5.cell? ⟨wr.heap.size, 1, none⟩ = some (.int .i64 0) := by rw [← hw5]; simp [go_sem]
        obtain ⟨hRl, ⟨u0, s0⟩, ⟨u1, s1⟩, f0, f1⟩ := PW.next b5
        go_wp2_with fail
        refine bodyPost_ret (v := .tuple #[.agg #[.int .i64 0, .int .i64 0], .int .i64 X.c]) (by simp [results, Tryz.results139, go_sem, s0, s1]) rfl ?_
        rw [HR.out]
        exact .mk (v := (0, 0)) (kp_pair (HQ.out.more b5) (by omega) _ _) ((HE.out.next b5).pair hRb _ _) rfl (fun h => absurd h hc)

end Pr

end Go.Proofs.YtoedccgiahegnaaGreat
