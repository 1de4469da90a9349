/- The model's evaluation: calls and loops. -/
import Derived.Deep.RegionWith
import Derived.Test.YtoedccgiahegnaaGreatFc
namespace Go.Proofs.YtoedccgiahegnaaGreat
open Go.RowKit
set_option linter.unusedVariables false

theorem lisX_zero {fs : List Fn} {n f : Nat} {o : Fo} {vars : List (List Int)} {s i : Nat} : lisX fs n f 0 o vars s i = lisE (sA n) (evE (sA n) fs f) o vars s i := by unfold lisX; rw [if_pos rfl]
theorem more_zero {q : Int} (h : q ≠ 9) (j : Nat) : more q j = 0 := by unfold more; rw [if_neg (fun e => h e.1)]
/-- outputs again and again, from a state that may have failed -/
def lopX (fs : List Fn) (n f : Nat) (o : Fo) (a : Rl (List Int)) (i : Nat) : Rl (List Int) := lopE (sA n) (evE (sA n) fs f) o a i
theorem SRes.up {br bp op n : Nat} {R R' : Nat → Prop} {w w1 : World} {r r' : Rv (List Int)} {e : Ending} {w' : World} (h : SRes br bp op R' n w1 r e w') (k : Kp (fun b => b = br) w w1) (hR : ∀ g, R' g → R g ∨ w.heap.size ≤ g) (hs : r'.s = r.s) (hc : r'.c = r.c) (hv : r.c = 0 → r'.v = r.v) : SRes br bp op R n w r' e w' := by
  obtain ⟨k2, h2, a, cap, v, rfl, hl, hn, hls, hx, hvv⟩ := h
  refine ⟨k.trans k2, by rw [hs, hc]; exact h2, a, cap, v, rfl, hl, hn, hls, fun g hg => ?_, fun h0 => ?_⟩
  · rcases hx g hg with h | h
    · exact hR g h
    · exact .inr (Nat.le_trans k.size h)
  · rw [hc] at h0; rw [hvv h0, hv h0]
theorem lisX_c {fs : List Fn} {n f : Nat} {c : Int} (hc : c ≠ 0) {o : Fo} {vars : List (List Int)} {s i : Nat} : lisX fs n f c o vars s i = ⟨[], s, c⟩ := by unfold lisX; rw [if_neg hc]
theorem callX_eq {fs : List Fn} {n f jp : Nat} {O : Fo} {r : Rl (List Int)} {vs : List (List Int)} {k nn p cc : Int} {kk rr : Fo} {R0 : Rv (List Int)} (hL : r.c = 0 → vs = r.l) (hd : Fo.drop jp O = .cons k nn p cc kk rr) (h0 : R0 = bindL (sA n) r (fun l s => atE (sA n) (evE (sA n) fs f) O jp l s)) :
    R0.s = (evX fs n f r.c k nn p cc kk vs r.s).s ∧ R0.c = (evX fs n f r.c k nn p cc kk vs r.s).c ∧ ((evX fs n f r.c k nn p cc kk vs r.s).c = 0 → R0.v = (evX fs n f r.c k nn p cc kk vs r.s).v) := by
  subst h0
  by_cases hc : r.c = 0
  · rw [hL hc]
    unfold bindL evX
    rw [if_pos hc, if_pos hc]
    dsimp only
    rw [atE_eq hd]
    exact ⟨rfl, rfl, fun _ => rfl⟩
  · unfold bindL evX
    rw [if_neg hc, if_neg hc]
    exact ⟨rfl, rfl, fun h => absurd h hc⟩
theorem lopX_step {fs : List Fn} {n f i : Nat} {O : Fo} {r : Rl (List Int)} {vs : List (List Int)} (hL : (lopE (sA n) (evE (sA n) fs f) O r i).c = 0 → vs = (lopE (sA n) (evE (sA n) fs f) O r i).l) :
    (lopE (sA n) (evE (sA n) fs f) O r (i + 1)).s = (lisX fs n f (lopE (sA n) (evE (sA n) fs f) O r i).c O vs (lopE (sA n) (evE (sA n) fs f) O r i).s O.len).s ∧ (lopE (sA n) (evE (sA n) fs f) O r (i + 1)).c = (lisX fs n f (lopE (sA n) (evE (sA n) fs f) O r i).c O vs (lopE (sA n) (evE (sA n) fs f) O r i).s O.len).c ∧
    ((lopE (sA n) (evE (sA n) fs f) O r (i + 1)).c = 0 → (lopE (sA n) (evE (sA n) fs f) O r (i + 1)).l = (lisX fs n f (lopE (sA n) (evE (sA n) fs f) O r i).c O vs (lopE (sA n) (evE (sA n) fs f) O r i).s O.len).l) := by
  by_cases hc : (lopE (sA n) (evE (sA n) fs f) O r i).c = 0
  · rw [lopE_step hc, ← hL hc, hc, lisX_zero]
    exact ⟨rfl, rfl, fun _ => rfl⟩
  · rw [lisX_c hc, lopE, if_neg hc]
    exact ⟨rfl, rfl, fun h => absurd h hc⟩
theorem lopX_end {n jp : Nat} {r : Rl (List Int)} {vs : List (List Int)} {R0 : Rv (List Int)} (hL : r.c = 0 → vs = r.l) (hj : jp < vs.length) (h0 : R0 = bindL (sA n) r (fun l s => ⟨l.getD jp ((sA n).cst 0), s, 0⟩)) : R0.s = r.s ∧ R0.c = r.c ∧ (R0.c = 0 → vs.getD jp [] = R0.v) := by
  subst h0
  unfold bindL
  by_cases hc : r.c = 0
  · rw [if_pos hc, ← hL hc]
    refine ⟨rfl, hc.symm, fun _ => ?_⟩
    dsimp only
    rw [List.getD_eq_getElem?_getD, List.getD_eq_getElem?_getD, List.getElem?_eq_getElem hj]; rfl
  · rw [if_neg hc]
    exact ⟨rfl, rfl, fun h => absurd h hc⟩
/-- the lists of a state, wherever they lie -/
structure Ep (W : World) (L br : Nat) (R : Nat → Prop) (n : Nat) (lv : Value) (m : Nat) (vars : List (List Int)) : Prop where
  ex : ∃ g kg, lv = .slice (some ⟨g, 0, none⟩) m kg ∧ En W br (fun q => R q ∨ L ≤ q ∧ q < W.heap.size) n (some ⟨g, 0, none⟩) vars
  vl : vars.length = m
theorem Eo.ep {W : World} {L br n g kg k : Nat} {R : Nat → Prop} {vars : List (List Int)} (h : Eo W L br R n g kg k vars) (hb : br < L) : Ep W L br R n (.slice (some ⟨g, 0, none⟩) k kg) k vars := ⟨⟨g, kg, rfl, h.en hb⟩, h.vl⟩
theorem Eo.down {W : World} {L L' br n g kg k : Nat} {R R' : Nat → Prop} {vars : List (List Int)} (h : Eo W L' br R' n g kg k vars) (hL : L ≤ L') (hR : ∀ q, R' q → R q ∨ L ≤ q ∧ q < L') (hb : br < L') : Ep W L br R n (.slice (some ⟨g, 0, none⟩) k kg) k vars :=
  ⟨⟨g, kg, rfl, (h.en hb).up fun q hq => by
    have hgb := h.base
    rcases hq with hq | hq
    · rcases hR q hq with h1 | h1
      · exact .inl h1
      · exact .inr ⟨h1.1, by omega⟩
    · exact .inr ⟨by omega, hq.2⟩⟩, h.vl⟩

set_option maxRecDepth 100000 in
set_option maxHeartbeats 12800000 in
theorem sCall {fs : List Fn} {ap : Option Addr} {capp br bp op n B f : Nat} (hBr : B ≤ br) (hbp : bp < B) (hV : PS fs ap capp br bp op n B f) (hVO : PSO fs ap capp br bp op n B f) (hFn : ∀ i, i < fs.length → fnB fs i = true) (hfl : fs.length ≤ 1048576)
    (R : Nat → Prop) (fi : Nat) (k nn p cc : Int) (ks : Fo) (a : Option Addr) (cap b off : Nat) (ae : Option Addr) (ce : Nat) (vars : List (List Int)) (s : Nat) (w : World)
    (hk : k = 10 ∨ k = 11) (hf : 3000 < f + s) (hs : s ≤ 3000) (hfi : fi ≤ fs.length) (hn : 0 ≤ nn ∧ nn < (fi : Int)) (hpp : 0 ≤ p ∧ p < ((fs.getD nn.toNat noFn).outs.len : Int)) (hm : (ks.len : Int) = (fs.getD nn.toNat noFn).params) (h11 : k = 11 → (0 ≤ cc ∧ cc ≤ 8) ∧ ((fs.getD nn.toNat noFn).outs.len : Int) = (fs.getD nn.toNat noFn).params)
    (ht : treeB fs (fi : Int) ks (vars.length : Int) k 0 = true) (hR : RnAt w br bp op n s 0) (hp : w.cell? ⟨bp, op, none⟩ = some (.slice ap fs.length capp)) (hP : Pat w 0 B fs ap) (hN : NodeAt w b off k nn p cc ks.len a cap) (hbB : b < B) (hF : Fat w 0 B ks a) (hkl : ks.len ≤ maxLen) (hE : En w br R n ae vars) (hRb : ∀ g, R g → g < w.heap.size) (hvl : vars.length ≤ 412 + s) :
    Calls Tryz.prog 108 #[.pointer (some ⟨br, 0, none⟩), .pointer (some ⟨b, off, none⟩), .slice ae vars.length ce] w
      (SRes br bp op R n w (if k = 10 then bindL (sA n) (lisE (sA n) (evE (sA n) fs f) ks vars s ks.len) (fun l s => atE (sA n) (evE (sA n) fs f) (fs.getD nn.toNat noFn).outs p.toNat l s) else bindL (sA n) (lopE (sA n) (evE (sA n) fs f) (fs.getD nn.toNat noFn).outs (lisE (sA n) (evE (sA n) fs f) ks vars s ks.len) cc.toNat) (fun l s => ⟨l.getD p.toNat ((sA n).cst 0), s, 0⟩))) := by
  obtain ⟨i1, hj, hy0, hy1, hy2⟩ := info_parts infoRowE
  have hbw := cell_lt hR.c0
  obtain ⟨j, rfl⟩ := Int.eq_ofNat_of_zero_le hn.1
  obtain ⟨jp, rfl⟩ := Int.eq_ofNat_of_zero_le hpp.1
  have hjf : j < fs.length := by omega
  rw [show (j : Int).toNat = j from rfl] at hpp hm h11 ⊢
  rw [show (jp : Int).toNat = jp from rfl]
  obtain ⟨g1, g2, g3⟩ := fn_parts (hFn j hjf)
  have hk9 : k ≠ 9 := by omega
  obtain ⟨R0, hR0⟩ : ∃ R0, R0 = (if k = 10 then bindL (sA n) (lisE (sA n) (evE (sA n) fs f) ks vars s ks.len) (fun l s => atE (sA n) (evE (sA n) fs f) (fs.getD j noFn).outs jp l s) else bindL (sA n) (lopE (sA n) (evE (sA n) fs f) (fs.getD j noFn).outs (lisE (sA n) (evE (sA n) fs f) ks vars s ks.len) cc.toNat) (fun l s => ⟨l.getD jp ((sA n).cst 0), s, 0⟩)) := ⟨_, rfl⟩
  rw [← hR0]
  have HR0 := Lib.hid hR0
  have b0 : Below w.heap.size w (w.alloc (.cells #[] 25)) := (Below.refl _ _).alloc (Nat.le_refl _) _
  have HO0 : Hid (Eo (w.alloc (.cells #[] 25)) w.heap.size br R n w.heap.size 0 0 []) := ⟨⟨[], World.ownsRow_made w #[] 0 (Nat.le_refl _) (by unfold maxLen; omega) rfl, fun i h => absurd h (Nat.not_lt_zero _)⟩, rfl, fun i h => absurd h (Nat.not_lt_zero _), fun i h => absurd h (Nat.not_lt_zero _)⟩
  have HK0 : Hid (Kp (fun b => b = br) w (w.alloc (.cells #[] 25))) := Kp.of_below b0
  have HR0w : Hid (RnAt (w.alloc (.cells #[] 25)) br bp op n (lisX fs n f 0 ks vars s 0).s (lisX fs n f 0 ks vars s 0).c) := by
    show RnAt _ _ _ _ _ _ _
    rw [lisX_zero]; exact hR.next b0
  have HL0 : Hid ((lisX fs n f 0 ks vars s 0).c = 0 → ([] : List (List Int)) = (lisX fs n f 0 ks vars s 0).l) := by
    show _ → _; intro _; rw [lisX_zero]; rfl
  have HP := Lib.hid hP
  have HF := Lib.hid hF
  have HE := Lib.hid hE
  have HN := Lib.hid hN
  have HH11 := Lib.hid h11
  have HM := Lib.hid hm
  have hks : ks.len ≤ 12 := by omega
  clear hP hF hE hR b0 hN h11 hR0 hm
  go_enter Tryz.func108, Tryz.ntmps108
  go_wp2_with fail
  go_loopw [7, 8] (fun lv x wr => ∃ (i g kg : Nat) (vs : List (List Int)), i ≤ ks.len ∧ x = .int .i64 i ∧ lv = .slice (some ⟨g, 0, none⟩) i kg ∧ Hid (Eo wr w.heap.size br R n g kg i vs) ∧ Hid (Kp (fun b => b = br) w wr) ∧ Hid (RnAt wr br bp op n (lisX fs n f 0 ks vars s i).s (lisX fs n f 0 ks vars s i).c) ∧ Hid ((lisX fs n f 0 ks vars s i).c = 0 → vs = (lisX fs n f 0 ks vars s i).l)) (fun _ x _ => ks.len - (intOf x).toNat)
  case atStart => exact ⟨0, w.heap.size, 0, [], Nat.zero_le _, rfl, rfl, HO0.out, HK0.out, HR0w.out, HL0.out⟩
  case round =>
    obtain ⟨i, g, kg, vs, hi, rfl, rfl, HO, HK, HR, HL⟩ := hrel
    clear HO0 HK0 HR0w HL0
    obtain ⟨n0, n1, n2, n3, n4⟩ := HN.out
    replace n0 := HK.out.cell n0 (by omega)
    replace n1 := HK.out.cell n1 (by omega)
    replace n2 := HK.out.cell n2 (by omega)
    replace n3 := HK.out.cell n3 (by omega)
    replace n4 := HK.out.cell n4 (by omega)
    by_cases hlt : i < ks.len
    · have hii : (i : Int) < (ks.len : Int) := by omega
      have hFw := HF.out.keepE HK.out hBr hbw
      obtain ⟨b1, oo, rfl, hbB1⟩ := hFw.blk (by omega)
      obtain ⟨k', nn', p', cc', kk, a', cap', hd, hRR, hkl', x0, x1, x2, x3, x4, hFk⟩ := Fat.node hFw hlt
      obtain ⟨v1, v2⟩ := treeB_at ks 0 i ht hd
      rw [more_zero hk9, Int.add_zero] at v1 v2
      have hst := lisX_stp (fs := fs) (n := n) (c := 0) (o := ks) (vars := vars) hf hs i
      have hzr := HK.out.size
      have hgb := HO.out.base
      have HC := Lib.hid (hV R fi k' nn' p' cc' kk a' cap' b1 (oo + i * 5) ae ce vars (lisX fs n f 0 ks vars s i).s (lisX fs n f 0 ks vars s i).c wr (by omega) hst.2 hfi v1 v2 HR.out (HK.out.cell hp (by omega)) (HP.out.keepE HK.out hBr hbw) ⟨x0, x1, x2, x3, x4⟩ (by omega) hFk hkl' (HE.out.keep HK.out) (fun g hg => Nat.lt_of_lt_of_le (hRb g hg) hzr) (by omega))
      obtain ⟨st1, st2, st3⟩ := lisX_step (fs := fs) (n := n) (f := f) (c := 0) (vars := vars) (s := s) hd
      have HS1 := Lib.hid st1
      have HS2 := Lib.hid st2
      have HS3 := Lib.hid st3
      clear st1 st2 st3 v1 v2 hRR hFk hFw x0 x1 x2 x3 x4 n0 n1 n2 n3
      go_wp2_with fail
      refine HC.out.mono ?_; rintro e w2 ⟨k2, r2, a2, cap2, v, rfl, hvn, hvm, hvs, hvx, hve⟩
      have hO2 := HO.out.keep k2 hbw
      have hgb2 := hO2.base
      obtain ⟨us, hu1, hu2⟩ := hO2.top
      have hul : us.length = i := by have := hu1.1; omega
      have hz2 := k2.size
      have HU2 := Lib.hid hu2
      have HOL := Lib.hid (And.intro hO2.vl (And.intro hO2.len hO2.nums))
      have hK2 := HK.out.trans k2
      clear hu2 HO HK hO2 n4
      go_wp2_with (at_builtin; refine wpList_append_lies _ rfl _ _ _ rfl w.heap.size 25 i1 _ 1 24 Tryz.underlying47 hj hy0 hy1 hy2 rfl (by omega) (.slice (some ⟨g, 0, none⟩) i kg) i us rfl (hu1.alloc _) ⟨w2.heap.size, 0, none⟩ 1 1 [.slice a2 n cap2] rfl rfl (World.news_of_block (cs := #[.slice a2 n cap2]) (t := 25) (fr := (0, 0)) (heap_alloc_new w2 _)) (by simp [Value.oneCell']) (by omega) (by unfold maxLen; omega) (by omega) (by simp; omega) (w2.heap.size + 1) (by simp) ?_; intro gg cg w4 hown4 hgrow hat hlt4)
      have hba : Below w2.heap.size w2 (w2.alloc (.cells #[.slice a2 n cap2] 25)) := (Below.refl _ _).alloc (Nat.le_refl _) _
      have hgg : gg = g ∨ w2.heap.size ≤ gg := gg_at hat rfl
      have HNN := Lib.hid (eo_push HOL.out.1 HOL.out.2.1 HOL.out.2.2 hul HU2.out hba hown4 hgrow hgg hvs hvn hvm (fun gb hg => by rcases hvx gb hg with h | h; (exact ⟨by have := hRb gb h; omega, .inl h⟩); exact ⟨by omega, .inr (by omega)⟩))
      have HKN : Hid (Kp (fun b => b = br) w w4) := kp_grown (g := g) (hK2.more hba) hgrow hgb.1
      have HRN : Hid (RnAt w4 br bp op n (lisX fs n f 0 ks vars s (i + 1)).s (lisX fs n f 0 ks vars s (i + 1)).c) := by show RnAt _ _ _ _ _ _ _; rw [HS1.out, HS2.out]; exact (r2.next hba).grown (g := g) hgrow (by omega)
      have HLN : Hid ((lisX fs n f 0 ks vars s (i + 1)).c = 0 → vs ++ [v] = (lisX fs n f 0 ks vars s (i + 1)).l) := by
        show _ → _
        intro h
        obtain ⟨h1, h2⟩ := HS3.out h
        rw [h2, HL.out h1, hve (by rw [← HS2.out]; exact h)]
      clear hown4 hgrow hat hu1 HC hve hvs hvx HOL HU2
      go_wp2_with fail
      go_roundw
      case rel => exact ⟨i + 1, gg, cg, vs ++ [v], by omega, by go_num, rfl, HNN.out, HKN.out, HRN.out, HLN.out⟩
      case measure => simp [intOf]; omega
    · have hii : ¬ (i : Int) < (ks.len : Int) := by omega
      obtain rfl : i = ks.len := by omega
      have hst := lisX_stp (fs := fs) (n := n) (c := 0) (o := ks) (vars := vars) hf hs ks.len
      have HLX : Hid (lisX fs n f 0 ks vars s ks.len = lisE (sA n) (evE (sA n) fs f) ks vars s ks.len) := lisX_zero
      have HSL := Lib.hid (fun i => lopE_stp (A := sA n) (evE_stp (A := sA n) fs f s hf) (fs.getD j noFn).outs (lisX fs n f 0 ks vars s ks.len) hst.1 hst.2 i)
      generalize lisX fs n f 0 ks vars s ks.len = r at *
      rw [← HLX.out] at HR0
      clear HLX
      have x0 := HR.out.c0
      have x1 := HK.out.cell hp (by omega)
      have hzr := HK.out.size
      have hgb := HO.out.base
      have hvl2 := HO.out.vl
      have hji : (j : Int) < (fs.length : Int) := by omega
      obtain ⟨bf, of, rfl, hbBf, hall⟩ := (HP.out.keepE HK.out hBr hbw).resolve_left (by intro e; rw [e] at hjf; simp at hjf)
      obtain ⟨hrr, af, cf, f0, f1, f2, hFo⟩ := hall j hjf
      obtain ⟨bo, oo, rfl, hoB⟩ := hFo.blk (by omega)
      have HFO := Lib.hid hFo
      have HEN := Lib.hid (HO.out.en hbw)
      have HEP := Lib.hid (HO.out.ep hbw)
      clear hall hrr f0 f1 hFo HO
      by_cases hkk : k = 10
      · subst hkk
        have hjp : jp < (fs.getD j noFn).outs.len := by omega
        obtain ⟨k', nn', p', cc', kk, a', cap', hd, hRR, hkl', t0, t1, t2, t3, t4, hFk⟩ := Fat.node HFO.out hjp
        obtain ⟨v1, v2⟩ := treeB_at (fs.getD j noFn).outs 0 jp g3 hd
        have hlp : (vs.length : Int) = (fs.getD j noFn).params := by rw [hvl2]; exact HM.out
        rw [more_zero (by decide), Int.add_zero, ← hlp] at v1 v2
        have hbo : bo < wr.heap.size := by omega
        have HVC := fun (W : World) (hk : Below wr.heap.size wr W) (hz : W.heap.size = wr.heap.size) => Lib.hid (hV (fun q => R q ∨ w.heap.size ≤ q ∧ q < wr.heap.size) j k' nn' p' cc' kk a' cap' bo (oo + jp * 5) (some ⟨g, 0, none⟩) kg vs r.s r.c W (by omega) hst.2 (by omega) v1 v2 (HR.out.next hk) ((hk.cell (p := ⟨bp, op, none⟩) (by show bp < _; omega)).trans x1) ((HP.out.keepE HK.out hBr hbw).below (hk.mono (by omega))) ⟨(hk.cell (p := ⟨bo, _, none⟩) hbo).trans t0, (hk.cell (p := ⟨bo, _, none⟩) hbo).trans t1, (hk.cell (p := ⟨bo, _, none⟩) hbo).trans t2, (hk.cell (p := ⟨bo, _, none⟩) hbo).trans t3, (hk.cell (p := ⟨bo, _, none⟩) hbo).trans t4⟩ (by omega) (hFk.agree (fun j _ h2 => hk.block j (by omega))) hkl' (HEN.out.next hk) (fun q hq => by rcases hq with hq | hq; (have := hRb q hq; omega); omega) (by omega))
        rw [hvl2] at HVC
        have HRS := Lib.hid (callX_eq (R0 := R0) HL.out hd (HR0.out.trans (if_pos rfl)))
        have hjpi : (jp : Int) < ((fs.getD j noFn).outs.len : Int) := by omega
        clear HEN HEP HSL v1 v2 hRR t0 t1 t2 t3 t4 hFk hlp hd HR0 HL hvl2
        generalize (fs.getD j noFn).outs.len = ml at *
        go_wp2_with fail
        go_region
        go_wp2_with fail
        go_region_with (go_at_call 93; refine (HVC _ (by exact ((Below.refl _ _).drew).drew) (by rfl)).out.mono ?_; rintro e w9 ⟨k8, h8, a8, cap8, v8, rfl, hl8, hn8, hls8, hx8, hvv8⟩)
        all_goals
          obtain ⟨k9, h9, a9, cap9, v9, e9, hl9, hn9, hls9, hx9, hvv9⟩ := (show SRes br bp op (fun q => R q ∨ w.heap.size ≤ q ∧ q < wr.heap.size) n wr.drew.drew (evX fs n f r.c k' nn' p' cc' kk vs r.s) (.returned (.slice a8 n cap8)) _ from ⟨k8, h8, a8, cap8, v8, rfl, hl8, hn8, hls8, hx8, hvv8⟩).up (R := R) (w := w) (r' := R0) ((HK.out.more (Below.refl _ _).drew).more (Below.refl _ _).drew) (fun q hq => hq.imp id And.left) HRS.out.1 HRS.out.2.1 HRS.out.2.2
          go_wp2_with fail
          go_ret
          exact ⟨k9, h9, a9, cap9, v9, e9, hl9, hn9, hls9, hx9, hvv9⟩
      · obtain rfl : k = 11 := by omega
        obtain ⟨⟨hc0, hc8⟩, hop⟩ := HH11.out rfl
        obtain ⟨m, rfl⟩ := Int.eq_ofNat_of_zero_le hc0
        have hlen : (fs.getD j noFn).outs.len = ks.len := by have := HM.out; omega
        have HRR : Hid (R0 = bindL (sA n) (lopE (sA n) (evE (sA n) fs f) (fs.getD j noFn).outs r m) (fun l s => ⟨l.getD jp ((sA n).cst 0), s, 0⟩)) := HR0.out.trans (if_neg hkk)
        have HG3 : Hid (treeB fs (j : Int) (fs.getD j noFn).outs ((ks.len : Nat) : Int) 0 0 = true) := by show _ = _; rw [HM.out]; exact g3
        have HLEN := Lib.hid hlen
        have HEP0 : Hid (Ep wr.drew w.heap.size br R n (.slice (some ⟨g, 0, none⟩) ks.len kg) ks.len vs) := ⟨⟨g, kg, rfl, HEN.out.next (Below.refl _ _).drew⟩, hvl2⟩
        have HRW : Hid (RnAt wr.drew br bp op n (lopE (sA n) (evE (sA n) fs f) (fs.getD j noFn).outs r 0).s (lopE (sA n) (evE (sA n) fs f) (fs.getD j noFn).outs r 0).c) := HR.out.next (Below.refl _ _).drew
        have HLW : Hid ((lopE (sA n) (evE (sA n) fs f) (fs.getD j noFn).outs r 0).c = 0 → vs = (lopE (sA n) (evE (sA n) fs f) (fs.getD j noFn).outs r 0).l) := HL.out
        rw [hlen] at f2 hpp
        clear HEN hop HR0 HL HH11 g3 hlen g2
        generalize (fs.getD j noFn).outs = O at *
        have HKW : Hid (Kp (fun b => b = br) wr wr.drew) := Kp.of_below (Below.refl _ _).drew
        have HFC := Lib.hid f2
        have HN1 : Hid (NodeAt wr b off 11 j jp m ks.len a cap) := ⟨n0, n1, n2, n3, n4⟩
        go_wp2_with fail
        go_region
        go_wp2_with fail
        clear HEP n0 n1 n2 n3 n4 f2 x0 x1 HR
        obtain ⟨wA, rfl⟩ : ∃ wA, wA = wr := ⟨_, rfl⟩
        go_loopw [7, 10] (fun lv x wr => ∃ (i : Nat) (us : List (List Int)), i ≤ m ∧ x = .int .i64 i ∧ Hid (Kp (fun b => b = br) wA wr) ∧ Hid (Ep wr w.heap.size br R n lv ks.len us) ∧ Hid (RnAt wr br bp op n (lopE (sA n) (evE (sA n) fs f) O r i).s (lopE (sA n) (evE (sA n) fs f) O r i).c) ∧ Hid ((lopE (sA n) (evE (sA n) fs f) O r i).c = 0 → us = (lopE (sA n) (evE (sA n) fs f) O r i).l)) (fun _ x _ => m - (intOf x).toNat)
        case atStart => exact ⟨0, vs, Nat.zero_le _, rfl, HKW.out, HEP0.out, HRW.out, HLW.out⟩
        case round =>
          obtain ⟨i, us, hi, rfl, HK3, HE3, HR3, HL3⟩ := hrel
          clear HKW HEP0 HRW HLW
          obtain ⟨m0, m1, m2, m3, m4⟩ := HN1.out
          replace m0 := HK3.out.cell m0 (by omega)
          replace m1 := HK3.out.cell m1 (by omega)
          replace m2 := HK3.out.cell m2 (by omega)
          replace m3 := HK3.out.cell m3 (by omega)
          have f2 := HK3.out.cell HFC.out (by omega)
          obtain ⟨⟨g3, kg3, rfl, hen3⟩, hvl3⟩ := HE3.out
          have hs3 := HSL.out i
          have HEN3 := Lib.hid hen3
          have hz3 := HK3.out.size
          clear hen3 HE3
          by_cases hlt : i < m
          · have hii : (i : Int) < (m : Int) := by omega
            have HC := Lib.hid (hVO (fun q => R q ∨ w.heap.size ≤ q ∧ q < wr.heap.size) j O (some ⟨bo, oo, none⟩) cf bf (of + j * 3) (some ⟨g3, 0, none⟩) kg3 us (lopE (sA n) (evE (sA n) fs f) O r i).s (lopE (sA n) (evE (sA n) fs f) O r i).c wr (by omega) hs3.2 (by omega) (by rw [hvl3]; exact HG3.out) HR3.out (HK3.out.cell (HK.out.cell hp (by omega)) (by omega)) ((HP.out.keepE HK.out hBr hbw).keepE HK3.out hBr (by omega)) (by rw [HLEN.out]; exact f2) (by omega) (HFO.out.keepE HK3.out hBr (by omega)) (by rw [HLEN.out]; omega) HEN3.out (fun q hq => by rcases hq with hq | hq; (have := hRb q hq; omega); omega) (by omega))
            rw [hvl3] at HC
            have HST := Lib.hid (lopX_step (n := n) (f := f) (fs := fs) (O := O) HL3.out)
            clear m0 m1 m2 f2
            go_wp2_with fail
            refine HC.out.mono ?_; rintro e w9 ⟨k9, r9, g9, kg9, vs9, rfl, ho9, hv9⟩
            rw [HLEN.out] at ho9 ⊢
            have HK9 := Lib.hid (HK3.out.trans k9)
            have HE9 := Lib.hid (ho9.down (L := w.heap.size) (R := R) (by omega) (fun q hq => hq) (by omega))
            have HR9 : Hid (RnAt w9 br bp op n (lopE (sA n) (evE (sA n) fs f) O r (i + 1)).s (lopE (sA n) (evE (sA n) fs f) O r (i + 1)).c) := by show RnAt _ _ _ _ _ _ _; rw [HST.out.1, HST.out.2.1]; exact r9
            have HL9 : Hid ((lopE (sA n) (evE (sA n) fs f) O r (i + 1)).c = 0 → vs9 = (lopE (sA n) (evE (sA n) fs f) O r (i + 1)).l) := by
              show _ → _; intro h; rw [HST.out.2.2 h]; exact hv9 (by rw [← HST.out.2.1]; exact h)
            clear HC ho9 r9 k9 hv9 HST HEN3 HL3 HR3
            go_wp2_with fail
            go_roundw
            case rel => exact ⟨i + 1, vs9, by omega, by go_num, HK9.out, HE9.out, HR9.out, HL9.out⟩
            case measure => simp [intOf]; omega
          · have hii : ¬ (i : Int) < (m : Int) := by omega
            obtain rfl : i = m := by omega
            obtain ⟨b7, o7, e7, hbn7, hbw7, hall7⟩ := HEN3.out.rows.resolve_left (by intro e; rw [e] at hvl3; simp at hvl3; omega)
            cases e7
            obtain ⟨ai, ci, hcell, hls, hRq⟩ := hall7 jp (by omega)
            rw [Nat.zero_add] at hcell
            have HEND := Lib.hid (lopX_end (n := n) HL3.out (by omega) HRR.out)
            have HLS := Lib.hid hls
            have HRQ := Lib.hid hRq
            have hji : (jp : Int) < (ks.len : Int) := by omega
            clear hall7 hls hRq f2 m0 m1
            go_wp2_with fail
            go_ret
            refine ⟨HK.out.trans HK3.out, by rw [HEND.out.1, HEND.out.2.1]; exact HR3.out, ai, ci, _, rfl, HEN3.out.len jp (by omega), HEN3.out.nums jp (by omega), HLS.out, fun q hq => (HRQ.out q hq).imp id And.left, HEND.out.2.2⟩

end Go.Proofs.YtoedccgiahegnaaGreat
