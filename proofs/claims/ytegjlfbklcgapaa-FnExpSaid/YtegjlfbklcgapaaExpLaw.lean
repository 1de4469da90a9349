/- The law of exponentials and logarithms. -/
import Derived.Test.YtegjlfbklcgapaaHelp
import Derived.Test.YtegjlfbklcgapaaExpT
import Derived.Test.YtegjlfbklcgapaaLogT
import Derived.Test.YtegjlfbklcgapaaDerT
import Derived.Test.YtegjlfbklcgapaaIntT
namespace Go.Proofs.Ytegjlfbklcgapaa
open Go.RowKit

theorem expN (n : Nat) (a : Option Addr) (ca : Nat) (l : List Int) (w : World) (ha : At w a l) (h : Hid (l.length = n)) (h1 : 1 ≤ n) (h2 : n ≤ 13) (hn : Nums l) (h0 : l.getD 0 0 = 0) :
    Calls Try.prog 44 #[.slice a n ca] w (ResN w n (expl l) 0) := by
  have o := okS_of h h1 h2 hn
  have e1 := h.out
  have k := iExpSeries a ca l w ha hn.rng (by omega)
  rw [e1] at k
  exact k.mono fun _ _ r => resN_of r (by unfold allExpSeries resExpSeries; rw [if_pos o, if_pos h0]) (by unfold alcExpSeries codExpSeries; rw [if_pos o, if_pos h0]) (by rw [expl_len (by omega)]; exact e1)
theorem logN (n : Nat) (a : Option Addr) (ca : Nat) (l : List Int) (w : World) (ha : At w a l) (h : Hid (l.length = n)) (h1 : 1 ≤ n) (h2 : n ≤ 13) (hn : Nums l) (h0 : l.getD 0 0 = 1) :
    Calls Try.prog 46 #[.slice a n ca] w (ResN w n (logl l) 0) := by
  have o := okS_of h h1 h2 hn
  have e1 := h.out
  have k := iLogSeries a ca l w ha hn.rng (by omega)
  rw [e1] at k
  exact k.mono fun _ _ r => resN_of r (by unfold allLogSeries resLogSeries; rw [if_pos o, if_pos h0]) (by unfold alcLogSeries codLogSeries; rw [if_pos o, if_pos h0]) (by rw [logl_len (by omega)]; exact e1)
theorem derN (n : Nat) (a : Option Addr) (ca : Nat) (l : List Int) (w : World) (ha : At w a l) (h : Hid (l.length = n)) (h1 : 1 ≤ n) (h2 : n ≤ 13) (hn : Nums l) :
    Calls Try.prog 40 #[.slice a n ca] w (ResN w n (dls l) 0) := by
  have o := okS_of h h1 h2 hn
  have e1 := h.out
  have k := iDerivativeOf a ca l w ha hn.rng (by omega)
  rw [e1] at k
  exact k.mono fun _ _ r => resN_of r (by unfold allDerivativeOf; rw [if_pos o]; rfl) (by unfold alcDerivativeOf; rw [if_pos o]; rfl) (by rw [dls_len]; exact e1)
theorem intN (n : Nat) (a : Option Addr) (ca : Nat) (l : List Int) (w : World) (ha : At w a l) (h : Hid (l.length = n)) (h1 : 1 ≤ n) (h2 : n ≤ 13) (hn : Nums l) :
    Calls Try.prog 47 #[.slice a n ca] w (ResN w n (ils l) 0) := by
  have o := okS_of h h1 h2 hn
  have e1 := h.out
  have k := iIntegralOf a ca l w ha hn.rng (by omega)
  rw [e1] at k
  exact k.mono fun _ _ r => resN_of r (by unfold allIntegralOf; rw [if_pos o]; rfl) (by unfold alcIntegralOf; rw [if_pos o]; rfl) (by rw [ils_len (by omega)]; exact e1)
theorem plusN (n : Nat) (a b : Option Addr) (ca cb : Nat) (l m : List Int) (w : World) (ha : At w a l) (hb : At w b m) (h : Hid (l.length = n)) (h' : Hid (m.length = n)) (h2 : n ≤ 13) (hn : Nums l) (hn' : Nums m) :
    Calls Try.prog 45 #[.slice a n ca, .slice b n cb] w fun e w' => ∃ g cap, e = .returned (.slice (some ⟨g, 0, none⟩) n cap) ∧ Own w.heap.size w' g cap (addl l m) ∧ Below w.heap.size w w' := by
  have e1 := h.out
  have e2 := h'.out
  have k := a2Add a b ca cb l m w ha hb hn.rng hn'.rng (by show _ = _; omega) (by omega)
  rw [e1, e2] at k
  refine k.mono ?_
  rintro e w' ⟨g, cap, he, r⟩
  rw [addl_len, e1] at he
  exact ⟨g, cap, he, r⟩
theorem frontN (n : Nat) (q : Int) (a b : Option Addr) (ca cb B : Nat) (l m : List Int) (w : World) (hq : Hid (q = ((n - 1 : Nat) : Int))) (ha : OwnA B w a ca l) (hb : OwnA B w b cb m) (h : Hid (l.length = n)) (h' : Hid (m.length = n)) (h1 : 1 ≤ n) (h2 : n ≤ 13)
    (he : ∀ k, k + 1 < n → l.getD k 0 = m.getD k 0) :
    Calls Try.prog 41 #[.slice a n ca, .slice b n cb, .int .i64 q] w fun e w' => e = .returned (.bool true) ∧ Below w.heap.size w w' := by
  have e1 := h.out
  have e2 := h'.out
  obtain ⟨g1, rfl, o1⟩ := ha.resolve_left (by intro e; rw [e] at e1; simp at e1; omega)
  obtain ⟨g2, rfl, o2⟩ := hb.resolve_left (by intro e; rw [e] at e2; simp at e2; omega)
  have hl1 : (l.take (n - 1)).length = n - 1 := by simp; omega
  have hl2 : (m.take (n - 1)).length = n - 1 := by simp; omega
  have c1 := o1.cap_le
  have c2 := o2.cap_le
  rw [hq.out]
  refine a2Front n (n - 1) g1 g2 ca cb l m w o1.at o2.at (by omega) (by omega) (by omega) (by omega) hl1 ?_
  show _ = _
  apply list_eq (by rw [hl1, hl2])
  intro k hk
  rw [hl1] at hk
  have t1 : (l.take (n - 1)).getD k 0 = l.getD k 0 := by simp [List.getD_eq_getElem?_getD, hk]
  have t2 : (m.take (n - 1)).getD k 0 = m.getD k 0 := by simp [List.getD_eq_getElem?_getD, hk]
  rw [t1, t2]
  exact he k (by omega)
theorem OwnA.mono {B B' : Nat} {w : World} {a : Option Addr} {cap : Nat} {l : List Int} (h : OwnA B w a cap l) (hB : B' ≤ B) : OwnA B' w a cap l := by
  rcases h with h | ⟨g, h1, h2⟩
  · exact .inl h
  · exact .inr ⟨g, h1, Own.mono h2 hB⟩
theorem set_zero {l : List Int} (h : 1 ≤ l.length) : (l.set 0 0).getD 0 0 = 0 := by
  cases l with
  | nil => simp at h
  | cons x r => rfl

set_option maxRecDepth 100000 in
set_option maxHeartbeats 6400000 in
theorem wFnExp (a0 : Option Addr) (len0 cap0 : Nat) (z0 : List Int) (a1 : Option Addr) (len1 cap1 : Nat) (z1 : List Int) (w : World) (w0 : IsRow .u8 w a0 len0 cap0 z0) (w1 : IsRow .u8 w a1 len1 cap1 z1) :
    Calls Try.prog 6 #[.slice a0 len0 cap0, .slice a1 len1 cap1] w fun e w' => e = .returned (.bool true) ∧ Below w.heap.size w w' := by
  obtain ⟨hb0, hn0⟩ := w0.bytes
  obtain ⟨_, hn1⟩ := w1.bytes
  clear w0 w1
  by_cases hlong : 3000 < len0 ∨ 3000 < len1
  · have HL := Lib.hid hlong
    clear hlong
    go_enter Try.func6, Try.ntmps6
    go_wp2_with fail
    refine (longT a0 a1 len0 cap0 len1 cap1 _ HL.out hn0 hn1).mono ?_; rintro e w' ⟨rfl, rfl⟩
    go_wp2_with fail
    go_ret
    exact ⟨rfl, Below.refl _ _⟩
  · have hl0 : len0 ≤ 3000 := by omega
    have hl1 : len1 ≤ 3000 := by omega
    clear hlong hn0 hn1
    go_enter Try.func6, Try.ntmps6
    go_wp2_with fail
    refine (longF a0 a1 len0 cap0 len1 cap1 _ hl0 hl1).mono ?_; rintro e w' ⟨rfl, rfl⟩
    go_wp2_with fail
    refine (sSeries3 a0 len0 cap0 _ hb0 hl0).mono ?_
    rintro e v1 ⟨n, g1, c1, g2, c2, g3, c3, x0, y0, z0, h1, h2, hx, hy, hz, nx0, ny0, nz0, rfl, ox0, oy0, _, HB⟩
    clear hz nz0
    have HX0 := Lib.hid hx
    have HY0 := Lib.hid hy
    have HXZ := Lib.hid (set_zero (l := x0) (by omega))
    have HYZ := Lib.hid (set_zero (l := y0) (by omega))
    have HX : Hid ((x0.set 0 0).length = n) := by show _ = _; rw [List.length_set]; exact hx
    have HY : Hid ((y0.set 0 0).length = n) := by show _ = _; rw [List.length_set]; exact hy
    have nx : Nums (x0.set 0 0) := set_nms nx0 (by omega)
    have ny : Nums (y0.set 0 0) := set_nms ny0 (by omega)
    clear hx hy nx0 ny0
    replace oy0 := oy0.a
    go_wp2_with fail
    refine (a2Begin n 0 _ c1 x0 _ ox0.at HX0 h1 h2).mono ?_
    rintro e v2 ⟨gx, cx, rfl, ox, b⟩
    replace HB := HB.trans (b.mono HB.size); replace oy0 := oy0.below b; clear b ox0
    replace ox := ox.a
    go_wp2_with fail
    refine (a2Begin n 0 _ c2 y0 _ oy0.at HY0 h1 h2).mono ?_
    rintro e v3 ⟨gy, cy, rfl, oy, b⟩
    replace HB := HB.trans (b.mono HB.size); replace ox := ox.below b; clear b oy0
    replace oy := oy.a
    clear HX0 HY0
    generalize x0.set 0 0 = x at HXZ HX nx ox
    generalize y0.set 0 0 = y at HYZ HY ny oy
    have hlaw := Lib.hid (exp_law (a := x) (b := y) (by rw [HX.out]; exact h1) (by rw [HX.out]; omega) (by rw [HX.out, HY.out]))
    have hlog := Lib.hid (log_exp (a := x) (by rw [HX.out]; exact h1) (by rw [HX.out]; omega) nx HXZ.out)
    have hint := Lib.hid (int_der (a := x) (by rw [HX.out]; exact h1) (by rw [HX.out]; omega) nx HXZ.out)
    have hslope := Lib.hid (slope_law (a := x) (by rw [HX.out]; omega))
    have HS : Hid ((addl x y).length = n) := by show _ = _; rw [addl_len]; exact HX.out
    have hsz : Hid ((addl x y).getD 0 0 = 0) := by
      show _ = _
      rw [addl_at (by rw [HX.out]; omega), HXZ.out, HYZ.out]; rfl
    have HE : Hid ((expl x).getD 0 0 = 1) := expl_zero
    go_wp2_with fail
    refine (expN n _ cx x _ ox.at HX h1 h2 nx HXZ.out).mono ?_
    rintro e v4 ⟨ge, ce, rfl, Hea, oe, b⟩
    replace HB := HB.trans (b.mono HB.size); replace ox := ox.below b; replace oy := oy.below b; clear b
    go_wp2_with fail
    refine (expN n _ cy y _ oy.at HY h1 h2 ny HYZ.out).mono ?_
    rintro e v5 ⟨gf, cf, rfl, Heb, of', b⟩
    replace HB := HB.trans (b.mono HB.size); replace ox := ox.below b; replace oy := oy.below b; replace oe := oe.below b; clear b
    go_wp2_with fail
    refine (plusN n _ _ cx cy x y _ ox.at oy.at HX HY h2 nx ny).mono ?_
    rintro e v6 ⟨gs, cs, rfl, os, b⟩
    replace HB := HB.trans (b.mono HB.size); replace ox := ox.below b; replace oe := oe.below b; replace of' := of'.below b; clear b oy
    replace os := os.a
    go_wp2_with fail
    refine (expN n _ cs (addl x y) _ os.at HS h1 h2 (addl_nms _ _) hsz.out).mono ?_
    rintro e v7 ⟨gb, cb, rfl, Hb, ob, b⟩
    replace HB := HB.trans (b.mono HB.size); replace ox := ox.below b; replace oe := oe.below b; replace of' := of'.below b; clear b os
    go_wp2_with fail
    refine (mulN n _ _ ce cf (expl x) (expl y) _ oe.at of'.at Hea Heb h1 h2 (exs_nms _ _) (exs_nms _ _)).mono ?_
    rintro e v8 ⟨gp, cp, rfl, Hp, op, b⟩
    replace HB := HB.trans (b.mono HB.size); replace ox := ox.below b; replace oe := oe.below b; replace ob := ob.below b; clear b of'
    rw [hlaw.out] at op Hp
    go_wp2_with fail
    refine (logN n _ ce (expl x) _ oe.at Hea h1 h2 (exs_nms _ _) HE.out).mono ?_
    rintro e v9 ⟨gk, ck, rfl, Hk, ok, b⟩
    replace HB := HB.trans (b.mono HB.size); replace ox := ox.below b; replace oe := oe.below b; replace ob := ob.below b; replace op := op.below b; clear b
    rw [hlog.out] at ok Hk
    have hnn : ((n : Int) != (n : Int)) = false := by simp
    go_wp2_with fail
    refine (sameN n _ _ cp cb (expl (addl x y)) _ op.at ob.at Hp h2).mono ?_
    rintro e v10 ⟨rfl, b⟩
    replace HB := HB.trans (b.mono HB.size); replace ox := ox.below b; replace oe := oe.below b; replace ok := ok.below b; clear b op ob
    go_wp2_with fail
    refine (sameN n _ _ ck cx x _ ok.at ox.at HX h2).mono ?_
    rintro e v11 ⟨rfl, b⟩
    replace HB := HB.trans (b.mono HB.size); replace ox := ox.below b; replace oe := oe.below b; clear b ok
    go_wp2_with fail
    refine (derN n _ cx x _ ox.at HX h1 h2 nx).mono ?_
    rintro e v12 ⟨gd, cd, rfl, Hd, od, b⟩
    replace HB := HB.trans (b.mono HB.size); replace ox := ox.below b; replace oe := oe.below b; clear b
    go_wp2_with fail
    refine (derN n _ ce (expl x) _ oe.at Hea h1 h2 (exs_nms _ _)).mono ?_
    rintro e v13 ⟨gq, cq, rfl, Hq, oq, b⟩
    replace oq := oq.mono HB.size
    replace HB := HB.trans (b.mono HB.size); replace ox := ox.below b; replace oe := oe.below b; replace od := od.below b; clear b
    go_wp2_with fail
    refine (mulN n _ _ cd ce (dls x) (expl x) _ od.at oe.at Hd Hea h1 h2 (dls_nms _) (exs_nms _ _)).mono ?_
    rintro e v14 ⟨gl, cl, rfl, Hl, ol, b⟩
    replace ol := ol.mono HB.size
    replace HB := HB.trans (b.mono HB.size); replace ox := ox.below b; replace od := od.below b; replace oq := oq.below b; clear b oe
    go_wp2_with fail
    refine (intN n _ cd (dls x) _ od.at Hd h1 h2 (dls_nms _)).mono ?_
    rintro e v15 ⟨gw, cw, rfl, Hw, ow, b⟩
    replace HB := HB.trans (b.mono HB.size); replace ox := ox.below b; replace oq := oq.below b; replace ol := ol.below b; clear b od
    rw [hint.out] at ow Hw
    go_wp2_with fail
    refine (frontN n _ _ _ cq cl w.heap.size (dls (expl x)) (mull (dls x) (expl x)) _ (by show _ = _; omega) oq ol Hq Hl h1 h2 (fun k hk => hslope.out k (by rw [HX.out]; exact hk))).mono ?_
    rintro e v16 ⟨rfl, b⟩
    replace HB := HB.trans (b.mono HB.size); replace ox := ox.below b; replace ow := ow.below b; clear b oq ol
    go_wp2_with fail
    refine (sameN n _ _ cw cx x _ ow.at ox.at HX h2).mono ?_
    rintro e v17 ⟨rfl, b⟩
    replace HB := HB.trans (b.mono HB.size)
    go_wp2_with fail
    go_ret
    exact ⟨rfl, HB⟩

end Go.Proofs.Ytegjlfbklcgapaa
