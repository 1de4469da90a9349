/- The law of compositions and reversed series. -/
import Derived.Test.YtodoamklikicpaaHlp
import Derived.Test.YtodoamklikicpaaRevW
namespace Go.Proofs.Ytodoamklikicpaa
open Go.RowKit

theorem revN (n : Nat) (a : Option Addr) (ca : Nat) (l : List Int) (w : World) (ha : At w a l) (hca : n ≤ ca) (h : Hid (l.length = n)) (h1 : 2 ≤ n) (h2 : n ≤ 13) (hn : Nums l) (h0 : Hid (l.getD 0 0 = 0)) (hu : Hid (l.getD 1 0 ≠ 0)) :
    Calls Try.prog 15 #[.slice a n ca] w (ResN w n (revl l) 0) := by
  have o := okS_of h (by omega) h2 hn
  have e1 := h.out
  have k := iReverseSeries a ca l w ha hn.rng (by omega) (by omega)
  rw [e1] at k
  exact k.mono fun _ _ r => resN_of r (by unfold allReverseSeries resReverseSeries; rw [if_pos o, if_neg (by omega), if_neg (by simpa using h0.out), if_neg hu.out]) (by unfold alcReverseSeries codReverseSeries; rw [if_pos o, if_neg (by omega), if_neg (by simpa using h0.out), if_neg hu.out]) (by rw [revl_len (by omega)]; exact e1)
theorem revE (n : Nat) (c : Int) (a : Option Addr) (ca : Nat) (l : List Int) (w : World) (ha : At w a l) (hca : n ≤ ca) (h : Hid (l.length = n)) (h1 : 1 ≤ n) (h2 : n ≤ 13) (hn : Nums l) (h0 : Hid (l.getD 0 0 = 0)) (hu : Hid (n = 1 ∧ c = 2 ∨ n ≠ 1 ∧ l.getD 1 0 = 0 ∧ c = 6)) :
    Calls Try.prog 15 #[.slice a n ca] w (ResN w 0 [] c) := by
  have o := okS_of h (by omega) h2 hn
  have e1 := h.out
  have k := iReverseSeries a ca l w ha hn.rng (by omega) (by omega)
  rw [e1] at k
  rcases hu.out with ⟨u1, u2⟩ | ⟨u1, u2, u3⟩
  · exact k.mono fun _ _ r => resN_of r (by unfold allReverseSeries resReverseSeries; rw [if_pos o, if_pos (by omega)]) (by unfold alcReverseSeries codReverseSeries; rw [if_pos o, if_pos (by omega), u2]) rfl
  · exact k.mono fun _ _ r => resN_of r (by unfold allReverseSeries resReverseSeries; rw [if_pos o, if_neg (by omega), if_neg (by simpa using h0.out), if_pos u2]) (by unfold alcReverseSeries codReverseSeries; rw [if_pos o, if_neg (by omega), if_neg (by simpa using h0.out), if_pos u2, u3]) rfl

set_option maxRecDepth 100000 in
set_option maxHeartbeats 1600000 in
theorem a2UnitOne (n : Nat) (w : World) (hm : n ≤ 1000) :
    Calls Try.prog 16 #[.int .i64 n, .int .i64 1] w (FreshN w n (tl n)) := by
  obtain ⟨i0, hi, hz0, hz1, hz2⟩ := info_parts info64
  have hB0 := (Below.refl w.heap.size w).alloc (Nat.le_refl _) (.cells #[] 2)
  have hO0 := own_none w w.heap.size (Nat.le_refl _)
  go_enter Try.func16, Try.ntmps16
  go_wp2
  go_loopw [5, 6] (fun v i wr => ∃ (k g cap : Nat) (xs : List Int), k ≤ n ∧ i = .int .i64 k ∧ v = .slice (some ⟨g, 0, none⟩) k cap ∧ xs.length = k ∧ Hid (xs = tab tt k) ∧ Own w.heap.size wr g cap xs ∧ Below w.heap.size w wr) (fun _ i _ => n - (intOf i).toNat)
  case atStart => exact ⟨0, w.heap.size, 0, [], Nat.zero_le _, rfl, rfl, rfl, rfl, hO0, hB0⟩
  case round =>
    obtain ⟨k, g, cap, xs, hk, rfl, rfl, hxl, hxs, ho, hw⟩ := hrel
    by_cases hlt : k < n
    · have hi1 : (k : Int) < (n : Int) := by omega
      have ho2 : wr.ownsRow w.heap.size 2 1 (.slice (some ⟨g, 0, none⟩) k cap) k (xs.map (Value.int .i64)) := by rw [← hxl]; exact ho
      have hsz := hw.size
      have hgl := ho.base
      have HXL := Lib.hid hxl
      have hl2 : ∀ y : Int, (xs ++ [y]).length = k + 1 := fun y => by simp [hxl]
      have HL2 := Lib.hid hl2
      by_cases hk1 : k = 1
      · have ht : ((k : Int) == 1) = true := by rw [beq_iff_eq]; omega
        have hs2 : Hid (xs ++ [1] = tab tt (k + 1)) := by rw [tab_succ, hxs.out, hk1]; rfl
        clear hk1 hB0 hO0 ho hxl hl2
        go_wp2_with (at_builtin; refine wpList_append_lies _ rfl _ _ _ rfl w.heap.size 2 i0 _ 1 8 Try.underlying24 hi hz0 hz1 hz2 rfl (by omega) (.slice (some ⟨g, 0, none⟩) k cap) k (xs.map (Value.int .i64)) rfl (ho2.alloc _) ⟨wr.heap.size, 0, none⟩ 1 1 [.int .i64 1] rfl rfl (World.news_of_block (cs := #[.int .i64 1]) (t := 2) (fr := (0, 0)) (heap_alloc_new wr _)) (by simp [Value.oneCell']) (by omega) (by unfold maxLen; omega) (by omega) (by simp; omega) (wr.heap.size + 1) (by simp) ?_; intro gg cc w1 hown1 hgrow hat hlt1)
        have hw2 : Below w.heap.size w w1 := (hw.alloc hsz (.cells #[.int .i64 1] 2)).grown hgrow (by simp; omega) (by intro q hq; simp [Value.ownBlock] at hq; omega)
        have ho3 : Own w.heap.size w1 gg cc (xs ++ [1]) := own_appended (by rw [HXL.out]; exact hown1)
        clear hgrow hown1 ho2
        go_roundw
        case rel => exact ⟨k + 1, gg, cc, xs ++ [1], by omega, by go_num, rfl, HL2.out _, hs2, ho3, hw2⟩
        case measure => simp [intOf]; omega
      · have ht : ((k : Int) == 1) = false := by rw [beq_eq_false_iff_ne]; omega
        have hs2 : Hid (xs ++ [0] = tab tt (k + 1)) := by rw [tab_succ, hxs.out]; show _ = tab tt k ++ [tt k]; unfold tt; rw [if_neg hk1]
        clear hk1 hB0 hO0 ho hxl hl2
        go_wp2_with (at_builtin; refine wpList_append_lies _ rfl _ _ _ rfl w.heap.size 2 i0 _ 1 8 Try.underlying24 hi hz0 hz1 hz2 rfl (by omega) (.slice (some ⟨g, 0, none⟩) k cap) k (xs.map (Value.int .i64)) rfl (ho2.alloc _) ⟨wr.heap.size, 0, none⟩ 1 1 [.int .i64 0] rfl rfl (World.news_of_block (cs := #[.int .i64 0]) (t := 2) (fr := (0, 0)) (heap_alloc_new wr _)) (by simp [Value.oneCell']) (by omega) (by unfold maxLen; omega) (by omega) (by simp; omega) (wr.heap.size + 1) (by simp) ?_; intro gg cc w1 hown1 hgrow hat hlt1)
        have hw2 : Below w.heap.size w w1 := (hw.alloc hsz (.cells #[.int .i64 0] 2)).grown hgrow (by simp; omega) (by intro q hq; simp [Value.ownBlock] at hq; omega)
        have ho3 : Own w.heap.size w1 gg cc (xs ++ [0]) := own_appended (by rw [HXL.out]; exact hown1)
        clear hgrow hown1 ho2
        go_roundw
        case rel => exact ⟨k + 1, gg, cc, xs ++ [0], by omega, by go_num, rfl, HL2.out _, hs2, ho3, hw2⟩
        case measure => simp [intOf]; omega
    · obtain rfl : k = n := by omega
      have hfin : Hid (xs = tl k) := hxs.out
      clear hxl
      go_wp2
      go_ret
      exact ⟨g, cap, rfl, by rw [← hfin.out]; exact ho, hw⟩

theorem getD_set_one {l : List Int} (x : Int) : (l.set 0 x).getD 1 0 = l.getD 1 0 := by
  rw [List.getD_eq_getElem?_getD, List.getElem?_set_ne (by omega), ← List.getD_eq_getElem?_getD]

set_option maxRecDepth 100000 in
set_option maxHeartbeats 3200000 in
theorem wFnCompose (a0 : Option Addr) (len0 cap0 : Nat) (z0 : List Int) (a1 : Option Addr) (len1 cap1 : Nat) (z1 : List Int) (w : World) (w0 : IsRow .u8 w a0 len0 cap0 z0) (w1 : IsRow .u8 w a1 len1 cap1 z1) :
    Calls Try.prog 3 #[.slice a0 len0 cap0, .slice a1 len1 cap1] w fun e w' => e = .returned (.bool true) ∧ Below w.heap.size w w' := by
  obtain ⟨hb0, hn0⟩ := w0.bytes
  obtain ⟨_, hn1⟩ := w1.bytes
  clear w0 w1
  by_cases hlong : 3000 < len0 ∨ 3000 < len1
  · have HL := Lib.hid hlong
    clear hlong
    go_enter Try.func3, Try.ntmps3
    go_wp2_with fail
    refine (longT a0 a1 len0 cap0 len1 cap1 _ HL.out hn0 hn1).mono ?_; rintro e w' ⟨rfl, rfl⟩
    go_wp2_with fail
    go_ret
    exact ⟨rfl, Below.refl _ _⟩
  · have hl0 : len0 ≤ 3000 := by omega
    have hl1 : len1 ≤ 3000 := by omega
    clear hlong hn0 hn1
    go_enter Try.func3, Try.ntmps3
    go_wp2_with fail
    refine (longF a0 a1 len0 cap0 len1 cap1 _ hl0 hl1).mono ?_; rintro e w' ⟨rfl, rfl⟩
    go_wp2_with fail
    refine (sSeries3 a0 len0 cap0 _ hb0 hl0).mono ?_
    rintro e v1 ⟨n, g1, c1, g2, c2, g3, c3, x, y0, z0, h1, h2, hx, hy, hz, nx, ny0, nz0, rfl, ox, oy0, oz0, HB⟩
    have HX := Lib.hid hx
    have HY0 := Lib.hid hy
    have HZ0 := Lib.hid hz
    have HYZ := Lib.hid (set_zero (l := y0) (by omega))
    have HZZ := Lib.hid (set_zero (l := z0) (by omega))
    have HY : Hid ((y0.set 0 0).length = n) := by show _ = _; rw [List.length_set]; exact hy
    have HZ : Hid ((z0.set 0 0).length = n) := by show _ = _; rw [List.length_set]; exact hz
    have ny : Nums (y0.set 0 0) := set_nms ny0 (by omega)
    have nz : Nums (z0.set 0 0) := set_nms nz0 (by omega)
    clear hx hy hz ny0 nz0
    replace ox := ox.a
    replace oy0 := oy0.a
    replace oz0 := oz0.a
    go_wp2_with fail
    refine (a2Begin n 0 _ c2 y0 _ oy0.at HY0 h1 h2).mono ?_
    rintro e v2 ⟨gy, cy, rfl, oy, b⟩
    replace HB := HB.trans (b.mono HB.size); replace ox := ox.below b; replace oz0 := oz0.below b; clear b oy0
    have kY := oy.cap_le
    rw [HY.out] at kY
    replace oy := oy.a
    go_wp2_with fail
    refine (a2Begin n 0 _ c3 z0 _ oz0.at HZ0 h1 h2).mono ?_
    rintro e v3 ⟨gz, cz, rfl, oz, b⟩
    replace HB := HB.trans (b.mono HB.size); replace ox := ox.below b; replace oy := oy.below b; clear b oz0
    replace oz := oz.a
    clear HY0 HZ0
    generalize y0.set 0 0 = y at HYZ HY ny oy
    generalize z0.set 0 0 = z at HZZ HZ nz oz
    have hlaw := Lib.hid (comp_law (a := x) (b := y) (c := z) (by rw [HX.out]; exact h1) (by rw [HX.out, HY.out]) (by rw [HX.out, HZ.out]) ny HYZ.out HZZ.out)
    have hchain := Lib.hid (chain_law (a := x) (b := y) (by rw [HX.out, HY.out]) HYZ.out)
    have hyz0 : Hid ((cmpl y z).getD 0 0 = 0) := by show _ = _; rw [cmpl_zero HZZ.out (by rw [HY.out]; exact h1) ny]; exact HYZ.out
    go_wp2_with fail
    refine (cmpN n _ _ c1 cy x y _ ox.at oy.at HX HY h1 h2 nx ny HYZ.out).mono ?_
    rintro e v4 ⟨gp, cp, rfl, Hp, op, b⟩
    replace HB := HB.trans (b.mono HB.size); replace ox := ox.below b; replace oy := oy.below b; replace oz := oz.below b; clear b
    go_wp2_with fail
    refine (cmpN n _ _ cy cz y z _ oy.at oz.at HY HZ h1 h2 ny nz HZZ.out).mono ?_
    rintro e v5 ⟨gq, cq, rfl, Hq, oq, b⟩
    replace HB := HB.trans (b.mono HB.size); replace ox := ox.below b; replace oy := oy.below b; replace oz := oz.below b; replace op := op.below b; clear b
    go_wp2_with fail
    refine (cmpN n _ _ cp cz (cmpl x y) z _ op.at oz.at Hp HZ h1 h2 (cmpl_nums _ _) nz HZZ.out).mono ?_
    rintro e v6 ⟨gl, cl, rfl, Hl, ol, b⟩
    replace HB := HB.trans (b.mono HB.size); replace ox := ox.below b; replace oy := oy.below b; replace op := op.below b; replace oq := oq.below b; clear b oz
    go_wp2_with fail
    refine (cmpN n _ _ c1 cq x (cmpl y z) _ ox.at oq.at HX Hq h1 h2 nx (cmpl_nums _ _) hyz0.out).mono ?_
    rintro e v7 ⟨gr, cr, rfl, Hr, or', b⟩
    replace HB := HB.trans (b.mono HB.size); replace ox := ox.below b; replace oy := oy.below b; replace op := op.below b; replace ol := ol.below b; clear b oq
    rw [hlaw.out] at ol Hl
    have hnn : ((n : Int) != (n : Int)) = false := by simp
    go_wp2_with fail
    refine (sameN n _ _ cl cr (cmpl x (cmpl y z)) _ ol.at or'.at Hr h2).mono ?_
    rintro e v8 ⟨rfl, b⟩
    replace HB := HB.trans (b.mono HB.size); replace ox := ox.below b; replace oy := oy.below b; replace op := op.below b; clear b ol or'
    go_wp2_with fail
    refine (derN n _ c1 x _ ox.at HX h1 h2 nx).mono ?_
    rintro e v9 ⟨gd, cd, rfl, Hd, od, b⟩
    replace HB := HB.trans (b.mono HB.size); replace oy := oy.below b; replace op := op.below b; clear b ox
    go_wp2_with fail
    refine (derN n _ cy y _ oy.at HY h1 h2 ny).mono ?_
    rintro e v10 ⟨ge, ce, rfl, He, oe, b⟩
    replace HB := HB.trans (b.mono HB.size); replace oy := oy.below b; replace op := op.below b; replace od := od.below b; clear b
    go_wp2_with fail
    refine (derN n _ cp (cmpl x y) _ op.at Hp h1 h2 (cmpl_nums _ _)).mono ?_
    rintro e v11 ⟨gf, cf, rfl, Hf, of', b⟩
    replace of' := of'.mono HB.size
    replace HB := HB.trans (b.mono HB.size); replace oy := oy.below b; replace od := od.below b; replace oe := oe.below b; clear b op
    go_wp2_with fail
    refine (cmpN n _ _ cd cy (dls x) y _ od.at oy.at Hd HY h1 h2 (dls_nms _) ny HYZ.out).mono ?_
    rintro e v12 ⟨gi, ci, rfl, Hi, oi, b⟩
    replace HB := HB.trans (b.mono HB.size); replace oy := oy.below b; replace oe := oe.below b; replace of' := of'.below b; clear b od
    go_wp2_with fail
    refine (mulN n _ _ ci ce (cmpl (dls x) y) (dls y) _ oi.at oe.at Hi He h1 h2 (cmpl_nums _ _) (dls_nms _)).mono ?_
    rintro e v13 ⟨gm, cm, rfl, Hm, om, b⟩
    replace om := om.mono HB.size
    replace HB := HB.trans (b.mono HB.size); replace oy := oy.below b; replace of' := of'.below b; clear b oe oi
    go_wp2_with fail
    refine (frontN n _ _ _ cf cm w.heap.size (dls (cmpl x y)) (mull (cmpl (dls x) y) (dls y)) _ (by show _ = _; omega) of' om Hf Hm h1 h2 (fun k hk => hchain.out k (by rw [HX.out]; exact hk))).mono ?_
    rintro e v14 ⟨rfl, b⟩
    replace HB := HB.trans (b.mono HB.size); replace oy := oy.below b; clear b of' om
    go_wp2_with fail
    by_cases hone : n = 1
    · have H1 := Lib.hid hone
      have hln : ((n : Int) == 1) = true := by rw [beq_iff_eq]; omega
      clear hone
      refine (revE n 2 _ cy y _ oy.at kY HY h1 h2 ny HYZ (.inl ⟨H1.out, rfl⟩)).mono ?_
      rintro e v15 ⟨gv, cv, rfl, Hv, ov, b⟩
      replace HB := HB.trans (b.mono HB.size)
      go_wp2_with fail
      go_ret
      exact ⟨rfl, HB⟩
    · have hln : ((n : Int) == 1) = false := by rw [beq_eq_false_iff_ne]; omega
      have hn2 : 2 ≤ n := by omega
      have hni : (1 : Int) < (n : Int) := by omega
      have hnj : 1 < n := by omega
      by_cases hu : y.getD 1 0 = 0
      · have HU : Hid (n = 1 ∧ (6 : Int) = 2 ∨ n ≠ 1 ∧ y.getD 1 0 = 0 ∧ (6 : Int) = 6) := .inr ⟨hone, hu, rfl⟩
        have HU2 := Lib.hid hu
        clear hone hu
        refine (revE n 6 _ cy y _ oy.at kY HY h1 h2 ny HYZ HU).mono ?_
        rintro e v15 ⟨gv, cv, rfl, Hv, ov, b⟩
        replace HB := HB.trans (b.mono HB.size); replace oy := oy.below b
        obtain ⟨gy2, hgy, hoy⟩ := oy.resolve_left (by intro e; have := HY.out; rw [e] at this; simp at this; omega)
        cases hgy
        have hc1 := hoy.cellAt 1 (by rw [HY.out]; exact hnj)
        rw [HU2.out] at hc1
        go_wp2_with fail
        go_ret
        exact ⟨rfl, HB⟩
      · have HU := Lib.hid hu
        have hR : Revs y := ⟨by rw [HY.out]; exact hn2, by rw [HY.out]; omega, ny, HYZ.out, hu⟩
        have hleft := Lib.hid hR.left
        have hright := Lib.hid hR.right
        have hq : (y.getD 1 0 == 0) = false := beq_eq_false_iff_ne.2 hu
        clear hone hu hR
        refine (revN n _ cy y _ oy.at kY HY hn2 h2 ny HYZ HU).mono ?_
        rintro e v15 ⟨gv, cv, rfl, Hv, ov, b⟩
        replace HB := HB.trans (b.mono HB.size); replace oy := oy.below b; clear b
        have oy' := oy
        obtain ⟨gy2, hgy, hoy⟩ := oy.resolve_left (by intro e; have := HY.out; rw [e] at this; simp at this; omega)
        have hc1 := hoy.cellAt 1 (by rw [HY.out]; exact hnj)
        cases hgy
        clear hoy oy
        generalize y.getD 1 0 = yy at hc1 hq HU
        go_wp2_with fail
        refine (cmpN n _ _ cy cv y (revl y) _ oy'.at ov.at HY Hv h1 h2 ny (revl_nums _) (revl_zero _)).mono ?_
        rintro e v16 ⟨gs, cs, rfl, Hs, os, b⟩
        replace HB := HB.trans (b.mono HB.size); replace oy' := oy'.below b; replace ov := ov.below b; clear b hc1 hq
        rw [hright.out, HY.out] at os Hs
        go_wp2_with fail
        refine (cmpN n _ _ cv cy (revl y) y _ ov.at oy'.at Hv HY h1 h2 (revl_nums _) ny HYZ.out).mono ?_
        rintro e v17 ⟨gt, ct, rfl, Ht, ot, b⟩
        replace HB := HB.trans (b.mono HB.size); replace os := os.below b; clear b ov oy'
        rw [hleft.out, HY.out] at ot Ht
        go_wp2_with fail
        refine (a2UnitOne n _ (by omega)).mono ?_
        rintro e v18 ⟨gu, cu, rfl, ou, b⟩
        replace HB := HB.trans (b.mono HB.size); replace os := os.below b; replace ot := ot.below b; clear b
        replace ou := ou.a
        go_wp2_with fail
        refine (sameN n _ _ cs cu (tl n) _ os.at ou.at Hs h2).mono ?_
        rintro e v19 ⟨rfl, b⟩
        replace HB := HB.trans (b.mono HB.size); replace ot := ot.below b; replace ou := ou.below b; clear b os
        go_wp2_with fail
        refine (sameN n _ _ ct cu (tl n) _ ot.at ou.at Ht h2).mono ?_
        rintro e v20 ⟨rfl, b⟩
        replace HB := HB.trans (b.mono HB.size)
        go_wp2_with fail
        go_ret
        exact ⟨rfl, HB⟩

end Go.Proofs.Ytodoamklikicpaa
