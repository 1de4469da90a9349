/- The law of the ring of series. -/
import Derived.Test.YtegjlfbklcgapaaDrawS
import Derived.Test.YtegjlfbklcgapaaPoly
import Derived.Test.YtegjlfbklcgapaaRing
namespace Go.Proofs.Ytegjlfbklcgapaa
open Go.RowKit

set_option maxHeartbeats 800000 in
theorem a2Same (a b : Option Addr) (ca cb : Nat) (l : List Int) (w : World) (ha : At w a l) (hb : At w b l) (hl : l.length ≤ 9223372036854775806) :
    Calls Try.prog 36 #[.slice a l.length ca, .slice b l.length cb] w fun e w' => e = .returned (.bool true) ∧ Below w.heap.size w w' := by
  go_enter Try.func36, Try.ntmps36
  go_wp2
  go_loopw [5] (fun i wr => ∃ k : Nat, k ≤ l.length ∧ i = .int .i64 k ∧ Below w.heap.size w wr) (fun i _ => l.length - (intOf i).toNat)
  case atStart => exact ⟨0, Nat.zero_le _, rfl, Below.refl _ _⟩
  case round =>
    obtain ⟨k, hk, rfl, hw⟩ := hrel
    by_cases hlt : k < l.length
    · obtain ⟨b1, o1, rfl, hbl1, hc1⟩ := (ha.resolve_left (by intro e; rw [e] at hlt; simp at hlt))
      obtain ⟨b2, o2, rfl, hbl2, hc2⟩ := (hb.resolve_left (by intro e; rw [e] at hlt; simp at hlt))
      have h1 : wr.cell? ⟨b1, o1 + k, none⟩ = some (.int .i64 (l.getD k 0)) := (hw.cell (p := ⟨b1, o1 + k, none⟩) hbl1).trans (hc1 k hlt)
      have h2 : wr.cell? ⟨b2, o2 + k, none⟩ = some (.int .i64 (l.getD k 0)) := (hw.cell (p := ⟨b2, o2 + k, none⟩) hbl2).trans (hc2 k hlt)
      clear hc1 hc2 ha hb
      generalize l.getD k 0 = x at h1 h2
      have hi : (k : Int) < (l.length : Int) := by omega
      go_wp2
      go_quiet (fail)
      go_wp2
      go_roundw
      case rel => exact ⟨k + 1, by omega, by go_num, below_drewN hw _⟩
      case measure => simp [intOf]; omega
    · go_wp2
      go_ret
      exact ⟨rfl, hw⟩


/-- The call answers a slice of n numbers that reads as l, and a code; nothing that was there has turned. -/
def ResN (w : World) (n : Nat) (l : List Int) (c : Int) (e : Ending) (w' : World) : Prop :=
  ∃ a cap, e = .returned (.tuple #[.slice a n cap, .int .i64 c]) ∧ Hid (l.length = n) ∧ OwnA w.heap.size w' a cap l ∧ Below w.heap.size w w'
theorem resN_of {w w1 : World} {n : Nat} {l l' : List Int} {c c' : Int} {e : Ending} (h : Res2 w l c e w1) (hl : l = l') (hc : c = c') (hn : l'.length = n) : ResN w n l' c' e w1 := by
  subst hl; subst hc; subst hn
  obtain ⟨a, cap, he, ho, hb⟩ := h
  exact ⟨a, cap, he, rfl, ho, hb⟩
theorem okS_of {l : List Int} {n : Nat} (h : Hid (l.length = n)) (h1 : 1 ≤ n) (h2 : n ≤ 13) (hn : Nums l) : okS l = true := nums_okS (by rw [h.out]; exact h1) (by rw [h.out]; exact h2) hn
theorem two_of {l m : List Int} {n : Nat} (h : Hid (l.length = n)) (h' : Hid (m.length = n)) (h1 : 1 ≤ n) (h2 : n ≤ 13) (hn : Nums l) (hn' : Nums m) : two l m = 0 :=
  two_ok (okS_of h h1 h2 hn) (okS_of h' h1 h2 hn') (h.out.trans h'.out.symm)

theorem addN (n : Nat) (a b : Option Addr) (ca cb : Nat) (l m : List Int) (w : World) (ha : At w a l) (hb : At w b m) (h : Hid (l.length = n)) (h' : Hid (m.length = n)) (h1 : 1 ≤ n) (h2 : n ≤ 13) (hn : Nums l) (hn' : Nums m) :
    Calls Try.prog 34 #[.slice a n ca, .slice b n cb] w (ResN w n (addl l m) 0) := by
  have t := two_of h h' h1 h2 hn hn'
  have e1 := h.out
  have e2 := h'.out
  have k := iAddSeries a b ca cb l m w ha hb hn.rng hn'.rng (by omega) (by omega)
  rw [e1, e2] at k
  exact k.mono fun _ _ r => resN_of r (by unfold ifTwo; rw [if_pos t]) t (by rw [addl_len]; exact e1)
theorem mulN (n : Nat) (a b : Option Addr) (ca cb : Nat) (l m : List Int) (w : World) (ha : At w a l) (hb : At w b m) (h : Hid (l.length = n)) (h' : Hid (m.length = n)) (h1 : 1 ≤ n) (h2 : n ≤ 13) (hn : Nums l) (hn' : Nums m) :
    Calls Try.prog 35 #[.slice a n ca, .slice b n cb] w (ResN w n (mull l m) 0) := by
  have t := two_of h h' h1 h2 hn hn'
  have e1 := h.out
  have e2 := h'.out
  have k := iMulSeries a b ca cb l m w ha hb hn.rng hn'.rng (by omega) (by omega)
  rw [e1, e2] at k
  exact k.mono fun _ _ r => resN_of r (by unfold allMul ifTwo; rw [if_pos t]; rfl) (by unfold alcMul; rw [if_pos t]; rfl) (by rw [mull_len]; exact e1)
theorem divN (n : Nat) (a b : Option Addr) (ca cb : Nat) (l m : List Int) (w : World) (ha : At w a l) (hb : At w b m) (h : Hid (l.length = n)) (h' : Hid (m.length = n)) (h1 : 1 ≤ n) (h2 : n ≤ 13) (hn : Nums l) (hn' : Nums m) (h0 : m.getD 0 0 ≠ 0) :
    Calls Try.prog 37 #[.slice a n ca, .slice b n cb] w (ResN w n (divl l m) 0) := by
  have t := two_of h h' h1 h2 hn hn'
  have e1 := h.out
  have e2 := h'.out
  have k := iDivSeries a b ca cb l m w ha hb hn.rng hn'.rng (by omega) (by omega)
  rw [e1, e2] at k
  exact k.mono fun _ _ r => resN_of r (by unfold allDiv ifTwo resDiv; rw [if_pos t, if_neg h0]) (by unfold alcDiv codDiv; rw [if_pos t, if_neg h0]) (by rw [divl_len]; exact e1)
theorem divZ (n : Nat) (a b : Option Addr) (ca cb : Nat) (l m : List Int) (w : World) (ha : At w a l) (hb : At w b m) (h : Hid (l.length = n)) (h' : Hid (m.length = n)) (h1 : 1 ≤ n) (h2 : n ≤ 13) (hn : Nums l) (hn' : Nums m) (h0 : m.getD 0 0 = 0) :
    Calls Try.prog 37 #[.slice a n ca, .slice b n cb] w (ResN w 0 [] 6) := by
  have t := two_of h h' h1 h2 hn hn'
  have e1 := h.out
  have e2 := h'.out
  have k := iDivSeries a b ca cb l m w ha hb hn.rng hn'.rng (by omega) (by omega)
  rw [e1, e2] at k
  exact k.mono fun _ _ r => resN_of r (by unfold allDiv ifTwo resDiv; rw [if_pos t, if_pos h0]) (by unfold alcDiv codDiv; rw [if_pos t, if_pos h0]) rfl
theorem addl_nms (a b : List Int) : Nums (addl a b) := tab_nms _ fun _ => pls_bd _ _
theorem sameN (n : Nat) (a b : Option Addr) (ca cb : Nat) (l : List Int) (w : World) (ha : At w a l) (hb : At w b l) (h : Hid (l.length = n)) (h2 : n ≤ 13) :
    Calls Try.prog 36 #[.slice a n ca, .slice b n cb] w fun e w' => e = .returned (.bool true) ∧ Below w.heap.size w w' := by
  have e1 := h.out
  have k := a2Same a b ca cb l w ha hb (by omega)
  rw [e1] at k
  exact k

set_option maxRecDepth 100000 in
set_option maxHeartbeats 6400000 in
theorem wFnSeries (a0 : Option Addr) (len0 cap0 : Nat) (z0 : List Int) (a1 : Option Addr) (len1 cap1 : Nat) (z1 : List Int) (w : World) (w0 : IsRow .u8 w a0 len0 cap0 z0) (w1 : IsRow .u8 w a1 len1 cap1 z1) :
    Calls Try.prog 4 #[.slice a0 len0 cap0, .slice a1 len1 cap1] w fun e w' => e = .returned (.bool true) ∧ Below w.heap.size w w' := by
  obtain ⟨hb0, hn0⟩ := w0.bytes
  obtain ⟨_, hn1⟩ := w1.bytes
  clear w0 w1
  by_cases hlong : 3000 < len0 ∨ 3000 < len1
  · have HL := Lib.hid hlong
    clear hlong
    go_enter Try.func4, Try.ntmps4
    go_wp2_with fail
    refine (longT a0 a1 len0 cap0 len1 cap1 _ HL.out hn0 hn1).mono ?_; rintro e w' ⟨rfl, rfl⟩
    go_wp2_with fail
    go_ret
    exact ⟨rfl, Below.refl _ _⟩
  · have hl0 : len0 ≤ 3000 := by omega
    have hl1 : len1 ≤ 3000 := by omega
    clear hlong hn0 hn1
    go_enter Try.func4, Try.ntmps4
    go_wp2_with fail
    refine (longF a0 a1 len0 cap0 len1 cap1 _ hl0 hl1).mono ?_; rintro e w' ⟨rfl, rfl⟩
    go_wp2_with fail
    refine (sSeries3 a0 len0 cap0 _ hb0 hl0).mono ?_
    rintro e v1 ⟨n, g1, c1, g2, c2, g3, c3, x, y, z, h1, h2, hx, hy, hz, nx, ny, nz, rfl, ox, oy, oz, HB⟩
    have HX := Lib.hid hx
    have HY := Lib.hid hy
    have HZ := Lib.hid hz
    have hlaw := Lib.hid (ring_law (a := x) (b := y) (c := z) (hy.trans hx.symm) (hz.trans hx.symm))
    clear hx hy hz
    replace ox := ox.a
    replace oy := oy.a
    replace oz := oz.a
    go_wp2_with fail
    refine (addN n _ _ c2 c3 y z _ oy.at oz.at HY HZ h1 h2 ny nz).mono ?_
    rintro e v2 ⟨gs, cs, rfl, HS, os, b⟩
    replace HB := HB.trans (b.mono HB.size); replace ox := ox.below b; replace oy := oy.below b; replace oz := oz.below b; clear b
    go_wp2_with fail
    refine (mulN n _ _ c1 cs x (addl y z) _ ox.at os.at HX HS h1 h2 nx (addl_nms _ _)).mono ?_
    rintro e v3 ⟨gl, cl, rfl, HLf, ol, b⟩
    replace HB := HB.trans (b.mono HB.size); replace ox := ox.below b; replace oy := oy.below b; replace oz := oz.below b; clear b os
    go_wp2_with fail
    refine (mulN n _ _ c1 c2 x y _ ox.at oy.at HX HY h1 h2 nx ny).mono ?_
    rintro e v4 ⟨gab, cab, rfl, Hab, oab, b⟩
    replace HB := HB.trans (b.mono HB.size); replace ox := ox.below b; replace oy := oy.below b; replace oz := oz.below b; replace ol := ol.below b; clear b
    go_wp2_with fail
    refine (mulN n _ _ c3 c1 z x _ oz.at ox.at HZ HX h1 h2 nz nx).mono ?_
    rintro e v5 ⟨gac, cac, rfl, Hac, oac, b⟩
    replace HB := HB.trans (b.mono HB.size); replace ox := ox.below b; replace oy := oy.below b; replace ol := ol.below b; replace oab := oab.below b; clear b oz
    go_wp2_with fail
    refine (addN n _ _ cac cab (mull z x) (mull x y) _ oac.at oab.at Hac Hab h1 h2 (mull_nms _ _) (mull_nms _ _)).mono ?_
    rintro e v6 ⟨gr, cr, rfl, Hr, orr, b⟩
    replace HB := HB.trans (b.mono HB.size); replace ox := ox.below b; replace oy := oy.below b; replace ol := ol.below b; clear b oab oac
    rw [← hlaw.out] at orr
    have hnn : ((n : Int) != (n : Int)) = false := by simp
    go_wp2_with fail
    refine (sameN n _ _ cl cr (mull x (addl y z)) _ ol.at orr.at HLf h2).mono ?_
    rintro e v7 ⟨rfl, b⟩
    replace HB := HB.trans (b.mono HB.size); replace ox := ox.below b; replace oy := oy.below b; clear b ol orr
    go_wp2_with fail
    have hin : 0 < n := by omega
    have hii : (0 : Int) < (n : Int) := by omega
    by_cases h0 : y.getD 0 0 = 0
    · refine (divZ n _ _ c1 c2 x y _ ox.at oy.at HX HY h1 h2 nx ny h0).mono ?_
      rintro e v8 ⟨gq, cq, rfl, _, oq, b⟩
      replace HB := HB.trans (b.mono HB.size); replace oy := oy.below b; clear b
      obtain ⟨gy, hgy, oyy⟩ := oy.resolve_left (by intro e; have := HY.out; rw [e] at this; simp at this; omega)
      cases hgy
      have hcy : v8.cell? ⟨g2, 0, none⟩ = some (.int .i64 0) := by rw [oyy.cellAt 0 (by rw [HY.out]; exact hin), h0]
      clear h0 oyy
      go_wp2_with fail
      go_ret
      exact ⟨rfl, HB⟩
    · have hdl := Lib.hid (div_law nx ny h0)
      refine (divN n _ _ c1 c2 x y _ ox.at oy.at HX HY h1 h2 nx ny h0).mono ?_
      rintro e v8 ⟨gq, cq, rfl, Hq, oq, b⟩
      replace HB := HB.trans (b.mono HB.size); replace oy := oy.below b; replace ox := ox.below b; clear b
      have hcy : v8.cell? ⟨g2, 0, none⟩ = some (.int .i64 (y.getD 0 0)) := by
        obtain ⟨gy, hgy, oyy⟩ := oy.resolve_left (by intro e; have := HY.out; rw [e] at this; simp at this; omega)
        cases hgy
        exact oyy.cellAt 0 (by rw [HY.out]; exact hin)
      have hq0 : (y.getD 0 0 == 0) = false := by rw [beq_eq_false_iff_ne]; exact h0
      obtain ⟨f0, hf0⟩ : ∃ f0, y.getD 0 0 = f0 := ⟨_, rfl⟩
      rw [hf0] at hcy hq0
      clear h0 hf0
      go_wp2_with fail
      refine (mulN n _ _ cq c2 (divl x y) y _ oq.at oy.at Hq HY h1 h2 (dvs_nms _ _ _ _) ny).mono ?_
      rintro e v9 ⟨gb, cb, rfl, Hb, ob, b⟩
      replace HB := HB.trans (b.mono HB.size); replace ox := ox.below b; clear b
      rw [hdl.out] at ob
      go_wp2_with fail
      refine (sameN n _ _ cb c1 x _ ob.at ox.at HX h2).mono ?_
      rintro e v10 ⟨rfl, b⟩
      replace HB := HB.trans (b.mono HB.size)
      go_wp2_with fail
      go_ret
      exact ⟨rfl, HB⟩

end Go.Proofs.Ytegjlfbklcgapaa
