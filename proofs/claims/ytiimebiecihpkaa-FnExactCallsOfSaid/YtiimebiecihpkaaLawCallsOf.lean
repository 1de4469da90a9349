/- The law on functions that are called. -/
import Derived.Deep.RegionHeld3
import Derived.Test.YtiimebiecihpkaaCar
import Derived.Test.YtiimebiecihpkaaMt
namespace Go.Proofs.Ytiimebiecihpkaa
open Go.RowKit
set_option linter.unusedVariables false

theorem cList_len {l : List Fn} {f : Int} (hsz : pgSize l ≤ 1048576) : (cList l f).length ≤ 1048576 := by
  unfold cList
  split
  · rename_i h
    have := allOf_len l (f := f.toNat) (by omega)
    unfold pgSize at hsz
    omega
  · exact Nat.zero_le _
theorem OwnA.outAt {L B B' : Nat} {w w' : World} {a : Option Addr} {cap : Nat} {l : List Int} (h : OwnA B' w a cap l) (ho : Out L B w w') (hB : B ≤ B') : OwnA B' w' a cap l := by
  by_cases hl : l = []
  · exact .inl hl
  · obtain ⟨g, rfl, hg⟩ := h.resolve_left hl
    have hb := hg.base
    have hblk := ho.block g hb.2 (by omega)
    obtain ⟨h1, h2⟩ := hg
    refine .inr ⟨g, rfl, h1, ?_⟩
    rcases h2 with ⟨e, _⟩ | ⟨g', cap', cur, hv, hg', hh, h3⟩
    · cases e
    · cases hv
      exact .inr ⟨g, cap, cur, rfl, hg', hblk.trans hh, h3⟩
theorem Out.below {L B : Nat} {w w' : World} (h : Out L B w w') (hL : L ≤ w.heap.size) : Below L w w' := ⟨h.os, h.tape, h.output, h.size, fun k hk => h.block k (by omega) (by omega)⟩

set_option maxRecDepth 100000 in
set_option maxHeartbeats 6400000 in
theorem wFnExactCallsOf (v0 v1 : Value) (w : World) (h0 : IsProg w v0) (h1 : IsI64 w v1) :
    Calls Try.prog 9 #[v0, v1] w fun e w' => e = .returned (.bool true) ∧ Below w.heap.size w w' := by
  obtain ⟨a, cap, l, rfl, hP, hlen⟩ := h0
  obtain ⟨f, rfl, hf1, hf2⟩ := h1
  clear hf1 hf2
  obtain ⟨w0, hw0⟩ : ∃ w0, w0 = w.alloc (.cells #[.slice a l.length cap] 40) := ⟨_, rfl⟩
  have hb0 : Below w.heap.size w w0 := by rw [hw0]; exact (Below.refl _ _).alloc (Nat.le_refl _) _
  have z0 : w0.heap.size = w.heap.size + 1 := by rw [hw0]; simp
  have c0 : w0.cell? ⟨w.heap.size, 0, none⟩ = some (.slice a l.length cap) := by rw [hw0]; simp [go_sem]
  have hP0 : Pat w0 0 w0.heap.size l a := (hP.below hb0).mono (Nat.le_refl _) hb0.size
  have hlm : l.length ≤ maxLen := hlen
  have HZ := Lib.hid (szProgram l a cap 1048576 w0 hP0 hlm (by omega) (by omega))
  by_cases hs : ((pgSize l : Nat) : Int) ≤ 1048576
  · have hsz : pgSize l ≤ 1048576 := by omega
    have hql := cList_len (f := f) hsz
    rw [szv_t hs] at HZ
    have hy : 0 ≤ 1048576 - ((pgSize l : Nat) : Int) := by omega
    have hd : decide (1048576 - ((pgSize l : Nat) : Int) < 0) = false := decide_eq_false (by omega)
    have hll : l.length ≤ 1048576 := by unfold pgSize at hsz; omega
    generalize 1048576 - ((pgSize l : Nat) : Int) = lv at HZ hy hd
    go_enter Try.func9, Try.ntmps9
    go_wp2_with fail
    rw [← hw0]
    clear hw0 hs
    refine (HZ.out).mono ?_; rintro e w1 ⟨rfl, hb1⟩
    have c1 := (hb1.cell (p := ⟨w.heap.size, 0, none⟩) (by show w.heap.size < _; omega)).trans c0
    have z1 := hb1.size
    have hP1 := (hP0.below hb1).mono (Nat.le_refl _) hb1.size
    clear HZ
    go_wp2_with fail
    refine (toProgram l a cap _ hP1 hsz).mono ?_; rintro e w2 ⟨g2, rfl, hQ2, hb2⟩
    have c2 := (hb2.cell (p := ⟨w.heap.size, 0, none⟩) (by show w.heap.size < _; omega)).trans c1
    have z2 := hb2.size
    have hP2 := (hP1.below hb2).mono (Nat.le_refl _) hb2.size
    clear c1 hP1
    go_wp2_with fail
    refine (sCallsOf l _ l.length f _ (hQ2.mono (Nat.zero_le _) (Nat.le_refl _)) hsz).mono ?_; rintro e w3 ⟨a3, cap3, rfl, hA3, hb3⟩
    have c3 := (hb3.cell (p := ⟨w.heap.size, 0, none⟩) (by show w.heap.size < _; omega)).trans c2
    have z3 := hb3.size
    have hP3 := (hP2.below hb3).mono (Nat.le_refl _) hb3.size
    clear c2 hP2
    go_wp2_with fail
    refine (toProgramW l a cap _ hP3 hsz).mono ?_; rintro e w4 ⟨g4, rfl, hQ4, hb4⟩
    have c4 := (hb4.cell (p := ⟨w.heap.size, 0, none⟩) (by show w.heap.size < _; omega)).trans c3
    have z4 := hb4.size
    obtain ⟨w5, hw5⟩ : ∃ w5, w5 = w4.alloc (.cells #[.slice (some ⟨g4, 0, none⟩) l.length l.length] 49) := ⟨_, rfl⟩
    have hb5 : Below w4.heap.size w4 w5 := by rw [hw5]; exact (Below.refl _ _).alloc (Nat.le_refl _) _
    have z5 : w5.heap.size = w4.heap.size + 1 := by rw [hw5]; simp
    have c5 := (hb5.cell (p := ⟨w.heap.size, 0, none⟩) (by show w.heap.size < _; omega)).trans c4
    have x5 : w5.cell? ⟨w4.heap.size, 0, none⟩ = some (.slice (some ⟨g4, 0, none⟩) l.length l.length) := by rw [hw5]; simp [go_sem]
    have hQ5 := (hQ4.pat.below hb5).mono (Nat.zero_le _) hb5.size
    have HB5 : Below w3.heap.size w3 w5 := hb4.trans (hb5.mono hb4.size)
    have hS4 := hQ4.spt hsz
    have hgb := hS4.1
    clear hQ4 hQ2
    have lw : w.heap.size < w4.heap.size := by omega
    go_wp2_with fail
    rw [← hw5]
    clear hw5 c4
    refine (iCallsOf l _ l.length f _ hQ5 hsz (Nat.le_refl _) hll).mono ?_; rintro e w6 ⟨a6, cap6, rfl, hA6, hb6⟩
    have z6 := hb6.size
    have HB6 : Below w3.heap.size w3 w6 := HB5.trans (hb6.mono HB5.size)
    have H46 : Below w4.heap.size w4 w6 := hb5.trans (hb6.mono hb5.size)
    go_wp2_with fail
    refine (eqInt64S a6 a3 cap6 cap3 (cList l f) _ hA6.at (hA3.below HB6 (Nat.le_refl _)) (by omega)).mono ?_; rintro e w7 ⟨rfl, hb7⟩
    have z7 := hb7.size
    have HB7 : Below w3.heap.size w3 w7 := HB6.trans (hb7.mono HB6.size)
    have H47 : Below w4.heap.size w4 w7 := H46.trans (hb7.mono H46.size)
    have hA7 := hA6.below hb7
    have c7 := (HB7.cell (p := ⟨w.heap.size, 0, none⟩) (by show w.heap.size < _; omega)).trans c3
    have x7 := ((hb6.trans (hb7.mono hb6.size)).cell (p := ⟨w4.heap.size, 0, none⟩) (by show w4.heap.size < _; omega)).trans x5
    have hQ6 := (hQ5.below hb6).mono (Nat.le_refl _) hb6.size
    have hQ7 := (hQ6.below hb7).mono (Nat.le_refl _) hb7.size
    have hP7 := (hP3.below HB7).mono (Nat.le_refl _) HB7.size
    have hne2 : (cCode l f != cCode l f) = false := by simp
    have hbB : Below w.heap.size w w3 := (((hb0.trans (hb1.mono (by omega))).trans (hb2.mono (by omega))).trans (hb3.mono (by omega)))
    have HT := fun (W : World) (hW : Below w7.heap.size w7 W) => Lib.hid (toProgram l a cap W ((hP7.below hW).mono (Nat.le_refl _) hW.size) hsz)
    clear c5 x5 hQ5 hQ6 hA6 HB6
    go_wp2_with fail
    have l1 : w.heap.size < w7.heap.size := by omega
    have l2 : w4.heap.size < w7.heap.size := by omega
    go_region_held3 (fun w' => w'.cell? ⟨w.heap.size, 0, none⟩ = some (.slice a l.length cap) ∧ w'.cell? ⟨w4.heap.size, 0, none⟩ = some (.slice (some ⟨g4, 0, none⟩) l.length l.length))
      (first
        | exact ⟨c7, x7⟩
        | exact ⟨(hb9.cell (p := ⟨w.heap.size, 0, none⟩) l1).trans c7, (hb9.cell (p := ⟨w4.heap.size, 0, none⟩) l2).trans x7⟩
        | exact ⟨(hb8.cell (p := ⟨w.heap.size, 0, none⟩) l1).trans c7, (hb8.cell (p := ⟨w4.heap.size, 0, none⟩) l2).trans x7⟩
        | go_keep)
      (first
        | (go_at_call 33; refine (HT _ (below_drew (Below.refl _ _))).out.mono ?_; rintro e w8 ⟨g8, rfl, hQ8, hb8'⟩; have hb8 : Below w7.heap.size w7 w8 := ⟨hb8'.os, hb8'.tape, hb8'.output, hb8'.size, hb8'.block⟩)
        | (go_at_call 36; refine (eqProgram l _ _ _ _ _ ((hQ7.below hb8).mono (Nat.le_refl _) hb8.size) (hQ8.mono (Nat.zero_le _) (Nat.le_refl _)) hlm).mono ?_; rintro e w9 ⟨rfl, hb9'⟩; have hb9 : Below w7.heap.size w7 w9 := hb8.trans (hb9'.mono hb8.size)))
    all_goals
      have HB9 : Below w3.heap.size w3 w9 := HB7.trans (hb9.mono HB7.size)
      have H49 : Below w4.heap.size w4 w9 := H47.trans (hb9.mono H47.size)
      have z9 := H49.size
      have hA9 := hA7.below hb9
      have c9 := (HB9.cell (p := ⟨w.heap.size, 0, none⟩) (by show w.heap.size < _; omega)).trans c3
      have x9 := (hb9.cell (p := ⟨w4.heap.size, 0, none⟩) l2).trans x7
      have hM0 : Mp w3.heap.size w4.heap.size g4 w4 w9 := Mp.of_below H49 (Nat.le_refl _) hgb.2
      have hS9 : Spt w9 w3.heap.size w4.heap.size l g4 := by
        obtain ⟨h1, h2, h3⟩ := hS4
        refine ⟨h1, fun o => (hM0.frz g4 o (by omega)).trans (h2 o), fun i hi => ?_⟩
        obtain ⟨q0, b', cap', q1, q2, q3, q4⟩ := h3 i hi
        exact ⟨q0, b', cap', hM0.strs _ q1, hM0.ints _ q2, hM0.outs _ _ q3, hM0.trees q4⟩
      have HMk := Lib.hid (markProgram w3.heap.size w4.heap.size l g4 l.length 1 w9 hS9 z9 hsz (by omega))
      clear HT hQ7 hQ8 hP7 c7 x7 hA7 hS4 hS9 hM0 hb8' hb9' c0 hP0 hP
      go_wp2_with fail
      refine (HMk.out).mono ?_; rintro e w10 ⟨x, rfl, _, hMp⟩
      have HO := hMp.out
      have z10 := HO.size
      have HB10 : Below w3.heap.size w3 w10 := HB9.trans (HO.below HB9.size)
      have hA10 := hA9.outAt HO (by omega)
      have hx0 : ¬ (x : Int) < 0 := by omega
      have c10 := (HB10.cell (p := ⟨w.heap.size, 0, none⟩) (by show w.heap.size < _; omega)).trans c3
      clear HMk hMp hA9 c9 x9
      go_wp2_with fail
      refine (eqInt64S a6 a3 cap6 cap3 (cList l f) _ hA10.at (hA3.below HB10 (Nat.le_refl _)) (by omega)).mono ?_; rintro e w11 ⟨rfl, hb11⟩
      have HB11 : Below w3.heap.size w3 w11 := HB10.trans (hb11.mono HB10.size)
      have hA11 := hA10.below hb11
      have c11 := (HB11.cell (p := ⟨w.heap.size, 0, none⟩) (by show w.heap.size < _; omega)).trans c3
      clear hA10 c10
      go_wp2_with fail
      refine (markAt _ _ _ (cList l f) 1 1 _ (by omega) hA11 (by omega) (by omega)).mono ?_; rintro e w12 ⟨rfl, hA12, hg12⟩
      have HB12 := HB11.grown hg12 HB11.size (fun g hg => Nat.le_trans (by omega) (hA11.lt g hg).1)
      have c12 := (HB12.cell (p := ⟨w.heap.size, 0, none⟩) (by show w.heap.size < _; omega)).trans c3
      clear hA11 c11 hg12
      go_wp2_with fail
      refine (heldAt _ _ (cList l f).length 1 1 _ (by omega) hA12.at (by omega) (by omega)).mono ?_; rintro e w' ⟨rfl, rfl⟩
      have hP12 := (hP3.below HB12).mono (Nat.le_refl _) HB12.size
      go_wp2_with fail
      refine (toProgram l a cap _ hP12 hsz).mono ?_; rintro e w13 ⟨g13, rfl, hQ13, hb13⟩
      have HB13 : Below w3.heap.size w3 w13 := HB12.trans (hb13.mono HB12.size)
      have hA13 := hA12.below hb13
      clear hA12 c12 hP12
      go_wp2_with fail
      refine (iCallsOf l _ l.length f _ (hQ13.mono (Nat.zero_le _) (Nat.le_refl _)) hsz (Nat.le_refl _) hll).mono ?_; rintro e w14 ⟨a14, cap14, rfl, hA14, hb14⟩
      have HB14 : Below w3.heap.size w3 w14 := HB13.trans (hb14.mono HB13.size)
      have hA14' := hA13.below hb14
      clear hA13 hQ13
      go_wp2_with fail
      refine (eqInt64S a14 a3 cap14 cap3 (cList l f) _ hA14.at (hA3.below HB14 (Nat.le_refl _)) (by omega)).mono ?_; rintro e w15 ⟨rfl, hb15⟩
      have HB15 : Below w3.heap.size w3 w15 := HB14.trans (hb15.mono HB14.size)
      have hA15 := hA14'.below hb15
      clear hA14 hA14'
      go_wp2_with fail
      refine (heldAt _ _ (cList l f).length 1 1 _ (by omega) hA15.at (by omega) (by omega)).mono ?_; rintro e w' ⟨rfl, rfl⟩
      go_wp2_with fail
      go_ret
      exact ⟨rfl, hbB.trans (HB15.mono hbB.size)⟩
  · rw [szv_f hs] at HZ
    go_enter Try.func9, Try.ntmps9
    go_wp2_with fail
    rw [← hw0]
    clear hw0 hs
    refine (HZ.out).mono ?_; rintro e w1 ⟨rfl, hb1⟩
    go_wp2_with fail
    go_ret
    exact ⟨rfl, hb0.trans (hb1.mono (by omega))⟩

end Go.Proofs.Ytiimebiecihpkaa
