/- The law on valid expressions. -/
import Derived.Deep.RegionHeld3
import Derived.Test.YtiimebiecihpkaaVex
namespace Go.Proofs.Ytiimebiecihpkaa
open Go.RowKit
set_option linter.unusedVariables false

set_option maxRecDepth 100000 in
set_option maxHeartbeats 6400000 in
theorem wFnExactValidExpr (v0 v1 v2 v3 : Value) (w : World) (h0 : IsProg w v0) (h1 : IsExpr w v1) (h2 : IsI64 w v2) (h3 : IsI64 w v3) :
    Calls Try.prog 6 #[v0, v1, v2, v3] w fun e w' => e = .returned (.bool true) ∧ Below w.heap.size w w' := by
  obtain ⟨a, cap, l, rfl, hP, hlen⟩ := h0
  obtain ⟨k, n, p, c, ka, ks, kcap, rfl, hR, hF, hkl⟩ := h1
  obtain ⟨vars, rfl, hv1, hv2⟩ := h2
  obtain ⟨funcs, rfl, hf1, hf2⟩ := h3
  obtain ⟨w0, hw0⟩ : ∃ w0, w0 = (w.alloc (.cells #[.slice a l.length cap] 40)).alloc (.cells #[.int .i64 k, .int .i64 n, .int .i64 p, .int .i64 c, .slice ka ks.len kcap] 43) := ⟨_, rfl⟩
  have hb0 : Below w.heap.size w w0 := by rw [hw0]; exact ((Below.refl _ _).alloc (Nat.le_refl _) _).alloc (by simp) _
  have z0 : w0.heap.size = w.heap.size + 2 := by rw [hw0]; simp
  have c0 : w0.cell? ⟨w.heap.size, 0, none⟩ = some (.slice a l.length cap) := by rw [hw0]; simp [go_sem]
  have e0 : w0.cell? ⟨w.heap.size + 1, 0, none⟩ = some (.int .i64 k) := by rw [hw0]; simp [go_sem]
  have e1 : w0.cell? ⟨w.heap.size + 1, 1, none⟩ = some (.int .i64 n) := by rw [hw0]; simp [go_sem]
  have e2 : w0.cell? ⟨w.heap.size + 1, 2, none⟩ = some (.int .i64 p) := by rw [hw0]; simp [go_sem]
  have e3 : w0.cell? ⟨w.heap.size + 1, 3, none⟩ = some (.int .i64 c) := by rw [hw0]; simp [go_sem]
  have e4 : w0.cell? ⟨w.heap.size + 1, 4, none⟩ = some (.slice ka ks.len kcap) := by rw [hw0]; simp [go_sem]
  have hP0 : Pat w0 0 w0.heap.size l a := (hP.below hb0).mono (Nat.le_refl _) hb0.size
  have hF0 : Fat w0 0 w0.heap.size ks ka := (hF.below hb0).mono (Nat.le_refl _) hb0.size
  have hlm : l.length ≤ maxLen := hlen
  have hkm : ks.len ≤ maxLen := hkl
  have HZ := Lib.hid (szProgram l a cap 1048576 w0 hP0 hlm (by omega) (by omega))
  by_cases hs : ((pgSize l : Nat) : Int) ≤ 1048576
  · have hsz : pgSize l ≤ 1048576 := by omega
    rw [szv_t hs] at HZ
    have hy : 0 ≤ 1048576 - ((pgSize l : Nat) : Int) := by omega
    have hy1 : 1048576 - ((pgSize l : Nat) : Int) ≤ 1048576 := by omega
    have hd : decide (1048576 - ((pgSize l : Nat) : Int) < 0) = false := decide_eq_false (by omega)
    have hll : l.length ≤ 1048576 := by unfold pgSize at hsz; omega
    generalize 1048576 - ((pgSize l : Nat) : Int) = lv at HZ hy hy1 hd
    go_enter Try.func6, Try.ntmps6
    go_wp2_with fail
    rw [← hw0]
    clear hw0 hs
    refine (HZ.out).mono ?_; rintro e w1 ⟨rfl, hb1⟩
    have z1 := hb1.size
    have c1 := (hb1.cell (p := ⟨w.heap.size, 0, none⟩) (by show w.heap.size < _; omega)).trans c0
    have g0 := (hb1.cell (p := ⟨w.heap.size + 1, 0, none⟩) (by show w.heap.size + 1 < _; omega)).trans e0
    have g1 := (hb1.cell (p := ⟨w.heap.size + 1, 1, none⟩) (by show w.heap.size + 1 < _; omega)).trans e1
    have g2 := (hb1.cell (p := ⟨w.heap.size + 1, 2, none⟩) (by show w.heap.size + 1 < _; omega)).trans e2
    have g3 := (hb1.cell (p := ⟨w.heap.size + 1, 3, none⟩) (by show w.heap.size + 1 < _; omega)).trans e3
    have g4 := (hb1.cell (p := ⟨w.heap.size + 1, 4, none⟩) (by show w.heap.size + 1 < _; omega)).trans e4
    have hP1 := (hP0.below hb1).mono (Nat.le_refl _) hb1.size
    have hF1 := (hF0.below hb1).mono (Nat.le_refl _) hb1.size
    have HZ2 := Lib.hid (szExpr ks k n p c ka kcap lv w1 hF1 hkm hy hy1)
    clear HZ c0 e0 e1 e2 e3 e4 hP0 hF0
    by_cases hs2 : ((ks.size : Nat) : Int) ≤ lv
    · have hks : ks.size ≤ 1048576 := by omega
      rw [szv_t hs2] at HZ2
      have hd2 : decide (lv - ((ks.size : Nat) : Int) < 0) = false := decide_eq_false (by omega)
      generalize lv - ((ks.size : Nat) : Int) = lv2 at HZ2 hd2
      go_wp2_with fail
      refine (HZ2.out).mono ?_; rintro e w2 ⟨rfl, hb2⟩
      have z2 := hb2.size
      have c2 := (hb2.cell (p := ⟨w.heap.size, 0, none⟩) (by show w.heap.size < _; omega)).trans c1
      have e0 := (hb2.cell (p := ⟨w.heap.size + 1, 0, none⟩) (by show w.heap.size + 1 < _; omega)).trans g0
      have e1 := (hb2.cell (p := ⟨w.heap.size + 1, 1, none⟩) (by show w.heap.size + 1 < _; omega)).trans g1
      have e2 := (hb2.cell (p := ⟨w.heap.size + 1, 2, none⟩) (by show w.heap.size + 1 < _; omega)).trans g2
      have e3 := (hb2.cell (p := ⟨w.heap.size + 1, 3, none⟩) (by show w.heap.size + 1 < _; omega)).trans g3
      have e4 := (hb2.cell (p := ⟨w.heap.size + 1, 4, none⟩) (by show w.heap.size + 1 < _; omega)).trans g4
      have hP2 := (hP1.below hb2).mono (Nat.le_refl _) hb2.size
      have hF2 := (hF1.below hb2).mono (Nat.le_refl _) hb2.size
      clear HZ2 c1 g0 g1 g2 g3 g4 hP1 hF1 hs2
      have l1 : w.heap.size < w2.heap.size := by omega
      have l2 : w.heap.size + 1 < w2.heap.size := by omega
      have HTP := fun (W : World) (hW : Below w2.heap.size w2 W) => Lib.hid (toProgram l a cap W ((hP2.below hW).mono (Nat.le_refl _) hW.size) hsz)
      have HTE := fun (W : World) (hW : Below w2.heap.size w2 W) => Lib.hid (toExpr ks k n p c ka kcap W ((hF2.below hW).mono (Nat.le_refl _) hW.size) hks)
      have hbI : Below w2.heap.size w2 w2 := Below.refl _ _
      go_wp2_with fail
      go_region_held3 (fun w' => w'.cell? ⟨w.heap.size, 0, none⟩ = some (.slice a l.length cap) ∧ w'.cell? ⟨w.heap.size + 1, 0, none⟩ = some (.int .i64 k) ∧ w'.cell? ⟨w.heap.size + 1, 1, none⟩ = some (.int .i64 n) ∧ w'.cell? ⟨w.heap.size + 1, 2, none⟩ = some (.int .i64 p) ∧ w'.cell? ⟨w.heap.size + 1, 3, none⟩ = some (.int .i64 c) ∧ w'.cell? ⟨w.heap.size + 1, 4, none⟩ = some (.slice ka ks.len kcap))
        (first
          | exact ⟨c2, e0, e1, e2, e3, e4⟩
          | exact ⟨(hbV2.cell (p := ⟨w.heap.size, 0, none⟩) l1).trans c2, (hbV2.cell (p := ⟨w.heap.size + 1, 0, none⟩) l2).trans e0, (hbV2.cell (p := ⟨w.heap.size + 1, 1, none⟩) l2).trans e1, (hbV2.cell (p := ⟨w.heap.size + 1, 2, none⟩) l2).trans e2, (hbV2.cell (p := ⟨w.heap.size + 1, 3, none⟩) l2).trans e3, (hbV2.cell (p := ⟨w.heap.size + 1, 4, none⟩) l2).trans e4⟩
          | exact ⟨(hbE2.cell (p := ⟨w.heap.size, 0, none⟩) l1).trans c2, (hbE2.cell (p := ⟨w.heap.size + 1, 0, none⟩) l2).trans e0, (hbE2.cell (p := ⟨w.heap.size + 1, 1, none⟩) l2).trans e1, (hbE2.cell (p := ⟨w.heap.size + 1, 2, none⟩) l2).trans e2, (hbE2.cell (p := ⟨w.heap.size + 1, 3, none⟩) l2).trans e3, (hbE2.cell (p := ⟨w.heap.size + 1, 4, none⟩) l2).trans e4⟩
          | exact ⟨(hbP2.cell (p := ⟨w.heap.size, 0, none⟩) l1).trans c2, (hbP2.cell (p := ⟨w.heap.size + 1, 0, none⟩) l2).trans e0, (hbP2.cell (p := ⟨w.heap.size + 1, 1, none⟩) l2).trans e1, (hbP2.cell (p := ⟨w.heap.size + 1, 2, none⟩) l2).trans e2, (hbP2.cell (p := ⟨w.heap.size + 1, 3, none⟩) l2).trans e3, (hbP2.cell (p := ⟨w.heap.size + 1, 4, none⟩) l2).trans e4⟩
          | go_keep)
        (first
          | (go_at_call 33; refine (HTP _ (below_drew (Below.refl _ _))).out.mono ?_; rintro e w3 ⟨g3, rfl, hQ3, hbP⟩; have hbP2 : Below w2.heap.size w2 w3 := ⟨hbP.os, hbP.tape, hbP.output, hbP.size, hbP.block⟩)
          | (go_at_call 34; refine (HTE _ hbP2).out.mono ?_; rintro e w4 ⟨g4, rfl, hQ4, hbE⟩; have hbE2 : Below w2.heap.size w2 w4 := hbP2.trans (hbE.mono hbP2.size))
          | (go_at_call 32; refine (sValidExpr l _ l.length k n p c ks _ ks.len vars funcs _ ((hQ3.below hbE).mono (Nat.zero_le _) hbE.size) hR (hQ4.mono (Nat.zero_le _) (Nat.le_refl _)) hll hks).mono ?_; rintro e w5 ⟨rfl, hbV⟩; have hbV2 : Below w2.heap.size w2 w5 := hbE2.trans (hbV.mono hbE2.size)))
      have z5 := hbV2.size
      have i0 := (hbV2.cell (p := ⟨w.heap.size, 0, none⟩) l1).trans c2
      have i1 := (hbV2.cell (p := ⟨w.heap.size + 1, 0, none⟩) l2).trans e0
      have i2 := (hbV2.cell (p := ⟨w.heap.size + 1, 1, none⟩) l2).trans e1
      have i3 := (hbV2.cell (p := ⟨w.heap.size + 1, 2, none⟩) l2).trans e2
      have i4 := (hbV2.cell (p := ⟨w.heap.size + 1, 3, none⟩) l2).trans e3
      have i5 := (hbV2.cell (p := ⟨w.heap.size + 1, 4, none⟩) l2).trans e4
      have hB5 : Below w.heap.size w w5 := hb0.trans ((hb1.trans ((hb2.trans (hbV2.mono hb2.size)).mono hb1.size)).mono hb0.size)
      have HP5 := Lib.hid (HTP _ hbV2)
      generalize hT : exprE l vars funcs k n p c ks = T
      have HT := Lib.hid hT
      clear hT c2 e0 e1 e2 e3 e4 hQ3 hQ4
      go_wp2_with fail
      refine HP5.out.out.mono ?_; rintro e w6 ⟨g6, rfl, hQ6, hb6⟩
      have z6 := hb6.size
      clear HP5
      have j0 := (hb6.cell (p := ⟨w.heap.size, 0, none⟩) (by show w.heap.size < _; omega)).trans i0
      have j1 := (hb6.cell (p := ⟨w.heap.size + 1, 0, none⟩) (by show w.heap.size + 1 < _; omega)).trans i1
      have j2 := (hb6.cell (p := ⟨w.heap.size + 1, 1, none⟩) (by show w.heap.size + 1 < _; omega)).trans i2
      have j3 := (hb6.cell (p := ⟨w.heap.size + 1, 2, none⟩) (by show w.heap.size + 1 < _; omega)).trans i3
      have j4 := (hb6.cell (p := ⟨w.heap.size + 1, 3, none⟩) (by show w.heap.size + 1 < _; omega)).trans i4
      have j5 := (hb6.cell (p := ⟨w.heap.size + 1, 4, none⟩) (by show w.heap.size + 1 < _; omega)).trans i5
      obtain ⟨w7, hw7⟩ : ∃ w7, w7 = w6.alloc (.cells #[.slice (some ⟨g6, 0, none⟩) l.length l.length] 49) := ⟨_, rfl⟩
      have hb7 : Below w6.heap.size w6 w7 := by rw [hw7]; exact (Below.refl _ _).alloc (Nat.le_refl _) _
      have z7 : w7.heap.size = w6.heap.size + 1 := by rw [hw7]; simp
      have x7 : w7.cell? ⟨w6.heap.size, 0, none⟩ = some (.slice (some ⟨g6, 0, none⟩) l.length l.length) := by rw [hw7]; simp [go_sem]
      have y0 := (hb7.cell (p := ⟨w.heap.size, 0, none⟩) (by show w.heap.size < _; omega)).trans j0
      have y1 := (hb7.cell (p := ⟨w.heap.size + 1, 0, none⟩) (by show w.heap.size + 1 < _; omega)).trans j1
      have y2 := (hb7.cell (p := ⟨w.heap.size + 1, 1, none⟩) (by show w.heap.size + 1 < _; omega)).trans j2
      have y3 := (hb7.cell (p := ⟨w.heap.size + 1, 2, none⟩) (by show w.heap.size + 1 < _; omega)).trans j3
      have y4 := (hb7.cell (p := ⟨w.heap.size + 1, 3, none⟩) (by show w.heap.size + 1 < _; omega)).trans j4
      have y5 := (hb7.cell (p := ⟨w.heap.size + 1, 4, none⟩) (by show w.heap.size + 1 < _; omega)).trans j5
      have hB67 : Below w5.heap.size w5 w7 := hb6.trans (hb7.mono (by omega))
      have HE7 := Lib.hid (HTE w7 (hbV2.trans (hB67.mono hbV2.size)))
      have hQ7 := (hQ6.below hb7).mono (Nat.zero_le _) hb7.size
      have lw6 : w.heap.size + 1 < w6.heap.size := by omega
      have lw7 : w.heap.size < w6.heap.size := by omega
      clear i0 i1 i2 i3 i4 i5 hQ6
      go_wp2_with fail
      rw [← hw7]
      clear hw7 j0 j1 j2 j3 j4 j5
      refine HE7.out.out.mono ?_; rintro e w8 ⟨g8, rfl, hQ8, hb8⟩
      have z8 := hb8.size
      clear HE7
      have i0 := (hb8.cell (p := ⟨w.heap.size, 0, none⟩) (by show w.heap.size < _; omega)).trans y0
      have i1 := (hb8.cell (p := ⟨w.heap.size + 1, 0, none⟩) (by show w.heap.size + 1 < _; omega)).trans y1
      have i2 := (hb8.cell (p := ⟨w.heap.size + 1, 1, none⟩) (by show w.heap.size + 1 < _; omega)).trans y2
      have i3 := (hb8.cell (p := ⟨w.heap.size + 1, 2, none⟩) (by show w.heap.size + 1 < _; omega)).trans y3
      have i4 := (hb8.cell (p := ⟨w.heap.size + 1, 3, none⟩) (by show w.heap.size + 1 < _; omega)).trans y4
      have i5 := (hb8.cell (p := ⟨w.heap.size + 1, 4, none⟩) (by show w.heap.size + 1 < _; omega)).trans y5
      have x8 := (hb8.cell (p := ⟨w6.heap.size, 0, none⟩) (by show w6.heap.size < _; omega)).trans x7
      obtain ⟨w9, hw9⟩ : ∃ w9, w9 = w8.alloc (.cells #[.int .i64 k, .int .i64 n, .int .i64 p, .int .i64 c, .slice (some ⟨g8, 0, none⟩) ks.len ks.len] 53) := ⟨_, rfl⟩
      have hb9 : Below w8.heap.size w8 w9 := by rw [hw9]; exact (Below.refl _ _).alloc (Nat.le_refl _) _
      have z9 : w9.heap.size = w8.heap.size + 1 := by rw [hw9]; simp
      have f0 : w9.cell? ⟨w8.heap.size, 0, none⟩ = some (.int .i64 k) := by rw [hw9]; simp [go_sem]
      have f1 : w9.cell? ⟨w8.heap.size, 1, none⟩ = some (.int .i64 n) := by rw [hw9]; simp [go_sem]
      have f2 : w9.cell? ⟨w8.heap.size, 2, none⟩ = some (.int .i64 p) := by rw [hw9]; simp [go_sem]
      have f3 : w9.cell? ⟨w8.heap.size, 3, none⟩ = some (.int .i64 c) := by rw [hw9]; simp [go_sem]
      have f4 : w9.cell? ⟨w8.heap.size, 4, none⟩ = some (.slice (some ⟨g8, 0, none⟩) ks.len ks.len) := by rw [hw9]; simp [go_sem]
      have j0 := (hb9.cell (p := ⟨w.heap.size, 0, none⟩) (by show w.heap.size < _; omega)).trans i0
      have j1 := (hb9.cell (p := ⟨w.heap.size + 1, 0, none⟩) (by show w.heap.size + 1 < _; omega)).trans i1
      have j2 := (hb9.cell (p := ⟨w.heap.size + 1, 1, none⟩) (by show w.heap.size + 1 < _; omega)).trans i2
      have j3 := (hb9.cell (p := ⟨w.heap.size + 1, 2, none⟩) (by show w.heap.size + 1 < _; omega)).trans i3
      have j4 := (hb9.cell (p := ⟨w.heap.size + 1, 3, none⟩) (by show w.heap.size + 1 < _; omega)).trans i4
      have j5 := (hb9.cell (p := ⟨w.heap.size + 1, 4, none⟩) (by show w.heap.size + 1 < _; omega)).trans i5
      have x9 := (hb9.cell (p := ⟨w6.heap.size, 0, none⟩) (by show w6.heap.size < _; omega)).trans x8
      have hQ9 := ((hQ7.below hb8).mono (Nat.le_refl _) hb8.size).below hb9 |>.mono (Nat.le_refl _) hb9.size
      have hR9 := (hQ8.below hb9).mono (Nat.zero_le _) hb9.size
      have hB9 : Below w.heap.size w w9 := hB5.trans ((hB67.trans ((hb8.trans (hb9.mono (by omega))).mono (by omega))).mono (by omega))
      have HV9 := Lib.hid (iValidExpr l g6 0 l.length k n p c ks _ ks.len vars funcs w9 hQ9 hR hR9 hll hks (Nat.le_refl _) hll)
      rw [HT.out] at HV9
      have ls6 : w6.heap.size < w8.heap.size := by omega
      clear i0 i1 i2 i3 i4 i5 y0 y1 y2 y3 y4 y5 x7
      go_wp2_with fail
      rw [← hw9]
      clear hw9 x8
      refine (HV9.out).mono ?_; rintro e w10 ⟨rfl, hb10⟩
      have z10 := hb10.size
      have i0 := (hb10.cell (p := ⟨w.heap.size, 0, none⟩) (by show w.heap.size < _; omega)).trans j0
      have i1 := (hb10.cell (p := ⟨w.heap.size + 1, 0, none⟩) (by show w.heap.size + 1 < _; omega)).trans j1
      have i2 := (hb10.cell (p := ⟨w.heap.size + 1, 1, none⟩) (by show w.heap.size + 1 < _; omega)).trans j2
      have i3 := (hb10.cell (p := ⟨w.heap.size + 1, 2, none⟩) (by show w.heap.size + 1 < _; omega)).trans j3
      have i4 := (hb10.cell (p := ⟨w.heap.size + 1, 3, none⟩) (by show w.heap.size + 1 < _; omega)).trans j4
      have i5 := (hb10.cell (p := ⟨w.heap.size + 1, 4, none⟩) (by show w.heap.size + 1 < _; omega)).trans j5
      have x10 := (hb10.cell (p := ⟨w6.heap.size, 0, none⟩) (by show w6.heap.size < _; omega)).trans x9
      have m0 := (hb10.cell (p := ⟨w8.heap.size, 0, none⟩) (by show w8.heap.size < _; omega)).trans f0
      have m1 := (hb10.cell (p := ⟨w8.heap.size, 1, none⟩) (by show w8.heap.size < _; omega)).trans f1
      have m2 := (hb10.cell (p := ⟨w8.heap.size, 2, none⟩) (by show w8.heap.size < _; omega)).trans f2
      have m3 := (hb10.cell (p := ⟨w8.heap.size, 3, none⟩) (by show w8.heap.size < _; omega)).trans f3
      have m4 := (hb10.cell (p := ⟨w8.heap.size, 4, none⟩) (by show w8.heap.size < _; omega)).trans f4
      have hQ10 := (hQ9.below hb10).mono (Nat.le_refl _) hb10.size
      have hR10 := (hR9.below hb10).mono (Nat.le_refl _) hb10.size
      have hB10 : Below w.heap.size w w10 := hB9.trans (hb10.mono hB9.size)
      have hB210 : Below w2.heap.size w2 w10 := hbV2.trans ((hB67.trans ((hb8.trans ((hb9.trans (hb10.mono (by omega))).mono (by omega))).mono (by omega))).mono hbV2.size)
      have hne : (T != T) = false := by simp
      have L0 : w.heap.size < w10.heap.size := by omega
      have L1 : w.heap.size + 1 < w10.heap.size := by omega
      have L6 : w6.heap.size < w10.heap.size := by omega
      have L8 : w8.heap.size < w10.heap.size := by omega
      have HTP2 := fun (W : World) (hW : Below w10.heap.size w10 W) => HTP W (hB210.trans (hW.mono hB210.size))
      have HTE2 := fun (W : World) (hW : Below w10.heap.size w10 W) => HTE W (hB210.trans (hW.mono hB210.size))
      clear HV9 j0 j1 j2 j3 j4 j5 f0 f1 f2 f3 f4 x9 HTP HTE
      go_wp2_with fail
      go_region_held3 (fun w' => w'.cell? ⟨w.heap.size, 0, none⟩ = some (.slice a l.length cap) ∧ w'.cell? ⟨w6.heap.size, 0, none⟩ = some (.slice (some ⟨g6, 0, none⟩) l.length l.length))
        (first
          | exact ⟨i0, x10⟩
          | exact ⟨(hbb2.cell (p := ⟨w.heap.size, 0, none⟩) L0).trans i0, (hbb2.cell (p := ⟨w6.heap.size, 0, none⟩) L6).trans x10⟩
          | exact ⟨(hba2.cell (p := ⟨w.heap.size, 0, none⟩) L0).trans i0, (hba2.cell (p := ⟨w6.heap.size, 0, none⟩) L6).trans x10⟩
          | go_keep)
        (first
          | (go_at_call 33; refine (HTP2 _ (below_drew (Below.refl _ _))).out.mono ?_; rintro e w11 ⟨g11, rfl, hQ11, hba⟩; have hba2 : Below w10.heap.size w10 w11 := ⟨hba.os, hba.tape, hba.output, hba.size, hba.block⟩)
          | (go_at_call 36; refine (eqProgram l _ _ _ _ _ ((hQ10.below hba2).mono (Nat.le_refl _) hba2.size) (hQ11.mono (Nat.zero_le _) (Nat.le_refl _)) hlm).mono ?_; rintro e w12 ⟨rfl, hbb⟩; have hbb2 : Below w10.heap.size w10 w12 := hba2.trans (hbb.mono hba2.size)))
      have z12 := hbb2.size
      have n1 := (hbb2.cell (p := ⟨w.heap.size + 1, 0, none⟩) L1).trans i1
      have n2 := (hbb2.cell (p := ⟨w.heap.size + 1, 1, none⟩) L1).trans i2
      have n3 := (hbb2.cell (p := ⟨w.heap.size + 1, 2, none⟩) L1).trans i3
      have n4 := (hbb2.cell (p := ⟨w.heap.size + 1, 3, none⟩) L1).trans i4
      have n5 := (hbb2.cell (p := ⟨w.heap.size + 1, 4, none⟩) L1).trans i5
      have o0 := (hbb2.cell (p := ⟨w8.heap.size, 0, none⟩) L8).trans m0
      have o1 := (hbb2.cell (p := ⟨w8.heap.size, 1, none⟩) L8).trans m1
      have o2 := (hbb2.cell (p := ⟨w8.heap.size, 2, none⟩) L8).trans m2
      have o3 := (hbb2.cell (p := ⟨w8.heap.size, 3, none⟩) L8).trans m3
      have o4 := (hbb2.cell (p := ⟨w8.heap.size, 4, none⟩) L8).trans m4
      have hR12 := (hR10.below hbb2).mono (Nat.le_refl _) hbb2.size
      have hB12 : Below w.heap.size w w12 := hB10.trans (hbb2.mono hB10.size)
      have HTE3 := fun (W : World) (hW : Below w12.heap.size w12 W) => HTE2 W (hbb2.trans (hW.mono hbb2.size))
      have M1 : w.heap.size + 1 < w12.heap.size := by omega
      have M8 : w8.heap.size < w12.heap.size := by omega
      clear HTP2 HTE2 i0 i1 i2 i3 i4 i5 m0 m1 m2 m3 m4 x10 hQ10 hR10 hQ11
      go_wp2_with fail
      go_region_held3 (fun w' => w'.cell? ⟨w.heap.size + 1, 0, none⟩ = some (.int .i64 k) ∧ w'.cell? ⟨w.heap.size + 1, 1, none⟩ = some (.int .i64 n) ∧ w'.cell? ⟨w.heap.size + 1, 2, none⟩ = some (.int .i64 p) ∧ w'.cell? ⟨w.heap.size + 1, 3, none⟩ = some (.int .i64 c) ∧ w'.cell? ⟨w.heap.size + 1, 4, none⟩ = some (.slice ka ks.len kcap) ∧
          w'.cell? ⟨w8.heap.size, 0, none⟩ = some (.int .i64 k) ∧ w'.cell? ⟨w8.heap.size, 1, none⟩ = some (.int .i64 n) ∧ w'.cell? ⟨w8.heap.size, 2, none⟩ = some (.int .i64 p) ∧ w'.cell? ⟨w8.heap.size, 3, none⟩ = some (.int .i64 c) ∧ w'.cell? ⟨w8.heap.size, 4, none⟩ = some (.slice (some ⟨g8, 0, none⟩) ks.len ks.len))
        (first
          | exact ⟨n1, n2, n3, n4, n5, o0, o1, o2, o3, o4⟩
          | exact ⟨(hbd2.cell (p := ⟨w.heap.size + 1, 0, none⟩) M1).trans n1, (hbd2.cell (p := ⟨w.heap.size + 1, 1, none⟩) M1).trans n2, (hbd2.cell (p := ⟨w.heap.size + 1, 2, none⟩) M1).trans n3, (hbd2.cell (p := ⟨w.heap.size + 1, 3, none⟩) M1).trans n4, (hbd2.cell (p := ⟨w.heap.size + 1, 4, none⟩) M1).trans n5, (hbd2.cell (p := ⟨w8.heap.size, 0, none⟩) M8).trans o0, (hbd2.cell (p := ⟨w8.heap.size, 1, none⟩) M8).trans o1, (hbd2.cell (p := ⟨w8.heap.size, 2, none⟩) M8).trans o2, (hbd2.cell (p := ⟨w8.heap.size, 3, none⟩) M8).trans o3, (hbd2.cell (p := ⟨w8.heap.size, 4, none⟩) M8).trans o4⟩
          | exact ⟨(hbc2.cell (p := ⟨w.heap.size + 1, 0, none⟩) M1).trans n1, (hbc2.cell (p := ⟨w.heap.size + 1, 1, none⟩) M1).trans n2, (hbc2.cell (p := ⟨w.heap.size + 1, 2, none⟩) M1).trans n3, (hbc2.cell (p := ⟨w.heap.size + 1, 3, none⟩) M1).trans n4, (hbc2.cell (p := ⟨w.heap.size + 1, 4, none⟩) M1).trans n5, (hbc2.cell (p := ⟨w8.heap.size, 0, none⟩) M8).trans o0, (hbc2.cell (p := ⟨w8.heap.size, 1, none⟩) M8).trans o1, (hbc2.cell (p := ⟨w8.heap.size, 2, none⟩) M8).trans o2, (hbc2.cell (p := ⟨w8.heap.size, 3, none⟩) M8).trans o3, (hbc2.cell (p := ⟨w8.heap.size, 4, none⟩) M8).trans o4⟩
          | go_keep)
        (first
          | (go_at_call 34; refine (HTE3 _ (below_drew (Below.refl _ _))).out.mono ?_; rintro e w13 ⟨g13, rfl, hQ13, hbc⟩; have hbc2 : Below w12.heap.size w12 w13 := ⟨hbc.os, hbc.tape, hbc.output, hbc.size, hbc.block⟩)
          | (go_at_call 37; refine (eqExpr ks k n p c _ _ _ _ _ ((hR12.below hbc2).mono (Nat.le_refl _) hbc2.size) (hQ13.mono (Nat.zero_le _) (Nat.le_refl _)) hkm).mono ?_; rintro e w14 ⟨rfl, hbd⟩; have hbd2 : Below w12.heap.size w12 w14 := hbc2.trans (hbd.mono hbc2.size)))
      all_goals go_wp2_with fail
      all_goals go_ret
      all_goals exact ⟨rfl, hB12.trans (hbd2.mono hB12.size)⟩
    · rw [szv_f hs2] at HZ2
      go_wp2_with fail
      refine (HZ2.out).mono ?_; rintro e w2 ⟨rfl, hb2⟩
      go_wp2_with fail
      go_ret
      exact ⟨rfl, hb0.trans ((hb1.trans (hb2.mono hb1.size)).mono hb0.size)⟩
  · rw [szv_f hs] at HZ
    go_enter Try.func6, Try.ntmps6
    go_wp2_with fail
    rw [← hw0]
    clear hw0 hs
    refine (HZ.out).mono ?_; rintro e w1 ⟨rfl, hb1⟩
    go_wp2_with fail
    go_ret
    exact ⟨rfl, hb0.trans (hb1.mono (by omega))⟩

end Go.Proofs.Ytiimebiecihpkaa
