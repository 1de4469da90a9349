/- The walk of the law FnExactSolveLinear: the model and the program answer alike, no argument turns, the answer owns its memory. -/
import Derived.Deep.RegionHeld3
import Derived.Test.YtiimebiecihpkaaMxt
import Derived.Test.YtiimebiecihpkaaMxu
namespace Go.Proofs.Ytiimebiecihpkaa
open Go.RowKit
set_option linter.unusedVariables false

theorem rowP_len : ∀ (f c : Nat) (ls : List (List Int)), (rowP f c ls).length = ls.length
  | 0, _, _ => rfl
  | f + 1, c, ls => by
    cases h : fnz ls c with
    | none => rw [rowP_none h]
    | some r => rw [rowP_some h, rowP_len f, clP_len, swp_len]
theorem slR_len {ls : List (List Int)} {l : List Int} (hs : mSz ls ≤ 1048576) : (slR ls l).length ≤ 1048576 := by
  cases h : slB ls l with
  | false => rw [(sl_no h).1]; simp
  | true =>
    rw [(sl_yes h).1]
    by_cases hz : detP ls.length 0 (cat2 ls.length ls (sgl l)) 1 = 0
    · rw [(slP_0 hz).1]; simp
    · rw [(slP_1 hz).1]
      unfold coln
      rw [List.length_map, cutF_len, rowP_len, cat2_len]
      unfold mSz at hs; omega
set_option maxRecDepth 100000 in
set_option maxHeartbeats 6400000 in
theorem wFnExactSolveLinear (v0 v1 : Value) (w : World) (h0 : IsMat w v0) (h1 : IsI64s w v1) :
    Calls Try.prog 3 #[v0, v1] w fun e w' => e = .returned (.bool true) ∧ Below w.heap.size w w' := by
  obtain ⟨a, cap, ls, rfl, hA, hR, hM, hL⟩ := h0
  obtain ⟨al, cl, l, rfl, hAl, hRl, hMl⟩ := h1
  by_cases hbig : 1048576 < l.length
  · clear hA hAl hR hRl hL
    go_enter Try.func3, Try.ntmps3
    go_wp2_with fail
    go_ret
    exact ⟨rfl, Below.refl _ _⟩
  have hLl : l.length ≤ 1048576 := by omega
  clear hbig hMl hRl
  have HZ := Lib.hid (szMat a cap ls 1048576 w hA hM hL (by omega) (by omega))
  by_cases hs : mSz ls ≤ 1048576
  rotate_left
  · have e : mzR ls 1048576 = -1 := by unfold mzR; rw [if_neg (by omega)]
    rw [e] at HZ
    clear hA hAl e hs hL hR
    go_enter Try.func3, Try.ntmps3
    go_wp2_with fail
    refine HZ.out.mono ?_; rintro e w1 ⟨rfl, rfl⟩
    go_wp2_with fail
    go_ret
    exact ⟨rfl, Below.refl _ _⟩
  have hy : 0 ≤ mzR ls 1048576 := by unfold mzR; rw [if_pos (by omega)]; omega
  have hd : decide (mzR ls 1048576 < 0) = false := decide_eq_false (by omega)
  have hll : ls.length ≤ 1048576 := by unfold mSz at hs; omega
  have hlk : lenK ls ls.length ≤ 1048576 := by unfold mSz at hs; omega
  generalize mzR ls 1048576 = lv at *
  clear hL hR hM
  have HI := fun (p q : Option Addr) (W : World) (hm : Mat W p ls) (ho : At W q l) => Lib.hid (iSolveLinear p ls.length q l.length ls l W hm ho hs hLl (Nat.le_refl _) (by omega))
  have hne2 : (slC ls l != slC ls l) = false := by simp
  have hRl : (slR ls l).length ≤ 1048576 := slR_len hs
  have HJ := fun (p q : Option Addr) (W : World) (hm : Mat W p ls) (ho : At W q l) => Lib.hid (sSolveLinear p ls.length q l.length ls l W hm ho hs hLl)
  generalize slR ls l = rr at *
  generalize slC ls l = rc at *
  go_enter Try.func3, Try.ntmps3
  go_wp2_with fail
  refine HZ.out.mono ?_; rintro e w1 ⟨rfl, rfl⟩
  clear HZ
  go_wp2_with fail
  clear hy hd
  refine (toMat a cap ls _ hA hs).mono ?_; rintro e v1 ⟨g1, rfl, ⟨R1, K1, m1⟩, b⟩
  have HB := b
  have s1 := b.size
  clear b
  have x1 := m1.mat rfl
  clear m1
  go_wp2_with fail
  refine (toInt64E al cl l _ (hAl.below HB (Nat.le_refl _)) hLl).mono ?_; rintro e v2 ⟨g2, rfl, o2, b⟩
  have s2 := b.size
  replace HB := HB.trans (b.mono HB.size)
  replace x1 := x1.below b (Nat.le_refl _)
  clear b
  go_wp2_with fail
  refine (HJ _ _ _ x1 o2.at).out.mono ?_; rintro e v3 ⟨gR, kR, rfl, oR, b⟩
  have s3 := b.size
  replace HB := HB.trans (b.mono HB.size)
  clear b x1 o2
  have uR := Lib.hid (fun g hg => (oR.lt g hg).2)
  go_wp2_with fail
  refine (toMat a cap ls _ (hA.below HB (Nat.le_refl _)) hs).mono ?_; rintro e v4 ⟨gX, rfl, ⟨RX, KX, mX⟩, b⟩
  have s4 := b.size
  replace HB := HB.trans (b.mono HB.size)
  replace oR := oR.below b
  clear b
  have uX := Lib.hid (fun (i : Nat) (hi : i < ls.length) => (mX.row i hi).base)
  go_wp2_with fail
  refine (toInt64E al cl l _ (hAl.below HB (Nat.le_refl _)) hLl).mono ?_; rintro e v5 ⟨gY, rfl, oY, b⟩
  have s5 := b.size
  replace HB := HB.trans (b.mono HB.size)
  replace oR := oR.below b
  replace mX := mX.next b
  clear b
  replace oY := oY.a
  have uY := Lib.hid (fun g hg => (oY.lt g hg))
  go_wp2_with fail
  refine (HI _ _ _ (mX.mat rfl) oY.at).out.mono ?_; rintro e v6 ⟨gQ, kQ, rfl, oQ, b⟩
  have s6 := b.size
  replace HB := HB.trans (b.mono HB.size)
  replace oR := oR.below b
  replace mX := mX.next b
  replace oY := oY.below b
  clear b
  go_wp2_with fail
  refine (eqInt64S gQ gR kQ kR rr _ oQ.at oR.at (by omega)).mono ?_
  rintro e v7 ⟨rfl, b⟩
  have s7 := b.size
  replace HB := HB.trans (b.mono HB.size)
  replace oR := oR.below b
  replace mX := mX.next b
  replace oY := oY.below b
  replace oQ := oQ.below b
  clear b
  go_wp2_with fail
  refine (toMat a cap ls _ (hA.below HB (Nat.le_refl _)) hs).mono ?_; rintro e v8 ⟨g8, rfl, ⟨R8, K8, m8⟩, b⟩
  have s8 := b.size
  replace HB := HB.trans (b.mono HB.size)
  replace oR := oR.below b
  replace mX := mX.next b
  replace oY := oY.below b
  replace oQ := oQ.below b
  clear b
  go_wp2_with fail
  refine (eqMat _ _ _ _ ls _ (mX.mat rfl) (m8.mat rfl) hs).mono ?_; rintro e v9 ⟨rfl, b⟩
  have s9 := b.size
  replace HB := HB.trans (b.mono HB.size)
  replace oR := oR.below b
  replace mX := mX.next b
  replace oY := oY.below b
  replace oQ := oQ.below b
  clear b m8
  go_wp2_with fail
  refine (toInt64E al cl l _ (hAl.below HB (Nat.le_refl _)) hLl).mono ?_; rintro e v10 ⟨g10, rfl, o10, b⟩
  have s10 := b.size
  replace HB := HB.trans (b.mono HB.size)
  replace oR := oR.below b
  replace mX := mX.next b
  replace oY := oY.below b
  replace oQ := oQ.below b
  clear b
  go_wp2_with fail
  refine (eqInt64S _ _ _ _ l _ oY.at o10.at (by omega)).mono ?_
  rintro e v11 ⟨rfl, b⟩
  have s11 := b.size
  replace HB := HB.trans (b.mono HB.size)
  replace oR := oR.below b
  replace mX := mX.next b
  replace oY := oY.below b
  replace oQ := oQ.below b
  clear b o10
  go_wp2_with fail
  refine (markMat _ gX _ ls RX KX 1 1 _ _ (by omega) mX hs (by omega)).mono ?_
  rintro e v12 ⟨rfl, _, hk⟩
  have HS := HB.size
  replace HB := HB.trans ((hk.below HS (fun b ⟨i, hi, e⟩ => by have := uX.out i hi; omega)).mono (Nat.le_refl _))
  replace oR := oR.keep hk (fun g hg ⟨i, hi, e⟩ => by have := uX.out i hi; have := uR.out g hg; omega)
  replace oY := oY.keep hk (fun g hg ⟨i, hi, e⟩ => by have := uX.out i hi; have := uY.out g hg; omega)
  replace oQ := oQ.keep hk (fun g hg ⟨i, hi, e⟩ => by have := uX.out i hi; have := oQ.lt g hg; omega)
  clear hk HS mX uX
  go_wp2_with fail
  refine (markAt _ _ _ l (1 + lenK ls ls.length) (1 + (lenK ls ls.length : Int)) _ (by omega) oY (by omega) (by omega)).mono ?_
  rintro e v13 ⟨rfl, _, hg⟩
  have HS := HB.size
  replace HB := HB.grown hg HB.size (fun g hg => Nat.le_trans (by omega) (uY.out g hg).1)
  replace oR := oR.keptBy hg (fun g h1 h2 => by have e1 := uR.out g h1; have e2 := uY.out g h2; omega)
  replace oQ := oQ.keptBy hg (fun g h1 h2 => by have e1 := (oQ.lt g h1).1; have e2 := uY.out g h2; omega)
  clear hg HS oY uY
  go_wp2_with fail
  refine (eqInt64S gQ gR kQ kR rr _ oQ.at oR.at (by omega)).mono ?_
  rintro e v14 ⟨rfl, b⟩
  have s14 := b.size
  replace HB := HB.trans (b.mono HB.size)
  replace oR := oR.below b
  replace oQ := oQ.below b
  clear b
  go_wp2_with fail
  refine (markAt _ _ _ rr 1 1 _ (by omega) oQ (by omega) (by omega)).mono ?_
  rintro e v15 ⟨rfl, om, hg⟩
  have HS := HB.size
  replace HB := HB.grown hg HB.size (fun g hg => Nat.le_trans (by omega) (oQ.lt g hg).1)
  replace oR := oR.keptBy hg (fun g h1 h2 => by have e1 := uR.out g h1; have e2 := (oQ.lt g h2).1; omega)
  clear hg HS oQ
  go_wp2_with fail
  refine (heldAt _ _ rr.length 1 1 _ (by omega) om.at (by omega) (by omega)).mono ?_
  rintro e w' ⟨rfl, rfl⟩
  go_wp2_with fail
  refine (toMat a cap ls _ (hA.below HB (Nat.le_refl _)) hs).mono ?_; rintro e v16 ⟨g16, rfl, ⟨R16, K16, m16⟩, b⟩
  have s16 := b.size
  replace HB := HB.trans (b.mono HB.size)
  replace oR := oR.below b
  replace om := om.below b
  clear b
  go_wp2_with fail
  refine (toInt64E al cl l _ (hAl.below HB (Nat.le_refl _)) hLl).mono ?_; rintro e v17 ⟨g17, rfl, o17, b⟩
  have s17 := b.size
  replace HB := HB.trans (b.mono HB.size)
  replace oR := oR.below b
  replace om := om.below b
  replace m16 := m16.next b
  clear b
  go_wp2_with fail
  refine (HI _ _ _ (m16.mat rfl) o17.at).out.mono ?_; rintro e v18 ⟨gH, kH, rfl, oH, b⟩
  clear m16 o17
  have s18 := b.size
  replace HB := HB.trans (b.mono HB.size)
  replace oR := oR.below b
  replace om := om.below b
  clear b
  go_wp2_with fail
  refine (eqInt64S _ _ _ _ rr _ oH.at oR.at (by omega)).mono ?_
  rintro e v19 ⟨rfl, b⟩
  replace HB := HB.trans (b.mono HB.size)
  replace om := om.below b
  clear b oH oR
  go_wp2_with fail
  refine (heldAt _ _ rr.length 1 1 _ (by omega) om.at (by omega) (by omega)).mono ?_
  rintro e w' ⟨rfl, rfl⟩
  go_wp2_with fail
  go_ret
  exact ⟨rfl, HB⟩

end Go.Proofs.Ytiimebiecihpkaa
