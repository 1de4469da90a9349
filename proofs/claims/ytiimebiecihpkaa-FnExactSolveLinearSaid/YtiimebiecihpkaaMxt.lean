/- SolveLinear by the model. -/
import Derived.Test.YtiimebiecihpkaaMxs
namespace Go.Proofs.Ytiimebiecihpkaa
open Go.RowKit
set_option linter.unusedVariables false

theorem getD_app {j : Nat} (x y : List Int) (h : j < x.length) : x.getD j 0 = (x ++ y).getD j 0 := by simp [List.getD_eq_getElem?_getD, List.getElem?_append_left h]
theorem sim_cat {n : Nat} {ls : List (List Int)} {l : List Int} (hs : Sq n ls) (hl : l.length = n) : Sim n 0 ls (cat2 n ls (sgl l)) := by
  have hce : ∀ i, i < n → (cat2 n ls (sgl l)).getD i [] = ls.getD i [] ++ [l.getD i 0] := fun i hi => by rw [cat2_at hi, sgl_at (by rw [hl]; exact hi)]
  refine ⟨hs.len, cat2_len _ _ _, fun i hi => by rw [hs.row i hi]; exact Nat.le_refl _, fun i hi => by rw [hce i hi, List.length_append, hs.row i hi]; exact Nat.le_add_right _ _, fun i j _ hi hj => ?_⟩
  rw [hce i hi]; exact getD_app _ _ (by rw [hs.row i hi]; exact hj)
theorem det_cat {n : Nat} {ls : List (List Int)} {l : List Int} (hs : Sq n ls) (hl : l.length = n) : detM n 0 ls 1 = detP n 0 (cat2 n ls (sgl l)) 1 := det_eq n 0 _ _ 1 (by omega) (sim_cat hs hl)

set_option maxRecDepth 100000 in
set_option maxHeartbeats 3200000 in
theorem sSolveLinear (a : Option Addr) (ca : Nat) (b : Option Addr) (cb : Nat) (ls : List (List Int)) (l : List Int) (w : World) (ha : Mat w a ls) (hb : At w b l) (hs : mSz ls ≤ 1048576) (hl : l.length ≤ 1048576) :
    Calls Try.prog 16 #[.slice a ls.length ca, .slice b l.length cb] w (Res2A w (slR ls l) (slC ls l)) := by
  have HQ := Lib.hid (sSquare a ca ls w ha hs)
  have HB := Lib.hid (sNumbers b cb l w hb (by omega))
  have hls : ls.length ≤ 1048576 := by unfold mSz at hs; omega
  cases hq : sqB ls with
  | false =>
    have HR := Lib.hid (sl_no (ls := ls) (l := l) (by unfold slB; rw [hq]; rfl))
    rw [hq] at HQ
    clear hq ha hb
    go_enter Try.func16, Try.ntmps16
    go_wp2_with fail
    refine HQ.out.mono ?_; rintro e w1 ⟨rfl, rfl⟩
    go_wp2_with fail
    go_ret2
    exact ⟨_, 0, ret_slc (by rw [HR.out.1]; rfl) HR.out.2.symm, .inl HR.out.1, (Below.refl _ _).alloc (Nat.le_refl _) _⟩
  | true =>
    rw [hq] at HQ
    by_cases hll : l.length = ls.length
    · cases hr : okNums l with
      | false =>
        have HR := Lib.hid (sl_no (ls := ls) (l := l) (by unfold slB areB; rw [hr, Bool.and_false, Bool.and_false]))
        rw [hr] at HB
        rw [hll] at HB ⊢
        clear hq hr ha hb
        go_enter Try.func16, Try.ntmps16
        go_wp2_with fail
        refine HQ.out.mono ?_; rintro e w1 ⟨rfl, rfl⟩
        go_wp2_with fail
        refine HB.out.mono ?_; rintro e w1 ⟨rfl, rfl⟩
        go_wp2_with fail
        go_ret2
        exact ⟨_, 0, ret_slc (by rw [HR.out.1]; rfl) HR.out.2.symm, .inl HR.out.1, (Below.refl _ _).alloc (Nat.le_refl _) _⟩
      | true =>
        have hsl : slB ls l = true := by unfold slB areB; rw [hq, hr]; simp; omega
        have HR := Lib.hid (sl_yes hsl)
        have HDC := Lib.hid (det_cat (sq_of hq) hll)
        have HT := Lib.hid (sDet a ca ls.length ls w ha (sq_of hq))
        rw [HDC.out] at HT
        rw [hr] at HB
        by_cases hz : detP ls.length 0 (cat2 ls.length ls (sgl l)) 1 = 0
        · have HP := Lib.hid (slP_0 hz)
          rw [hz] at HT
          rw [hll] at HB ⊢
          clear hq hr ha hb hsl hz HDC
          go_enter Try.func16, Try.ntmps16
          go_wp2_with fail
          refine HQ.out.mono ?_; rintro e w1 ⟨rfl, rfl⟩
          go_wp2_with fail
          refine HB.out.mono ?_; rintro e w1 ⟨rfl, rfl⟩
          go_wp2_with fail
          refine HT.out.mono ?_; rintro e w2 ⟨rfl, hb2⟩
          go_wp2_with fail
          go_ret2
          exact ⟨_, 0, ret_slc (by rw [HR.out.1, HP.out.1]; rfl) (by rw [HR.out.2, HP.out.2]), .inl (by rw [HR.out.1, HP.out.1]), hb2.alloc hb2.size _⟩
        · have HP := Lib.hid (slP_1 hz)
          have hzb : (detP ls.length 0 (cat2 ls.length ls (sgl l)) 1 == 0) = false := by simpa using hz
          have HV := fun (W : World) (h : Below w.heap.size w W) => Lib.hid (sSolve a ca b cb ls.length ls l W (ha.below h (Nat.le_refl _)) (hb.below h (Nat.le_refl _)) (sq_of hq) hll (okNums_nums hr) hz)
          have HRR : Hid (slR ls l = coln (rowP ls.length 0 (cat2 ls.length ls (sgl l))) ls.length ∧ slC ls l = 0) := ⟨by rw [HR.out.1, HP.out.1, coln_cut], by rw [HR.out.2, HP.out.2]⟩
          rw [hll] at HB ⊢
          clear hq hr ha hb hsl hz HDC HR HP
          generalize detP ls.length 0 (cat2 ls.length ls (sgl l)) 1 = d at *
          go_enter Try.func16, Try.ntmps16
          go_wp2_with fail
          refine HQ.out.mono ?_; rintro e w1 ⟨rfl, rfl⟩
          go_wp2_with fail
          refine HB.out.mono ?_; rintro e w1 ⟨rfl, rfl⟩
          go_wp2_with fail
          refine HT.out.mono ?_; rintro e w2 ⟨rfl, hb2⟩
          go_wp2_with fail
          refine (HV _ hb2).out.mono ?_; rintro e w3 ⟨g, cap, rfl, ho, hb3⟩
          go_wp2_with fail
          go_ret2
          exact ⟨some ⟨g, 0, none⟩, cap, ret_slc (by rw [HRR.out.1]) HRR.out.2.symm, by rw [HRR.out.1]; exact (ho.mono hb2.size).a, hb2.trans (hb3.mono hb2.size)⟩
    · have HR := Lib.hid (sl_no (ls := ls) (l := l) (by cases e : slB ls l with | false => rfl | true => exact absurd (slB_t e).2.1 hll))
      have hlb : ((l.length : Int) == (ls.length : Int)) = false := by simp; omega
      clear hq ha hb
      go_enter Try.func16, Try.ntmps16
      go_wp2_with fail
      refine HQ.out.mono ?_; rintro e w1 ⟨rfl, rfl⟩
      go_wp2_with fail
      go_ret2
      exact ⟨_, 0, ret_slc (by rw [HR.out.1]; rfl) HR.out.2.symm, .inl HR.out.1, (Below.refl _ _).alloc (Nat.le_refl _) _⟩

end Go.Proofs.Ytiimebiecihpkaa
