/- The model's composition of two series. -/
import Derived.Test.YtegjlfbklcgapaaDivT
namespace Go.Proofs.Ytegjlfbklcgapaa
open Go.RowKit

theorem set_nms {l : List Int} {k : Nat} {x : Int} (h : Nums l) (hx : 0 ≤ x ∧ x < 1000003) : Nums (l.set k x) := by
  intro n hn
  rcases List.mem_or_eq_of_mem_set hn with hn | hn
  · exact h n hn
  · rw [hn]; exact hx
theorem rep_nms (n : Nat) : Nums (List.replicate n 0) := by
  intro x hx
  rw [List.mem_replicate] at hx
  omega
theorem mull_nms (a b : List Int) : Nums (mull a b) := tab_nms _ fun _ => psum_bd _ _
theorem cmps_nms (a b : List Int) (j : Nat) : Nums (cmps a b j) := by
  cases j with
  | zero => exact rep_nms _
  | succ j => exact set_nms (mull_nms _ _) (pls_bd _ _)

/-- n numbers, the first one x, all others 0 -/
def cstl (x : Int) (n : Nat) : List Int := (List.replicate n 0).set 0 x
theorem cstl_len (x : Int) (n : Nat) : (cstl x n).length = n := by simp [cstl]

set_option maxHeartbeats 800000 in
theorem sConst (x : Int) (n : Nat) (w : World) (hn : n ≤ 1048576) :
    Calls Try.prog 96 #[.int .i64 x, .int .i64 n] w (Fresh w (cstl x n)) := by
  obtain ⟨i0, hi, hz0, hz1, hz2⟩ := info_parts info64
  by_cases h0 : n = 0
  · subst h0
    go_enter Try.func96, Try.ntmps96
    go_wp2_with (refine wpList_make_full _ rfl _ _ 30 rfl w.heap.size 2 i0 (.int .i64 0) 1 Try.underlying30 hi hz0 hz1 .i64 .i64 _ _ 0 rfl rfl rfl rfl ?c2 ?c3 (Nat.le_refl _) ?_)
    case c2 => rw [hz2]; omega
    case c3 => unfold maxLen; omega
    intro w1 ho1 hg1
    have hb1 := (Below.refl w.heap.size w).grown hg1 (Nat.le_refl _) (by intro k hk; cases hk)
    have ho2 := made_own ho1
    clear ho1 hg1 hi hz0 hz1 hz2
    go_wp2
    go_ret
    exact ⟨_, 0, rfl, ho2, hb1⟩
  · have hn0 : (0 : Int) < (n : Int) := by omega
    go_enter Try.func96, Try.ntmps96
    go_wp2_with (refine wpList_make_full _ rfl _ _ 30 rfl w.heap.size 2 i0 (.int .i64 0) 1 Try.underlying30 hi hz0 hz1 .i64 .i64 _ _ n rfl rfl rfl rfl ?c2 ?c3 (Nat.le_refl _) ?_)
    case c2 => rw [hz2]; omega
    case c3 => unfold maxLen; omega
    intro w1 ho1 hg1
    have hb1 := (Below.refl w.heap.size w).grown hg1 (Nat.le_refl _) (by intro k hk; cases hk)
    have ho2 := made_own ho1
    rw [fillz_zero] at ho2
    have hcs := ho2.cellAt 0 (by simp; omega)
    have hfr := ho2.frz 0
    have hset := ho2.set 0 x
    have hb2 := hb1.setCell (p := ⟨w.heap.size, 0, none⟩) (Nat.le_refl _) (.int .i64 x)
    clear ho1 hg1 hi hz0 hz1 hz2 ho2 hb1
    generalize (List.replicate n (0 : Int)).getD 0 0 = z at hcs
    go_wp2
    go_ret
    exact ⟨_, n, ret_slice (cstl_len x n).symm, hset, hb2⟩

theorem cstl_zero (n : Nat) : cstl 0 n = List.replicate n 0 := by
  unfold cstl
  cases n with
  | zero => rfl
  | succ n => rw [List.replicate_succ, List.set_cons_zero]

set_option maxRecDepth 100000 in
set_option maxHeartbeats 6400000 in
theorem sCmp (a b : Option Addr) (ca cb : Nat) (l m : List Int) (w : World) (ha : At w a l) (hb : At w b m) (hr : Rng l) (hr2 : Rng m) (hlm : Hid (m.length = l.length)) (hl0 : 1 ≤ l.length) (hl : l.length ≤ 1048576) :
    Calls Try.prog 92 #[.slice a l.length ca, .slice b m.length cb] w (Fresh w (cmpl l m)) := by
  go_enter Try.func92, Try.ntmps92
  go_wp2_with fail
  refine (sConst 0 l.length _ hl).mono ?_
  rintro e w1 ⟨g1, c1, rfl, ho1, hb1⟩
  rw [cstl_zero] at ho1 ⊢
  have hrl : (List.replicate l.length (0 : Int)).length = l.length := by simp
  rw [hrl]
  go_wp2_with fail
  go_loopw [5, 6] (fun v i wr => ∃ (r g cap : Nat) (xs : List Int), r ≤ l.length ∧ i = .int .i64 ((r : Int) - 1) ∧ v = .slice (some ⟨g, 0, none⟩) l.length cap ∧ Hid (xs = cmps l m (l.length - r)) ∧ Own w.heap.size wr g cap xs ∧ Below w.heap.size w wr) (fun _ i _ => (intOf i + 1).toNat)
  case atStart => exact ⟨l.length, g1, c1, List.replicate l.length 0, Nat.le_refl _, rfl, rfl, by show _ = _; rw [Nat.sub_self]; rfl, ho1, hb1⟩
  case round =>
    obtain ⟨r, g, cap, xs, hk, rfl, rfl, hxs, ho, hw⟩ := hrel
    have hxl : Hid (xs.length = l.length) := by rw [hxs.out]; exact cmps_len _ _ _
    cases r with
    | zero =>
      have hx2 := Lib.hid (show xs = cmpl l m from hxs.out)
      clear hxs hrl
      go_wp2
      go_ret
      exact ⟨g, cap, ret_slice (cmpl_len l m).symm, by rw [← hx2.out]; exact ho, hw⟩
    | succ j =>
      have hlt : j < l.length := by omega
      have e : (((j + 1 : Nat) : Int) - 1) = (j : Int) := by omega
      rw [e]
      clear e
      obtain ⟨b1, o1, rfl, hbl1, hc1⟩ := (ha.resolve_left (by intro e; rw [e] at hlt; simp at hlt))
      have hnx : Nums xs := by rw [hxs.out]; exact cmps_nms _ _ _
      have hx2 : Hid (addh (mull xs m) (l.getD j 0) = cmps l m (l.length - j)) := by
        show _ = _
        rw [show l.length - j = (l.length - (j + 1)) + 1 from by omega, cmps, ← hxs.out, show l.length - 1 - (l.length - (j + 1)) = j from by omega]
      have hmb := hb.below hw (Nat.le_refl _)
      have hmx := ho.at
      have HC1 := Lib.hid hc1
      clear hc1 hrl hxs
      go_wp2_with fail
      rw [← hxl.out]
      refine (sMul _ b cap cb xs m _ hmx hmb hnx.rng hr2 (by show _ = _; rw [hxl.out]; exact hlm.out) (by rw [hxl.out]; exact hl)).mono ?_
      rintro e w2 ⟨g2, c2, rfl, ho2, hb2⟩
      rw [mull_len, hxl.out]
      have hb3 := hw.trans (hb2.mono hw.size)
      have ho3 := ho2.mono hw.size
      have hml : (mull xs m).length = l.length := by rw [mull_len, hxl.out]
      have hcs := ho3.cellAt 0 (by rw [hml]; omega)
      have hfr := ho3.frz 0
      have hbs := (mull_nms xs m).at 0
      have r1 := hr.at j
      have h1 : w2.cell? ⟨b1, o1 + j, none⟩ = some (.int .i64 (l.getD j 0)) := (hb3.cell (p := ⟨b1, o1 + j, none⟩) hbl1).trans (HC1.out j hlt)
      have hset := ho3.set 0 (pls ((mull xs m).getD 0 0) (l.getD j 0))
      rw [show (mull xs m).set 0 (pls ((mull xs m).getD 0 0) (l.getD j 0)) = addh (mull xs m) (l.getD j 0) from rfl] at hset
      have hb4 := hb3.setCell (p := ⟨g2, 0, none⟩) ho3.base.1 (.int .i64 (pls ((mull xs m).getD 0 0) (l.getD j 0)))
      have hi1 : (j : Int) < (l.length : Int) := by omega
      have hi0 : (0 : Int) < (l.length : Int) := by omega
      have hin0 : 0 < l.length := by omega
      generalize addh (mull xs m) (l.getD j 0) = ys at hset hx2
      generalize (mull xs m).getD 0 0 = y at hcs hbs hset hb4
      generalize l.getD j 0 = x at h1 r1 hset hb4
      clear ho hmb hmx hb2 ho2 ho3 hml hw HC1
      go_wp2
      refine wp_region_still_tail 10 (by kernel_rfl) (by kernel_rfl) ?_
      simp only [List.take_succ_cons, List.take_zero, List.drop_succ_cons, List.drop_zero]
      repeat still_step
      still_call (flip (sPlus y x (by omega) r1 _))
      repeat still_step
      refine wpStill_nil ?_
      change wpList _ _ _ _ _ w2.drew
      go_wp2
      go_roundw
      case rel => exact ⟨j, g2, c2, ys, by omega, rfl, rfl, hx2, hset, hb4.drew⟩
      case measure => simp [intOf]

end Go.Proofs.Ytegjlfbklcgapaa
