/- The methods of the arithmetic of series. -/
import Derived.Test.YtoedccgiahegnaaGreatFit
import Derived.Test.YtoedccgiahegnaaGreatDa
import Derived.Test.YtoedccgiahegnaaGreatDw
import Derived.Test.YtoedccgiahegnaaGreatFitW
import Derived.Deep.RegionHeld3
import Derived.Deep.RegionWith
namespace Go.Proofs.YtoedccgiahegnaaGreat
open Go.RowKit
set_option linter.unusedVariables false

namespace Sr
/-- a series of its own is answered -/
def FrN (n : Nat) (w : World) (l : List Int) (e : Ending) (w' : World) : Prop :=
  ∃ g cap, e = .returned (.slice (some ⟨g, 0, none⟩) n cap) ∧ Own w.heap.size w' g cap l ∧ l.length = n ∧ Nums l ∧ Below w.heap.size w w'
theorem FrN.below {n : Nat} {w w' : World} {l : List Int} {e : Ending} (h : FrN n w l e w') : Below w.heap.size w w' := by obtain ⟨g, cap, _, _, _, _, h4⟩ := h; exact h4
theorem FrN.from {n : Nat} {w w1 w' : World} {l : List Int} {e : Ending} (h : FrN n w1 l e w') (hb : Below w.heap.size w w1) : FrN n w l e w' := by
  obtain ⟨g, cap, rfl, h1, h2, h3, h4⟩ := h
  exact ⟨g, cap, rfl, h1.mono hb.size, h2, h3, hb.trans (h4.mono hb.size)⟩
theorem rngs {l : List Int} (h : Nums l) : Rng l := fun n hn => by have := h n hn; omega
theorem mns_pls (x y : Int) : mns x y = pls x (tms y 1000002) := by unfold mns pls tms; omega
theorem mns_zero (y : Int) : mns 0 y = tms y 1000002 := by unfold mns tms; omega
def subl (a b : List Int) : List Int := tab (fun k => mns (a.getD k 0) (b.getD k 0)) a.length
theorem subl_eq {a b : List Int} (h : b.length = a.length) : subl a b = addl a (scll b 1000002) := by
  unfold subl addl
  unfold tab
  refine List.map_congr_left fun k hk => ?_
  have hk' := List.mem_range.1 hk
  rw [mns_pls]
  congr 1
  unfold scll
  exact (tab_at (f := fun i => tms (b.getD i 0) 1000002) (by omega)).symm
theorem subl_zero {a : List Int} {n : Nat} (h : a.length = n) : subl (cstl 0 n) a = scll a 1000002 := by
  unfold subl scll tab
  rw [cstl_len, h]
  refine List.map_congr_left fun k hk => ?_
  have e : (cstl 0 n).getD k 0 = 0 := by
    unfold cstl
    rw [List.getD_eq_getElem?_getD, List.getElem?_set]
    split
    · split <;> rfl
    · rw [List.getElem?_replicate]; split <;> rfl
  rw [e, mns_zero]
theorem addl_nums (a b : List Int) : Nums (addl a b) := tab_nms _ fun _ => pls_bd _ _
theorem subl_nums (a b : List Int) : Nums (subl a b) := tab_nms _ fun _ => mns_bd _ _
theorem mull_nums (a b : List Int) : Nums (mull a b) := (tab_nms _ fun k => by unfold mulc; exact psum_bd _ _)
theorem divl_nums (a b : List Int) : Nums (divl a b) := dvs_nms _ _ _ _
theorem cstl_nums {x : Int} {n : Nat} (h : 0 ≤ x ∧ x < 1000003) : Nums (cstl x n) := by
  intro y hy
  unfold cstl at hy
  rcases List.mem_or_eq_of_mem_set hy with hy | rfl
  · have := List.eq_of_mem_replicate hy; omega
  · exact h

set_option maxRecDepth 100000 in
set_option maxHeartbeats 3200000 in
theorem iElemPlus (a b : Option Addr) (ca cb : Nat) (l m : List Int) (w : World) (ha : At w a l) (hb : At w b m) (hr : Nums l) (hr2 : Nums m) (hlm : Hid (m.length = l.length)) (hl : l.length ≤ 1048576) :
    Calls Tryz.prog 57 #[.slice a l.length ca, .slice b m.length cb, .func (.func 58) #[] #[]] w (Fresh w (addl l m)) := by
  obtain ⟨i0, hi, hz0, hz1, hz2⟩ := info_parts info64
  go_enter Tryz.func57, Tryz.ntmps57
  go_wp2_with (refine wpList_make_full _ rfl _ _ 25 rfl w.heap.size 2 i0 (.int .i64 0) 1 Tryz.underlying25 hi hz0 hz1 .i64 .i64 _ _ l.length rfl rfl rfl rfl ?c2 ?c3 (Nat.le_refl _) ?_)
  case c2 => rw [hz2]; omega
  case c3 => unfold maxLen; omega
  intro w1 ho1 hg1
  have hb1 := (Below.refl w.heap.size w).grown hg1 (Nat.le_refl _) (by intro k hk; cases hk)
  have ho2 := made_own ho1
  clear ho1 hg1 hi hz0 hz1 hz2
  go_wp2_with fail
  go_loopw [8, 14] (fun _ i wr => ∃ (k : Nat) (xs : List Int), k ≤ l.length ∧ i = .int .i64 k ∧ xs.length = k ∧ Hid (xs = tab (fun k => pls (l.getD k 0) (m.getD k 0)) k) ∧ Own w.heap.size wr w.heap.size l.length (fillz l.length xs) ∧ Below w.heap.size w wr) (fun _ i _ => l.length - (intOf i).toNat)
  case atStart => exact ⟨0, [], Nat.zero_le _, rfl, rfl, rfl, ho2, hb1⟩
  case round =>
    obtain ⟨k, xs, hk, rfl, hxl, hxs, ho, hw⟩ := hrel
    by_cases hlt : k < l.length
    · obtain ⟨b1, o1, rfl, hbl1, hc1⟩ := (ha.resolve_left (by intro e; rw [e] at hlt; simp at hlt))
      have hlt2 : k < m.length := by have := hlm.out; omega
      obtain ⟨b2, o2, rfl, hbl2, hc2⟩ := (hb.resolve_left (by intro e; rw [e] at hlt2; simp at hlt2))
      have h1 : wr.cell? ⟨b1, o1 + k, none⟩ = some (.int .i64 (l.getD k 0)) := (hw.cell (p := ⟨b1, o1 + k, none⟩) hbl1).trans (hc1 k hlt)
      have h2 : wr.cell? ⟨b2, o2 + k, none⟩ = some (.int .i64 (m.getD k 0)) := (hw.cell (p := ⟨b2, o2 + k, none⟩) hbl2).trans (hc2 k hlt2)
      have r1 := hr.at k
      have r2 := hr2.at k
      have hs2 : Hid (xs ++ [pls (l.getD k 0) (m.getD k 0)] = tab (fun k => pls (l.getD k 0) (m.getD k 0)) (k + 1)) := by rw [tab_succ, hxs.out]; rfl
      have hcs := ho.cellAt k (by rw [fillz_len (by omega)]; exact hlt)
      have hfr := ho.frz k
      have hset := ho.set k (pls (l.getD k 0) (m.getD k 0))
      rw [show (fillz l.length xs).set k (pls (l.getD k 0) (m.getD k 0)) = fillz l.length (xs ++ [pls (l.getD k 0) (m.getD k 0)]) from by
        have := fillz_set (n := l.length) (xs := xs) (by omega) (pls (l.getD k 0) (m.getD k 0)); rw [hxl] at this; exact this] at hset
      have hb2 := hw.setCell (p := ⟨w.heap.size, k, none⟩) (Nat.le_refl _) (.int .i64 (pls (l.getD k 0) (m.getD k 0)))
      have hl2 : Hid ((xs ++ [pls (l.getD k 0) (m.getD k 0)]).length = k + 1) := by show _ = _; simp [hxl]
      clear hc1 hc2 ha hb hxs ho ho2 hb1 hxl
      have hi1 : (k : Int) < (l.length : Int) := by omega
      have hi2 : (k : Int) < (m.length : Int) := by omega
      generalize l.getD k 0 = x at h1 r1 hs2 hset hb2 hl2
      generalize m.getD k 0 = y at h2 r2 hs2 hset hb2 hl2
      generalize (fillz l.length xs).getD k 0 = z at hcs
      go_wp2_with fail
      refine wp_region_still_tail 13 (by kernel_rfl) (by kernel_rfl) ?_
      simp only [List.take_succ_cons, List.take_zero, List.drop_succ_cons, List.drop_zero]
      repeat still_step
      still_call (flip (iPlus x y (by omega) (by omega) _))
      repeat still_step
      refine wpStill_nil ?_
      change wpList _ _ _ _ _ wr.drew
      go_wp2
      go_roundw
      case rel => exact ⟨k + 1, xs ++ [pls x y], by omega, by go_num, hl2.out, hs2, hset, hb2.drew⟩
      case measure => simp [intOf]; omega
    · have hkk : k = l.length := by omega
      subst hkk
      have hfin := Lib.hid (show fillz l.length xs = addl l m by rw [fillz_full hxl]; exact hxs.out)
      clear hxl
      go_wp2
      go_ret
      have e9 : (addl l m).length = l.length := tab_len _ _
      exact ⟨w.heap.size, l.length, by rw [e9]; rfl, by rw [hfin.out] at ho; exact ho, hw⟩

set_option maxRecDepth 100000 in
set_option maxHeartbeats 3200000 in
theorem iElemMinus (a b : Option Addr) (ca cb : Nat) (l m : List Int) (w : World) (ha : At w a l) (hb : At w b m) (hr : Nums l) (hr2 : Nums m) (hlm : Hid (m.length = l.length)) (hl : l.length ≤ 1048576) :
    Calls Tryz.prog 57 #[.slice a l.length ca, .slice b m.length cb, .func (.func 178) #[] #[]] w (Fresh w (subl l m)) := by
  obtain ⟨i0, hi, hz0, hz1, hz2⟩ := info_parts info64
  go_enter Tryz.func57, Tryz.ntmps57
  go_wp2_with (refine wpList_make_full _ rfl _ _ 25 rfl w.heap.size 2 i0 (.int .i64 0) 1 Tryz.underlying25 hi hz0 hz1 .i64 .i64 _ _ l.length rfl rfl rfl rfl ?c2 ?c3 (Nat.le_refl _) ?_)
  case c2 => rw [hz2]; omega
  case c3 => unfold maxLen; omega
  intro w1 ho1 hg1
  have hb1 := (Below.refl w.heap.size w).grown hg1 (Nat.le_refl _) (by intro k hk; cases hk)
  have ho2 := made_own ho1
  clear ho1 hg1 hi hz0 hz1 hz2
  go_wp2_with fail
  go_loopw [8, 14] (fun _ i wr => ∃ (k : Nat) (xs : List Int), k ≤ l.length ∧ i = .int .i64 k ∧ xs.length = k ∧ Hid (xs = tab (fun k => mns (l.getD k 0) (m.getD k 0)) k) ∧ Own w.heap.size wr w.heap.size l.length (fillz l.length xs) ∧ Below w.heap.size w wr) (fun _ i _ => l.length - (intOf i).toNat)
  case atStart => exact ⟨0, [], Nat.zero_le _, rfl, rfl, rfl, ho2, hb1⟩
  case round =>
    obtain ⟨k, xs, hk, rfl, hxl, hxs, ho, hw⟩ := hrel
    by_cases hlt : k < l.length
    · obtain ⟨b1, o1, rfl, hbl1, hc1⟩ := (ha.resolve_left (by intro e; rw [e] at hlt; simp at hlt))
      have hlt2 : k < m.length := by have := hlm.out; omega
      obtain ⟨b2, o2, rfl, hbl2, hc2⟩ := (hb.resolve_left (by intro e; rw [e] at hlt2; simp at hlt2))
      have h1 : wr.cell? ⟨b1, o1 + k, none⟩ = some (.int .i64 (l.getD k 0)) := (hw.cell (p := ⟨b1, o1 + k, none⟩) hbl1).trans (hc1 k hlt)
      have h2 : wr.cell? ⟨b2, o2 + k, none⟩ = some (.int .i64 (m.getD k 0)) := (hw.cell (p := ⟨b2, o2 + k, none⟩) hbl2).trans (hc2 k hlt2)
      have r1 := hr.at k
      have r2 := hr2.at k
      have hs2 : Hid (xs ++ [mns (l.getD k 0) (m.getD k 0)] = tab (fun k => mns (l.getD k 0) (m.getD k 0)) (k + 1)) := by rw [tab_succ, hxs.out]; rfl
      have hcs := ho.cellAt k (by rw [fillz_len (by omega)]; exact hlt)
      have hfr := ho.frz k
      have hset := ho.set k (mns (l.getD k 0) (m.getD k 0))
      rw [show (fillz l.length xs).set k (mns (l.getD k 0) (m.getD k 0)) = fillz l.length (xs ++ [mns (l.getD k 0) (m.getD k 0)]) from by
        have := fillz_set (n := l.length) (xs := xs) (by omega) (mns (l.getD k 0) (m.getD k 0)); rw [hxl] at this; exact this] at hset
      have hb2 := hw.setCell (p := ⟨w.heap.size, k, none⟩) (Nat.le_refl _) (.int .i64 (mns (l.getD k 0) (m.getD k 0)))
      have hl2 : Hid ((xs ++ [mns (l.getD k 0) (m.getD k 0)]).length = k + 1) := by show _ = _; simp [hxl]
      clear hc1 hc2 ha hb hxs ho ho2 hb1 hxl
      have hi1 : (k : Int) < (l.length : Int) := by omega
      have hi2 : (k : Int) < (m.length : Int) := by omega
      generalize l.getD k 0 = x at h1 r1 hs2 hset hb2 hl2
      generalize m.getD k 0 = y at h2 r2 hs2 hset hb2 hl2
      generalize (fillz l.length xs).getD k 0 = z at hcs
      go_wp2_with fail
      refine wp_region_still_tail 13 (by kernel_rfl) (by kernel_rfl) ?_
      simp only [List.take_succ_cons, List.take_zero, List.drop_succ_cons, List.drop_zero]
      repeat still_step
      still_call (flip (imns x y (by omega) (by omega) _))
      repeat still_step
      refine wpStill_nil ?_
      change wpList _ _ _ _ _ wr.drew
      go_wp2
      go_roundw
      case rel => exact ⟨k + 1, xs ++ [mns x y], by omega, by go_num, hl2.out, hs2, hset, hb2.drew⟩
      case measure => simp [intOf]; omega
    · have hkk : k = l.length := by omega
      subst hkk
      have hfin := Lib.hid (show fillz l.length xs = subl l m by rw [fillz_full hxl]; exact hxs.out)
      clear hxl
      go_wp2
      go_ret
      have e9 : (subl l m).length = l.length := tab_len _ _
      exact ⟨w.heap.size, l.length, by rw [e9]; rfl, by rw [hfin.out] at ho; exact ho, hw⟩

end Sr

end Go.Proofs.YtoedccgiahegnaaGreat
