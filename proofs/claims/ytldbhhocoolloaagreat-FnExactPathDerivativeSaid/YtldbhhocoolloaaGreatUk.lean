/- The methods of the arithmetic of series. The methods of the arithmetic of series. The program's evaluation with series: what it keeps and answers; lists of expressions. The program's evaluation with series: operations, negations, choices. The program's evaluation with series: lets. The program's evaluation with series: calls, loops. The program's evaluation with series: each node. The program's evaluation with series, whole. Series along a line by the program. Taylor coefficients by the program. HigherDerivative by the program. -/
import Derived.Deep.RegionHeld3
import Derived.Deep.RegionWith
import Derived.Deep.RegionLawGrows
import Derived.Test.YtldbhhocoolloaaGreatOps
import Derived.Test.YtldbhhocoolloaaGreatGc
import Derived.Test.YtldbhhocoolloaaGreatEk
import Derived.Test.YtldbhhocoolloaaGreatEo
namespace Go.Proofs.YtldbhhocoolloaaGreat
open Go.RowKit
set_option linter.unusedVariables false

namespace Sr
/-- a series of its own is answered -/
def FrN (n : Nat) (w : World) (l : List Int) (e : Ending) (w' : World) : Prop :=
  ∃ g cap, e = .returned (.slice (some ⟨g, 0, none⟩) n cap) ∧ Own w.heap.size w' g cap l ∧ l.length = n ∧ Nums l ∧ Below w.heap.size w w'
theorem FrN.below {n : Nat} {w w' : World} {l : List Int} {e : Ending} (h : FrN n w l e w') : Below w.heap.size w w' := by obtain ⟨g, cap, _, _, _, _, h4⟩ := h; exact h4
theorem FrN.from {n : Nat} {w w1 w' : World} {l : List Int} {e : Ending} (h : FrN n w1 l e w') (hb : Below w.heap.size w w1) : FrN n w l e w' := by
  obtain ⟨g, cap, rfl, h1, h2, h3, h4⟩ := h
  exact ⟨g, cap, rfl, h1.mono hb.size, h2, h3, hb.trans (h4.mono hb.size)⟩
theorem rngs {l : List Int} (h : Nums l) : Rng l := fun n hn => by have := h n hn; omega
theorem mns_pls (x y : Int) : mns x y = pls x (tms y 1000002) := by unfold mns pls tms; omega
theorem mns_zero (y : Int) : mns 0 y = tms y 1000002 := by unfold mns tms; omega
def subl (a b : List Int) : List Int := tab (fun k => mns (a.getD k 0) (b.getD k 0)) a.length
theorem subl_eq {a b : List Int} (h : b.length = a.length) : subl a b = addl a (scll b 1000002) := by
  unfold subl addl
  unfold tab
  refine List.map_congr_left fun k hk => ?_
  have hk' := List.mem_range.1 hk
  rw [mns_pls]
  congr 1
  unfold scll
  exact (tab_at (f := fun i => tms (b.getD i 0) 1000002) (by omega)).symm
theorem subl_zero {a : List Int} {n : Nat} (h : a.length = n) : subl (cstl 0 n) a = scll a 1000002 := by
  unfold subl scll tab
  rw [cstl_len, h]
  refine List.map_congr_left fun k hk => ?_
  have e : (cstl 0 n).getD k 0 = 0 := by
    unfold cstl
    rw [List.getD_eq_getElem?_getD, List.getElem?_set]
    split
    · split <;> rfl
    · rw [List.getElem?_replicate]; split <;> rfl
  rw [e, mns_zero]
theorem addl_nums (a b : List Int) : Nums (addl a b) := tab_nms _ fun _ => pls_bd _ _
theorem subl_nums (a b : List Int) : Nums (subl a b) := tab_nms _ fun _ => mns_bd _ _
theorem mull_nums (a b : List Int) : Nums (mull a b) := (tab_nms _ fun k => by unfold mulc; exact psum_bd _ _)
theorem divl_nums (a b : List Int) : Nums (divl a b) := dvs_nms _ _ _ _
theorem cstl_nums {x : Int} {n : Nat} (h : 0 ≤ x ∧ x < 1000003) : Nums (cstl x n) := by
  intro y hy
  unfold cstl at hy
  rcases List.mem_or_eq_of_mem_set hy with hy | rfl
  · have := List.eq_of_mem_replicate hy; omega
  · exact h

set_option maxRecDepth 100000 in
set_option maxHeartbeats 3200000 in
theorem iElemPlus (a b : Option Addr) (ca cb : Nat) (l m : List Int) (w : World) (ha : At w a l) (hb : At w b m) (hr : Nums l) (hr2 : Nums m) (hlm : Hid (m.length = l.length)) (hl : l.length ≤ 1048576) :
    Calls Tryz.prog 81 #[.slice a l.length ca, .slice b m.length cb, .func (.func 82) #[] #[]] w (Fresh w (addl l m)) := by
  obtain ⟨i0, hi, hz0, hz1, hz2⟩ := info_parts info64
  go_enter Tryz.func81, Tryz.ntmps81
  go_wp2_with (refine wpList_make_full _ rfl _ _ 25 rfl w.heap.size 2 i0 (.int .i64 0) 1 Tryz.underlying25 hi hz0 hz1 .i64 .i64 _ _ l.length rfl rfl rfl rfl ?c2 ?c3 (Nat.le_refl _) ?_)
  case c2 => rw [hz2]; omega
  case c3 => unfold maxLen; omega
  intro w1 ho1 hg1
  have hb1 := (Below.refl w.heap.size w).grown hg1 (Nat.le_refl _) (by intro k hk; cases hk)
  have ho2 := made_own ho1
  clear ho1 hg1 hi hz0 hz1 hz2
  go_wp2_with fail
  go_loopw [8, 14] (fun _ i wr => ∃ (k : Nat) (xs : List Int), k ≤ l.length ∧ i = .int .i64 k ∧ xs.length = k ∧ Hid (xs = tab (fun k => pls (l.getD k 0) (m.getD k 0)) k) ∧ Own w.heap.size wr w.heap.size l.length (fillz l.length xs) ∧ Below w.heap.size w wr) (fun _ i _ => l.length - (intOf i).toNat)
  case atStart => exact ⟨0, [], Nat.zero_le _, rfl, rfl, rfl, ho2, hb1⟩
  case round =>
    obtain ⟨k, xs, hk, rfl, hxl, hxs, ho, hw⟩ := hrel
    by_cases hlt : k < l.length
    · obtain ⟨b1, o1, rfl, hbl1, hc1⟩ := (ha.resolve_left (by intro e; rw [e] at hlt; simp at hlt))
      have hlt2 : k < m.length := by have := hlm.out; omega
      obtain ⟨b2, o2, rfl, hbl2, hc2⟩ := (hb.resolve_left (by intro e; rw [e] at hlt2; simp at hlt2))
      have h1 : wr.cell? ⟨b1, o1 + k, none⟩ = some (.int .i64 (l.getD k 0)) := (hw.cell (p := ⟨b1, o1 + k, none⟩) hbl1).trans (hc1 k hlt)
      have h2 : wr.cell? ⟨b2, o2 + k, none⟩ = some (.int .i64 (m.getD k 0)) := (hw.cell (p := ⟨b2, o2 + k, none⟩) hbl2).trans (hc2 k hlt2)
      have r1 := hr.at k
      have r2 := hr2.at k
      have hs2 : Hid (xs ++ [pls (l.getD k 0) (m.getD k 0)] = tab (fun k => pls (l.getD k 0) (m.getD k 0)) (k + 1)) := by rw [tab_succ, hxs.out]; rfl
      have hcs := ho.cellAt k (by rw [fillz_len (by omega)]; exact hlt)
      have hfr := ho.frz k
      have hset := ho.set k (pls (l.getD k 0) (m.getD k 0))
      rw [show (fillz l.length xs).set k (pls (l.getD k 0) (m.getD k 0)) = fillz l.length (xs ++ [pls (l.getD k 0) (m.getD k 0)]) from by
        have := fillz_set (n := l.length) (xs := xs) (by omega) (pls (l.getD k 0) (m.getD k 0)); rw [hxl] at this; exact this] at hset
      have hb2 := hw.setCell (p := ⟨w.heap.size, k, none⟩) (Nat.le_refl _) (.int .i64 (pls (l.getD k 0) (m.getD k 0)))
      have hl2 : Hid ((xs ++ [pls (l.getD k 0) (m.getD k 0)]).length = k + 1) := by show _ = _; simp [hxl]
      clear hc1 hc2 ha hb hxs ho ho2 hb1 hxl
      have hi1 : (k : Int) < (l.length : Int) := by omega
      have hi2 : (k : Int) < (m.length : Int) := by omega
      generalize l.getD k 0 = x at h1 r1 hs2 hset hb2 hl2
      generalize m.getD k 0 = y at h2 r2 hs2 hset hb2 hl2
      generalize (fillz l.length xs).getD k 0 = z at hcs
      go_wp2_with fail
      refine wp_region_still_tail 13 (by kernel_rfl) (by kernel_rfl) ?_
      simp only [List.take_succ_cons, List.take_zero, List.drop_succ_cons, List.drop_zero]
      repeat still_step
      still_call (flip (iPlus x y (by omega) (by omega) _))
      repeat still_step
      refine wpStill_nil ?_
      change wpList _ _ _ _ _ wr.drew
      go_wp2
      go_roundw
      case rel => exact ⟨k + 1, xs ++ [pls x y], by omega, by go_num, hl2.out, hs2, hset, hb2.drew⟩
      case measure => simp [intOf]; omega
    · have hkk : k = l.length := by omega
      subst hkk
      have hfin := Lib.hid (show fillz l.length xs = addl l m by rw [fillz_full hxl]; exact hxs.out)
      clear hxl
      go_wp2
      go_ret
      have e9 : (addl l m).length = l.length := tab_len _ _
      exact ⟨w.heap.size, l.length, by rw [e9]; rfl, by rw [hfin.out] at ho; exact ho, hw⟩

set_option maxRecDepth 100000 in
set_option maxHeartbeats 3200000 in
theorem iElemMinus (a b : Option Addr) (ca cb : Nat) (l m : List Int) (w : World) (ha : At w a l) (hb : At w b m) (hr : Nums l) (hr2 : Nums m) (hlm : Hid (m.length = l.length)) (hl : l.length ≤ 1048576) :
    Calls Tryz.prog 81 #[.slice a l.length ca, .slice b m.length cb, .func (.func 151) #[] #[]] w (Fresh w (subl l m)) := by
  obtain ⟨i0, hi, hz0, hz1, hz2⟩ := info_parts info64
  go_enter Tryz.func81, Tryz.ntmps81
  go_wp2_with (refine wpList_make_full _ rfl _ _ 25 rfl w.heap.size 2 i0 (.int .i64 0) 1 Tryz.underlying25 hi hz0 hz1 .i64 .i64 _ _ l.length rfl rfl rfl rfl ?c2 ?c3 (Nat.le_refl _) ?_)
  case c2 => rw [hz2]; omega
  case c3 => unfold maxLen; omega
  intro w1 ho1 hg1
  have hb1 := (Below.refl w.heap.size w).grown hg1 (Nat.le_refl _) (by intro k hk; cases hk)
  have ho2 := made_own ho1
  clear ho1 hg1 hi hz0 hz1 hz2
  go_wp2_with fail
  go_loopw [8, 14] (fun _ i wr => ∃ (k : Nat) (xs : List Int), k ≤ l.length ∧ i = .int .i64 k ∧ xs.length = k ∧ Hid (xs = tab (fun k => mns (l.getD k 0) (m.getD k 0)) k) ∧ Own w.heap.size wr w.heap.size l.length (fillz l.length xs) ∧ Below w.heap.size w wr) (fun _ i _ => l.length - (intOf i).toNat)
  case atStart => exact ⟨0, [], Nat.zero_le _, rfl, rfl, rfl, ho2, hb1⟩
  case round =>
    obtain ⟨k, xs, hk, rfl, hxl, hxs, ho, hw⟩ := hrel
    by_cases hlt : k < l.length
    · obtain ⟨b1, o1, rfl, hbl1, hc1⟩ := (ha.resolve_left (by intro e; rw [e] at hlt; simp at hlt))
      have hlt2 : k < m.length := by have := hlm.out; omega
      obtain ⟨b2, o2, rfl, hbl2, hc2⟩ := (hb.resolve_left (by intro e; rw [e] at hlt2; simp at hlt2))
      have h1 : wr.cell? ⟨b1, o1 + k, none⟩ = some (.int .i64 (l.getD k 0)) := (hw.cell (p := ⟨b1, o1 + k, none⟩) hbl1).trans (hc1 k hlt)
      have h2 : wr.cell? ⟨b2, o2 + k, none⟩ = some (.int .i64 (m.getD k 0)) := (hw.cell (p := ⟨b2, o2 + k, none⟩) hbl2).trans (hc2 k hlt2)
      have r1 := hr.at k
      have r2 := hr2.at k
      have hs2 : Hid (xs ++ [mns (l.getD k 0) (m.getD k 0)] = tab (fun k => mns (l.getD k 0) (m.getD k 0)) (k + 1)) := by rw [tab_succ, hxs.out]; rfl
      have hcs := ho.cellAt k (by rw [fillz_len (by omega)]; exact hlt)
      have hfr := ho.frz k
      have hset := ho.set k (mns (l.getD k 0) (m.getD k 0))
      rw [show (fillz l.length xs).set k (mns (l.getD k 0) (m.getD k 0)) = fillz l.length (xs ++ [mns (l.getD k 0) (m.getD k 0)]) from by
        have := fillz_set (n := l.length) (xs := xs) (by omega) (mns (l.getD k 0) (m.getD k 0)); rw [hxl] at this; exact this] at hset
      have hb2 := hw.setCell (p := ⟨w.heap.size, k, none⟩) (Nat.le_refl _) (.int .i64 (mns (l.getD k 0) (m.getD k 0)))
      have hl2 : Hid ((xs ++ [mns (l.getD k 0) (m.getD k 0)]).length = k + 1) := by show _ = _; simp [hxl]
      clear hc1 hc2 ha hb hxs ho ho2 hb1 hxl
      have hi1 : (k : Int) < (l.length : Int) := by omega
      have hi2 : (k : Int) < (m.length : Int) := by omega
      generalize l.getD k 0 = x at h1 r1 hs2 hset hb2 hl2
      generalize m.getD k 0 = y at h2 r2 hs2 hset hb2 hl2
      generalize (fillz l.length xs).getD k 0 = z at hcs
      go_wp2_with fail
      refine wp_region_still_tail 13 (by kernel_rfl) (by kernel_rfl) ?_
      simp only [List.take_succ_cons, List.take_zero, List.drop_succ_cons, List.drop_zero]
      repeat still_step
      still_call (flip (imns x y (by omega) (by omega) _))
      repeat still_step
      refine wpStill_nil ?_
      change wpList _ _ _ _ _ wr.drew
      go_wp2
      go_roundw
      case rel => exact ⟨k + 1, xs ++ [mns x y], by omega, by go_num, hl2.out, hs2, hset, hb2.drew⟩
      case measure => simp [intOf]; omega
    · have hkk : k = l.length := by omega
      subst hkk
      have hfin := Lib.hid (show fillz l.length xs = subl l m by rw [fillz_full hxl]; exact hxs.out)
      clear hxl
      go_wp2
      go_ret
      have e9 : (subl l m).length = l.length := tab_len _ _
      exact ⟨w.heap.size, l.length, by rw [e9]; rfl, by rw [hfin.out] at ho; exact ho, hw⟩

end Sr

end Go.Proofs.YtldbhhocoolloaaGreat

namespace Go.Proofs.YtldbhhocoolloaaGreat
open Go.RowKit
set_option linter.unusedVariables false

namespace Sr

set_option maxRecDepth 100000 in
set_option maxHeartbeats 1600000 in
theorem qConst (x o : Int) (n : Nat) (ho : o + 1 = (n : Int)) (hn1 : 1 ≤ n) (hn : n ≤ 1048576) (hx : 0 ≤ x ∧ x < 1000003) (w : World) :
    Calls Tryz.prog 118 #[.agg #[.int .i64 o], .int .i64 x] w (FrN n w (cstl x n)) := by
  obtain ⟨i0, hi, hz0, hz1, hz2⟩ := info_parts info64
  obtain ⟨w1, hw1⟩ : ∃ w1, w1 = w.alloc (.cells #[.int .i64 o] 91) := ⟨_, rfl⟩
  have b1 : Below w.heap.size w w1 := by rw [hw1]; exact (Below.refl _ _).alloc (Nat.le_refl _) _
  have x0 : w1.cell? ⟨w.heap.size, 0, none⟩ = some (.int .i64 o) := by rw [hw1]; simp [go_sem]
  obtain rfl : o = (n : Int) - 1 := by omega
  have hw9 : (n : Int) - 1 + 1 = (n : Int) := by omega
  have hzb := b1.size
  go_enter Tryz.func118, Tryz.ntmps118
  go_wp2_with (refine wpList_make_full _ rfl _ _ 98 rfl w.heap.size 2 i0 (.int .i64 0) 1 Tryz.underlying98 hi hz0 hz1 .i64 .i64 _ _ n (by first | rfl | simp [Act.eval]) (by first | rfl | simp [Act.eval]) (by omega) (by omega) ?c2 ?c3 (by simp) ?_)
  case c2 => rw [hz2]; omega
  case c3 => unfold maxLen; omega
  intro w2 ho1 hg1
  rw [← hw1] at hg1
  have hb2 := (Below.refl w1.heap.size w1).grown hg1 (Nat.le_refl _) (by intro k hk; cases hk)
  have ho2 := made_own ho1
  clear ho1 hg1 hi hz0 hz1 hz2
  have hlen : (fillz n []).length = n := fillz_len (by simp)
  have hcs := ho2.cellAt 0 (by rw [hlen]; omega)
  have hfr := ho2.frz 0
  have hset := ho2.set 0 x
  have e : (fillz n []).set 0 x = cstl x n := by rw [fillz_zero]; rfl
  rw [e] at hset
  have h0n : (0 : Int) < (n : Int) := by omega
  generalize (fillz n []).getD 0 0 = z at hcs
  clear ho2 hlen e
  go_wp2_with fail
  go_ret
  exact ⟨w.heap.size + 1, n, rfl, hset, cstl_len x n, cstl_nums hx, (b1.trans (hb2.mono hzb)).setCell (p := ⟨w.heap.size + 1, 0, none⟩) (by show w.heap.size ≤ w.heap.size + 1; omega) _⟩

set_option maxRecDepth 100000 in
set_option maxHeartbeats 1600000 in
theorem qPlus (o : Int) (n : Nat) (hn1 : 1 ≤ n) (hn : n ≤ 1048576) (a b : Option Addr) (ca cb : Nat) (l m : List Int) (w : World) (ha : At w a l) (hb : At w b m) (hr : Nums l) (hr2 : Nums m) (hl : l.length = n) (hm : m.length = n) :
    Calls Tryz.prog 219 #[.agg #[.int .i64 o], .slice a n ca, .slice b n cb] w (FrN n w (addl l m)) := by
  have b1 : Below w.heap.size w (w.alloc (.cells #[.int .i64 o] 91)) := (Below.refl _ _).alloc (Nat.le_refl _) _
  have hz1 := b1.size
  have HC := Lib.hid (show Calls Tryz.prog 81 #[.slice a n ca, .slice b n cb, .func (.func 82) #[] #[]] (w.alloc (.cells #[.int .i64 o] 91)) (FrN n (w.alloc (.cells #[.int .i64 o] 91)) (addl l m)) from by
    refine (show Calls _ _ _ _ _ from by have h := iElemPlus a b ca cb l m _ (ha.below b1 (Nat.le_refl _)) (hb.below b1 (Nat.le_refl _)) hr hr2 (by show _ = _; omega) (by omega); rw [hl, hm] at h; exact h).mono ?_
    rintro e w' ⟨g, c, rfl, h1, h2⟩
    skip
    exact ⟨g, c, by rw [show (addl l m).length = n from ((addl_len _ _).trans hl)], h1, ((addl_len _ _).trans hl), addl_nums _ _, h2⟩)
  clear ha hb
  go_enter Tryz.func219, Tryz.ntmps219
  go_wp2_with fail
  refine HC.out.mono ?_; rintro e w' h
  have hf := h.from b1
  obtain ⟨g, c, rfl, _⟩ := h
  go_wp2_with fail
  go_ret
  exact hf

set_option maxRecDepth 100000 in
set_option maxHeartbeats 1600000 in
theorem qMinus (o : Int) (n : Nat) (hn1 : 1 ≤ n) (hn : n ≤ 1048576) (a b : Option Addr) (ca cb : Nat) (l m : List Int) (w : World) (ha : At w a l) (hb : At w b m) (hr : Nums l) (hr2 : Nums m) (hl : l.length = n) (hm : m.length = n) :
    Calls Tryz.prog 216 #[.agg #[.int .i64 o], .slice a n ca, .slice b n cb] w (FrN n w (addl l (scll m 1000002))) := by
  have b1 : Below w.heap.size w (w.alloc (.cells #[.int .i64 o] 91)) := (Below.refl _ _).alloc (Nat.le_refl _) _
  have hz1 := b1.size
  have HC := Lib.hid (show Calls Tryz.prog 81 #[.slice a n ca, .slice b n cb, .func (.func 151) #[] #[]] (w.alloc (.cells #[.int .i64 o] 91)) (FrN n (w.alloc (.cells #[.int .i64 o] 91)) (addl l (scll m 1000002))) from by
    refine (show Calls _ _ _ _ _ from by have h := iElemMinus a b ca cb l m _ (ha.below b1 (Nat.le_refl _)) (hb.below b1 (Nat.le_refl _)) hr hr2 (by show _ = _; omega) (by omega); rw [hl, hm] at h; exact h).mono ?_
    rintro e w' ⟨g, c, rfl, h1, h2⟩
    rw [subl_eq (by omega)] at *
    exact ⟨g, c, by rw [show (addl l (scll m 1000002)).length = n from ((addl_len _ _).trans hl)], h1, ((addl_len _ _).trans hl), addl_nums _ _, h2⟩)
  clear ha hb
  go_enter Tryz.func216, Tryz.ntmps216
  go_wp2_with fail
  refine HC.out.mono ?_; rintro e w' h
  have hf := h.from b1
  obtain ⟨g, c, rfl, _⟩ := h
  go_wp2_with fail
  go_ret
  exact hf

set_option maxRecDepth 100000 in
set_option maxHeartbeats 1600000 in
theorem qTimes (o : Int) (n : Nat) (hn1 : 1 ≤ n) (hn : n ≤ 1048576) (a b : Option Addr) (ca cb : Nat) (l m : List Int) (w : World) (ha : At w a l) (hb : At w b m) (hr : Nums l) (hr2 : Nums m) (hl : l.length = n) (hm : m.length = n) :
    Calls Tryz.prog 220 #[.agg #[.int .i64 o], .slice a n ca, .slice b n cb] w (FrN n w (mull l m)) := by
  have b1 : Below w.heap.size w (w.alloc (.cells #[.int .i64 o] 91)) := (Below.refl _ _).alloc (Nat.le_refl _) _
  have hz1 := b1.size
  have HC := Lib.hid (show Calls Tryz.prog 221 #[.slice a n ca, .slice b n cb] (w.alloc (.cells #[.int .i64 o] 91)) (FrN n (w.alloc (.cells #[.int .i64 o] 91)) (mull l m)) from by
    refine (show Calls _ _ _ _ _ from by have h := iproduct a b ca cb l m _ (ha.below b1 (Nat.le_refl _)) (hb.below b1 (Nat.le_refl _)) (rngs hr) (rngs hr2) (by show _ = _; omega) (by omega); rw [hl, hm] at h; exact h).mono ?_
    rintro e w' ⟨g, c, rfl, h1, h2⟩
    skip
    exact ⟨g, c, by rw [show (mull l m).length = n from ((mull_len _ _).trans hl)], h1, ((mull_len _ _).trans hl), mull_nums _ _, h2⟩)
  clear ha hb
  go_enter Tryz.func220, Tryz.ntmps220
  go_wp2_with fail
  refine HC.out.mono ?_; rintro e w' h
  have hf := h.from b1
  obtain ⟨g, c, rfl, _⟩ := h
  go_wp2_with fail
  go_ret
  exact hf

set_option maxRecDepth 100000 in
set_option maxHeartbeats 1600000 in
theorem qOver (o : Int) (n : Nat) (hn1 : 1 ≤ n) (hn : n ≤ 1048576) (a b : Option Addr) (ca cb : Nat) (l m : List Int) (w : World) (ha : At w a l) (hb : At w b m) (hr : Nums l) (hr2 : Nums m) (hl : l.length = n) (hm : m.length = n) :
    Calls Tryz.prog 218 #[.agg #[.int .i64 o], .slice a n ca, .slice b n cb] w (FrN n w (divl l m)) := by
  have b1 : Below w.heap.size w (w.alloc (.cells #[.int .i64 o] 91)) := (Below.refl _ _).alloc (Nat.le_refl _) _
  have hz1 := b1.size
  have HC := Lib.hid (show Calls Tryz.prog 148 #[.slice a n ca, .slice b n cb] (w.alloc (.cells #[.int .i64 o] 91)) (FrN n (w.alloc (.cells #[.int .i64 o] 91)) (divl l m)) from by
    refine (show Calls _ _ _ _ _ from by have h := iquotient a b ca cb l m _ (ha.below b1 (Nat.le_refl _)) (hb.below b1 (Nat.le_refl _)) hr hr2 (by show _ = _; omega) (by omega) (by omega); rw [hl, hm] at h; exact h).mono ?_
    rintro e w' ⟨g, c, rfl, h1, h2⟩
    skip
    exact ⟨g, c, by rw [show (divl l m).length = n from ((divl_len _ _).trans hl)], h1, ((divl_len _ _).trans hl), divl_nums _ _, h2⟩)
  clear ha hb
  go_enter Tryz.func218, Tryz.ntmps218
  go_wp2_with fail
  refine HC.out.mono ?_; rintro e w' h
  have hf := h.from b1
  obtain ⟨g, c, rfl, _⟩ := h
  go_wp2_with fail
  go_ret
  exact hf

set_option maxRecDepth 100000 in
set_option maxHeartbeats 1600000 in
theorem qNeg (o : Int) (n : Nat) (ho : o + 1 = (n : Int)) (hn1 : 1 ≤ n) (hn : n ≤ 1048576) (a : Option Addr) (ca : Nat) (l : List Int) (w : World) (ha : At w a l) (hr : Nums l) (hl : l.length = n) :
    Calls Tryz.prog 217 #[.agg #[.int .i64 o], .slice a n ca] w (FrN n w (scll l 1000002)) := by
  obtain ⟨w1, hw1⟩ : ∃ w1, w1 = w.alloc (.cells #[.int .i64 o] 91) := ⟨_, rfl⟩
  have b1 : Below w.heap.size w w1 := by rw [hw1]; exact (Below.refl _ _).alloc (Nat.le_refl _) _
  have x0 : w1.cell? ⟨w.heap.size, 0, none⟩ = some (.int .i64 o) := by rw [hw1]; simp [go_sem]
  have HCC := fun W => Lib.hid (qConst 0 o n ho hn1 hn (by omega) W)
  have HA := Lib.hid (ha.below b1 (Nat.le_refl _))
  have HM := fun (g c : Nat) (W : World) (hW : Below w1.heap.size w1 W) (hg : At W (some ⟨g, 0, none⟩) (cstl 0 n)) => Lib.hid (qMinus o n hn1 hn (some ⟨g, 0, none⟩) a c ca (cstl 0 n) l W hg (HA.out.below hW (Nat.le_refl _)) (cstl_nums (by omega)) hr (cstl_len 0 n) hl)
  rw [← subl_eq (by rw [cstl_len]; exact hl), subl_zero hl] at HM
  have hz1 := b1.size
  have hlt := cell_lt x0
  clear ha
  go_enter Tryz.func217, Tryz.ntmps217
  go_wp2_with fail
  rw [← hw1]
  clear hw1
  go_region_held3 (fun w' => w'.cell? ⟨w.heap.size, 0, none⟩ = some (.int .i64 o))
    (first
      | with_reducible exact x0
      | with_reducible exact Y0.out
      | with_reducible exact Y1.out
      | go_keep)
    (first
      | (go_at_call 118; refine (HCC _).out.mono ?_; rintro e v0 ⟨g0, c0, rfl, h00, h01, h02, d0'⟩; have d0 : Below w1.heap.size w1 v0 := ⟨d0'.os, d0'.tape, d0'.output, d0'.size, d0'.block⟩; have Y0 : Hid (v0.cell? ⟨w.heap.size, 0, none⟩ = some (.int .i64 o)) := (d0.cell (p := ⟨w.heap.size, 0, none⟩) hlt).trans x0)
      | (go_at_call 216; refine (HM _ _ _ d0 h00.at).out.mono ?_; rintro e v1 h1; have Y1 : Hid (v1.cell? ⟨w.heap.size, 0, none⟩ = some (.int .i64 o)) := (h1.below.cell (p := ⟨w.heap.size, 0, none⟩) (Nat.lt_of_lt_of_le hlt d0.size)).trans Y0.out; have hf1 := Lib.hid (h1.from d0); obtain ⟨g1, c1, rfl, _⟩ := h1))
  all_goals
    go_wp2_with fail
    go_ret
    exact hf1.out.from b1
set_option maxRecDepth 100000 in
theorem qZero (o : Int) (n : Nat) (hn1 : 1 ≤ n) (a : Option Addr) (ca : Nat) (l : List Int) (w : World) (ha : At w a l) (hl : l.length = n) :
    Calls Tryz.prog 215 #[.agg #[.int .i64 o], .slice a n ca] w fun e w' => e = .returned (.bool (l.getD 0 0 == 0)) ∧ Below w.heap.size w w' := by
  have b1 : Below w.heap.size w (w.alloc (.cells #[.int .i64 o] 91)) := (Below.refl _ _).alloc (Nat.le_refl _) _
  obtain ⟨b, off, rfl, hbb, hcl⟩ := (ha.below b1 (Nat.le_refl _)).resolve_left (by intro e; rw [e] at hl; simp at hl; omega)
  have hx := hcl 0 (by omega)
  rw [Nat.add_zero] at hx
  have h0n : (0 : Int) < (n : Int) := by omega
  clear hcl ha
  generalize l.getD 0 0 = x at hx ⊢
  go_enter Tryz.func215, Tryz.ntmps215
  go_wp2_with fail
  go_ret
  exact ⟨rfl, b1⟩
set_option maxRecDepth 100000 in
theorem qDecides (o : Int) (n : Nat) (hn1 : 1 ≤ n) (a : Option Addr) (ca : Nat) (l : List Int) (w : World) (ha : At w a l) (hl : l.length = n) :
    Calls Tryz.prog 214 #[.agg #[.int .i64 o], .slice a n ca] w fun e w' => e = .returned (.bool (l.getD 0 0 == 0)) ∧ Below w.heap.size w w' := by
  obtain ⟨w1, hw1⟩ : ∃ w1, w1 = w.alloc (.cells #[.int .i64 o] 91) := ⟨_, rfl⟩
  have b1 : Below w.heap.size w w1 := by rw [hw1]; exact (Below.refl _ _).alloc (Nat.le_refl _) _
  have x0 : w1.cell? ⟨w.heap.size, 0, none⟩ = some (.int .i64 o) := by rw [hw1]; simp [go_sem]
  have HZ := Lib.hid (qZero o n hn1 a ca l w1 (ha.below b1 (Nat.le_refl _)) hl)
  clear ha
  go_enter Tryz.func214, Tryz.ntmps214
  go_wp2_with fail
  rw [← hw1]
  clear hw1
  refine HZ.out.mono ?_; rintro e w2 ⟨rfl, b2⟩
  go_wp2_with fail
  go_ret
  exact ⟨rfl, b1.trans (b2.mono b1.size)⟩
/-- the arithmetic of series, as a value -/
abbrev ofS (o : Int) : Value := .iface 91 (.agg #[.int .i64 o])
set_option maxRecDepth 100000 in
theorem decAhead (o : Int) (W : World) : (nilAhead 379 91 (.agg #[.int .i64 o]) "loop.example/g01091/impl.decides").run Tryz.prog W = .ok (some false) W := by kernel_rfl
set_option maxRecDepth 100000 in
theorem decMeth (o : Int) (W : World) : (method 379 91 (.agg #[.int .i64 o]) "loop.example/g01091/impl.decides").run Tryz.prog W = .ok (214, .agg #[.int .i64 o]) W := by kernel_rfl
set_option maxRecDepth 100000 in
theorem negAhead (o : Int) (W : World) : (nilAhead 379 91 (.agg #[.int .i64 o]) "loop.example/g01091/impl.negative").run Tryz.prog W = .ok (some false) W := by kernel_rfl
set_option maxRecDepth 100000 in
theorem negMeth (o : Int) (W : World) : (method 379 91 (.agg #[.int .i64 o]) "loop.example/g01091/impl.negative").run Tryz.prog W = .ok (217, .agg #[.int .i64 o]) W := by kernel_rfl
set_option maxRecDepth 100000 in
theorem timAhead (o : Int) (W : World) : (nilAhead 379 91 (.agg #[.int .i64 o]) "loop.example/g01091/impl.times").run Tryz.prog W = .ok (some false) W := by kernel_rfl
set_option maxRecDepth 100000 in
theorem timMeth (o : Int) (W : World) : (method 379 91 (.agg #[.int .i64 o]) "loop.example/g01091/impl.times").run Tryz.prog W = .ok (220, .agg #[.int .i64 o]) W := by kernel_rfl
set_option maxRecDepth 100000 in
theorem minAhead (o : Int) (W : World) : (nilAhead 379 91 (.agg #[.int .i64 o]) "loop.example/g01091/impl.minus").run Tryz.prog W = .ok (some false) W := by kernel_rfl
set_option maxRecDepth 100000 in
theorem minMeth (o : Int) (W : World) : (method 379 91 (.agg #[.int .i64 o]) "loop.example/g01091/impl.minus").run Tryz.prog W = .ok (216, .agg #[.int .i64 o]) W := by kernel_rfl
set_option maxRecDepth 100000 in
theorem ovrAhead (o : Int) (W : World) : (nilAhead 379 91 (.agg #[.int .i64 o]) "loop.example/g01091/impl.over").run Tryz.prog W = .ok (some false) W := by kernel_rfl
set_option maxRecDepth 100000 in
theorem ovrMeth (o : Int) (W : World) : (method 379 91 (.agg #[.int .i64 o]) "loop.example/g01091/impl.over").run Tryz.prog W = .ok (218, .agg #[.int .i64 o]) W := by kernel_rfl
set_option maxRecDepth 100000 in
theorem cstAhead (o : Int) (W : World) : (nilAhead 379 91 (.agg #[.int .i64 o]) "loop.example/g01091/impl.constant").run Tryz.prog W = .ok (some false) W := by kernel_rfl
set_option maxRecDepth 100000 in
theorem cstMeth (o : Int) (W : World) : (method 379 91 (.agg #[.int .i64 o]) "loop.example/g01091/impl.constant").run Tryz.prog W = .ok (118, .agg #[.int .i64 o]) W := by kernel_rfl
set_option maxRecDepth 100000 in
theorem zerAhead (o : Int) (W : World) : (nilAhead 379 91 (.agg #[.int .i64 o]) "loop.example/g01091/impl.isZero").run Tryz.prog W = .ok (some false) W := by kernel_rfl
set_option maxRecDepth 100000 in
theorem zerMeth (o : Int) (W : World) : (method 379 91 (.agg #[.int .i64 o]) "loop.example/g01091/impl.isZero").run Tryz.prog W = .ok (215, .agg #[.int .i64 o]) W := by kernel_rfl
set_option maxRecDepth 100000 in
theorem plsAhead (o : Int) (W : World) : (nilAhead 379 91 (.agg #[.int .i64 o]) "loop.example/g01091/impl.plus").run Tryz.prog W = .ok (some false) W := by kernel_rfl
set_option maxRecDepth 100000 in
theorem plsMeth (o : Int) (W : World) : (method 379 91 (.agg #[.int .i64 o]) "loop.example/g01091/impl.plus").run Tryz.prog W = .ok (219, .agg #[.int .i64 o]) W := by kernel_rfl

end Sr

end Go.Proofs.YtldbhhocoolloaaGreat

namespace Go.Proofs.YtldbhhocoolloaaGreat
open Go.RowKit
set_option linter.unusedVariables false

namespace Sr
/-- where the evaluation keeps its fields -/
structure EvAt (w : World) (bv : Nat) (o : Int) (ap : Option Addr) (fl capp s : Nat) : Prop where
  c0 : w.cell? ⟨bv, 0, none⟩ = some (ofS o)
  c1 : w.cell? ⟨bv, 1, none⟩ = some (.slice ap fl capp)
  c2 : w.cell? ⟨bv, 2, none⟩ = some (.int .i64 s)
  fz : ∀ q, w.frozen? ⟨bv, q, none⟩ = false
theorem EvAt.next {w w' : World} {bv : Nat} {o : Int} {ap : Option Addr} {fl capp s : Nat} (h : EvAt w bv o ap fl capp s) (hb : Below w.heap.size w w') : EvAt w' bv o ap fl capp s := by
  have hl := cell_lt h.c0
  exact ⟨(hb.cell (p := ⟨bv, 0, none⟩) hl).trans h.c0, (hb.cell (p := ⟨bv, 1, none⟩) hl).trans h.c1, (hb.cell (p := ⟨bv, 2, none⟩) hl).trans h.c2, fun q => (hb.frozen (p := ⟨bv, q, none⟩) hl).trans (h.fz q)⟩
theorem EvAt.other {w : World} {bv : Nat} {o : Int} {ap : Option Addr} {fl capp s : Nat} (h : EvAt w bv o ap fl capp s) {p : Addr} (hp : p.block ≠ bv) (v : Value) : EvAt (w.setCell p v) bv o ap fl capp s := by
  have e : ∀ q, (w.setCell p v).cell? ⟨bv, q, none⟩ = w.cell? ⟨bv, q, none⟩ := fun q => World.cell?_setCell_other _ _ _ _ (by intro e; apply hp; rw [e])
  exact ⟨(e 0).trans h.c0, (e 1).trans h.c1, (e 2).trans h.c2, fun q => (World.frozen?_setCell _ _ _ _).trans (h.fz q)⟩
/-- a series is answered -/
def VRes (o : Int) (N bv : Nat) (ap : Option Addr) (fl capp : Nat) (w : World) (r : Rv (List Int)) (e : Ending) (w' : World) : Prop :=
  Kp (fun b => b = bv) w w' ∧ EvAt w' bv o ap fl capp r.s ∧ ∃ v, e = .returned (.tuple #[v, .int .i64 r.c]) ∧ (r.c = 0 → ∃ a cap, v = .slice a N cap ∧ r.v.length = N ∧ Nums r.v ∧ Ls w' bv a r.v)
/-- a list of series is answered -/
def LRes (o : Int) (N bv : Nat) (ap : Option Addr) (fl capp : Nat) (w : World) (r : Rl (List Int)) (e : Ending) (w' : World) : Prop :=
  Kp (fun b => b = bv) w w' ∧ EvAt w' bv o ap fl capp r.s ∧ ((r.c = 0 ∧ ∃ g, e = .returned (.tuple #[.slice (some ⟨g, 0, none⟩) r.l.length r.l.length, .int .i64 0]) ∧ En w' bv (fun _ => True) N (some ⟨g, 0, none⟩) r.l) ∨ (¬ r.c = 0 ∧ e = .returned (.tuple #[.slice none 0 0, .int .i64 r.c])))
theorem VRes.mk {o : Int} {N bv : Nat} {ap : Option Addr} {fl capp : Nat} {w : World} {r : Rv (List Int)} {w' : World} {v : Value} (k : Kp (fun b => b = bv) w w') (h : EvAt w' bv o ap fl capp r.s) (hv : r.c = 0 → ∃ a cap, v = .slice a N cap ∧ r.v.length = N ∧ Nums r.v ∧ Ls w' bv a r.v) : VRes o N bv ap fl capp w r (.returned (.tuple #[v, .int .i64 r.c])) w' := ⟨k, h, v, rfl, hv⟩
theorem VRes.bad {o : Int} {N bv : Nat} {ap : Option Addr} {fl capp : Nat} {w : World} {r : Rv (List Int)} {w' : World} {v : Value} (k : Kp (fun b => b = bv) w w') (h : EvAt w' bv o ap fl capp r.s) (hc : ¬ r.c = 0) : VRes o N bv ap fl capp w r (.returned (.tuple #[v, .int .i64 r.c])) w' := ⟨k, h, v, rfl, fun h => absurd h hc⟩
/-- the method's own answer -/
theorem VRes.own {o : Int} {N bv : Nat} {ap : Option Addr} {fl capp : Nat} {w w2 : World} {l : List Int} {s : Nat} {w' : World} {g cap : Nat} (k : Kp (fun b => b = bv) w w2) (h : EvAt w2 bv o ap fl capp s) (ho : Own w2.heap.size w' g cap l) (hl : l.length = N) (hn : Nums l) (hb : Below w2.heap.size w2 w') : VRes o N bv ap fl capp w ⟨l, s, 0⟩ (.returned (.tuple #[.slice (some ⟨g, 0, none⟩) N cap, .int .i64 0])) w' :=
  ⟨k.more hb, h.next hb, _, rfl, fun _ => ⟨_, _, rfl, hl, hn, ho.ls (cell_lt h.c0)⟩⟩
theorem snoc_lt {l : List (List Int)} {x : List Int} {i : Nat} (h : i < l.length) : (l ++ [x]).getD i [] = l.getD i [] := by
  rw [List.getD_eq_getElem?_getD, List.getElem?_append_left h, List.getD_eq_getElem?_getD]
theorem snoc_eq {l : List (List Int)} {x : List Int} : (l ++ [x]).getD l.length [] = x := by
  rw [List.getD_eq_getElem?_getD, List.getElem?_append_right (Nat.le_refl _), Nat.sub_self]; rfl
theorem ls_set {w : World} {bv : Nat} {a : Option Addr} {l : List Int} (h : Ls w bv a l) {p : Addr} (hp : ∀ g, blk a l = some g → g ≠ p.block) (v : Value) : Ls (w.setCell p v) bv a l := by
  refine ⟨?_, h.ne⟩
  by_cases hl : l = []
  · exact .inl hl
  · obtain ⟨b, off, rfl, hb, hc⟩ := h.at_.resolve_left hl
    have hne : b ≠ p.block := hp b (by simp [blk, hl])
    exact .inr ⟨b, off, rfl, by simpa using hb, fun i hi => (World.cell?_setCell_other _ _ _ _ (by intro e; exact hne (congrArg Addr.block e).symm)).trans (hc i hi)⟩
theorem ls_lt {w : World} {br : Nat} {a : Option Addr} {l : List Int} (h : Ls w br a l) : ∀ g, blk a l = some g → g < w.heap.size := by
  intro g hg
  by_cases hl : l = []
  · simp [blk, hl] at hg
  · obtain ⟨b, off, rfl, hb, hc⟩ := h.at_.resolve_left hl
    simp [blk, hl] at hg
    omega
/-- a row of series that is being filled -/
def Apart (w : World) (L g bv N m i : Nat) (vs : List (List Int)) : Prop := ∃ us, w.ownsRow L 98 1 (.slice (some ⟨g, 0, none⟩) m m) m us ∧ (∀ u ∈ us, ∃ a n c, u = Value.slice a n c) ∧ ∀ k, k < i → ∃ ak ck, us[k]? = some (.slice ak N ck) ∧ Ls w bv ak (vs.getD k []) ∧ (vs.getD k []).length = N ∧ Nums (vs.getD k [])
theorem Apart.far {w : World} {L g bv N m i : Nat} {vs : List (List Int)} (h : Apart w L g bv N m i vs) {a : Option Addr} {x : List Int} (hx : At w a x) : ∀ q, blk a x = some q → q ≠ g := by
  intro q hq e
  subst e
  obtain ⟨us, h1, hs, _⟩ := h
  by_cases hl : x = []
  · simp [blk, hl] at hq
  · obtain ⟨b, off, rfl, hb, hc⟩ := hx.resolve_left hl
    simp [blk, hl] at hq
    subst hq
    have h0 := hc 0 (List.length_pos_iff.2 hl)
    rw [Nat.add_zero] at h0
    have hu := h1.1
    by_cases ho : off < m
    · have h2 := (h1.cellAt off (by omega)).symm.trans h0
      obtain ⟨a, n, c, e⟩ := hs _ (List.mem_of_getElem? h2)
      cases e
    · rcases h1.2 with ⟨e, _⟩ | ⟨g', c', cur, e, _, hh, _, _, hsz, _⟩
      · cases e
      · simp only [Value.slice.injEq, Option.some.injEq, Addr.mk.injEq, and_true, true_and] at e
        obtain ⟨e1, e2⟩ := e
        subst e1
        subst e2
        have : (World.cell? w ⟨b, off, none⟩) = none := by
          simp [World.cell?, hh]
          omega
        rw [this] at h0
        cases h0
theorem Apart.keep {w w' : World} {L g bv N m i : Nat} {vs : List (List Int)} (h : Apart w L g bv N m i vs) (k : Kp (fun b => b = bv) w w') (hg : g ≠ bv) : Apart w' L g bv N m i vs := by
  obtain ⟨us, ⟨h0, h1⟩, hs, h2⟩ := h
  refine ⟨us, ⟨h0, ?_⟩, hs, fun q hq => ?_⟩
  · rcases h1 with h1 | ⟨g', c', cur, e, hB, hh, r⟩
    · exact .inl h1
    · refine .inr ⟨g', c', cur, e, hB, ?_, r⟩
      have e2 : g = g' := by simp only [Value.slice.injEq, Option.some.injEq, Addr.mk.injEq] at e; exact e.1.1
      subst e2
      rw [k.block g (Array.getElem?_eq_some_iff.1 hh).1 hg]; exact hh
  · obtain ⟨ak, ck, h3, h4, h5⟩ := h2 q hq
    exact ⟨ak, ck, h3, h4.keep k, h5⟩
theorem Apart.next {w w' : World} {L g bv N m i : Nat} {vs : List (List Int)} (h : Apart w L g bv N m i vs) (hb : Below w.heap.size w w') : Apart w' L g bv N m i vs := by
  obtain ⟨us, h1, hs, h2⟩ := h
  refine ⟨us, World.ownsRow.kept h1 (below_grownBy hb) (.inr (by simp [Value.ownBlock])), hs, fun q hq => ?_⟩
  obtain ⟨ak, ck, h3, h4, h5⟩ := h2 q hq
  exact ⟨ak, ck, h3, h4.next hb, h5⟩
theorem Apart.base {w : World} {L g bv N m i : Nat} {vs : List (List Int)} (h : Apart w L g bv N m i vs) : L ≤ g ∧ g < w.heap.size := by obtain ⟨us, h1, _⟩ := h; exact h1.lt g rfl
theorem Apart.cell {w : World} {L g bv N m i : Nat} {vs : List (List Int)} (h : Apart w L g bv N m i vs) {k : Nat} (hk : k < m) : ∃ y, w.cell? ⟨g, k, none⟩ = some y := by
  obtain ⟨us, h1, _⟩ := h
  have hl := h1.1
  exact ⟨_, (h1.cellAt k (by omega)).trans (List.getElem?_eq_getElem (by omega))⟩
theorem Apart.frz {w : World} {L g bv N m i : Nat} {vs : List (List Int)} (h : Apart w L g bv N m i vs) (k : Nat) : w.frozen? ⟨g, k, none⟩ = false := by obtain ⟨us, h1, _⟩ := h; exact h1.frozenAt k
theorem Apart.push {w : World} {L g bv N m i : Nat} {vs : List (List Int)} {a : Option Addr} {cap : Nat} {x : List Int} (h : Apart w L g bv N m i vs) (hi : i < m) (hv : vs.length = i) (hx : Ls w bv a x) (hl : x.length = N) (hn : Nums x) :
    Apart (w.setCell ⟨g, i, none⟩ (.slice a N cap)) L g bv N m (i + 1) (vs ++ [x]) := by
  have hfar := fun a x => h.far (a := a) (x := x)
  obtain ⟨us, h1, hs, h2⟩ := h
  have hu := h1.1
  refine ⟨us.set i (.slice a N cap), (h1.stored i _).1, fun u hu => ?_, fun k hk => ?_⟩
  · rcases List.mem_or_eq_of_mem_set hu with hu | rfl
    · exact hs u hu
    · exact ⟨_, _, _, rfl⟩
  · by_cases e : k < i
    · obtain ⟨ak, ck, h3, h4, h5⟩ := h2 k e
      rw [snoc_lt (by omega)]
      exact ⟨ak, ck, by rw [List.getElem?_set_ne (by omega)]; exact h3, ls_set h4 (hfar _ _ h4.at_) _, h5⟩
    · obtain rfl : k = i := by omega
      rw [← hv, snoc_eq]
      exact ⟨a, cap, by rw [hv, List.getElem?_set_self (by omega)], ls_set hx (hfar _ _ hx.at_) _, hl, hn⟩
theorem Apart.start {w : World} {L g bv N m : Nat} {vs : List (List Int)} (h : w.ownsRow L 98 1 (.slice (some ⟨g, 0, none⟩) m m) m (madeCells #[Value.slice none 0 0] m).toList) : Apart w L g bv N m 0 vs := by
  refine ⟨_, h, fun u hu => ?_, fun k hk => absurd hk (Nat.not_lt_zero _)⟩
  rw [toList_madeCells_one] at hu
  exact ⟨_, _, _, List.eq_of_mem_replicate hu⟩
theorem Apart.en {w : World} {L g bv N m : Nat} {vs : List (List Int)} (h : Apart w L g bv N m m vs) (hv : vs.length = m) (hg : g ≠ bv) : En w bv (fun _ => True) N (some ⟨g, 0, none⟩) vs := by
  obtain ⟨us, h1, _, h2⟩ := h
  refine ⟨.inr ⟨g, 0, rfl, hg, (h1.lt g rfl).2, fun i hi => ?_⟩, fun i hi => ?_, fun i hi => ?_⟩
  · obtain ⟨ak, ck, h3, h4, _⟩ := h2 i (by omega)
    exact ⟨ak, ck, by rw [Nat.zero_add, h1.cellAt i (by omega)]; exact h3, h4, fun _ _ => trivial⟩
  · obtain ⟨ak, ck, h3, h4, h5, h6⟩ := h2 i (by omega)
    exact h5
  · obtain ⟨ak, ck, h3, h4, h5, h6⟩ := h2 i (by omega)
    exact h6

/-- what an evaluation with so much fuel does at a node -/
def PV (o : Int) (N : Nat) (fs : List Fn) (ap : Option Addr) (capp bv B f : Nat) : Prop :=
  ∀ (fi : Nat) (k n p c : Int) (ks : Fo) (a : Option Addr) (cap : Nat) (av : Option Addr) (cav : Nat) (vars : List (List Int)) (s : Nat) (w : World),
    3000 < f + s → s ≤ 3000 → fi ≤ fs.length → nodeB fs (vars.length : Int) (fi : Int) k n p c ks.len = true → treeB fs (fi : Int) ks (vars.length : Int) k 0 = true → EvAt w bv o ap fs.length capp s → Pat w 0 B fs ap → Fat w 0 B ks a → ks.len ≤ maxLen → En w bv (fun _ => True) N av vars → vars.length ≤ 412 + s → vars.length ≤ cav → cav ≤ 9223372036854775807 →
    Calls Tryz.prog 146 #[.pointer (some ⟨bv, 0, none⟩), .agg #[.int .i64 k, .int .i64 n, .int .i64 p, .int .i64 c, .slice a ks.len cap], .slice av vars.length cav] w (VRes o N bv ap fs.length capp w (evE (sA N) fs f k n p c ks vars s))
def PL (o : Int) (N : Nat) (fs : List Fn) (ap : Option Addr) (capp bv B f : Nat) : Prop :=
  ∀ (fi : Nat) (q : Int) (O : Fo) (ao : Option Addr) (cao : Nat) (av : Option Addr) (cav : Nat) (vars : List (List Int)) (s : Nat) (w : World),
    3000 < f + s → s ≤ 3000 → fi ≤ fs.length → q ≠ 9 → treeB fs (fi : Int) O (vars.length : Int) q 0 = true → EvAt w bv o ap fs.length capp s → Pat w 0 B fs ap → Fat w 0 B O ao → O.len ≤ 1048576 → En w bv (fun _ => True) N av vars → vars.length ≤ 412 + s → vars.length ≤ cav → cav ≤ 9223372036854775807 →
    Calls Tryz.prog 116 #[.pointer (some ⟨bv, 0, none⟩), .slice ao O.len cao, .slice av vars.length cav] w (LRes o N bv ap fs.length capp w (lisE (sA N) (evE (sA N) fs f) O vars s O.len))

set_option maxRecDepth 100000 in
theorem infoS : (Tryz.prog.info? 98).map (fun i => (i.zero, i.size, i.bytes)) = some (some (.slice none 0 0), 1, 24) := by kernel_rfl
set_option maxRecDepth 100000 in
set_option maxHeartbeats 6400000 in
theorem iValues {o : Int} {N : Nat} {fs : List Fn} {ap : Option Addr} {capp bv B f : Nat} (hN1 : 1 ≤ N) (hBv : B ≤ bv) (hV : PV o N fs ap capp bv B f) : PL o N fs ap capp bv B f := by
  intro fi q O ao cao av cav vars s w hf hs hfi hq ht hE hP hF hol hL hvl hcv hcv2
  obtain ⟨i0, hi, hz0, hz1, hz2⟩ := info_parts infoS
  have hbw := cell_lt hE.c0
  have HE := Lib.hid hE
  have HP := Lib.hid hP
  have HF := Lib.hid hF
  have HL := Lib.hid hL
  clear hE hP hF hL
  go_enter Tryz.func116, Tryz.ntmps116
  go_wp2_with (refine wpList_make_full _ rfl _ _ 87 rfl w.heap.size 98 i0 (.slice none 0 0) 1 Tryz.underlying87 hi hz0 hz1 .i64 .i64 _ _ O.len rfl rfl rfl rfl ?c2 ?c3 (Nat.le_refl _) ?_)
  case c2 => rw [hz2]; omega
  case c3 => unfold maxLen; omega
  intro w1 ho1 hg1
  have hb1 := (Below.refl w.heap.size w).grown hg1 (Nat.le_refl _) (by intro k hk; cases hk)
  have HO0 : Hid (Apart w1 w.heap.size w.heap.size bv N O.len 0 (lisE (sA N) (evE (sA N) fs f) O vars s 0).l) := Apart.start (by simpa using ho1)
  have HK0 : Hid (Kp (fun b => b = bv) w w1) := Kp.of_below hb1
  have HE0 : Hid (EvAt w1 bv o ap fs.length capp s) := HE.out.next hb1
  clear ho1 hg1 hi hz0 hz1 hz2 hb1 HE
  go_wp2_with fail
  go_loopw [18] (fun x wr => ∃ i : Nat, i ≤ O.len ∧ x = .int .i64 i ∧ Hid ((lisE (sA N) (evE (sA N) fs f) O vars s i).c = 0) ∧ Hid (Apart wr w.heap.size w.heap.size bv N O.len i (lisE (sA N) (evE (sA N) fs f) O vars s i).l) ∧ Hid (Kp (fun b => b = bv) w wr) ∧ Hid (EvAt wr bv o ap fs.length capp (lisE (sA N) (evE (sA N) fs f) O vars s i).s)) (fun x _ => O.len - (intOf x).toNat)
  case atStart => exact ⟨0, Nat.zero_le _, rfl, rfl, HO0.out, HK0.out, HE0.out⟩
  case round =>
    obtain ⟨i, hi, rfl, HC, HO, HK, HE⟩ := hrel
    clear HO0 HK0 HE0
    by_cases hlt : i < O.len
    · have hii : (i : Int) < (O.len : Int) := by omega
      have hFw := HF.out.keepE HK.out hBv hbw
      obtain ⟨b, off, rfl, hbB⟩ := hFw.blk (by omega)
      obtain ⟨k, n, p, c, kk, a', cap', hd, hR, hkl, x0, x1, x2, x3, x4, hFk⟩ := Fat.node hFw hlt
      obtain ⟨v1, v2⟩ := treeB_at O 0 i ht hd
      have hm : more q (0 + i) = 0 := by unfold more; rw [if_neg (fun h => hq h.1)]
      rw [hm, Int.add_zero] at v1 v2
      have hst := lisE_stp (A := (sA N)) (evE_stp (A := (sA N)) fs f s hf) O vars s (Nat.le_refl _) hs i
      have hll := lisE_len _ HC.out
      obtain ⟨w3, hw3⟩ : ∃ w3, w3 = wr.alloc (.cells #[.int .i64 k, .int .i64 n, .int .i64 p, .int .i64 c, .slice a' kk.len cap'] 160) := ⟨_, rfl⟩
      have b3 : Below wr.heap.size wr w3 := by rw [hw3]; exact (Below.refl _ _).alloc (Nat.le_refl _) _
      have k3 := HK.out.more b3
      have hzr := HK.out.size
      have hz3 := b3.size
      obtain ⟨rr, hrr⟩ : ∃ rr, rr = evE (sA N) fs f k n p c kk vars (lisE (sA N) (evE (sA N) fs f) O vars s i).s := ⟨_, rfl⟩
      have HCV := Lib.hid (hV fi k n p c kk a' cap' av cav vars (lisE (sA N) (evE (sA N) fs f) O vars s i).s w3 (by omega) hst.2 hfi v1 v2 (HE.out.next b3) (HP.out.keepE k3 hBv hbw) (hFk.agree (fun j _ h2 => b3.block j (by omega))) hkl (HL.out.keep k3) (by omega) hcv hcv2)
      rw [← hrr] at HCV
      have HA : Hid (atE (sA N) (evE (sA N) fs f) O i vars (lisE (sA N) (evE (sA N) fs f) O vars s i).s = rr) := by show _ = _; rw [atE_eq hd, hrr]
      have hgb := HO.out.base
      have hof := HO.out.next b3
      clear hrr hFw hFk v1 v2 hR hkl
      go_wp2_with fail
      rw [← hw3]
      clear hw3 x0 x1 x2 x3 x4
      refine HCV.out.mono ?_; rintro e w4 ⟨k4, e4, v, rfl, hv⟩
      have hof4 := hof.keep k4 (by omega)
      have k5 := k3.trans k4
      by_cases hc : rr.c = 0
      · obtain ⟨a5, c5, rfl, hln5, hnm5, hls5⟩ := hv hc
        have hbf : (rr.c != 0) = false := by rw [hc]; rfl
        obtain ⟨y, hcs⟩ := hof4.cell hlt
        have hfr := hof4.frz i
        have HST : Hid (lisE (sA N) (evE (sA N) fs f) O vars s (i + 1) = ⟨(lisE (sA N) (evE (sA N) fs f) O vars s i).l ++ [rr.v], rr.s, rr.c⟩) := by show _ = _; rw [lisE_step HC.out, HA.out]
        have HO2 : Hid (Apart (w4.setCell ⟨w.heap.size, i, none⟩ (.slice a5 N c5)) w.heap.size w.heap.size bv N O.len (i + 1) (lisE (sA N) (evE (sA N) fs f) O vars s (i + 1)).l) := by
          show Apart _ _ _ _ _ _ _ _; rw [HST.out]; exact hof4.push hlt hll hls5 hln5 hnm5
        have HK2 : Hid (Kp (fun b => b = bv) w (w4.setCell ⟨w.heap.size, i, none⟩ (.slice a5 N c5))) := k5.newBlock (Nat.le_refl _) _
        have HE2 : Hid (EvAt (w4.setCell ⟨w.heap.size, i, none⟩ (.slice a5 N c5)) bv o ap fs.length capp (lisE (sA N) (evE (sA N) fs f) O vars s (i + 1)).s) := by
          show EvAt _ _ _ _ _ _ _; rw [HST.out]; exact e4.other (by show w.heap.size ≠ bv; omega) _
        have HC2 : Hid ((lisE (sA N) (evE (sA N) fs f) O vars s (i + 1)).c = 0) := by show _ = _; rw [HST.out]; exact hc
        clear hof hof4 HO HK HE HST HCV hls5 hnm5
        go_wp2_with fail
        go_roundw
        case rel => exact ⟨i + 1, by omega, by go_num, HC2.out, HO2.out, HK2.out, HE2.out⟩
        case measure => simp [intOf]; omega
      · have hbf : (rr.c != 0) = true := by simp [hc]
        have HBD := Lib.hid (lisE_bad (A := (sA N)) (m := O.len) hlt HC.out (by rw [HA.out]; exact hc))
        rw [HA.out] at HBD
        clear hof hof4 HO HK HE HCV hv
        go_wp2_with fail
        go_ret2
        exact ⟨k5, by rw [HBD.out.2]; exact e4, .inr ⟨by rw [HBD.out.1]; exact hc, by rw [HBD.out.1]; rfl⟩⟩
    · have hii : ¬ (i : Int) < (O.len : Int) := by omega
      obtain rfl : i = O.len := by omega
      have hll := lisE_len _ HC.out
      have HX : Hid (LRes o N bv ap fs.length capp w (lisE (sA N) (evE (sA N) fs f) O vars s O.len) (.returned (.tuple #[.slice (some ⟨w.heap.size, 0, none⟩) O.len O.len, .int .i64 0])) wr) :=
        ⟨HK.out, HE.out, .inl ⟨HC.out, w.heap.size, by rw [hll], HO.out.en hll (by omega)⟩⟩
      clear HO HK HE HC
      go_wp2_with fail
      go_ret2
      exact HX.out

end Sr

end Go.Proofs.YtldbhhocoolloaaGreat

namespace Go.Proofs.YtldbhhocoolloaaGreat
open Go.RowKit
set_option linter.unusedVariables false

namespace Sr
set_option maxRecDepth 100000 in
set_option maxHeartbeats 6400000 in
theorem iNegation {o : Int} {N : Nat} {fs : List Fn} {ap : Option Addr} {capp bv B f : Nat} (ho : o + 1 = (N : Int)) (hN1 : 1 ≤ N) (hN2 : N ≤ 13) (hBv : B ≤ bv) (hV : PV o N fs ap capp bv B f) (fi : Nat) (k0 n0 p0 c0 : Int) (kk0 : Fo) (a0 : Option Addr) (cap0 : Nat) (av : Option Addr) (cav : Nat) (vars : List (List Int)) (s : Nat) (w : World)
    (hf : 3000 < f + s) (hs : s ≤ 3000) (hfi : fi ≤ fs.length) (hE : EvAt w bv o ap fs.length capp s) (hP : Pat w 0 B fs ap) (hL : En w bv (fun _ => True) N av vars) (hvl : vars.length ≤ 412 + s) (hcv : vars.length ≤ cav) (hcv2 : cav ≤ 9223372036854775807)
    (kn0 : nodeB fs (vars.length : Int) (fi : Int) k0 n0 p0 c0 kk0.len = true) (kt0 : treeB fs (fi : Int) kk0 (vars.length : Int) k0 0 = true) (kf0 : Fat w 0 B kk0 a0) (kl0 : kk0.len ≤ maxLen) :
    Calls Tryz.prog 166 #[.pointer (some ⟨bv, 0, none⟩), .agg #[.int .i64 k0, .int .i64 n0, .int .i64 p0, .int .i64 c0, .slice a0 kk0.len cap0], .slice av vars.length cav] w (VRes o N bv ap fs.length capp w (oneE (evE (sA N) fs f k0 n0 p0 c0 kk0 vars s) (sA N).neg)) := by
  obtain ⟨w1, hw1⟩ : ∃ w1, w1 = w.alloc (.cells #[.int .i64 k0, .int .i64 n0, .int .i64 p0, .int .i64 c0, .slice a0 kk0.len cap0] 200) := ⟨_, rfl⟩
  have b1 : Below w.heap.size w w1 := by rw [hw1]; exact (Below.refl _ _).alloc (Nat.le_refl _) _
  have k1 : Kp (fun b => b = bv) w w1 := Kp.of_below b1
  have hbw := cell_lt hE.c0
  have HC := Lib.hid (hV fi k0 n0 p0 c0 kk0 a0 cap0 av cav vars s w1 hf hs hfi kn0 kt0 (hE.next b1) (hP.keepE k1 hBv hbw) (kf0.keepE k1 hBv hbw) kl0 (hL.keep k1) hvl hcv hcv2)
  generalize (evE (sA N) fs f k0 n0 p0 c0 kk0 vars s) = r at HC
  clear hE hP hL kn0 kt0 kf0 kl0
  go_enter Tryz.func166, Tryz.ntmps166
  go_wp2_with fail
  rw [← hw1]
  clear hw1
  refine HC.out.mono ?_; rintro e w2 ⟨k2, e2, v, rfl, hv⟩
  have kk := k1.trans k2
  by_cases hc : r.c = 0
  · obtain ⟨a5, c5, rfl, hln5, hnm5, hls5⟩ := hv hc
    have hbf : (r.c != 0) = false := by rw [hc]; rfl
    have HR : Hid (oneE r (sA N).neg = ⟨scll r.v 1000002, r.s, 0⟩) := by show _ = _; unfold oneE; rw [if_pos hc]; rfl
    have x0 := e2.c0
    have nA1 := negAhead o
    have nA2 := negMeth o
    have HNG := Lib.hid (qNeg o N ho hN1 (by omega) a5 c5 r.v w2 hls5.at_ hnm5 hln5)
    clear HC
    go_wp2_with fail
    refine HNG.out.mono ?_; rintro e w3 ⟨g6, c6, rfl, o6, l6, n6, b6⟩
    go_wp2_with fail
    go_ret2
    rw [HR.out]
    exact .own kk e2 o6 l6 n6 b6
  · have hbf : (r.c != 0) = true := by simp [hc]
    have HR : Hid (oneE r (sA N).neg = r) := by show _ = _; unfold oneE; rw [if_neg hc]
    clear HC hv
    go_wp2_with fail
    go_ret2
    rw [HR.out]
    exact .bad kk e2 hc
set_option maxRecDepth 100000 in
set_option maxHeartbeats 6400000 in
theorem iChoice {o : Int} {N : Nat} {fs : List Fn} {ap : Option Addr} {capp bv B f : Nat} (ho : o + 1 = (N : Int)) (hN1 : 1 ≤ N) (hN2 : N ≤ 13) (hBv : B ≤ bv) (hV : PV o N fs ap capp bv B f) (fi : Nat) (k0 n0 p0 c0 : Int) (kk0 : Fo) (a0 : Option Addr) (cap0 : Nat) (k1 n1 p1 c1 : Int) (kk1 : Fo) (a1 : Option Addr) (cap1 : Nat) (k2 n2 p2 c2 : Int) (kk2 : Fo) (a2 : Option Addr) (cap2 : Nat) (av : Option Addr) (cav : Nat) (vars : List (List Int)) (s : Nat) (w : World)
    (hf : 3000 < f + s) (hs : s ≤ 3000) (hfi : fi ≤ fs.length) (hE : EvAt w bv o ap fs.length capp s) (hP : Pat w 0 B fs ap) (hL : En w bv (fun _ => True) N av vars) (hvl : vars.length ≤ 412 + s) (hcv : vars.length ≤ cav) (hcv2 : cav ≤ 9223372036854775807)
    (kn0 : nodeB fs (vars.length : Int) (fi : Int) k0 n0 p0 c0 kk0.len = true) (kt0 : treeB fs (fi : Int) kk0 (vars.length : Int) k0 0 = true) (kf0 : Fat w 0 B kk0 a0) (kl0 : kk0.len ≤ maxLen)
    (kn1 : nodeB fs (vars.length : Int) (fi : Int) k1 n1 p1 c1 kk1.len = true) (kt1 : treeB fs (fi : Int) kk1 (vars.length : Int) k1 0 = true) (kf1 : Fat w 0 B kk1 a1) (kl1 : kk1.len ≤ maxLen)
    (kn2 : nodeB fs (vars.length : Int) (fi : Int) k2 n2 p2 c2 kk2.len = true) (kt2 : treeB fs (fi : Int) kk2 (vars.length : Int) k2 0 = true) (kf2 : Fat w 0 B kk2 a2) (kl2 : kk2.len ≤ maxLen) :
    Calls Tryz.prog 167 #[.pointer (some ⟨bv, 0, none⟩), .agg #[.int .i64 k0, .int .i64 n0, .int .i64 p0, .int .i64 c0, .slice a0 kk0.len cap0, .int .i64 k1, .int .i64 n1, .int .i64 p1, .int .i64 c1, .slice a1 kk1.len cap1, .int .i64 k2, .int .i64 n2, .int .i64 p2, .int .i64 c2, .slice a2 kk2.len cap2], .slice av vars.length cav] w (VRes o N bv ap fs.length capp w (bindE (evE (sA N) fs f k0 n0 p0 c0 kk0 vars s) fun v s => if (sA N).zer v = true then (evE (sA N) fs f k1 n1 p1 c1 kk1 vars s) else (evE (sA N) fs f k2 n2 p2 c2 kk2 vars s))) := by
  obtain ⟨w1, hw1⟩ : ∃ w1, w1 = w.alloc (.cells #[.int .i64 k0, .int .i64 n0, .int .i64 p0, .int .i64 c0, .slice a0 kk0.len cap0, .int .i64 k1, .int .i64 n1, .int .i64 p1, .int .i64 c1, .slice a1 kk1.len cap1, .int .i64 k2, .int .i64 n2, .int .i64 p2, .int .i64 c2, .slice a2 kk2.len cap2] 203) := ⟨_, rfl⟩
  have b1 : Below w.heap.size w w1 := by rw [hw1]; exact (Below.refl _ _).alloc (Nat.le_refl _) _
  have q1 : Kp (fun b => b = bv) w w1 := Kp.of_below b1
  have hbw := cell_lt hE.c0
  have hne : w.heap.size ≠ bv := by omega
  have y0 : w1.cell? ⟨w.heap.size, 5, none⟩ = some (.int .i64 k1) := by rw [hw1]; simp [go_sem]
  have y1 : w1.cell? ⟨w.heap.size, 6, none⟩ = some (.int .i64 n1) := by rw [hw1]; simp [go_sem]
  have y2 : w1.cell? ⟨w.heap.size, 7, none⟩ = some (.int .i64 p1) := by rw [hw1]; simp [go_sem]
  have y3 : w1.cell? ⟨w.heap.size, 8, none⟩ = some (.int .i64 c1) := by rw [hw1]; simp [go_sem]
  have y4 : w1.cell? ⟨w.heap.size, 9, none⟩ = some (.slice a1 kk1.len cap1) := by rw [hw1]; simp [go_sem]
  have z0 : w1.cell? ⟨w.heap.size, 10, none⟩ = some (.int .i64 k2) := by rw [hw1]; simp [go_sem]
  have z1 : w1.cell? ⟨w.heap.size, 11, none⟩ = some (.int .i64 n2) := by rw [hw1]; simp [go_sem]
  have z2 : w1.cell? ⟨w.heap.size, 12, none⟩ = some (.int .i64 p2) := by rw [hw1]; simp [go_sem]
  have z3 : w1.cell? ⟨w.heap.size, 13, none⟩ = some (.int .i64 c2) := by rw [hw1]; simp [go_sem]
  have z4 : w1.cell? ⟨w.heap.size, 14, none⟩ = some (.slice a2 kk2.len cap2) := by rw [hw1]; simp [go_sem]
  have hst := evE_stp (A := (sA N)) fs f s hf k0 n0 p0 c0 kk0 vars s (Nat.le_refl _) hs
  have HC := Lib.hid (hV fi k0 n0 p0 c0 kk0 a0 cap0 av cav vars s w1 hf hs hfi kn0 kt0 (hE.next b1) (hP.keepE q1 hBv hbw) (kf0.keepE q1 hBv hbw) kl0 (hL.keep q1) hvl hcv hcv2)
  have HK1 := fun (W : World) (s : Nat) (hss : 3000 < f + s ∧ s ≤ 3000 ∧ vars.length ≤ 412 + s) (hk : Kp (fun b => b = bv) w W) (he : EvAt W bv o ap fs.length capp s) => Lib.hid (hV fi k1 n1 p1 c1 kk1 a1 cap1 av cav vars s W hss.1 hss.2.1 hfi kn1 kt1 he (hP.keepE hk hBv hbw) (kf1.keepE hk hBv hbw) kl1 (hL.keep hk) hss.2.2 hcv hcv2)
  have HK2 := fun (W : World) (s : Nat) (hss : 3000 < f + s ∧ s ≤ 3000 ∧ vars.length ≤ 412 + s) (hk : Kp (fun b => b = bv) w W) (he : EvAt W bv o ap fs.length capp s) => Lib.hid (hV fi k2 n2 p2 c2 kk2 a2 cap2 av cav vars s W hss.1 hss.2.1 hfi kn2 kt2 he (hP.keepE hk hBv hbw) (kf2.keepE hk hBv hbw) kl2 (hL.keep hk) hss.2.2 hcv hcv2)
  generalize (evE (sA N) fs f k0 n0 p0 c0 kk0 vars s) = r at HC hst
  clear hE hP hL kn0 kt0 kf0 kl0 kn1 kt1 kf1 kl1 kn2 kt2 kf2 kl2
  go_enter Tryz.func167, Tryz.ntmps167
  go_wp2_with fail
  rw [← hw1]
  clear hw1
  refine HC.out.mono ?_; rintro e w2 ⟨q2, e2, v, rfl, hv⟩
  have qq := q1.trans q2
  replace y0 := q2.cell y0 hne
  replace y1 := q2.cell y1 hne
  replace y2 := q2.cell y2 hne
  replace y3 := q2.cell y3 hne
  replace y4 := q2.cell y4 hne
  replace z0 := q2.cell z0 hne
  replace z1 := q2.cell z1 hne
  replace z2 := q2.cell z2 hne
  replace z3 := q2.cell z3 hne
  replace z4 := q2.cell z4 hne
  by_cases hc : r.c = 0
  rotate_left
  · have hbf : (r.c != 0) = true := by simp [hc]
    have HR : Hid ((bindE r fun v s => if (sA N).zer v = true then (evE (sA N) fs f k1 n1 p1 c1 kk1 vars s) else (evE (sA N) fs f k2 n2 p2 c2 kk2 vars s)) = r) := by show _ = _; unfold bindE; rw [if_neg hc]
    clear HC hv HK1 HK2 y0 y1 y2 y3 y4 z0 z1 z2 z3 z4
    go_wp2_with fail
    go_ret2
    rw [HR.out]
    exact .bad qq e2 hc
  obtain ⟨a5, c5, rfl, hln5, hnm5, hls5⟩ := hv hc
  have hbf : (r.c != 0) = false := by rw [hc]; rfl
  have x0 := e2.c0
  have nA1 := decAhead o
  have nA2 := decMeth o
  have HNG := Lib.hid (qDecides o N hN1 a5 c5 r.v w2 hls5.at_ hln5)
  clear HC
  by_cases hz : r.v.getD 0 0 = 0
  · have hzb : (r.v.getD 0 0 == 0) = true := by rw [hz]; rfl
    have HR : Hid ((bindE r fun v s => if (sA N).zer v = true then (evE (sA N) fs f k1 n1 p1 c1 kk1 vars s) else (evE (sA N) fs f k2 n2 p2 c2 kk2 vars s)) = (evE (sA N) fs f k1 n1 p1 c1 kk1 vars r.s)) := by show _ = _; unfold bindE; rw [if_pos hc]; exact if_pos hzb
    rw [hzb] at HNG
    clear HK2 hz
    go_wp2_with fail
    refine HNG.out.mono ?_; rintro e w3 ⟨rfl, b3⟩
    have q3 := qq.more b3
    have e3 := e2.next b3
    replace y0 := (b3.cell (p := ⟨w.heap.size, 5, none⟩) (cell_lt y0)).trans y0
    replace y1 := (b3.cell (p := ⟨w.heap.size, 6, none⟩) (cell_lt y1)).trans y1
    replace y2 := (b3.cell (p := ⟨w.heap.size, 7, none⟩) (cell_lt y2)).trans y2
    replace y3 := (b3.cell (p := ⟨w.heap.size, 8, none⟩) (cell_lt y3)).trans y3
    replace y4 := (b3.cell (p := ⟨w.heap.size, 9, none⟩) (cell_lt y4)).trans y4
    have HV := HK1 w3 r.s ⟨by omega, hst.2, by omega⟩ q3 e3
    rw [← HR.out] at HV
    go_wp2_with fail
    refine HV.out.mono ?_; rintro e w4 ⟨q4, e4, v4, rfl, hv4⟩
    go_wp2_with fail
    go_ret2
    exact .mk (q3.trans q4) e4 hv4
  · have hzb : (r.v.getD 0 0 == 0) = false := ne_beq hz
    have HR : Hid ((bindE r fun v s => if (sA N).zer v = true then (evE (sA N) fs f k1 n1 p1 c1 kk1 vars s) else (evE (sA N) fs f k2 n2 p2 c2 kk2 vars s)) = (evE (sA N) fs f k2 n2 p2 c2 kk2 vars r.s)) := by show _ = _; unfold bindE; rw [if_pos hc]; exact if_neg (by show ¬ (r.v.getD 0 0 == 0) = true; rw [hzb]; simp)
    rw [hzb] at HNG
    clear HK1 hz
    go_wp2_with fail
    refine HNG.out.mono ?_; rintro e w3 ⟨rfl, b3⟩
    have q3 := qq.more b3
    have e3 := e2.next b3
    replace z0 := (b3.cell (p := ⟨w.heap.size, 10, none⟩) (cell_lt z0)).trans z0
    replace z1 := (b3.cell (p := ⟨w.heap.size, 11, none⟩) (cell_lt z1)).trans z1
    replace z2 := (b3.cell (p := ⟨w.heap.size, 12, none⟩) (cell_lt z2)).trans z2
    replace z3 := (b3.cell (p := ⟨w.heap.size, 13, none⟩) (cell_lt z3)).trans z3
    replace z4 := (b3.cell (p := ⟨w.heap.size, 14, none⟩) (cell_lt z4)).trans z4
    have HV := HK2 w3 r.s ⟨by omega, hst.2, by omega⟩ q3 e3
    rw [← HR.out] at HV
    go_wp2_with fail
    refine HV.out.mono ?_; rintro e w4 ⟨q4, e4, v4, rfl, hv4⟩
    go_wp2_with fail
    go_ret2
    exact .mk (q3.trans q4) e4 hv4
set_option maxRecDepth 100000 in
set_option maxHeartbeats 6400000 in
theorem iOperation {o : Int} {N : Nat} {fs : List Fn} {ap : Option Addr} {capp bv B f : Nat} (ho : o + 1 = (N : Int)) (hN1 : 1 ≤ N) (hN2 : N ≤ 13) (hBv : B ≤ bv) (hV : PL o N fs ap capp bv B f) (fi : Nat) (k : Int) (ks : Fo) (a : Option Addr) (cap : Nat) (av : Option Addr) (cav : Nat) (vars : List (List Int)) (s : Nat) (w : World)
    (hf : 3000 < f + s) (hs : s ≤ 3000) (hfi : fi ≤ fs.length) (hE : EvAt w bv o ap fs.length capp s) (hP : Pat w 0 B fs ap) (hL : En w bv (fun _ => True) N av vars) (hvl : vars.length ≤ 412 + s) (hcv : vars.length ≤ cav) (hcv2 : cav ≤ 9223372036854775807)
    (hk9 : k ≠ 9) (kt : treeB fs (fi : Int) ks (vars.length : Int) k 0 = true) (kf : Fat w 0 B ks a) (kl : ks.len = 2) :
    Calls Tryz.prog 165 #[.pointer (some ⟨bv, 0, none⟩), .agg #[.int .i64 k, .slice a ks.len cap], .slice av vars.length cav] w (VRes o N bv ap fs.length capp w (bindL (sA N) (lisE (sA N) (evE (sA N) fs f) ks vars s ks.len) fun l s => opE (sA N) k l s)) := by
  obtain ⟨w1, hw1⟩ : ∃ w1, w1 = w.alloc (.cells #[.int .i64 k, .slice a ks.len cap] 197) := ⟨_, rfl⟩
  have b1 : Below w.heap.size w w1 := by rw [hw1]; exact (Below.refl _ _).alloc (Nat.le_refl _) _
  have q1 : Kp (fun b => b = bv) w w1 := Kp.of_below b1
  have hbw := cell_lt hE.c0
  have hne : w.heap.size ≠ bv := by omega
  have y0 : w1.cell? ⟨w.heap.size, 0, none⟩ = some (.int .i64 k) := by rw [hw1]; simp [go_sem]
  have z1 : w1.heap.size = w.heap.size + 1 := by rw [hw1]; simp
  have HC := Lib.hid (hV fi k ks a cap av cav vars s w1 hf hs hfi hk9 kt (hE.next b1) (hP.keepE q1 hBv hbw) (kf.keepE q1 hBv hbw) (by omega) (hL.keep q1) hvl hcv hcv2)
  have HL := Lib.hid (lisE_len (A := (sA N)) (E := evE (sA N) fs f) (f := ks) (vars := vars) (s := s) ks.len)
  generalize lisE (sA N) (evE (sA N) fs f) ks vars s ks.len = r at HC HL
  have KL := Lib.hid kl
  clear hE hP hL kt kf kl
  go_enter Tryz.func165, Tryz.ntmps165
  go_wp2_with fail
  rw [← hw1]
  clear hw1
  refine HC.out.mono ?_; rintro e w2 ⟨q2, e2, ⟨hc, g, rfl, hen⟩ | ⟨hc, rfl⟩⟩
  rotate_left
  · have hbf : (r.c != 0) = true := by simp [hc]
    have HR : Hid ((bindL (sA N) r fun l s => opE (sA N) k l s) = ⟨cstl 0 N, r.s, r.c⟩) := by show _ = _; unfold bindL; rw [if_neg hc]; rfl
    clear HC HL
    go_wp2_with fail
    go_ret2
    rw [HR.out]
    exact .bad (q1.trans q2) e2 hc
  have hln := (HL.out hc).trans KL.out
  have HR : Hid ((bindL (sA N) r fun l s => opE (sA N) k l s) = opE (sA N) k r.l r.s) := by show _ = _; unfold bindL; rw [if_pos hc]
  have qq := q1.trans q2
  replace y0 := q2.cell y0 hne
  have x0 := e2.c0
  obtain ⟨b7, o7, e7, hb7, hlt7, hall⟩ := hen.rows.resolve_left (by intro e; rw [e] at hln; simp at hln)
  cases e7
  obtain ⟨a5, c5, g0, l5, _⟩ := hall 0 (by omega)
  obtain ⟨a6, c6, g1, l6, _⟩ := hall 1 (by omega)
  rw [Nat.zero_add] at g0 g1
  have ln5 := hen.len 0 (by omega)
  have ln6 := hen.len 1 (by omega)
  have nm5 := hen.nums 0 (by omega)
  have nm6 := hen.nums 1 (by omega)
  have E0 : r.l.getD 0 ((sA N).cst 0) = r.l.getD 0 [] := by rw [List.getD_eq_getElem?_getD, List.getD_eq_getElem?_getD, List.getElem?_eq_getElem (by omega)]; rfl
  have E1 : r.l.getD 1 ((sA N).cst 0) = r.l.getD 1 [] := by rw [List.getD_eq_getElem?_getD, List.getD_eq_getElem?_getD, List.getElem?_eq_getElem (by omega)]; rfl
  have HO : Hid (opE (sA N) k r.l r.s = if k = 3 then ⟨addl (r.l.getD 0 []) (r.l.getD 1 []), r.s, 0⟩ else if k = 4 then ⟨addl (r.l.getD 0 []) (scll (r.l.getD 1 []) 1000002), r.s, 0⟩ else if k = 5 then ⟨mull (r.l.getD 0 []) (r.l.getD 1 []), r.s, 0⟩ else if ((r.l.getD 1 []).getD 0 0 == 0) = true then ⟨cstl 0 N, r.s, 6⟩ else ⟨divl (r.l.getD 0 []) (r.l.getD 1 []), r.s, 0⟩) := by
    show _ = _
    unfold opE
    rw [E0, E1]
    rfl
  have h1l : (0 : Int) < (r.l.length : Int) := by omega
  have h2l : (1 : Int) < (r.l.length : Int) := by omega
  have L5 := l5.at_
  have L6 := l6.at_
  clear HC HL hen hall q1 q2 b1 hln E0 E1 l5 l6
  generalize r.l.getD 0 [] = x at *
  generalize r.l.getD 1 [] = y at *
  generalize opE (sA N) k r.l r.s = R at HO HR
  generalize r.l.length = m at *
  by_cases h3 : k = 3
  · subst h3
    have HR2 : Hid (R = ⟨addl x y, r.s, 0⟩) := by show _ = _; rw [HO.out]; rfl
    have nA1 := plsAhead o
    have nA2 := plsMeth o
    have HNG := fun W hW => Lib.hid (qPlus o N hN1 (by omega) a5 a6 c5 c6 x y W (L5.below (B := w2.heap.size) hW (Nat.le_refl _)) (L6.below (B := w2.heap.size) hW (Nat.le_refl _)) nm5 nm6 ln5 ln6)
    clear HO
    go_wp2_with fail
    go_quiet (fail)
    have bq := below_drewN (Below.refl w2.heap.size w2) nq
    have x0q : (w2.drewN nq).cell? ⟨bv, 0, none⟩ = some (ofS o) := x0
    have HNQ := HNG _ bq
    clear HNG
    go_wp2_with fail
    refine HNQ.out.mono ?_; rintro e w3 ⟨g6, c8, rfl, o6, l6, n6, b6⟩
    go_wp2_with fail
    go_ret2
    rw [HR.out, HR2.out]
    exact .own (qq.more bq) (e2.next bq) o6 l6 n6 b6
  have d3 : (k == 3) = false := ne_beq h3
  by_cases h4 : k = 4
  · subst h4
    have HR2 : Hid (R = ⟨addl x (scll y 1000002), r.s, 0⟩) := by show _ = _; rw [HO.out]; rfl
    have nA1 := minAhead o
    have nA2 := minMeth o
    have HNG := fun W hW => Lib.hid (qMinus o N hN1 (by omega) a5 a6 c5 c6 x y W (L5.below (B := w2.heap.size) hW (Nat.le_refl _)) (L6.below (B := w2.heap.size) hW (Nat.le_refl _)) nm5 nm6 ln5 ln6)
    clear HO
    go_wp2_with fail
    go_quiet (fail)
    have bq := below_drewN (Below.refl w2.heap.size w2) nq
    have x0q : (w2.drewN nq).cell? ⟨bv, 0, none⟩ = some (ofS o) := x0
    have HNQ := HNG _ bq
    clear HNG
    go_wp2_with fail
    refine HNQ.out.mono ?_; rintro e w3 ⟨g6, c8, rfl, o6, l6, n6, b6⟩
    go_wp2_with fail
    go_ret2
    rw [HR.out, HR2.out]
    exact .own (qq.more bq) (e2.next bq) o6 l6 n6 b6
  have d4 : (k == 4) = false := ne_beq h4
  by_cases h5 : k = 5
  · subst h5
    have HR2 : Hid (R = ⟨mull x y, r.s, 0⟩) := by show _ = _; rw [HO.out]; rfl
    have nA1 := timAhead o
    have nA2 := timMeth o
    have HNG := fun W hW => Lib.hid (qTimes o N hN1 (by omega) a5 a6 c5 c6 x y W (L5.below (B := w2.heap.size) hW (Nat.le_refl _)) (L6.below (B := w2.heap.size) hW (Nat.le_refl _)) nm5 nm6 ln5 ln6)
    clear HO
    go_wp2_with fail
    go_quiet (fail)
    have bq := below_drewN (Below.refl w2.heap.size w2) nq
    have x0q : (w2.drewN nq).cell? ⟨bv, 0, none⟩ = some (ofS o) := x0
    have HNQ := HNG _ bq
    clear HNG
    go_wp2_with fail
    refine HNQ.out.mono ?_; rintro e w3 ⟨g6, c8, rfl, o6, l6, n6, b6⟩
    go_wp2_with fail
    go_ret2
    rw [HR.out, HR2.out]
    exact .own (qq.more bq) (e2.next bq) o6 l6 n6 b6
  have d5 : (k == 5) = false := ne_beq h5
  have HO2 : Hid (R = if (y.getD 0 0 == 0) = true then ⟨cstl 0 N, r.s, 6⟩ else ⟨divl x y, r.s, 0⟩) := by show _ = _; rw [HO.out, if_neg h3, if_neg h4, if_neg h5]
  have nA1 := zerAhead o
  have nA2 := zerMeth o
  have nA3 := ovrAhead o
  have nA4 := ovrMeth o
  have HNG := fun W hW => Lib.hid (qZero o N hN1 a6 c6 y W (L6.below (B := w2.heap.size) hW (Nat.le_refl _)) ln6)
  clear HO
  by_cases hz : y.getD 0 0 = 0
  · have hzb : (y.getD 0 0 == 0) = true := by rw [hz]; rfl
    have HR2 : Hid (R = ⟨cstl 0 N, r.s, 6⟩) := by show _ = _; rw [HO2.out, if_pos hzb]
    rw [hzb] at HNG
    clear HO2 hz
    go_wp2_with fail
    go_quiet (fail)
    have bq := below_drewN (Below.refl w2.heap.size w2) nq
    have x0q : (w2.drewN nq).cell? ⟨bv, 0, none⟩ = some (ofS o) := x0
    have HNQ := HNG _ bq
    clear HNG
    go_wp2_with fail
    refine HNQ.out.mono ?_; rintro e w3 ⟨rfl, b3⟩
    go_wp2_with fail
    go_ret2
    rw [HR.out, HR2.out]
    exact .bad ((qq.more bq).more b3) ((e2.next bq).next b3) (show ¬ (6 : Int) = 0 by decide)
  · have hzb : (y.getD 0 0 == 0) = false := ne_beq hz
    have HR2 : Hid (R = ⟨divl x y, r.s, 0⟩) := by show _ = _; rw [HO2.out, hzb]; rfl
    rw [hzb] at HNG
    have HNO := fun W hW => Lib.hid (qOver o N hN1 (by omega) a5 a6 c5 c6 x y W (L5.below (B := w2.heap.size) hW (Nat.le_refl _)) (L6.below (B := w2.heap.size) hW (Nat.le_refl _)) nm5 nm6 ln5 ln6)
    clear HO2 hz
    go_wp2_with fail
    go_quiet (fail)
    have bq := below_drewN (Below.refl w2.heap.size w2) nq
    have x0q : (w2.drewN nq).cell? ⟨bv, 0, none⟩ = some (ofS o) := x0
    have HNQ := HNG _ bq
    clear HNG
    go_wp2_with fail
    refine HNQ.out.mono ?_; rintro e w3 ⟨rfl, b3⟩
    have x1q := ((e2.next bq).next b3).c0
    have HNR := HNO _ (bq.trans (b3.mono bq.size))
    clear HNO
    go_wp2_with fail
    refine HNR.out.mono ?_; rintro e w4 ⟨g6, c8, rfl, o6, l6, n6, b6⟩
    go_wp2_with fail
    go_ret2
    rw [HR.out, HR2.out]
    exact .own ((qq.more bq).more b3) ((e2.next bq).next b3) o6 l6 n6 b6

end Sr

end Go.Proofs.YtldbhhocoolloaaGreat

namespace Go.Proofs.YtldbhhocoolloaaGreat
open Go.RowKit
set_option linter.unusedVariables false

namespace Sr
theorem row_succ {W : World} {base : Nat} {e : TypeId} {size : Nat} {v : Value} {k : Nat} {xs : List Value} (h : W.ownsRow base e size v (k + 1) xs) : ∃ g cap, v = .slice (some ⟨g, 0, none⟩) (k + 1) cap := by
  rcases h.2 with ⟨_, h0⟩ | ⟨g, cap, _, rfl, _⟩
  · omega
  · exact ⟨g, cap, rfl⟩
theorem row_cap {W : World} {base : Nat} {e : TypeId} {size : Nat} {g k cap : Nat} {xs : List Value} (h : W.ownsRow base e size (.slice (some ⟨g, 0, none⟩) k cap) k xs) : k ≤ cap ∧ cap ≤ 9223372036854775807 := by
  rcases h.2 with ⟨h1, _⟩ | ⟨g', cap', cur, hv, _, _, h2, hm, _⟩
  · cases h1
  · cases hv; unfold maxLen at hm; exact ⟨h2, by omega⟩
theorem kpgrown {S : Nat → Prop} {w w' : World} {row : Option Nat} (h : w.grownBy w' row) (hS : ∀ g, row = some g → S g) : Kp S w w' :=
  ⟨h.os, h.tape, h.output, h.size, fun i hi hn => h.block i hi (fun e => hn (hS i e.symm))⟩
/-- an environment as values -/
theorem En.olds {w : World} {bv N : Nat} {a : Option Addr} {vars : List (List Int)} (h : En w bv (fun _ => True) N a vars) : ∃ us : List Value, us.length = vars.length ∧ (∀ b, a = some b → ∀ j u, us[j]? = some u → w.cell? (b.add j) = some u) ∧ ∀ k, k < vars.length → ∃ ak ck, us[k]? = some (.slice ak N ck) ∧ Ls w bv ak (vars.getD k []) := by
  rcases h.rows with h0 | ⟨b, off, h1, h2, h3, h4⟩
  · subst h0
    exact ⟨[], rfl, fun b _ j u hj => by simp at hj, fun k hk => absurd hk (Nat.not_lt_zero _)⟩
  · have key : ∀ m, m ≤ vars.length → ∃ us : List Value, us.length = m ∧ (∀ j u, us[j]? = some u → w.cell? ⟨b, off + j, none⟩ = some u) ∧ ∀ k, k < m → ∃ ak ck, us[k]? = some (.slice ak N ck) ∧ Ls w bv ak (vars.getD k []) := by
      intro m
      induction m with
      | zero => intro _; exact ⟨[], rfl, fun j u hj => by simp at hj, fun k hk => absurd hk (Nat.not_lt_zero _)⟩
      | succ m ih =>
        intro hm
        obtain ⟨us, e1, e2, e3⟩ := ih (by omega)
        obtain ⟨ai, ci, h5, h6, _⟩ := h4 m (by omega)
        refine ⟨us ++ [.slice ai N ci], by simp [e1], fun j u hj => ?_, fun k hk => ?_⟩
        · by_cases hjm : j < m
          · rw [List.getElem?_append_left (by omega)] at hj; exact e2 j u hj
          · by_cases hje : j = m
            · subst hje
              rw [List.getElem?_append_right (by omega), e1, Nat.sub_self] at hj
              simp at hj
              rw [← hj]; exact h5
            · rw [List.getElem?_eq_none (by simp; omega)] at hj; cases hj
        · by_cases hkm : k < m
          · obtain ⟨ak, ck, q1, q2⟩ := e3 k hkm
            exact ⟨ak, ck, by rw [List.getElem?_append_left (by omega)]; exact q1, q2⟩
          · obtain rfl : k = m := by omega
            exact ⟨ai, ci, by rw [List.getElem?_append_right (by omega), e1, Nat.sub_self]; rfl, h6⟩
    obtain ⟨us, e1, e2, e3⟩ := key _ (Nat.le_refl _)
    refine ⟨us, e1, fun b' hb' j u hj => ?_, e3⟩
    rw [h1] at hb'
    cases hb'
    rw [Addr.add_lit]
    exact e2 j u hj
theorem En.none0 {w : World} {bv N : Nat} {R : Nat → Prop} {a : Option Addr} {vars : List (List Int)} (h : En w bv R N a vars) : a = none → vars.length = 0 := by
  intro ha
  rcases h.rows with rfl | ⟨b, off, h1, _⟩
  · rfl
  · rw [ha] at h1; cases h1
/-- a series behind an environment, in a new row -/
theorem En.grow {w wg : World} {bv N L g cg : Nat} {a : Option Addr} {vars : List (List Int)} {us : List Value} {a5 : Option Addr} {c5 : Nat} {x : List Int} (h : En w bv (fun _ => True) N a vars) (hu : us.length = vars.length) (hus : ∀ k, k < vars.length → ∃ ak ck, us[k]? = some (.slice ak N ck) ∧ Ls w bv ak (vars.getD k [])) (hx : Ls w bv a5 x) (hl : x.length = N) (hn : Nums x)
    (hb : Below w.heap.size w wg) (ho : wg.ownsRow L 98 1 (.slice (some ⟨g, 0, none⟩) (vars.length + 1) cg) (vars.length + 1) (us ++ [.slice a5 N c5])) (hg : bv < L) : En wg bv (fun _ => True) N (some ⟨g, 0, none⟩) (vars ++ [x]) := by
  have hgb := ho.lt g rfl
  have hlen : (vars ++ [x]).length = vars.length + 1 := by simp
  refine ⟨.inr ⟨g, 0, rfl, by omega, hgb.2, fun i hi => ?_⟩, fun i hi => ?_, fun i hi => ?_⟩
  · rw [hlen] at hi
    rw [Nat.zero_add, ho.cellAt i (by omega)]
    by_cases e : i < vars.length
    · obtain ⟨ak, ck, q1, q2⟩ := hus i e
      rw [snoc_lt e, List.getElem?_append_left (by omega)]
      exact ⟨ak, ck, q1, q2.next hb, fun _ _ => trivial⟩
    · obtain rfl : i = vars.length := by omega
      rw [snoc_eq, List.getElem?_append_right (by omega), hu, Nat.sub_self]
      exact ⟨a5, c5, rfl, hx.next hb, fun _ _ => trivial⟩
  · rw [hlen] at hi
    by_cases e : i < vars.length
    · rw [snoc_lt e]; exact h.len i e
    · obtain rfl : i = vars.length := by omega
      rw [snoc_eq]; exact hl
  · rw [hlen] at hi
    by_cases e : i < vars.length
    · rw [snoc_lt e]; exact h.nums i e
    · obtain rfl : i = vars.length := by omega
      rw [snoc_eq]; exact hn
set_option maxRecDepth 100000 in
theorem iClip (a : Option Addr) (n cap : Nat) (w : World) (hn : a = none → n = 0) (hc : n ≤ cap) (hc2 : cap ≤ 9223372036854775807) :
    Calls Tryz.prog 184 #[.slice a n cap] w fun e w' => e = .returned (.slice a n n) ∧ w = w' := by
  have h1 : (n : Int) ≤ (cap : Int) := by omega
  cases a with
  | none =>
    obtain rfl := hn rfl
    go_enter Tryz.func184, Tryz.ntmps184
    go_wp2_with fail
    go_ret
    exact ⟨rfl, rfl⟩
  | some p =>
    obtain ⟨b, o, s⟩ := p
    go_enter Tryz.func184, Tryz.ntmps184
    go_wp2_with fail
    go_ret
    exact ⟨rfl, rfl⟩

set_option maxRecDepth 100000 in
set_option maxHeartbeats 6400000 in
theorem iBinding {o : Int} {N : Nat} {fs : List Fn} {ap : Option Addr} {capp bv B f : Nat} (ho : o + 1 = (N : Int)) (hN1 : 1 ≤ N) (hN2 : N ≤ 13) (hBv : B ≤ bv) (hV : PV o N fs ap capp bv B f) (fi : Nat) (k0 n0 p0 c0 : Int) (kk0 : Fo) (a0 : Option Addr) (cap0 : Nat) (k1 n1 p1 c1 : Int) (kk1 : Fo) (a1 : Option Addr) (cap1 : Nat) (av : Option Addr) (cav : Nat) (vars : List (List Int)) (s : Nat) (w : World)
    (hf : 3000 < f + s) (hs : s ≤ 3000) (hfi : fi ≤ fs.length) (hE : EvAt w bv o ap fs.length capp s) (hP : Pat w 0 B fs ap) (hL : En w bv (fun _ => True) N av vars) (hvl1 : vars.length + 1 ≤ 412 + s) (hcv : vars.length ≤ cav) (hcv2 : cav ≤ 9223372036854775807)
    (kn0 : nodeB fs (vars.length : Int) (fi : Int) k0 n0 p0 c0 kk0.len = true) (kt0 : treeB fs (fi : Int) kk0 (vars.length : Int) k0 0 = true) (kf0 : Fat w 0 B kk0 a0) (kl0 : kk0.len ≤ maxLen)
    (kn1 : nodeB fs ((vars.length : Int) + 1) (fi : Int) k1 n1 p1 c1 kk1.len = true) (kt1 : treeB fs (fi : Int) kk1 ((vars.length : Int) + 1) k1 0 = true) (kf1 : Fat w 0 B kk1 a1) (kl1 : kk1.len ≤ maxLen) :
    Calls Tryz.prog 168 #[.pointer (some ⟨bv, 0, none⟩), .agg #[.int .i64 k0, .int .i64 n0, .int .i64 p0, .int .i64 c0, .slice a0 kk0.len cap0, .int .i64 k1, .int .i64 n1, .int .i64 p1, .int .i64 c1, .slice a1 kk1.len cap1], .slice av vars.length cav] w (VRes o N bv ap fs.length capp w (bindE (evE (sA N) fs f k0 n0 p0 c0 kk0 vars s) fun v s => (evE (sA N) fs f k1 n1 p1 c1 kk1 (vars ++ [v]) s))) := by
  obtain ⟨i0, hi, hz0, hz1, hz2⟩ := info_parts infoS
  obtain ⟨w1, hw1⟩ : ∃ w1, w1 = w.alloc (.cells #[.int .i64 k0, .int .i64 n0, .int .i64 p0, .int .i64 c0, .slice a0 kk0.len cap0, .int .i64 k1, .int .i64 n1, .int .i64 p1, .int .i64 c1, .slice a1 kk1.len cap1] 206) := ⟨_, rfl⟩
  have b1 : Below w.heap.size w w1 := by rw [hw1]; exact (Below.refl _ _).alloc (Nat.le_refl _) _
  have q1 : Kp (fun b => b = bv) w w1 := Kp.of_below b1
  have hbw := cell_lt hE.c0
  have hne : w.heap.size ≠ bv := by omega
  have y0 : w1.cell? ⟨w.heap.size, 5, none⟩ = some (.int .i64 k1) := by rw [hw1]; simp [go_sem]
  have y1 : w1.cell? ⟨w.heap.size, 6, none⟩ = some (.int .i64 n1) := by rw [hw1]; simp [go_sem]
  have y2 : w1.cell? ⟨w.heap.size, 7, none⟩ = some (.int .i64 p1) := by rw [hw1]; simp [go_sem]
  have y3 : w1.cell? ⟨w.heap.size, 8, none⟩ = some (.int .i64 c1) := by rw [hw1]; simp [go_sem]
  have y4 : w1.cell? ⟨w.heap.size, 9, none⟩ = some (.slice a1 kk1.len cap1) := by rw [hw1]; simp [go_sem]
  have hst := evE_stp (A := (sA N)) fs f s hf k0 n0 p0 c0 kk0 vars s (Nat.le_refl _) hs
  have HC := Lib.hid (hV fi k0 n0 p0 c0 kk0 a0 cap0 av cav vars s w1 hf hs hfi kn0 kt0 (hE.next b1) (hP.keepE q1 hBv hbw) (kf0.keepE q1 hBv hbw) kl0 (hL.keep q1) (by omega) hcv hcv2)
  have HLV := Lib.hid hL
  have HK1 := fun (W : World) (s : Nat) (x : List Int) (g cg : Nat) (hss : 3000 < f + s ∧ s ≤ 3000 ∧ vars.length + 1 ≤ 412 + s) (hk : Kp (fun b => b = bv) w W) (he : EvAt W bv o ap fs.length capp s) (hen : En W bv (fun _ => True) N (some ⟨g, 0, none⟩) (vars ++ [x])) (hcg0 : vars.length + 1 ≤ cg) (hcg : cg ≤ 9223372036854775807) => Lib.hid (show Calls Tryz.prog 146 #[.pointer (some ⟨bv, 0, none⟩), .agg #[.int .i64 k1, .int .i64 n1, .int .i64 p1, .int .i64 c1, .slice a1 kk1.len cap1], .slice (some ⟨g, 0, none⟩) (vars.length + 1) cg] W (VRes o N bv ap fs.length capp W (evE (sA N) fs f k1 n1 p1 c1 kk1 (vars ++ [x]) s)) from by have h := hV fi k1 n1 p1 c1 kk1 a1 cap1 (some ⟨g, 0, none⟩) cg (vars ++ [x]) s W hss.1 hss.2.1 hfi (by rw [List.length_append]; exact kn1) (by rw [List.length_append]; exact kt1) he (hP.keepE hk hBv hbw) (kf1.keepE hk hBv hbw) kl1 hen (by rw [List.length_append]; exact hss.2.2) (by rw [List.length_append]; exact hcg0) hcg; rw [List.length_append] at h; exact h)
  generalize (evE (sA N) fs f k0 n0 p0 c0 kk0 vars s) = r at HC hst
  clear hE hP hL kn0 kt0 kf0 kl0 kn1 kt1 kf1 kl1
  go_enter Tryz.func168, Tryz.ntmps168
  go_wp2_with fail
  rw [← hw1]
  clear hw1
  refine HC.out.mono ?_; rintro e w2 ⟨q2, e2, v, rfl, hv⟩
  have qq := q1.trans q2
  replace y0 := q2.cell y0 hne
  replace y1 := q2.cell y1 hne
  replace y2 := q2.cell y2 hne
  replace y3 := q2.cell y3 hne
  replace y4 := q2.cell y4 hne
  by_cases hc : r.c = 0
  rotate_left
  · have hbf : (r.c != 0) = true := by simp [hc]
    have HR : Hid ((bindE r fun v s => (evE (sA N) fs f k1 n1 p1 c1 kk1 (vars ++ [v]) s)) = r) := by show _ = _; unfold bindE; rw [if_neg hc]
    clear HC hv HK1 HLV y0 y1 y2 y3 y4
    go_wp2_with fail
    go_ret2
    rw [HR.out]
    exact .bad qq e2 hc
  obtain ⟨a5, c5, rfl, hln5, hnm5, hls5⟩ := hv hc
  have hbf : (r.c != 0) = false := by rw [hc]; rfl
  have HR : Hid ((bindE r fun v s => (evE (sA N) fs f k1 n1 p1 c1 kk1 (vars ++ [v]) s)) = evE (sA N) fs f k1 n1 p1 c1 kk1 (vars ++ [r.v]) r.s) := by show _ = _; unfold bindE; rw [if_pos hc]
  have hz2w : w.heap.size ≤ w2.heap.size := qq.size
  have hlw := cell_lt y0
  obtain ⟨WA, hWA⟩ : ∃ WA, WA = (w2.alloc (.cells #[.slice a5 N c5] 98)).drew := ⟨_, rfl⟩
  have bA : Below w2.heap.size w2 WA := by rw [hWA]; exact ((Below.refl _ _).alloc (Nat.le_refl _) _).drew
  have zA : WA.heap.size = w2.heap.size + 1 := by rw [hWA]; simp
  have hLA := (HLV.out.keep qq).keep (Kp.of_below bA)
  have hls6 := hls5.next bA
  obtain ⟨us, hus1, hus2, hus3⟩ := En.olds hLA
  have HOL := Lib.hid hus2
  have hnn := En.none0 hLA
  have HGR := fun (W : World) (g cg : Nat) (hb : Below WA.heap.size WA W) (ho : W.ownsRow WA.heap.size 98 1 (.slice (some ⟨g, 0, none⟩) (vars.length + 1) cg) (vars.length + 1) (us ++ [.slice a5 N c5])) => Lib.hid (En.grow hLA hus1 hus3 hls6 hln5 hnm5 hb ho (by have := qq.size; have := bA.size; omega))
  have HUS := Lib.hid hus1
  have hnw : ∀ j u, [Value.slice a5 N c5][j]? = some u → WA.cell? ((⟨w2.heap.size, 0, none⟩ : Addr).add j) = some u := by
    intro j u hj
    cases j with
    | zero => simp at hj; subst hj; rw [hWA]; simp [go_sem, Addr.add]
    | succ j => simp at hj
  have HNW := Lib.hid hnw
  have HCL := fun W => Lib.hid (iClip av vars.length cav W hnn hcv hcv2)
  have qA := qq.more bA
  have eA := e2.next bA
  have HKA := fun (W : World) (hg : WA.grownBy W none) => Lib.hid (show Kp (fun b => b = bv) w W from qA.trans (kpgrown hg (fun _ h => by cases h)))
  have HEA := fun (W : World) (hg : WA.grownBy W none) => Lib.hid (show EvAt W bv o ap fs.length capp r.s from eA.next ⟨hg.os, hg.tape, hg.output, hg.size, fun j hj => hg.block j hj (by simp)⟩)
  have hvb : vars.length + 1 ≤ 412 + r.s := by omega
  have hr3 : 3000 < f + r.s := by omega
  have hr4 := hst.2
  clear HC hnw hLA qA eA bA HLV hus1 hus2 hus3 hls6 hls5
  go_wp2_with fail
  rw [hWA] at HOL HNW HKA HEA HGR
  have YD : Hid (w2.drew.cell? ⟨w.heap.size, 5, none⟩ = some (.int .i64 k1) ∧ w2.drew.cell? ⟨w.heap.size, 6, none⟩ = some (.int .i64 n1) ∧ w2.drew.cell? ⟨w.heap.size, 7, none⟩ = some (.int .i64 p1) ∧ w2.drew.cell? ⟨w.heap.size, 8, none⟩ = some (.int .i64 c1) ∧ w2.drew.cell? ⟨w.heap.size, 9, none⟩ = some (.slice a1 kk1.len cap1)) := ⟨y0, y1, y2, y3, y4⟩
  have YA : Hid (((w2.alloc (.cells #[.slice a5 N c5] 98)).drew).cell? ⟨w.heap.size, 5, none⟩ = some (.int .i64 k1) ∧ ((w2.alloc (.cells #[.slice a5 N c5] 98)).drew).cell? ⟨w.heap.size, 6, none⟩ = some (.int .i64 n1) ∧ ((w2.alloc (.cells #[.slice a5 N c5] 98)).drew).cell? ⟨w.heap.size, 7, none⟩ = some (.int .i64 p1) ∧ ((w2.alloc (.cells #[.slice a5 N c5] 98)).drew).cell? ⟨w.heap.size, 8, none⟩ = some (.int .i64 c1) ∧ ((w2.alloc (.cells #[.slice a5 N c5] 98)).drew).cell? ⟨w.heap.size, 9, none⟩ = some (.slice a1 kk1.len cap1)) := by
    have k := Kp.of_below (S := fun b => b = bv) (((Below.refl w2.heap.size w2).alloc (Nat.le_refl _) (.cells #[.slice a5 N c5] 98)).drew)
    exact ⟨k.cell y0 hne, k.cell y1 hne, k.cell y2 hne, k.cell y3 hne, k.cell y4 hne⟩
  have YB : Hid ((w2.drew.alloc (.cells #[.slice a5 N c5] 98)).cell? ⟨w.heap.size, 5, none⟩ = some (.int .i64 k1) ∧ (w2.drew.alloc (.cells #[.slice a5 N c5] 98)).cell? ⟨w.heap.size, 6, none⟩ = some (.int .i64 n1) ∧ (w2.drew.alloc (.cells #[.slice a5 N c5] 98)).cell? ⟨w.heap.size, 7, none⟩ = some (.int .i64 p1) ∧ (w2.drew.alloc (.cells #[.slice a5 N c5] 98)).cell? ⟨w.heap.size, 8, none⟩ = some (.int .i64 c1) ∧ (w2.drew.alloc (.cells #[.slice a5 N c5] 98)).cell? ⟨w.heap.size, 9, none⟩ = some (.slice a1 kk1.len cap1)) := by
    have k := Kp.of_below (S := fun b => b = bv) ((Below.refl w2.drew.heap.size w2.drew).alloc (Nat.le_refl _) (.cells #[.slice a5 N c5] 98))
    exact ⟨k.cell YD.out.1 hne, k.cell YD.out.2.1 hne, k.cell YD.out.2.2.1 hne, k.cell YD.out.2.2.2.1 hne, k.cell YD.out.2.2.2.2 hne⟩
  go_region_held3 (fun w' => w'.cell? ⟨w.heap.size, 5, none⟩ = some (.int .i64 k1) ∧ w'.cell? ⟨w.heap.size, 6, none⟩ = some (.int .i64 n1) ∧ w'.cell? ⟨w.heap.size, 7, none⟩ = some (.int .i64 p1) ∧ w'.cell? ⟨w.heap.size, 8, none⟩ = some (.int .i64 c1) ∧ w'.cell? ⟨w.heap.size, 9, none⟩ = some (.slice a1 kk1.len cap1))
    (first
      | with_reducible exact ⟨y0, y1, y2, y3, y4⟩
      | with_reducible exact YD.out
      | with_reducible exact YA.out
      | with_reducible exact YB.out
      | with_reducible exact YG.out
      | with_reducible exact Y9.out
      | go_keep)
    (first
      | (refine step_append_grows rfl (.tmp 26) (.tmp 28) 87 rfl 98 i0 _ 1 24 Tryz.underlying87 hi hz0 hz1 hz2 rfl (by omega) av vars.length vars.length us (by first | rfl | simp [Act.eval]) (fun h => ⟨hnn h, hnn h⟩) (by rw [HUS.out, Nat.mul_one]) HOL.out ⟨w2.heap.size, 0, none⟩ 1 1 [.slice a5 N c5] (by first | rfl | simp [Act.eval]) rfl HNW.out (by simp [Value.oneCell']) (by omega) (by unfold maxLen; omega) (by omega) ?_; intro v' wg hown hgrow; obtain ⟨g', cap', rfl⟩ := row_succ hown; have HG := Lib.hid hgrow; have hcap := row_cap hown; have HOW := HGR wg g' cap' ⟨hgrow.os, hgrow.tape, hgrow.output, hgrow.size, fun j hj => hgrow.block j hj (by simp)⟩ hown; have kg := (Kp.of_below (S := fun b => b = bv) (((Below.refl w2.heap.size w2).alloc (Nat.le_refl _) (.cells #[.slice a5 N c5] 98)).drew)).trans (kpgrown hgrow (fun _ h => by cases h)); have YG : Hid (wg.cell? ⟨w.heap.size, 5, none⟩ = some (.int .i64 k1) ∧ wg.cell? ⟨w.heap.size, 6, none⟩ = some (.int .i64 n1) ∧ wg.cell? ⟨w.heap.size, 7, none⟩ = some (.int .i64 p1) ∧ wg.cell? ⟨w.heap.size, 8, none⟩ = some (.int .i64 c1) ∧ wg.cell? ⟨w.heap.size, 9, none⟩ = some (.slice a1 kk1.len cap1)) := ⟨kg.cell y0 hne, kg.cell y1 hne, kg.cell y2 hne, kg.cell y3 hne, kg.cell y4 hne⟩)
      | (go_at_call 184; refine (HCL _).out.mono ?_; rintro e w' ⟨rfl, rfl⟩)
      | (go_at_call 146; refine (HK1 _ r.s r.v _ _ ⟨hr3, hr4, hvb⟩ (HKA _ HG.out).out (HEA _ HG.out).out HOW.out hcap.1 hcap.2).out.mono ?_; rintro e w9 ⟨q9, e9, v9, rfl, hv9⟩; have k9 := kg.trans q9; have Y9 : Hid (w9.cell? ⟨w.heap.size, 5, none⟩ = some (.int .i64 k1) ∧ w9.cell? ⟨w.heap.size, 6, none⟩ = some (.int .i64 n1) ∧ w9.cell? ⟨w.heap.size, 7, none⟩ = some (.int .i64 p1) ∧ w9.cell? ⟨w.heap.size, 8, none⟩ = some (.int .i64 c1) ∧ w9.cell? ⟨w.heap.size, 9, none⟩ = some (.slice a1 kk1.len cap1)) := ⟨k9.cell y0 hne, k9.cell y1 hne, k9.cell y2 hne, k9.cell y3 hne, k9.cell y4 hne⟩))
  all_goals
    go_wp2_with fail
    go_ret2
    rw [HR.out]
    exact .mk ((HKA _ HG.out).out.trans q9) e9 hv9


end Sr

end Go.Proofs.YtldbhhocoolloaaGreat

namespace Go.Proofs.YtldbhhocoolloaaGreat
open Go.RowKit
set_option linter.unusedVariables false

namespace Sr
set_option maxRecDepth 100000 in
set_option maxHeartbeats 6400000 in
theorem iCall {o : Int} {N : Nat} {fs : List Fn} {ap : Option Addr} {capp bv B f : Nat} (ho : o + 1 = (N : Int)) (hN1 : 1 ≤ N) (hN2 : N ≤ 13) (hBv : B ≤ bv) (hV : PV o N fs ap capp bv B f) (hVL : PL o N fs ap capp bv B f) (hFn : ∀ i, i < fs.length → fnB fs i = true) (hfl : fs.length ≤ 1048576) (fi : Nat) (n p : Int) (ks : Fo) (a : Option Addr) (cap : Nat) (av : Option Addr) (cav : Nat) (vars : List (List Int)) (s : Nat) (w : World)
    (hf : 3000 < f + s) (hs : s ≤ 3000) (hfi : fi ≤ fs.length) (hE : EvAt w bv o ap fs.length capp s) (hP : Pat w 0 B fs ap) (hL : En w bv (fun _ => True) N av vars) (hvl : vars.length ≤ 412 + s) (hcv : vars.length ≤ cav) (hcv2 : cav ≤ 9223372036854775807)
    (hn : 0 ≤ n ∧ n < (fi : Int)) (hp : 0 ≤ p ∧ p < ((fs.getD n.toNat noFn).outs.len : Int)) (hm : (ks.len : Int) = (fs.getD n.toNat noFn).params) (kt : treeB fs (fi : Int) ks (vars.length : Int) 10 0 = true) (kf : Fat w 0 B ks a) :
    Calls Tryz.prog 169 #[.pointer (some ⟨bv, 0, none⟩), .agg #[.int .i64 n, .int .i64 p, .slice a ks.len cap], .slice av vars.length cav] w (VRes o N bv ap fs.length capp w (bindL (sA N) (lisE (sA N) (evE (sA N) fs f) ks vars s ks.len) fun l s => atE (sA N) (evE (sA N) fs f) (fs.getD n.toNat noFn).outs p.toNat l s)) := by
  obtain ⟨w1, hw1⟩ : ∃ w1, w1 = w.alloc (.cells #[.int .i64 n, .int .i64 p, .slice a ks.len cap] 209) := ⟨_, rfl⟩
  have b1 : Below w.heap.size w w1 := by rw [hw1]; exact (Below.refl _ _).alloc (Nat.le_refl _) _
  have q1 : Kp (fun b => b = bv) w w1 := Kp.of_below b1
  have hbw := cell_lt hE.c0
  have hne : w.heap.size ≠ bv := by omega
  have y0 : w1.cell? ⟨w.heap.size, 0, none⟩ = some (.int .i64 n) := by rw [hw1]; simp [go_sem]
  have y1 : w1.cell? ⟨w.heap.size, 1, none⟩ = some (.int .i64 p) := by rw [hw1]; simp [go_sem]
  obtain ⟨j, rfl⟩ := Int.eq_ofNat_of_zero_le hn.1
  obtain ⟨jp, rfl⟩ := Int.eq_ofNat_of_zero_le hp.1
  have hj : j < fs.length := by omega
  have ej : (j : Int).toNat = j := rfl
  have ejp : (jp : Int).toNat = jp := rfl
  rw [ej] at hp hm ⊢
  rw [ejp]
  obtain ⟨g1, g2, g3⟩ := fn_parts (hFn j hj)
  have hjp : jp < (fs.getD j noFn).outs.len := by omega
  have hst := lisE_stp (A := (sA N)) (evE_stp (A := (sA N)) fs f s hf) ks vars s (Nat.le_refl _) hs ks.len
  have HC := Lib.hid (hVL fi 10 ks a cap av cav vars s w1 hf hs hfi (by decide) kt (hE.next b1) (hP.keepE q1 hBv hbw) (kf.keepE q1 hBv hbw) (by omega) (hL.keep q1) hvl hcv hcv2)
  have HL := Lib.hid (lisE_len (A := (sA N)) (E := evE (sA N) fs f) (f := ks) (vars := vars) (s := s) ks.len)
  have HP := Lib.hid hP
  generalize lisE (sA N) (evE (sA N) fs f) ks vars s ks.len = r at HC HL hst
  clear hE hP hL kt kf
  go_enter Tryz.func169, Tryz.ntmps169
  go_wp2_with fail
  rw [← hw1]
  clear hw1
  refine HC.out.mono ?_; rintro e w2 ⟨q2, e2, ⟨hc, g, rfl, hen⟩ | ⟨hc, rfl⟩⟩
  rotate_left
  · have hbf : (r.c != 0) = true := by simp [hc]
    have HR : Hid ((bindL (sA N) r fun l s => atE (sA N) (evE (sA N) fs f) (fs.getD j noFn).outs jp l s) = ⟨cstl 0 N, r.s, r.c⟩) := by show _ = _; unfold bindL; rw [if_neg hc]; rfl
    clear HC HL y0 y1
    go_wp2_with fail
    go_ret2
    rw [HR.out]
    exact .bad (q1.trans q2) e2 hc
  have hln := HL.out hc
  have qq := q1.trans q2
  replace y0 := q2.cell y0 hne
  replace y1 := q2.cell y1 hne
  have x1 := e2.c1
  have z1 := b1.size
  have z2 := q2.size
  obtain ⟨bf, of, rfl, hbB, hall⟩ := (HP.out.keepE qq hBv hbw).resolve_left (by intro e; rw [e] at hj; simp at hj)
  obtain ⟨hr, af, cf, f0, f1, f2, hFo⟩ := hall j hj
  obtain ⟨bo, oo, rfl, hoB⟩ := hFo.blk (by omega)
  obtain ⟨k', n', p', c', kk, a', cap', hd, hR, hkl, t0, t1, t2, t3, t4, hFk⟩ := Fat.node hFo hjp
  obtain ⟨v1, v2⟩ := treeB_at (fs.getD j noFn).outs 0 jp g3 hd
  have hmo : more 0 (0 + jp) = 0 := by unfold more; rw [if_neg (by omega)]
  have hlp : (r.l.length : Int) = (fs.getD j noFn).params := by rw [hln]; exact hm
  rw [hmo, Int.add_zero, ← hlp] at v1 v2
  have HR : Hid ((bindL (sA N) r fun l s => atE (sA N) (evE (sA N) fs f) (fs.getD j noFn).outs jp l s) = evE (sA N) fs f k' n' p' c' kk r.l r.s) := by show _ = _; unfold bindL; rw [if_pos hc]; exact atE_eq hd
  have HVC := fun (W : World) (hk : Below w2.heap.size w2 W) => Lib.hid (hV j k' n' p' c' kk a' cap' (some ⟨g, 0, none⟩) r.l.length r.l r.s W (by omega) hst.2 (by omega) v1 v2 (e2.next hk) ((HP.out.keepE qq hBv hbw).below (hk.mono (by omega))) (hFk.agree (fun j _ h2 => hk.block j (by omega))) hkl (hen.next hk) (by omega) (Nat.le_refl _) (by omega))
  have hji : (j : Int) < (fs.length : Int) := by omega
  have hjpi : (jp : Int) < ((fs.getD j noFn).outs.len : Int) := by omega
  clear HC HL hall hr f0 f1 hFo hFk v1 v2 hd hR hen hln hlp hm hp g1 g2 g3 hmo
  generalize (fs.getD j noFn).outs.len = ml at *
  go_wp2_with fail
  go_region_with (go_at_call 146; refine (HVC _ (Below.refl w2.heap.size w2).drew).out.mono ?_; rintro e w9 ⟨q9, e9, v9, rfl, hv9⟩)
  all_goals
    go_wp2_with fail
    go_ret2
    rw [HR.out]
    exact .mk ((qq.more (Below.refl w2.heap.size w2).drew).trans q9) e9 hv9


theorem resL {w' : World} {bv N : Nat} {r : Rl (List Int)} {e : Ending} (h : (r.c = 0 ∧ ∃ g, e = .returned (.tuple #[.slice (some ⟨g, 0, none⟩) r.l.length r.l.length, .int .i64 0]) ∧ En w' bv (fun _ => True) N (some ⟨g, 0, none⟩) r.l) ∨ (¬ r.c = 0 ∧ e = .returned (.tuple #[.slice none 0 0, .int .i64 r.c]))) :
    ∃ lv, e = .returned (.tuple #[lv, .int .i64 r.c]) ∧ ((r.c = 0 ∧ ∃ g, lv = .slice (some ⟨g, 0, none⟩) r.l.length r.l.length ∧ En w' bv (fun _ => True) N (some ⟨g, 0, none⟩) r.l) ∨ ¬ r.c = 0) := by
  rcases h with ⟨hc, g, he, hen⟩ | ⟨hc, he⟩
  · exact ⟨_, by rw [hc]; exact he, .inl ⟨hc, g, rfl, hen⟩⟩
  · exact ⟨_, he, .inr hc⟩

set_option maxRecDepth 100000 in
set_option maxHeartbeats 6400000 in
theorem iLoop {o : Int} {N : Nat} {fs : List Fn} {ap : Option Addr} {capp bv B f : Nat} (ho : o + 1 = (N : Int)) (hN1 : 1 ≤ N) (hN2 : N ≤ 13) (hBv : B ≤ bv) (hVL : PL o N fs ap capp bv B f) (hFn : ∀ i, i < fs.length → fnB fs i = true) (hfl : fs.length ≤ 1048576) (fi : Nat) (n p c : Int) (ks : Fo) (a : Option Addr) (cap : Nat) (av : Option Addr) (cav : Nat) (vars : List (List Int)) (s : Nat) (w : World)
    (hf : 3000 < f + s) (hs : s ≤ 3000) (hfi : fi ≤ fs.length) (hE : EvAt w bv o ap fs.length capp s) (hP : Pat w 0 B fs ap) (hL : En w bv (fun _ => True) N av vars) (hvl : vars.length ≤ 412 + s) (hcv : vars.length ≤ cav) (hcv2 : cav ≤ 9223372036854775807)
    (hn : 0 ≤ n ∧ n < (fi : Int)) (hp : 0 ≤ p ∧ p < ((fs.getD n.toNat noFn).outs.len : Int)) (hm : (ks.len : Int) = (fs.getD n.toNat noFn).params) (hcc : 0 ≤ c ∧ c ≤ 8) (hop : ((fs.getD n.toNat noFn).outs.len : Int) = (fs.getD n.toNat noFn).params) (kt : treeB fs (fi : Int) ks (vars.length : Int) 11 0 = true) (kf : Fat w 0 B ks a) :
    Calls Tryz.prog 170 #[.pointer (some ⟨bv, 0, none⟩), .agg #[.int .i64 n, .int .i64 p, .int .i64 c, .slice a ks.len cap], .slice av vars.length cav] w (VRes o N bv ap fs.length capp w (bindL (sA N) (lopE (sA N) (evE (sA N) fs f) (fs.getD n.toNat noFn).outs (lisE (sA N) (evE (sA N) fs f) ks vars s ks.len) c.toNat) fun l s => ⟨l.getD p.toNat ((sA N).cst 0), s, 0⟩)) := by
  obtain ⟨w1, hw1⟩ : ∃ w1, w1 = w.alloc (.cells #[.int .i64 n, .int .i64 p, .int .i64 c, .slice a ks.len cap] 212) := ⟨_, rfl⟩
  have b1 : Below w.heap.size w w1 := by rw [hw1]; exact (Below.refl _ _).alloc (Nat.le_refl _) _
  have q1 : Kp (fun b => b = bv) w w1 := Kp.of_below b1
  have hbw := cell_lt hE.c0
  have hne : w.heap.size ≠ bv := by omega
  have y0 : w1.cell? ⟨w.heap.size, 0, none⟩ = some (.int .i64 n) := by rw [hw1]; simp [go_sem]
  have y1 : w1.cell? ⟨w.heap.size, 1, none⟩ = some (.int .i64 p) := by rw [hw1]; simp [go_sem]
  have y2 : w1.cell? ⟨w.heap.size, 2, none⟩ = some (.int .i64 c) := by rw [hw1]; simp [go_sem]
  obtain ⟨j, rfl⟩ := Int.eq_ofNat_of_zero_le hn.1
  obtain ⟨jp, rfl⟩ := Int.eq_ofNat_of_zero_le hp.1
  obtain ⟨m, rfl⟩ := Int.eq_ofNat_of_zero_le hcc.1
  have hj : j < fs.length := by omega
  have ej : (j : Int).toNat = j := rfl
  have ejp : (jp : Int).toNat = jp := rfl
  have em : (m : Int).toNat = m := rfl
  rw [ej] at hp hm hop ⊢
  rw [ejp, em]
  obtain ⟨g1, g2, g3⟩ := fn_parts (hFn j hj)
  have hjp : jp < (fs.getD j noFn).outs.len := by omega
  obtain ⟨O, hO⟩ : ∃ O, O = (fs.getD j noFn).outs := ⟨_, rfl⟩
  have HOE := Lib.hid hO
  rw [← hO] at hjp hp hop g2 g3 ⊢
  clear hO
  have hst := lisE_stp (A := (sA N)) (evE_stp (A := (sA N)) fs f s hf) ks vars s (Nat.le_refl _) hs ks.len
  have hsl := lopE_stp (A := (sA N)) (evE_stp (A := (sA N)) fs f s hf) O (lisE (sA N) (evE (sA N) fs f) ks vars s ks.len) hst.1 hst.2
  have HC := Lib.hid (hVL fi 11 ks a cap av cav vars s w1 hf hs hfi (by decide) kt (hE.next b1) (hP.keepE q1 hBv hbw) (kf.keepE q1 hBv hbw) (by omega) (hL.keep q1) hvl hcv hcv2)
  have HL := Lib.hid (lisE_len (A := (sA N)) (E := evE (sA N) fs f) (f := ks) (vars := vars) (s := s) ks.len)
  have HP := Lib.hid hP
  generalize lisE (sA N) (evE (sA N) fs f) ks vars s ks.len = r at HC HL hst hsl
  have HLN : Hid (∀ i, (lopE (sA N) (evE (sA N) fs f) O r i).c = 0 → ((lopE (sA N) (evE (sA N) fs f) O r i).l.length : Int) = (fs.getD j noFn).params) := by
    intro i
    induction i with
    | zero => intro h; show (r.l.length : Int) = _; rw [HL.out h]; exact hm
    | succ i ih =>
      intro h
      by_cases h0 : (lopE (sA N) (evE (sA N) fs f) O r i).c = 0
      · rw [lopE_step h0] at h ⊢; rw [lisE_len _ h]; exact hop
      · rw [lopE, if_neg h0] at h; exact absurd h h0
  obtain ⟨R0, hR0⟩ : ∃ R0, R0 = (bindL (sA N) (lopE (sA N) (evE (sA N) fs f) O r m) fun l s => (⟨l.getD jp ((sA N).cst 0), s, 0⟩ : Rv (List Int))) := ⟨_, rfl⟩
  rw [← hR0]
  have HR0 := Lib.hid hR0
  have HSL := Lib.hid hsl
  have HOUT := Lib.hid hop
  clear hE hP hL kt kf hsl hop hR0
  go_enter Tryz.func170, Tryz.ntmps170
  go_wp2_with fail
  rw [← hw1]
  clear hw1
  have z1 := b1.size
  refine HC.out.mono ?_; intro e w2 hres
  obtain ⟨q2, e2, hres⟩ := hres
  have qq := q1.trans q2
  have z2 := q2.size
  replace y0 := q2.cell y0 hne
  replace y1 := q2.cell y1 hne
  replace y2 := q2.cell y2 hne
  have hlist := resL hres
  obtain ⟨lv, rfl, hlv⟩ := hlist
  have HQ0 := Lib.hid qq
  have HE0 := Lib.hid e2
  have HLV0 := Lib.hid hlv
  have HY0 : Hid (w2.cell? ⟨w.heap.size, 0, none⟩ = some (.int .i64 j) ∧ w2.cell? ⟨w.heap.size, 1, none⟩ = some (.int .i64 jp) ∧ w2.cell? ⟨w.heap.size, 2, none⟩ = some (.int .i64 m)) := ⟨y0, y1, y2⟩
  have hzz : w.heap.size < w2.heap.size := cell_lt y0
  clear HC hres hlv qq q1 q2 b1 e2 y0 y1 y2
  go_wp2_with fail
  go_loopw [8, 9, 10] (fun lx cx x wr => ∃ i : Nat, i ≤ m ∧ x = .int .i64 i ∧ cx = .int .i64 (lopE (sA N) (evE (sA N) fs f) O r i).c ∧ Hid (Kp (fun b => b = bv) w wr) ∧ Hid (EvAt wr bv o ap fs.length capp (lopE (sA N) (evE (sA N) fs f) O r i).s) ∧ Hid (((lopE (sA N) (evE (sA N) fs f) O r i).c = 0 ∧ ∃ g, lx = .slice (some ⟨g, 0, none⟩) (lopE (sA N) (evE (sA N) fs f) O r i).l.length (lopE (sA N) (evE (sA N) fs f) O r i).l.length ∧ En wr bv (fun _ => True) N (some ⟨g, 0, none⟩) (lopE (sA N) (evE (sA N) fs f) O r i).l) ∨ ¬ (lopE (sA N) (evE (sA N) fs f) O r i).c = 0) ∧ Hid (wr.cell? ⟨w.heap.size, 0, none⟩ = some (.int .i64 j) ∧ wr.cell? ⟨w.heap.size, 1, none⟩ = some (.int .i64 jp) ∧ wr.cell? ⟨w.heap.size, 2, none⟩ = some (.int .i64 m)) ∧ w.heap.size < wr.heap.size) (fun _ _ x _ => m - (intOf x).toNat)
  case atStart => exact ⟨0, Nat.zero_le _, rfl, rfl, HQ0.out, HE0.out, HLV0.out, HY0.out, hzz⟩
  case round =>
    obtain ⟨i, hi, rfl, rfl, HQ, HE, HLV, HY, hzr⟩ := hrel
    clear HQ0 HE0 HLV0 HY0 hzz
    obtain ⟨y0, y1, y2⟩ := id HY.out
    have hsi := HSL.out i
    by_cases hc : (lopE (sA N) (evE (sA N) fs f) O r i).c = 0
    · have hcb : ((lopE (sA N) (evE (sA N) fs f) O r i).c == 0) = true := by rw [hc]; rfl
      obtain ⟨_, g, rfl, hen⟩ := HLV.out.resolve_right (fun h => h hc)
      have hlen := HLN.out i hc
      by_cases hlt : i < m
      · have hii : (i : Int) < (m : Int) := by omega
        have HS : Hid (lopE (sA N) (evE (sA N) fs f) O r (i + 1) = lisE (sA N) (evE (sA N) fs f) O (lopE (sA N) (evE (sA N) fs f) O r i).l (lopE (sA N) (evE (sA N) fs f) O r i).s O.len) := lopE_step hc
        generalize lopE (sA N) (evE (sA N) fs f) O r i = X at *
        have x1 := HE.out.c1
        obtain ⟨bf, of, rfl, hbB, hall⟩ := (HP.out.keepE HQ.out hBv hbw).resolve_left (by intro e; rw [e] at hj; simp at hj)
        obtain ⟨hr, af, cf, f0, f1, f2, hFo⟩ := hall j hj
        rw [← HOE.out] at f2 hFo
        have g3' : treeB fs (j : Int) O (X.l.length : Int) 0 0 = true := by rw [hlen]; exact g3
        have HVC := fun (W : World) (hk : Below wr.heap.size wr W) => Lib.hid (hVL j 0 O af cf (some ⟨g, 0, none⟩) X.l.length X.l X.s W (by omega) hsi.2 (by omega) (by decide) g3' (HE.out.next hk) ((HP.out.keepE HQ.out hBv hbw).below (hk.mono (by omega))) (hFo.agree (fun j _ h2 => hk.block j (by omega))) (by omega) (hen.next hk) (by omega) (Nat.le_refl _) (by omega))
        rw [← HS.out] at HVC
        have hji : (j : Int) < (fs.length : Int) := by omega
        clear hall hr f0 f1 hFo hen HLV g3' HS
        generalize O.len = ml at *
        go_wp2_with fail
        go_region_with (go_at_call 116; refine (HVC _ (Below.refl wr.heap.size wr).drew).out.mono ?_; intro e w9 hres9; obtain ⟨q9, e9, hl9⟩ := hres9; obtain ⟨lv9, rfl, hlv9⟩ := resL hl9)
        all_goals
          have hk9 := (Kp.of_below (S := fun b => b = bv) (Below.refl wr.heap.size wr).drew).trans q9
          have hq9 := HQ.out.trans hk9
          have HL9 := Lib.hid hlv9
          go_wp2_with fail
          go_roundw
          case rel => exact ⟨i + 1, by omega, by go_num, rfl, hq9, e9, HL9.out, ⟨hk9.cell y0 hne, hk9.cell y1 hne, hk9.cell y2 hne⟩, Nat.lt_of_lt_of_le hzr hk9.size⟩
          case measure => simp [intOf]; omega
      · have hii : ¬ (i : Int) < (m : Int) := by omega
        obtain rfl : i = m := by omega
        have hbf : ((lopE (sA N) (evE (sA N) fs f) O r i).c != 0) = false := by rw [hc]; rfl
        have HR : Hid (R0 = ⟨(lopE (sA N) (evE (sA N) fs f) O r i).l.getD jp [], (lopE (sA N) (evE (sA N) fs f) O r i).s, 0⟩) := by show _ = _; rw [HR0.out]; unfold bindL; rw [if_pos hc]; show (⟨_, _, _⟩ : Rv (List Int)) = _; rw [show (lopE (sA N) (evE (sA N) fs f) O r i).l.getD jp ((sA N).cst 0) = (lopE (sA N) (evE (sA N) fs f) O r i).l.getD jp [] from by rw [List.getD_eq_getElem?_getD, List.getD_eq_getElem?_getD, List.getElem?_eq_getElem (by have := HOUT.out; omega)]; rfl]
        have hj0 : jp < (lopE (sA N) (evE (sA N) fs f) O r i).l.length := by have := HOUT.out; omega
        obtain ⟨b7, o7, e7, hb7, hlt7, hall7⟩ := hen.rows.resolve_left (by intro e; rw [e] at hj0; simp at hj0)
        cases e7
        obtain ⟨a5, c5, hx, hls5, _⟩ := hall7 jp (by have := HOUT.out; omega)
        rw [Nat.zero_add] at hx
        have hln5 := hen.len jp (by have := HOUT.out; omega)
        have hnm5 := hen.nums jp (by have := HOUT.out; omega)
        have hjl : (jp : Int) < ((lopE (sA N) (evE (sA N) fs f) O r i).l.length : Int) := by have := HOUT.out; omega
        have hgb := hlt7
        clear hen hall7 hj0 HLV HR0
        generalize lopE (sA N) (evE (sA N) fs f) O r i = X at *
        generalize X.l.getD jp [] = x at *
        generalize X.l.length = ml at *
        go_wp2_with fail
        go_ret2
        rw [HR.out]
        exact .mk HQ.out HE.out (fun _ => ⟨a5, c5, rfl, hln5, hnm5, hls5⟩)
    · have hcb : ((lopE (sA N) (evE (sA N) fs f) O r i).c == 0) = false := by simp [hc]
      have hbf : ((lopE (sA N) (evE (sA N) fs f) O r i).c != 0) = true := by simp [hc]
      have HST : Hid (lopE (sA N) (evE (sA N) fs f) O r m = lopE (sA N) (evE (sA N) fs f) O r i) := by
        show _ = _
        have := lopE_stop hc (m - i)
        rwa [show i + (m - i) = m by omega] at this
      have HR : Hid (R0 = ⟨cstl 0 N, (lopE (sA N) (evE (sA N) fs f) O r i).s, (lopE (sA N) (evE (sA N) fs f) O r i).c⟩) := by show _ = _; rw [HR0.out, HST.out]; unfold bindL; rw [if_neg hc]; rfl
      clear HLV HST HR0
      generalize lopE (sA N) (evE (sA N) fs f) O r i = X at *
      by_cases hlt : (i : Int) < (m : Int)
      · go_wp2_with fail
        go_ret2
        rw [HR.out]
        exact .bad HQ.out HE.out hc
      · go_wp2_with fail
        go_ret2
        rw [HR.out]
        exact .bad HQ.out HE.out hc

end Sr

end Go.Proofs.YtldbhhocoolloaaGreat

namespace Go.Proofs.YtldbhhocoolloaaGreat
open Go.RowKit
set_option linter.unusedVariables false

namespace Sr
theorem EvAt.step {w : World} {bv : Nat} {o : Int} {ap : Option Addr} {fl capp s : Nat} (h : EvAt w bv o ap fl capp s) : EvAt (w.setCell ⟨bv, 2, none⟩ (.int .i64 ((s : Int) + 1))) bv o ap fl capp (s + 1) :=
  ⟨(World.cell?_setCell_other _ _ _ _ (by simp)).trans h.c0, (World.cell?_setCell_other _ _ _ _ (by simp)).trans h.c1, by rw [World.cell?_setCell_same _ _ _ h.c2, Int.natCast_add]; rfl, fun q => (World.frozen?_setCell _ _ _ _).trans (h.fz q)⟩

set_option maxRecDepth 100000 in
set_option maxHeartbeats 6400000 in
theorem iValueNum {o : Int} {N : Nat} {fs : List Fn} {ap : Option Addr} {capp bv B f : Nat} (ho : o + 1 = (N : Int)) (hN1 : 1 ≤ N) (hN2 : N ≤ 13) (hBv : B ≤ bv) (hV : PV o N fs ap capp bv B f) (hVL : PL o N fs ap capp bv B f) (hFn : ∀ i, i < fs.length → fnB fs i = true) (hfl : fs.length ≤ 1048576) (fi : Nat) (n p c : Int) (ks : Fo) (a : Option Addr) (cap : Nat) (av : Option Addr) (cav : Nat) (vars : List (List Int)) (s : Nat) (w : World)
    (hf : 3000 < f + 1 + s) (hs : s ≤ 3000) (h3 : ¬ s = 3000) (hfi : fi ≤ fs.length) (hn : nodeB fs (vars.length : Int) (fi : Int) 1 n p c ks.len = true) (ht : treeB fs (fi : Int) ks (vars.length : Int) 1 0 = true) (hE : EvAt w bv o ap fs.length capp s) (hP : Pat w 0 B fs ap) (hF : Fat w 0 B ks a) (hkl : ks.len ≤ maxLen) (hL : En w bv (fun _ => True) N av vars) (hvl : vars.length ≤ 412 + s) (hcv : vars.length ≤ cav) (hcv2 : cav ≤ 9223372036854775807) :
    Calls Tryz.prog 146 #[.pointer (some ⟨bv, 0, none⟩), .agg #[.int .i64 1, .int .i64 n, .int .i64 p, .int .i64 c, .slice a ks.len cap], .slice av vars.length cav] w (VRes o N bv ap fs.length capp w (evE (sA N) fs (f + 1) 1 n p c ks vars s)) := by
  have h3b : ((s : Int) == 3000) = false := ne_beq (by omega)
  have hbw := cell_lt hE.c0
  have hne : w.heap.size ≠ bv := by omega
  have hne2 : ¬ bv = w.heap.size := by omega
  rw [evE_go h3]
  obtain ⟨w1, hw1⟩ : ∃ w1, w1 = w.setCell ⟨bv, 2, none⟩ (.int .i64 ((s : Int) + 1)) := ⟨_, rfl⟩
  have e1 : EvAt w1 bv o ap fs.length capp (s + 1) := by rw [hw1]; exact hE.step
  have q1 : Kp (fun b => b = bv) w w1 := by rw [hw1]; exact Kp.set (p := ⟨bv, 2, none⟩) rfl
  have z1 : w1.heap.size = w.heap.size := by rw [hw1]; simp
  obtain ⟨w2, hw2⟩ : ∃ w2, w2 = w1.alloc (.cells #[.int .i64 1, .int .i64 n, .int .i64 p, .int .i64 c, .slice a ks.len cap] 160) := ⟨_, rfl⟩
  have b1 : Below w1.heap.size w1 w2 := by rw [hw2]; exact (Below.refl _ _).alloc (Nat.le_refl _) _
  have e2 := e1.next b1
  have q2 := q1.more b1
  have x2 := hE.c2
  have xf := hE.fz 2
  have P2 := hP.keepE q2 hBv hbw
  have F2 := hF.keepE q2 hBv hbw
  have L2 := hL.keep q2
  have hz12 := b1.size
  obtain ⟨hn0, hn1⟩ := (node_kids hn (by omega)).2.1 rfl
  have HND := Lib.hid (iNodeNum n p c a ks.len cap w2)
  clear hE hP hF hL P2 F2 hn ht e1 b1
  go_enter Tryz.func146, Tryz.ntmps146
  go_wp2_with fail
  rw [← hw1]
  rw [← hw2]
  clear hw1 hw2
  refine HND.out.mono ?_; rintro e w3 ⟨rfl, b3⟩
  clear HND x2 xf
  have q3 := q2.more b3
  have e3 := e2.next b3
  have hz3 := b3.size
  have qNum := fun W v => asNum_yes W v

  have x0 := e3.c0
  have nA1 := cstAhead o
  have nA2 := cstMeth o
  have HNG := fun W => Lib.hid (qConst n o N ho hN1 (by omega) ⟨hn0, hn1⟩ W)
  obtain ⟨w4, hw4⟩ : ∃ w4, w4 = w3.alloc (.cells #[.int .i64 n] 193) := ⟨_, rfl⟩
  have b4 : Below w3.heap.size w3 w4 := by rw [hw4]; exact (Below.refl _ _).alloc (Nat.le_refl _) _
  have x04 := (e3.next b4).c0
  have y04 : w4.cell? ⟨w3.heap.size, 0, none⟩ = some (.int .i64 n) := by rw [hw4]; simp [go_sem]
  have HEV : Hid (nodE (sA N) fs (evE (sA N) fs f) 1 n p c ks vars (s + 1) = ⟨cstl n N, s + 1, 0⟩) := rfl
  go_wp2_with fail
  rw [← hw4]
  clear hw4
  go_region_with (go_at_call 118; refine (HNG _).out.mono ?_; rintro e w5 ⟨g6, c6, rfl, o6, l6, n6, b5⟩)
  all_goals
    go_wp2_with fail
    go_ret2
    rw [HEV.out]
    have b5' : Below w4.heap.size w4 w5 := ⟨b5.os, b5.tape, b5.output, b5.size, b5.block⟩
    exact .mk ((q3.more b4).more b5') ((e3.next b4).next b5') (fun _ => ⟨_, _, rfl, l6, n6, (show Own w4.heap.size w5 g6 c6 (cstl n N) from o6).ls (cell_lt (e3.next b4).c0)⟩)

set_option maxRecDepth 100000 in
set_option maxHeartbeats 6400000 in
theorem iValueVar {o : Int} {N : Nat} {fs : List Fn} {ap : Option Addr} {capp bv B f : Nat} (ho : o + 1 = (N : Int)) (hN1 : 1 ≤ N) (hN2 : N ≤ 13) (hBv : B ≤ bv) (hV : PV o N fs ap capp bv B f) (hVL : PL o N fs ap capp bv B f) (hFn : ∀ i, i < fs.length → fnB fs i = true) (hfl : fs.length ≤ 1048576) (fi : Nat) (n p c : Int) (ks : Fo) (a : Option Addr) (cap : Nat) (av : Option Addr) (cav : Nat) (vars : List (List Int)) (s : Nat) (w : World)
    (hf : 3000 < f + 1 + s) (hs : s ≤ 3000) (h3 : ¬ s = 3000) (hfi : fi ≤ fs.length) (hn : nodeB fs (vars.length : Int) (fi : Int) 2 n p c ks.len = true) (ht : treeB fs (fi : Int) ks (vars.length : Int) 2 0 = true) (hE : EvAt w bv o ap fs.length capp s) (hP : Pat w 0 B fs ap) (hF : Fat w 0 B ks a) (hkl : ks.len ≤ maxLen) (hL : En w bv (fun _ => True) N av vars) (hvl : vars.length ≤ 412 + s) (hcv : vars.length ≤ cav) (hcv2 : cav ≤ 9223372036854775807) :
    Calls Tryz.prog 146 #[.pointer (some ⟨bv, 0, none⟩), .agg #[.int .i64 2, .int .i64 n, .int .i64 p, .int .i64 c, .slice a ks.len cap], .slice av vars.length cav] w (VRes o N bv ap fs.length capp w (evE (sA N) fs (f + 1) 2 n p c ks vars s)) := by
  have h3b : ((s : Int) == 3000) = false := ne_beq (by omega)
  have hbw := cell_lt hE.c0
  have hne : w.heap.size ≠ bv := by omega
  have hne2 : ¬ bv = w.heap.size := by omega
  rw [evE_go h3]
  obtain ⟨w1, hw1⟩ : ∃ w1, w1 = w.setCell ⟨bv, 2, none⟩ (.int .i64 ((s : Int) + 1)) := ⟨_, rfl⟩
  have e1 : EvAt w1 bv o ap fs.length capp (s + 1) := by rw [hw1]; exact hE.step
  have q1 : Kp (fun b => b = bv) w w1 := by rw [hw1]; exact Kp.set (p := ⟨bv, 2, none⟩) rfl
  have z1 : w1.heap.size = w.heap.size := by rw [hw1]; simp
  obtain ⟨w2, hw2⟩ : ∃ w2, w2 = w1.alloc (.cells #[.int .i64 2, .int .i64 n, .int .i64 p, .int .i64 c, .slice a ks.len cap] 160) := ⟨_, rfl⟩
  have b1 : Below w1.heap.size w1 w2 := by rw [hw2]; exact (Below.refl _ _).alloc (Nat.le_refl _) _
  have e2 := e1.next b1
  have q2 := q1.more b1
  have x2 := hE.c2
  have xf := hE.fz 2
  have P2 := hP.keepE q2 hBv hbw
  have F2 := hF.keepE q2 hBv hbw
  have L2 := hL.keep q2
  have hz12 := b1.size
  obtain ⟨hn0, hn1⟩ := (node_kids hn (by omega)).2.2 rfl
  obtain ⟨j, rfl⟩ := Int.eq_ofNat_of_zero_le hn0
  have hj : j < vars.length := by omega
  have HEV : Hid (nodE (sA N) fs (evE (sA N) fs f) 2 (j : Int) p c ks vars (s + 1) = ⟨vars.getD j [], s + 1, 0⟩) := by show (⟨vars.getD j ((sA N).cst 0), s + 1, 0⟩ : Rv (List Int)) = _; rw [List.getD_eq_getElem?_getD, List.getD_eq_getElem?_getD, List.getElem?_eq_getElem hj]; rfl
  generalize nodE (sA N) fs (evE (sA N) fs f) 2 (j : Int) p c ks vars (s + 1) = R at HEV ⊢
  have HND := Lib.hid (iNodeVar j p c a ks.len cap w2)
  clear hE hP hF hL P2 F2 hn ht e1 b1
  go_enter Tryz.func146, Tryz.ntmps146
  go_wp2_with fail
  rw [← hw1]
  rw [← hw2]
  clear hw1 hw2
  refine HND.out.mono ?_; rintro e w3 ⟨rfl, b3⟩
  clear HND x2 xf
  have q3 := q2.more b3
  have e3 := e2.next b3
  have hz3 := b3.size
  have qNum := fun W v => asNum_no W 195 v (by decide)
  have qVar := fun W v => asVar_yes W v

  have L3 := L2.keep (Kp.of_below b3)
  obtain ⟨bb, off, rfl, hbn, hbb, hcl⟩ := L3.rows.resolve_left (by intro e; rw [e] at hj; simp at hj)
  obtain ⟨a5, c5, hx, hls5, _⟩ := hcl j hj
  have hln5 := L3.len j hj
  have hnm5 := L3.nums j hj
  clear hcl L2 L3
  generalize vars.getD j [] = x at *
  generalize vars.length = ml at *
  go_wp2_with fail
  go_ret2
  rw [HEV.out]
  have b4 : Below w3.heap.size w3 (w3.alloc (.cells #[.int .i64 (j : Int)] 195)) := (Below.refl _ _).alloc (Nat.le_refl _) _
  exact .mk (q3.more b4) (e3.next b4) (fun _ => ⟨a5, c5, rfl, hln5, hnm5, hls5.next b4⟩)

set_option maxRecDepth 100000 in
set_option maxHeartbeats 6400000 in
theorem iValueNeg {o : Int} {N : Nat} {fs : List Fn} {ap : Option Addr} {capp bv B f : Nat} (ho : o + 1 = (N : Int)) (hN1 : 1 ≤ N) (hN2 : N ≤ 13) (hBv : B ≤ bv) (hV : PV o N fs ap capp bv B f) (hVL : PL o N fs ap capp bv B f) (hFn : ∀ i, i < fs.length → fnB fs i = true) (hfl : fs.length ≤ 1048576) (fi : Nat) (n p c : Int) (ks : Fo) (a : Option Addr) (cap : Nat) (av : Option Addr) (cav : Nat) (vars : List (List Int)) (s : Nat) (w : World)
    (hf : 3000 < f + 1 + s) (hs : s ≤ 3000) (h3 : ¬ s = 3000) (hfi : fi ≤ fs.length) (hn : nodeB fs (vars.length : Int) (fi : Int) 7 n p c ks.len = true) (ht : treeB fs (fi : Int) ks (vars.length : Int) 7 0 = true) (hE : EvAt w bv o ap fs.length capp s) (hP : Pat w 0 B fs ap) (hF : Fat w 0 B ks a) (hkl : ks.len ≤ maxLen) (hL : En w bv (fun _ => True) N av vars) (hvl : vars.length ≤ 412 + s) (hcv : vars.length ≤ cav) (hcv2 : cav ≤ 9223372036854775807) :
    Calls Tryz.prog 146 #[.pointer (some ⟨bv, 0, none⟩), .agg #[.int .i64 7, .int .i64 n, .int .i64 p, .int .i64 c, .slice a ks.len cap], .slice av vars.length cav] w (VRes o N bv ap fs.length capp w (evE (sA N) fs (f + 1) 7 n p c ks vars s)) := by
  have h3b : ((s : Int) == 3000) = false := ne_beq (by omega)
  have hbw := cell_lt hE.c0
  have hne : w.heap.size ≠ bv := by omega
  have hne2 : ¬ bv = w.heap.size := by omega
  rw [evE_go h3]
  obtain ⟨w1, hw1⟩ : ∃ w1, w1 = w.setCell ⟨bv, 2, none⟩ (.int .i64 ((s : Int) + 1)) := ⟨_, rfl⟩
  have e1 : EvAt w1 bv o ap fs.length capp (s + 1) := by rw [hw1]; exact hE.step
  have q1 : Kp (fun b => b = bv) w w1 := by rw [hw1]; exact Kp.set (p := ⟨bv, 2, none⟩) rfl
  have z1 : w1.heap.size = w.heap.size := by rw [hw1]; simp
  obtain ⟨w2, hw2⟩ : ∃ w2, w2 = w1.alloc (.cells #[.int .i64 7, .int .i64 n, .int .i64 p, .int .i64 c, .slice a ks.len cap] 160) := ⟨_, rfl⟩
  have b1 : Below w1.heap.size w1 w2 := by rw [hw2]; exact (Below.refl _ _).alloc (Nat.le_refl _) _
  have e2 := e1.next b1
  have q2 := q1.more b1
  have x2 := hE.c2
  have xf := hE.fz 2
  have P2 := hP.keepE q2 hBv hbw
  have F2 := hF.keepE q2 hBv hbw
  have L2 := hL.keep q2
  have hz12 := b1.size
  have hk1 : ks.len = 1 := by have := (node_kids hn (by omega)).1; have : kidsNo 7 = 1 := rfl; omega
  obtain ⟨b, off, rfl, hbB⟩ := F2.blk (by omega)
  obtain ⟨k0, n0, p0, c0, kk0, a0, cap0, hd0, hR0, kl0, t00, t01, t02, t03, t04, kf0⟩ := Fat.node F2 (i := 0) (by omega)
  obtain ⟨kn0, kt0⟩ := treeB_at ks 0 0 ht hd0
  have m0 : more 7 (0 + 0) = 0 := rfl
  rw [m0, Int.add_zero] at kn0 kt0
  have N0 : NodeAt w2 b off k0 n0 p0 c0 kk0.len a0 cap0 := by simp only [Nat.zero_mul, Nat.add_zero] at t00 t01 t02 t03 t04; exact ⟨t00, t01, t02, t03, t04⟩
  have HEV : Hid (nodE (sA N) fs (evE (sA N) fs f) 7 n p c ks vars (s + 1) = oneE (evE (sA N) fs f k0 n0 p0 c0 kk0 vars (s + 1)) (sA N).neg) := by show oneE (atE (sA N) (evE (sA N) fs f) ks 0 vars (s + 1)) (sA N).neg = _; rw [atE_eq hd0]
  generalize nodE (sA N) fs (evE (sA N) fs f) 7 n p c ks vars (s + 1) = R at HEV ⊢
  have HS := fun (W : World) (hk : Below w2.heap.size w2 W) => Lib.hid (iNegation ho hN1 hN2 hBv hV fi k0 n0 p0 c0 kk0 a0 cap0 av cav vars (s + 1) W (by omega) (by omega) hfi (e2.next hk) (P2.below (hk.mono (by omega))) (L2.keep (Kp.of_below hk)) (by omega) hcv hcv2 kn0 kt0 (kf0.agree (fun j _ h2 => hk.block j (by omega))) kl0)
  have HND := Lib.hid (iNodeNeg n p c b off ks.len cap w2 (by omega) N0 (by omega))
  clear hk1
  clear hE hP hF hL P2 F2 hn ht e1 b1
  go_enter Tryz.func146, Tryz.ntmps146
  go_wp2_with fail
  rw [← hw1]
  rw [← hw2]
  clear hw1 hw2
  refine HND.out.mono ?_; rintro e w3 ⟨rfl, b3⟩
  clear HND x2 xf
  have q3 := q2.more b3
  have e3 := e2.next b3
  have hz3 := b3.size
  have qNum := fun W v => asNum_no W 200 v (by decide)
  have qVar := fun W v => asVar_no W 200 v (by decide)
  have qOp := fun W v => asOp_no W 200 v (by decide)
  have qNeg := fun W v => asNeg_yes W v

  have HB4 : Hid (∀ o, Below w2.heap.size w2 (w3.alloc o)) := fun o => b3.alloc hz3 o
  go_wp2_with fail
  refine (HS _ (HB4.out _)).out.mono ?_; rintro e w5 ⟨q5, e5, v5, rfl, hv5⟩
  go_wp2_with fail
  go_ret2
  rw [HEV.out]
  exact .mk ((q2.more (HB4.out _)).trans q5) e5 hv5

set_option maxRecDepth 100000 in
set_option maxHeartbeats 6400000 in
theorem iValueIf {o : Int} {N : Nat} {fs : List Fn} {ap : Option Addr} {capp bv B f : Nat} (ho : o + 1 = (N : Int)) (hN1 : 1 ≤ N) (hN2 : N ≤ 13) (hBv : B ≤ bv) (hV : PV o N fs ap capp bv B f) (hVL : PL o N fs ap capp bv B f) (hFn : ∀ i, i < fs.length → fnB fs i = true) (hfl : fs.length ≤ 1048576) (fi : Nat) (n p c : Int) (ks : Fo) (a : Option Addr) (cap : Nat) (av : Option Addr) (cav : Nat) (vars : List (List Int)) (s : Nat) (w : World)
    (hf : 3000 < f + 1 + s) (hs : s ≤ 3000) (h3 : ¬ s = 3000) (hfi : fi ≤ fs.length) (hn : nodeB fs (vars.length : Int) (fi : Int) 8 n p c ks.len = true) (ht : treeB fs (fi : Int) ks (vars.length : Int) 8 0 = true) (hE : EvAt w bv o ap fs.length capp s) (hP : Pat w 0 B fs ap) (hF : Fat w 0 B ks a) (hkl : ks.len ≤ maxLen) (hL : En w bv (fun _ => True) N av vars) (hvl : vars.length ≤ 412 + s) (hcv : vars.length ≤ cav) (hcv2 : cav ≤ 9223372036854775807) :
    Calls Tryz.prog 146 #[.pointer (some ⟨bv, 0, none⟩), .agg #[.int .i64 8, .int .i64 n, .int .i64 p, .int .i64 c, .slice a ks.len cap], .slice av vars.length cav] w (VRes o N bv ap fs.length capp w (evE (sA N) fs (f + 1) 8 n p c ks vars s)) := by
  have h3b : ((s : Int) == 3000) = false := ne_beq (by omega)
  have hbw := cell_lt hE.c0
  have hne : w.heap.size ≠ bv := by omega
  have hne2 : ¬ bv = w.heap.size := by omega
  rw [evE_go h3]
  obtain ⟨w1, hw1⟩ : ∃ w1, w1 = w.setCell ⟨bv, 2, none⟩ (.int .i64 ((s : Int) + 1)) := ⟨_, rfl⟩
  have e1 : EvAt w1 bv o ap fs.length capp (s + 1) := by rw [hw1]; exact hE.step
  have q1 : Kp (fun b => b = bv) w w1 := by rw [hw1]; exact Kp.set (p := ⟨bv, 2, none⟩) rfl
  have z1 : w1.heap.size = w.heap.size := by rw [hw1]; simp
  obtain ⟨w2, hw2⟩ : ∃ w2, w2 = w1.alloc (.cells #[.int .i64 8, .int .i64 n, .int .i64 p, .int .i64 c, .slice a ks.len cap] 160) := ⟨_, rfl⟩
  have b1 : Below w1.heap.size w1 w2 := by rw [hw2]; exact (Below.refl _ _).alloc (Nat.le_refl _) _
  have e2 := e1.next b1
  have q2 := q1.more b1
  have x2 := hE.c2
  have xf := hE.fz 2
  have P2 := hP.keepE q2 hBv hbw
  have F2 := hF.keepE q2 hBv hbw
  have L2 := hL.keep q2
  have hz12 := b1.size
  have hk1 : ks.len = 3 := by have := (node_kids hn (by omega)).1; have : kidsNo 8 = 3 := rfl; omega
  obtain ⟨b, off, rfl, hbB⟩ := F2.blk (by omega)
  obtain ⟨k0, n0, p0, c0, kk0, a0, cap0, hd0, hR0, kl0, t00, t01, t02, t03, t04, kf0⟩ := Fat.node F2 (i := 0) (by omega)
  obtain ⟨kn0, kt0⟩ := treeB_at ks 0 0 ht hd0
  obtain ⟨k1, n1, p1, c1, kk1, a1, cap1, hd1, hR1, kl1, t10, t11, t12, t13, t14, kf1⟩ := Fat.node F2 (i := 1) (by omega)
  obtain ⟨kn1, kt1⟩ := treeB_at ks 0 1 ht hd1
  obtain ⟨k2, n2, p2, c2, kk2, a2, cap2, hd2, hR2, kl2, t20, t21, t22, t23, t24, kf2⟩ := Fat.node F2 (i := 2) (by omega)
  obtain ⟨kn2, kt2⟩ := treeB_at ks 0 2 ht hd2
  have m0 : ∀ i, more 8 i = 0 := fun i => by unfold more; rw [if_neg (by omega)]
  rw [m0, Int.add_zero] at kn0 kt0 kn1 kt1 kn2 kt2
  have N0 : NodeAt w2 b off k0 n0 p0 c0 kk0.len a0 cap0 := by simp only [Nat.zero_mul, Nat.add_zero] at t00 t01 t02 t03 t04; exact ⟨t00, t01, t02, t03, t04⟩
  have N1 : NodeAt w2 b (off + 5) k1 n1 p1 c1 kk1.len a1 cap1 := by simp only [Nat.one_mul] at t10 t11 t12 t13 t14; exact ⟨t10, t11, t12, t13, t14⟩
  have N2 : NodeAt w2 b (off + 10) k2 n2 p2 c2 kk2.len a2 cap2 := ⟨t20, t21, t22, t23, t24⟩
  have HEV : Hid (nodE (sA N) fs (evE (sA N) fs f) 8 n p c ks vars (s + 1) = bindE (evE (sA N) fs f k0 n0 p0 c0 kk0 vars (s + 1)) fun v s => if (sA N).zer v = true then evE (sA N) fs f k1 n1 p1 c1 kk1 vars s else evE (sA N) fs f k2 n2 p2 c2 kk2 vars s) := by
    show (bindE (atE (sA N) (evE (sA N) fs f) ks 0 vars (s + 1)) fun v s => if (sA N).zer v = true then atE (sA N) (evE (sA N) fs f) ks 1 vars s else atE (sA N) (evE (sA N) fs f) ks 2 vars s) = _
    rw [atE_eq hd0]
    congr 1
    funext v s
    rw [atE_eq hd1, atE_eq hd2]
  generalize nodE (sA N) fs (evE (sA N) fs f) 8 n p c ks vars (s + 1) = R at HEV ⊢
  have HS := fun (W : World) (hk : Below w2.heap.size w2 W) => Lib.hid (iChoice ho hN1 hN2 hBv hV fi k0 n0 p0 c0 kk0 a0 cap0 k1 n1 p1 c1 kk1 a1 cap1 k2 n2 p2 c2 kk2 a2 cap2 av cav vars (s + 1) W (by omega) (by omega) hfi (e2.next hk) (P2.below (hk.mono (by omega))) (L2.keep (Kp.of_below hk)) (by omega) hcv hcv2 kn0 kt0 (kf0.agree (fun j _ h2 => hk.block j (by omega))) kl0 kn1 kt1 (kf1.agree (fun j _ h2 => hk.block j (by omega))) kl1 kn2 kt2 (kf2.agree (fun j _ h2 => hk.block j (by omega))) kl2)
  have HND := Lib.hid (iNodeIf n p c b off ks.len cap w2 (by omega) N0 N1 N2 (by omega))
  clear hk1
  clear hE hP hF hL P2 F2 hn ht e1 b1
  go_enter Tryz.func146, Tryz.ntmps146
  go_wp2_with fail
  rw [← hw1]
  rw [← hw2]
  clear hw1 hw2
  refine HND.out.mono ?_; rintro e w3 ⟨rfl, b3⟩
  clear HND x2 xf
  have q3 := q2.more b3
  have e3 := e2.next b3
  have hz3 := b3.size
  have qNum := fun W v => asNum_no W 203 v (by decide)
  have qVar := fun W v => asVar_no W 203 v (by decide)
  have qOp := fun W v => asOp_no W 203 v (by decide)
  have qNeg := fun W v => asNeg_no W 203 v (by decide)
  have qIf := fun W v => asIf_yes W v

  have HB4 : Hid (∀ o, Below w2.heap.size w2 (w3.alloc o)) := fun o => b3.alloc hz3 o
  go_wp2_with fail
  refine (HS _ (HB4.out _)).out.mono ?_; rintro e w5 ⟨q5, e5, v5, rfl, hv5⟩
  go_wp2_with fail
  go_ret2
  rw [HEV.out]
  exact .mk ((q2.more (HB4.out _)).trans q5) e5 hv5

set_option maxRecDepth 100000 in
set_option maxHeartbeats 6400000 in
theorem iValueLet {o : Int} {N : Nat} {fs : List Fn} {ap : Option Addr} {capp bv B f : Nat} (ho : o + 1 = (N : Int)) (hN1 : 1 ≤ N) (hN2 : N ≤ 13) (hBv : B ≤ bv) (hV : PV o N fs ap capp bv B f) (hVL : PL o N fs ap capp bv B f) (hFn : ∀ i, i < fs.length → fnB fs i = true) (hfl : fs.length ≤ 1048576) (fi : Nat) (n p c : Int) (ks : Fo) (a : Option Addr) (cap : Nat) (av : Option Addr) (cav : Nat) (vars : List (List Int)) (s : Nat) (w : World)
    (hf : 3000 < f + 1 + s) (hs : s ≤ 3000) (h3 : ¬ s = 3000) (hfi : fi ≤ fs.length) (hn : nodeB fs (vars.length : Int) (fi : Int) 9 n p c ks.len = true) (ht : treeB fs (fi : Int) ks (vars.length : Int) 9 0 = true) (hE : EvAt w bv o ap fs.length capp s) (hP : Pat w 0 B fs ap) (hF : Fat w 0 B ks a) (hkl : ks.len ≤ maxLen) (hL : En w bv (fun _ => True) N av vars) (hvl : vars.length ≤ 412 + s) (hcv : vars.length ≤ cav) (hcv2 : cav ≤ 9223372036854775807) :
    Calls Tryz.prog 146 #[.pointer (some ⟨bv, 0, none⟩), .agg #[.int .i64 9, .int .i64 n, .int .i64 p, .int .i64 c, .slice a ks.len cap], .slice av vars.length cav] w (VRes o N bv ap fs.length capp w (evE (sA N) fs (f + 1) 9 n p c ks vars s)) := by
  have h3b : ((s : Int) == 3000) = false := ne_beq (by omega)
  have hbw := cell_lt hE.c0
  have hne : w.heap.size ≠ bv := by omega
  have hne2 : ¬ bv = w.heap.size := by omega
  rw [evE_go h3]
  obtain ⟨w1, hw1⟩ : ∃ w1, w1 = w.setCell ⟨bv, 2, none⟩ (.int .i64 ((s : Int) + 1)) := ⟨_, rfl⟩
  have e1 : EvAt w1 bv o ap fs.length capp (s + 1) := by rw [hw1]; exact hE.step
  have q1 : Kp (fun b => b = bv) w w1 := by rw [hw1]; exact Kp.set (p := ⟨bv, 2, none⟩) rfl
  have z1 : w1.heap.size = w.heap.size := by rw [hw1]; simp
  obtain ⟨w2, hw2⟩ : ∃ w2, w2 = w1.alloc (.cells #[.int .i64 9, .int .i64 n, .int .i64 p, .int .i64 c, .slice a ks.len cap] 160) := ⟨_, rfl⟩
  have b1 : Below w1.heap.size w1 w2 := by rw [hw2]; exact (Below.refl _ _).alloc (Nat.le_refl _) _
  have e2 := e1.next b1
  have q2 := q1.more b1
  have x2 := hE.c2
  have xf := hE.fz 2
  have P2 := hP.keepE q2 hBv hbw
  have F2 := hF.keepE q2 hBv hbw
  have L2 := hL.keep q2
  have hz12 := b1.size
  have hk1 : ks.len = 2 := by have := (node_kids hn (by omega)).1; have : kidsNo 9 = 2 := rfl; omega
  obtain ⟨b, off, rfl, hbB⟩ := F2.blk (by omega)
  obtain ⟨k0, n0, p0, c0, kk0, a0, cap0, hd0, hR0, kl0, t00, t01, t02, t03, t04, kf0⟩ := Fat.node F2 (i := 0) (by omega)
  obtain ⟨kn0, kt0⟩ := treeB_at ks 0 0 ht hd0
  obtain ⟨k1, n1, p1, c1, kk1, a1, cap1, hd1, hR1, kl1, t10, t11, t12, t13, t14, kf1⟩ := Fat.node F2 (i := 1) (by omega)
  obtain ⟨kn1, kt1⟩ := treeB_at ks 0 1 ht hd1
  have m0 : more 9 (0 + 0) = 0 := rfl
  have m1 : more 9 (0 + 1) = 1 := rfl
  rw [m0, Int.add_zero] at kn0 kt0
  rw [m1] at kn1 kt1
  have N0 : NodeAt w2 b off k0 n0 p0 c0 kk0.len a0 cap0 := by simp only [Nat.zero_mul, Nat.add_zero] at t00 t01 t02 t03 t04; exact ⟨t00, t01, t02, t03, t04⟩
  have N1 : NodeAt w2 b (off + 5) k1 n1 p1 c1 kk1.len a1 cap1 := by simp only [Nat.one_mul] at t10 t11 t12 t13 t14; exact ⟨t10, t11, t12, t13, t14⟩
  have HEV : Hid (nodE (sA N) fs (evE (sA N) fs f) 9 n p c ks vars (s + 1) = bindE (evE (sA N) fs f k0 n0 p0 c0 kk0 vars (s + 1)) fun v s => evE (sA N) fs f k1 n1 p1 c1 kk1 (vars ++ [v]) s) := by
    show (bindE (atE (sA N) (evE (sA N) fs f) ks 0 vars (s + 1)) fun v s => atE (sA N) (evE (sA N) fs f) ks 1 (vars ++ [v]) s) = _
    rw [atE_eq hd0]
    congr 1
    funext v s
    rw [atE_eq hd1]
  generalize nodE (sA N) fs (evE (sA N) fs f) 9 n p c ks vars (s + 1) = R at HEV ⊢
  have HS := fun (W : World) (hk : Below w2.heap.size w2 W) => Lib.hid (iBinding ho hN1 hN2 hBv hV fi k0 n0 p0 c0 kk0 a0 cap0 k1 n1 p1 c1 kk1 a1 cap1 av cav vars (s + 1) W (by omega) (by omega) hfi (e2.next hk) (P2.below (hk.mono (by omega))) (L2.keep (Kp.of_below hk)) (by omega) hcv hcv2 kn0 kt0 (kf0.agree (fun j _ h2 => hk.block j (by omega))) kl0 kn1 kt1 (kf1.agree (fun j _ h2 => hk.block j (by omega))) kl1)
  have HND := Lib.hid (iNodeLet n p c b off ks.len cap w2 (by omega) N0 N1 (by omega))
  clear hk1
  clear hE hP hF hL P2 F2 hn ht e1 b1
  go_enter Tryz.func146, Tryz.ntmps146
  go_wp2_with fail
  rw [← hw1]
  rw [← hw2]
  clear hw1 hw2
  refine HND.out.mono ?_; rintro e w3 ⟨rfl, b3⟩
  clear HND x2 xf
  have q3 := q2.more b3
  have e3 := e2.next b3
  have hz3 := b3.size
  have qNum := fun W v => asNum_no W 206 v (by decide)
  have qVar := fun W v => asVar_no W 206 v (by decide)
  have qOp := fun W v => asOp_no W 206 v (by decide)
  have qNeg := fun W v => asNeg_no W 206 v (by decide)
  have qIf := fun W v => asIf_no W 206 v (by decide)
  have qLet := fun W v => asLet_yes W v

  have HB4 : Hid (∀ o, Below w2.heap.size w2 (w3.alloc o)) := fun o => b3.alloc hz3 o
  go_wp2_with fail
  refine (HS _ (HB4.out _)).out.mono ?_; rintro e w5 ⟨q5, e5, v5, rfl, hv5⟩
  go_wp2_with fail
  go_ret2
  rw [HEV.out]
  exact .mk ((q2.more (HB4.out _)).trans q5) e5 hv5

set_option maxRecDepth 100000 in
set_option maxHeartbeats 6400000 in
theorem iValueCall {o : Int} {N : Nat} {fs : List Fn} {ap : Option Addr} {capp bv B f : Nat} (ho : o + 1 = (N : Int)) (hN1 : 1 ≤ N) (hN2 : N ≤ 13) (hBv : B ≤ bv) (hV : PV o N fs ap capp bv B f) (hVL : PL o N fs ap capp bv B f) (hFn : ∀ i, i < fs.length → fnB fs i = true) (hfl : fs.length ≤ 1048576) (fi : Nat) (n p c : Int) (ks : Fo) (a : Option Addr) (cap : Nat) (av : Option Addr) (cav : Nat) (vars : List (List Int)) (s : Nat) (w : World)
    (hf : 3000 < f + 1 + s) (hs : s ≤ 3000) (h3 : ¬ s = 3000) (hfi : fi ≤ fs.length) (hn : nodeB fs (vars.length : Int) (fi : Int) 10 n p c ks.len = true) (ht : treeB fs (fi : Int) ks (vars.length : Int) 10 0 = true) (hE : EvAt w bv o ap fs.length capp s) (hP : Pat w 0 B fs ap) (hF : Fat w 0 B ks a) (hkl : ks.len ≤ maxLen) (hL : En w bv (fun _ => True) N av vars) (hvl : vars.length ≤ 412 + s) (hcv : vars.length ≤ cav) (hcv2 : cav ≤ 9223372036854775807) :
    Calls Tryz.prog 146 #[.pointer (some ⟨bv, 0, none⟩), .agg #[.int .i64 10, .int .i64 n, .int .i64 p, .int .i64 c, .slice a ks.len cap], .slice av vars.length cav] w (VRes o N bv ap fs.length capp w (evE (sA N) fs (f + 1) 10 n p c ks vars s)) := by
  have h3b : ((s : Int) == 3000) = false := ne_beq (by omega)
  have hbw := cell_lt hE.c0
  have hne : w.heap.size ≠ bv := by omega
  have hne2 : ¬ bv = w.heap.size := by omega
  rw [evE_go h3]
  obtain ⟨w1, hw1⟩ : ∃ w1, w1 = w.setCell ⟨bv, 2, none⟩ (.int .i64 ((s : Int) + 1)) := ⟨_, rfl⟩
  have e1 : EvAt w1 bv o ap fs.length capp (s + 1) := by rw [hw1]; exact hE.step
  have q1 : Kp (fun b => b = bv) w w1 := by rw [hw1]; exact Kp.set (p := ⟨bv, 2, none⟩) rfl
  have z1 : w1.heap.size = w.heap.size := by rw [hw1]; simp
  obtain ⟨w2, hw2⟩ : ∃ w2, w2 = w1.alloc (.cells #[.int .i64 10, .int .i64 n, .int .i64 p, .int .i64 c, .slice a ks.len cap] 160) := ⟨_, rfl⟩
  have b1 : Below w1.heap.size w1 w2 := by rw [hw2]; exact (Below.refl _ _).alloc (Nat.le_refl _) _
  have e2 := e1.next b1
  have q2 := q1.more b1
  have x2 := hE.c2
  have xf := hE.fz 2
  have P2 := hP.keepE q2 hBv hbw
  have F2 := hF.keepE q2 hBv hbw
  have L2 := hL.keep q2
  have hz12 := b1.size
  obtain ⟨r1, r2, r3, _⟩ := node_call hn (.inl rfl)
  have HEV : Hid (nodE (sA N) fs (evE (sA N) fs f) 10 n p c ks vars (s + 1) = bindL (sA N) (lisE (sA N) (evE (sA N) fs f) ks vars (s + 1) ks.len) fun l s => atE (sA N) (evE (sA N) fs f) (fs.getD n.toNat noFn).outs p.toNat l s) := rfl
  generalize nodE (sA N) fs (evE (sA N) fs f) 10 n p c ks vars (s + 1) = R at HEV ⊢
  have HS := fun (W : World) (hk : Below w2.heap.size w2 W) => Lib.hid (iCall ho hN1 hN2 hBv hV hVL hFn hfl fi n p ks a cap av cav vars (s + 1) W (by omega) (by omega) hfi (e2.next hk) (P2.below (hk.mono (by omega))) (L2.keep (Kp.of_below hk)) (by omega) hcv hcv2 r1 r2 r3 ht (F2.agree (fun j _ h2 => hk.block j (by omega))))
  clear r1 r2 r3
  have HND := Lib.hid (iNodeCall n p c a ks.len cap w2)
  clear hE hP hF hL P2 F2 hn ht e1 b1
  go_enter Tryz.func146, Tryz.ntmps146
  go_wp2_with fail
  rw [← hw1]
  rw [← hw2]
  clear hw1 hw2
  refine HND.out.mono ?_; rintro e w3 ⟨rfl, b3⟩
  clear HND x2 xf
  have q3 := q2.more b3
  have e3 := e2.next b3
  have hz3 := b3.size
  have qNum := fun W v => asNum_no W 209 v (by decide)
  have qVar := fun W v => asVar_no W 209 v (by decide)
  have qOp := fun W v => asOp_no W 209 v (by decide)
  have qNeg := fun W v => asNeg_no W 209 v (by decide)
  have qIf := fun W v => asIf_no W 209 v (by decide)
  have qLet := fun W v => asLet_no W 209 v (by decide)
  have qCall := fun W v => asCall_yes W v

  have HB4 : Hid (∀ o, Below w2.heap.size w2 (w3.alloc o)) := fun o => b3.alloc hz3 o
  go_wp2_with fail
  refine (HS _ (HB4.out _)).out.mono ?_; rintro e w5 ⟨q5, e5, v5, rfl, hv5⟩
  go_wp2_with fail
  go_ret2
  rw [HEV.out]
  exact .mk ((q2.more (HB4.out _)).trans q5) e5 hv5

set_option maxRecDepth 100000 in
set_option maxHeartbeats 6400000 in
theorem iValueLoop {o : Int} {N : Nat} {fs : List Fn} {ap : Option Addr} {capp bv B f : Nat} (ho : o + 1 = (N : Int)) (hN1 : 1 ≤ N) (hN2 : N ≤ 13) (hBv : B ≤ bv) (hV : PV o N fs ap capp bv B f) (hVL : PL o N fs ap capp bv B f) (hFn : ∀ i, i < fs.length → fnB fs i = true) (hfl : fs.length ≤ 1048576) (fi : Nat) (n p c : Int) (ks : Fo) (a : Option Addr) (cap : Nat) (av : Option Addr) (cav : Nat) (vars : List (List Int)) (s : Nat) (w : World)
    (hf : 3000 < f + 1 + s) (hs : s ≤ 3000) (h3 : ¬ s = 3000) (hfi : fi ≤ fs.length) (hn : nodeB fs (vars.length : Int) (fi : Int) 11 n p c ks.len = true) (ht : treeB fs (fi : Int) ks (vars.length : Int) 11 0 = true) (hE : EvAt w bv o ap fs.length capp s) (hP : Pat w 0 B fs ap) (hF : Fat w 0 B ks a) (hkl : ks.len ≤ maxLen) (hL : En w bv (fun _ => True) N av vars) (hvl : vars.length ≤ 412 + s) (hcv : vars.length ≤ cav) (hcv2 : cav ≤ 9223372036854775807) :
    Calls Tryz.prog 146 #[.pointer (some ⟨bv, 0, none⟩), .agg #[.int .i64 11, .int .i64 n, .int .i64 p, .int .i64 c, .slice a ks.len cap], .slice av vars.length cav] w (VRes o N bv ap fs.length capp w (evE (sA N) fs (f + 1) 11 n p c ks vars s)) := by
  have h3b : ((s : Int) == 3000) = false := ne_beq (by omega)
  have hbw := cell_lt hE.c0
  have hne : w.heap.size ≠ bv := by omega
  have hne2 : ¬ bv = w.heap.size := by omega
  rw [evE_go h3]
  obtain ⟨w1, hw1⟩ : ∃ w1, w1 = w.setCell ⟨bv, 2, none⟩ (.int .i64 ((s : Int) + 1)) := ⟨_, rfl⟩
  have e1 : EvAt w1 bv o ap fs.length capp (s + 1) := by rw [hw1]; exact hE.step
  have q1 : Kp (fun b => b = bv) w w1 := by rw [hw1]; exact Kp.set (p := ⟨bv, 2, none⟩) rfl
  have z1 : w1.heap.size = w.heap.size := by rw [hw1]; simp
  obtain ⟨w2, hw2⟩ : ∃ w2, w2 = w1.alloc (.cells #[.int .i64 11, .int .i64 n, .int .i64 p, .int .i64 c, .slice a ks.len cap] 160) := ⟨_, rfl⟩
  have b1 : Below w1.heap.size w1 w2 := by rw [hw2]; exact (Below.refl _ _).alloc (Nat.le_refl _) _
  have e2 := e1.next b1
  have q2 := q1.more b1
  have x2 := hE.c2
  have xf := hE.fz 2
  have P2 := hP.keepE q2 hBv hbw
  have F2 := hF.keepE q2 hBv hbw
  have L2 := hL.keep q2
  have hz12 := b1.size
  obtain ⟨r1, r2, r3, r4⟩ := node_call hn (.inr rfl)
  obtain ⟨r5, r6⟩ := r4 rfl
  have HEV : Hid (nodE (sA N) fs (evE (sA N) fs f) 11 n p c ks vars (s + 1) = bindL (sA N) (lopE (sA N) (evE (sA N) fs f) (fs.getD n.toNat noFn).outs (lisE (sA N) (evE (sA N) fs f) ks vars (s + 1) ks.len) c.toNat) fun l s => ⟨l.getD p.toNat ((sA N).cst 0), s, 0⟩) := rfl
  generalize nodE (sA N) fs (evE (sA N) fs f) 11 n p c ks vars (s + 1) = R at HEV ⊢
  have HS := fun (W : World) (hk : Below w2.heap.size w2 W) => Lib.hid (iLoop ho hN1 hN2 hBv hVL hFn hfl fi n p c ks a cap av cav vars (s + 1) W (by omega) (by omega) hfi (e2.next hk) (P2.below (hk.mono (by omega))) (L2.keep (Kp.of_below hk)) (by omega) hcv hcv2 r1 r2 r3 r5 r6 ht (F2.agree (fun j _ h2 => hk.block j (by omega))))
  clear r1 r2 r3 r4 r5 r6
  have HND := Lib.hid (iNodeLoop n p c a ks.len cap w2)
  clear hE hP hF hL P2 F2 hn ht e1 b1
  go_enter Tryz.func146, Tryz.ntmps146
  go_wp2_with fail
  rw [← hw1]
  rw [← hw2]
  clear hw1 hw2
  refine HND.out.mono ?_; rintro e w3 ⟨rfl, b3⟩
  clear HND x2 xf
  have q3 := q2.more b3
  have e3 := e2.next b3
  have hz3 := b3.size
  have qNum := fun W v => asNum_no W 212 v (by decide)
  have qVar := fun W v => asVar_no W 212 v (by decide)
  have qOp := fun W v => asOp_no W 212 v (by decide)
  have qNeg := fun W v => asNeg_no W 212 v (by decide)
  have qIf := fun W v => asIf_no W 212 v (by decide)
  have qLet := fun W v => asLet_no W 212 v (by decide)
  have qCall := fun W v => asCall_no W 212 v (by decide)
  have qLoop := fun W v => asLoop_yes W v

  have HB4 : Hid (∀ o, Below w2.heap.size w2 (w3.alloc o)) := fun o => b3.alloc hz3 o
  go_wp2_with fail
  refine (HS _ (HB4.out _)).out.mono ?_; rintro e w5 ⟨q5, e5, v5, rfl, hv5⟩
  go_wp2_with fail
  go_ret2
  rw [HEV.out]
  exact .mk ((q2.more (HB4.out _)).trans q5) e5 hv5

set_option maxRecDepth 100000 in
set_option maxHeartbeats 6400000 in
theorem iValueOp {o : Int} {N : Nat} {fs : List Fn} {ap : Option Addr} {capp bv B f : Nat} (ho : o + 1 = (N : Int)) (hN1 : 1 ≤ N) (hN2 : N ≤ 13) (hBv : B ≤ bv) (hV : PV o N fs ap capp bv B f) (hVL : PL o N fs ap capp bv B f) (hFn : ∀ i, i < fs.length → fnB fs i = true) (hfl : fs.length ≤ 1048576) (fi : Nat) (k : Int) (n p c : Int) (ks : Fo) (a : Option Addr) (cap : Nat) (av : Option Addr) (cav : Nat) (vars : List (List Int)) (s : Nat) (w : World)
    (hf : 3000 < f + 1 + s) (hs : s ≤ 3000) (h3 : ¬ s = 3000) (hfi : fi ≤ fs.length) (hko : k ≠ 1 ∧ k ≠ 2 ∧ k ≠ 7 ∧ k ≠ 8 ∧ k ≠ 9 ∧ k ≠ 10 ∧ k ≠ 11) (hn : nodeB fs (vars.length : Int) (fi : Int) k n p c ks.len = true) (ht : treeB fs (fi : Int) ks (vars.length : Int) k 0 = true) (hE : EvAt w bv o ap fs.length capp s) (hP : Pat w 0 B fs ap) (hF : Fat w 0 B ks a) (hkl : ks.len ≤ maxLen) (hL : En w bv (fun _ => True) N av vars) (hvl : vars.length ≤ 412 + s) (hcv : vars.length ≤ cav) (hcv2 : cav ≤ 9223372036854775807) :
    Calls Tryz.prog 146 #[.pointer (some ⟨bv, 0, none⟩), .agg #[.int .i64 k, .int .i64 n, .int .i64 p, .int .i64 c, .slice a ks.len cap], .slice av vars.length cav] w (VRes o N bv ap fs.length capp w (evE (sA N) fs (f + 1) k n p c ks vars s)) := by
  have h3b : ((s : Int) == 3000) = false := ne_beq (by omega)
  have hbw := cell_lt hE.c0
  have hne : w.heap.size ≠ bv := by omega
  have hne2 : ¬ bv = w.heap.size := by omega
  rw [evE_go h3]
  obtain ⟨w1, hw1⟩ : ∃ w1, w1 = w.setCell ⟨bv, 2, none⟩ (.int .i64 ((s : Int) + 1)) := ⟨_, rfl⟩
  have e1 : EvAt w1 bv o ap fs.length capp (s + 1) := by rw [hw1]; exact hE.step
  have q1 : Kp (fun b => b = bv) w w1 := by rw [hw1]; exact Kp.set (p := ⟨bv, 2, none⟩) rfl
  have z1 : w1.heap.size = w.heap.size := by rw [hw1]; simp
  obtain ⟨w2, hw2⟩ : ∃ w2, w2 = w1.alloc (.cells #[.int .i64 k, .int .i64 n, .int .i64 p, .int .i64 c, .slice a ks.len cap] 160) := ⟨_, rfl⟩
  have b1 : Below w1.heap.size w1 w2 := by rw [hw2]; exact (Below.refl _ _).alloc (Nat.le_refl _) _
  have e2 := e1.next b1
  have q2 := q1.more b1
  have x2 := hE.c2
  have xf := hE.fz 2
  have P2 := hP.keepE q2 hBv hbw
  have F2 := hF.keepE q2 hBv hbw
  have L2 := hL.keep q2
  have hz12 := b1.size
  have hk1 : ks.len = 2 := by
    have h := (node_kids hn (by omega)).1
    have := node_kind hn
    have e : kidsNo k = 2 := by unfold kidsNo; rw [if_neg (by omega), if_pos (by omega)]
    omega
  have HEV : Hid (nodE (sA N) fs (evE (sA N) fs f) k n p c ks vars (s + 1) = bindL (sA N) (lisE (sA N) (evE (sA N) fs f) ks vars (s + 1) ks.len) fun l s => opE (sA N) k l s) := by
    show _ = _
    unfold nodE
    rw [if_neg (by omega), if_neg (by omega), if_neg (by omega), if_neg (by omega), if_neg (by omega), if_neg (by omega), if_neg (by omega)]
  generalize nodE (sA N) fs (evE (sA N) fs f) k n p c ks vars (s + 1) = R at HEV ⊢
  have HS := fun (W : World) (hk : Below w2.heap.size w2 W) => Lib.hid (iOperation ho hN1 hN2 hBv hVL fi k ks a cap av cav vars (s + 1) W (by omega) (by omega) hfi (e2.next hk) (P2.below (hk.mono (by omega))) (L2.keep (Kp.of_below hk)) (by omega) hcv hcv2 (by omega) ht (F2.agree (fun j _ h2 => hk.block j (by omega))) hk1)
  have HND := Lib.hid (iNodeOp k n p c a ks.len cap w2 hko)
  clear hk1
  clear hE hP hF hL P2 F2 hn ht e1 b1
  go_enter Tryz.func146, Tryz.ntmps146
  go_wp2_with fail
  rw [← hw1]
  rw [← hw2]
  clear hw1 hw2
  refine HND.out.mono ?_; rintro e w3 ⟨rfl, b3⟩
  clear HND x2 xf
  have q3 := q2.more b3
  have e3 := e2.next b3
  have hz3 := b3.size
  have qNum := fun W v => asNum_no W 197 v (by decide)
  have qVar := fun W v => asVar_no W 197 v (by decide)
  have qOp := fun W v => asOp_yes W v

  have HB4 : Hid (∀ o, Below w2.heap.size w2 (w3.alloc o)) := fun o => b3.alloc hz3 o
  go_wp2_with fail
  refine (HS _ (HB4.out _)).out.mono ?_; rintro e w5 ⟨q5, e5, v5, rfl, hv5⟩
  go_wp2_with fail
  go_ret2
  rw [HEV.out]
  exact .mk ((q2.more (HB4.out _)).trans q5) e5 hv5

end Sr

end Go.Proofs.YtldbhhocoolloaaGreat

namespace Go.Proofs.YtldbhhocoolloaaGreat
open Go.RowKit
set_option linter.unusedVariables false

namespace Sr
set_option maxRecDepth 100000 in
set_option maxHeartbeats 3200000 in
theorem iValueEnd {o : Int} {N : Nat} {fs : List Fn} {ap : Option Addr} {capp bv f : Nat} (k n p c : Int) (ks : Fo) (a : Option Addr) (cap : Nat) (av : Option Addr) (cav : Nat) (vars : List (List Int)) (s : Nat) (w : World) (h3 : s = 3000) (hE : EvAt w bv o ap fs.length capp s) :
    Calls Tryz.prog 146 #[.pointer (some ⟨bv, 0, none⟩), .agg #[.int .i64 k, .int .i64 n, .int .i64 p, .int .i64 c, .slice a ks.len cap], .slice av vars.length cav] w (VRes o N bv ap fs.length capp w (evE (sA N) fs (f + 1) k n p c ks vars s)) := by
  rw [evE_end h3]
  have h3b : ((s : Int) == 3000) = true := by subst h3; rfl
  have hbw := cell_lt hE.c0
  have hne2 : ¬ bv = w.heap.size := by omega
  have x2 := hE.c2
  have b1 : Below w.heap.size w (w.alloc (.cells #[.int .i64 k, .int .i64 n, .int .i64 p, .int .i64 c, .slice a ks.len cap] 160)) := (Below.refl _ _).alloc (Nat.le_refl _) _
  have e1 := hE.next b1
  clear h3
  go_enter Tryz.func146, Tryz.ntmps146
  go_wp2_with fail
  go_ret2
  exact .bad (Kp.of_below b1) e1 (show ¬ (7 : Int) = 0 by decide)

theorem iPV {o : Int} {N : Nat} {fs : List Fn} {ap : Option Addr} {capp bv B : Nat} (ho : o + 1 = (N : Int)) (hN1 : 1 ≤ N) (hN2 : N ≤ 13) (hBv : B ≤ bv) (hFn : ∀ i, i < fs.length → fnB fs i = true) (hfl : fs.length ≤ 1048576) : ∀ f, PV o N fs ap capp bv B f
  | 0 => by
    intro fi k n p c ks a cap av cav vars s w hf hs
    omega
  | f + 1 => by
    have hV := iPV (ap := ap) (capp := capp) ho hN1 hN2 hBv hFn hfl f
    have hVL := iValues hN1 hBv hV
    intro fi k n p c ks a cap av cav vars s w hf hs hfi hn ht hE hP hF hkl hL hvl hcv hcv2
    by_cases h3 : s = 3000
    · exact iValueEnd k n p c ks a cap av cav vars s w h3 hE
    by_cases h1 : k = 1
    · subst h1; exact iValueNum ho hN1 hN2 hBv hV hVL hFn hfl fi n p c ks a cap av cav vars s w hf hs h3 hfi hn ht hE hP hF hkl hL hvl hcv hcv2
    by_cases h2 : k = 2
    · subst h2; exact iValueVar ho hN1 hN2 hBv hV hVL hFn hfl fi n p c ks a cap av cav vars s w hf hs h3 hfi hn ht hE hP hF hkl hL hvl hcv hcv2
    by_cases h7 : k = 7
    · subst h7; exact iValueNeg ho hN1 hN2 hBv hV hVL hFn hfl fi n p c ks a cap av cav vars s w hf hs h3 hfi hn ht hE hP hF hkl hL hvl hcv hcv2
    by_cases h8 : k = 8
    · subst h8; exact iValueIf ho hN1 hN2 hBv hV hVL hFn hfl fi n p c ks a cap av cav vars s w hf hs h3 hfi hn ht hE hP hF hkl hL hvl hcv hcv2
    by_cases h9 : k = 9
    · subst h9; exact iValueLet ho hN1 hN2 hBv hV hVL hFn hfl fi n p c ks a cap av cav vars s w hf hs h3 hfi hn ht hE hP hF hkl hL hvl hcv hcv2
    by_cases h10 : k = 10
    · subst h10; exact iValueCall ho hN1 hN2 hBv hV hVL hFn hfl fi n p c ks a cap av cav vars s w hf hs h3 hfi hn ht hE hP hF hkl hL hvl hcv hcv2
    by_cases h11 : k = 11
    · subst h11; exact iValueLoop ho hN1 hN2 hBv hV hVL hFn hfl fi n p c ks a cap av cav vars s w hf hs h3 hfi hn ht hE hP hF hkl hL hvl hcv hcv2
    exact iValueOp ho hN1 hN2 hBv hV hVL hFn hfl fi k n p c ks a cap av cav vars s w hf hs h3 hfi ⟨h1, h2, h7, h8, h9, h10, h11⟩ hn ht hE hP hF hkl hL hvl hcv hcv2

/-- the answer of an evaluation with series -/
def EvRes (N : Nat) (w : World) (r : Rl (List Int)) (e : Ending) (w' : World) : Prop :=
  Below w.heap.size w w' ∧ ((r.c = 0 ∧ ∃ g br, e = .returned (.tuple #[.slice (some ⟨g, 0, none⟩) r.l.length r.l.length, .int .i64 r.s, .int .i64 0]) ∧ En w' br (fun _ => True) N (some ⟨g, 0, none⟩) r.l) ∨ (¬ r.c = 0 ∧ e = .returned (.tuple #[.slice none 0 0, .int .i64 0, .int .i64 r.c])))

set_option maxRecDepth 100000 in
set_option maxHeartbeats 3200000 in
theorem iEvaluateS (o : Int) (N : Nat) (ho : o + 1 = (N : Int)) (hN1 : 1 ≤ N) (hN2 : N ≤ 13) (fs : List Fn) (ap : Option Addr) (capp : Nat) (j : Nat) (af : Option Addr) (cf : Nat) (br0 : Nat) (aa : Option Addr) (ca : Nat) (args : List (List Int)) (w : World)
    (hpb : progB fs = true) (hj : j < fs.length) (hfl : fs.length ≤ 1048576) (hP : Pat w 0 w.heap.size fs ap) (hFo : Fat w 0 w.heap.size (fs.getD j noFn).outs af) (hA : En w br0 (fun _ => True) N aa args) (hal : (args.length : Int) = (fs.getD j noFn).params) (hca : args.length ≤ ca) (hca2 : ca ≤ 9223372036854775807) :
    Calls Tryz.prog 96 #[(ofS o), .slice ap fs.length capp, .agg #[.string (fs.getD j noFn).name, .int .i64 (fs.getD j noFn).params, .slice af (fs.getD j noFn).outs.len cf], .slice aa args.length ca] w (EvRes N w (lisE (sA N) (evE (sA N) fs 3001) (fs.getD j noFn).outs args 0 (fs.getD j noFn).outs.len)) := by
  obtain ⟨g1, g2, g3⟩ := fn_parts (progB_fn hpb hj)
  obtain ⟨w1, hw1⟩ : ∃ w1, w1 = (w.alloc (.cells #[.string (fs.getD j noFn).name, .int .i64 (fs.getD j noFn).params, .slice af (fs.getD j noFn).outs.len cf] 69)).alloc (.cells #[(ofS o), .slice ap fs.length capp, .int .i64 0] 168) := ⟨_, rfl⟩
  have b1 : Below w.heap.size w w1 := by rw [hw1]; exact ((Below.refl _ _).alloc (Nat.le_refl _) _).alloc (by simp) _
  have z1 : w1.heap.size = w.heap.size + 1 + 1 := by rw [hw1]; simp
  have E1 : EvAt w1 (w.heap.size + 1) o ap fs.length capp 0 := ⟨by rw [hw1]; simp [go_sem], by rw [hw1]; simp [go_sem], by rw [hw1]; simp [go_sem], fun q => by rw [hw1]; simp [go_sem]⟩
  have y2 : w1.cell? ⟨w.heap.size, 2, none⟩ = some (.slice af (fs.getD j noFn).outs.len cf) := by rw [hw1]; simp [go_sem]
  have hL : En w1 (w.heap.size + 1) (fun _ => True) N aa args := (hA.re (Nat.le_succ _)).next b1
  have HV := Lib.hid (iValues hN1 (Nat.le_succ _) (iPV (o := o) (N := N) (ap := ap) (capp := capp) (bv := w.heap.size + 1) (B := w.heap.size) ho hN1 hN2 (Nat.le_succ _) (fun i hi => progB_fn hpb hi) hfl 3001) j 0 (fs.getD j noFn).outs af cf aa ca args 0 w1 (by omega) (by omega) (by omega) (by decide) (by rw [hal]; exact g3) E1 (hP.below b1) (hFo.agree (fun i _ h2 => b1.block i h2)) (by omega) hL (by omega) hca hca2)
  generalize lisE (sA N) (evE (sA N) fs 3001) (fs.getD j noFn).outs args 0 (fs.getD j noFn).outs.len = r at HV ⊢
  clear g1 g2 g3 E1 hL hP hFo hA
  generalize (fs.getD j noFn).name = nm at *
  generalize (fs.getD j noFn).params = pa at *
  generalize (fs.getD j noFn).outs.len = ml at *
  go_enter Tryz.func96, Tryz.ntmps96
  go_wp2_with fail
  rw [← hw1]
  clear hw1
  refine HV.out.mono ?_; rintro e w2 ⟨k2, e2, ⟨hc, g, rfl, hen⟩ | ⟨hc, rfl⟩⟩
  · have B2 : Below w.heap.size w w2 := b1.trans (k2.below (by omega) (fun b hb => by omega))
    have x2 := e2.c2
    have HX : Hid (∀ q, EvRes N w r (.returned (.tuple #[.slice (some ⟨g, 0, none⟩) r.l.length r.l.length, .int .i64 r.s, .int .i64 0])) (w2.drewN q)) := fun q => ⟨below_drewN B2 _, .inl ⟨hc, g, _, rfl, hen.next (below_drewN (Below.refl w2.heap.size w2) q)⟩⟩
    clear HV hen
    go_wp2_with fail
    go_quiet (fail)
    go_wp2_with fail
    go_ret3
    exact HX.out _
  · have hbf : (r.c != 0) = true := by simp [hc]
    have B2 : Below w.heap.size w w2 := b1.trans (k2.below (by omega) (fun b hb => by omega))
    clear HV
    go_wp2_with fail
    go_ret3
    exact ⟨B2, .inr ⟨hc, rfl⟩⟩
/-- outputs and a code -/
def Ev2 (N : Nat) (w : World) (r : Rl (List Int)) (e : Ending) (w' : World) : Prop :=
  Below w.heap.size w w' ∧ ((r.c = 0 ∧ ∃ g br, e = .returned (.tuple #[.slice (some ⟨g, 0, none⟩) r.l.length r.l.length, .int .i64 0]) ∧ En w' br (fun _ => True) N (some ⟨g, 0, none⟩) r.l) ∨ (¬ r.c = 0 ∧ e = .returned (.tuple #[.slice none 0 0, .int .i64 r.c])))
theorem Ev2.from {N : Nat} {w w1 : World} {r : Rl (List Int)} {e : Ending} {w' : World} (h : Ev2 N w1 r e w') (hb : Below w.heap.size w w1) : Ev2 N w r e w' := ⟨hb.trans (h.1.mono hb.size), h.2⟩
theorem Ev2.shape {N : Nat} {w : World} {r : Rl (List Int)} {e : Ending} {w' : World} (h : Ev2 N w r e w') : ∃ lv, e = .returned (.tuple #[lv, .int .i64 r.c]) := by
  rcases h.2 with ⟨hc, g, br, he, _⟩ | ⟨_, he⟩
  · exact ⟨_, by rw [hc]; exact he⟩
  · exact ⟨_, he⟩

set_option maxRecDepth 100000 in
set_option maxHeartbeats 3200000 in
theorem iPointS (o : Int) (N : Nat) (ho : o + 1 = (N : Int)) (hN1 : 1 ≤ N) (hN2 : N ≤ 13) (fs : List Fn) (ap : Option Addr) (capp : Nat) (j : Nat) (af : Option Addr) (cf : Nat) (br0 : Nat) (aa : Option Addr) (ca : Nat) (args : List (List Int)) (w : World)
    (hpb : progB fs = true) (hj : j < fs.length) (hfl : fs.length ≤ 1048576) (hP : Pat w 0 w.heap.size fs ap) (hFo : Fat w 0 w.heap.size (fs.getD j noFn).outs af) (hA : En w br0 (fun _ => True) N aa args) (hal : (args.length : Int) = (fs.getD j noFn).params) (hca : args.length ≤ ca) (hca2 : ca ≤ 9223372036854775807) :
    Calls Tryz.prog 56 #[.agg #[(ofS o), .slice ap fs.length capp, .string (fs.getD j noFn).name, .int .i64 (fs.getD j noFn).params, .slice af (fs.getD j noFn).outs.len cf, .slice aa args.length ca]] w (Ev2 N w (lisE (sA N) (evE (sA N) fs 3001) (fs.getD j noFn).outs args 0 (fs.getD j noFn).outs.len)) := by
  obtain ⟨w1, hw1⟩ : ∃ w1, w1 = w.alloc (.cells #[(ofS o), .slice ap fs.length capp, .string (fs.getD j noFn).name, .int .i64 (fs.getD j noFn).params, .slice af (fs.getD j noFn).outs.len cf, .slice aa args.length ca] 96) := ⟨_, rfl⟩
  have b1 : Below w.heap.size w w1 := by rw [hw1]; exact (Below.refl _ _).alloc (Nat.le_refl _) _
  have p0 : w1.cell? ⟨w.heap.size, 0, none⟩ = some (ofS o) := by rw [hw1]; simp [go_sem]
  have p1 : w1.cell? ⟨w.heap.size, 1, none⟩ = some (.slice ap fs.length capp) := by rw [hw1]; simp [go_sem]
  have p2 : w1.cell? ⟨w.heap.size, 2, none⟩ = some (.string (fs.getD j noFn).name) := by rw [hw1]; simp [go_sem]
  have p3 : w1.cell? ⟨w.heap.size, 3, none⟩ = some (.int .i64 (fs.getD j noFn).params) := by rw [hw1]; simp [go_sem]
  have p4 : w1.cell? ⟨w.heap.size, 4, none⟩ = some (.slice af (fs.getD j noFn).outs.len cf) := by rw [hw1]; simp [go_sem]
  have p5 : w1.cell? ⟨w.heap.size, 5, none⟩ = some (.slice aa args.length ca) := by rw [hw1]; simp [go_sem]
  have hs1 := b1.size
  have HV := Lib.hid (iEvaluateS o N ho hN1 hN2 fs ap capp j af cf br0 aa ca args w1 hpb hj hfl ((hP.below b1).mono (Nat.le_refl _) hs1) ((hFo.agree (fun i _ h2 => b1.block i h2)).mono (Nat.le_refl _) hs1) (hA.next b1) hal hca hca2)
  generalize lisE (sA N) (evE (sA N) fs 3001) (fs.getD j noFn).outs args 0 (fs.getD j noFn).outs.len = r at HV ⊢
  clear hP hFo hA hal
  generalize (fs.getD j noFn).name = nm at *
  generalize (fs.getD j noFn).params = pa at *
  generalize (fs.getD j noFn).outs.len = mo at *
  go_enter Tryz.func56, Tryz.ntmps56
  go_wp2_with fail
  rw [← hw1]
  clear hw1
  refine HV.out.mono ?_; rintro e w2 ⟨b2, ⟨hc, g, br, rfl, hen⟩ | ⟨hc, rfl⟩⟩
  · go_wp2_with fail
    go_ret2
    exact ⟨b1.trans (b2.mono hs1), .inl ⟨hc, g, br, rfl, hen⟩⟩
  · go_wp2_with fail
    go_ret2
    exact ⟨b1.trans (b2.mono hs1), .inr ⟨hc, rfl⟩⟩

end Sr

end Go.Proofs.YtldbhhocoolloaaGreat

namespace Go.Proofs.YtldbhhocoolloaaGreat
open Go.RowKit
set_option linter.unusedVariables false

namespace Sr
theorem Apart.line {wr w : World} {L g bv N m i : Nat} {vs : List (List Int)} {g0 cap : Nat} {x : List Int} {y : Int} (h : Apart wr L g bv N m i vs) (hb : Below wr.heap.size wr w) (hi : i < m) (hv : vs.length = i) (ho : Own wr.heap.size w g0 cap x) (hl : x.length = N) (hn : Nums (x.set 1 y)) (hbv : bv < wr.heap.size) :
    Apart ((w.setCell ⟨g, i, none⟩ (.slice (some ⟨g0, 0, none⟩) N cap)).setCell ⟨g0, 1, none⟩ (.int .i64 y)) L g bv N m (i + 1) (vs ++ [x.set 1 y]) := by
  have hfar := fun a x => h.far (a := a) (x := x)
  have hgb := h.base
  have hg0 := ho.base
  obtain ⟨us, h1, hs, h2⟩ := h
  have hu := h1.1
  have hne : g0 ≠ g := by omega
  have h1w := World.ownsRow.kept h1 (below_grownBy hb) (.inr (by simp [Value.ownBlock]))
  have h1s := (h1w.stored i (.slice (some ⟨g0, 0, none⟩) N cap)).1
  have h1f := World.ownsRow.kept h1s (grownBy_set (w.setCell ⟨g, i, none⟩ (.slice (some ⟨g0, 0, none⟩) N cap)) g0 1 (.int .i64 y)) (.inr (by simp [Value.ownBlock]; omega))
  refine ⟨us.set i (.slice (some ⟨g0, 0, none⟩) N cap), h1f, fun u hu => ?_, fun k hk => ?_⟩
  · rcases List.mem_or_eq_of_mem_set hu with hu | rfl
    · exact hs u hu
    · exact ⟨_, _, _, rfl⟩
  · by_cases e : k < i
    · obtain ⟨ak, ck, h3, h4, h5⟩ := h2 k e
      rw [snoc_lt (by omega)]
      refine ⟨ak, ck, by rw [List.getElem?_set_ne (by omega)]; exact h3, ls_set (ls_set (h4.next hb) (hfar _ _ h4.at_) _) (fun q hq => ?_) _, h5⟩
      have := ls_lt h4 q hq
      show q ≠ g0
      omega
    · obtain rfl : k = i := by omega
      rw [← hv, snoc_eq]
      have ho2 := (ho.setOther (p := ⟨g, vs.length, none⟩) (by show g ≠ g0; omega) (.slice (some ⟨g0, 0, none⟩) N cap)).set 1 y
      exact ⟨some ⟨g0, 0, none⟩, cap, by rw [List.getElem?_set_self (by omega)], ho2.ls (bv := bv) hbv, by rw [List.length_set]; exact hl, hn⟩

set_option maxRecDepth 100000 in
set_option maxHeartbeats 6400000 in
theorem iLine (o : Int) (N : Nat) (ho : o + 1 = (N : Int)) (hN1 : 1 ≤ N) (hN2 : N ≤ 13) (bp : Nat) (aa da : Option Addr) (ca cd : Nat) (args dir : List Int) (w : World) (hbp : bp < w.heap.size) (hA : At w aa args) (hD : At w da dir) (hl : dir.length = args.length) (hal : args.length ≤ 12) (hN : Nums args) (hM : Nums dir) :
    Calls Tryz.prog 102 #[.agg #[.int .i64 o], .slice aa args.length ca, .slice da dir.length cd] w fun e w' => ∃ g, e = .returned (.slice (some ⟨g, 0, none⟩) args.length args.length) ∧ En w' bp (fun _ => True) N (some ⟨g, 0, none⟩) (lnT args dir N args.length) ∧ Below w.heap.size w w' := by
  obtain ⟨i0, hi, hz0, hz1, hz2⟩ := info_parts infoS
  obtain ⟨w0, hw0⟩ : ∃ w0, w0 = w.alloc (.cells #[.int .i64 o] 91) := ⟨_, rfl⟩
  have b0 : Below w.heap.size w w0 := by rw [hw0]; exact (Below.refl _ _).alloc (Nat.le_refl _) _
  have z0 : w0.heap.size = w.heap.size + 1 := by rw [hw0]; simp
  have x0 : w0.cell? ⟨w.heap.size, 0, none⟩ = some (.int .i64 o) := by rw [hw0]; simp [go_sem]
  have HA := Lib.hid hA
  have HD := Lib.hid hD
  have HN := Lib.hid hN
  have HM := Lib.hid hM
  have HLE := Lib.hid hl
  clear hA hD hN hM hl
  go_enter Tryz.func102, Tryz.ntmps102
  go_wp2_with (refine wpList_make_full _ rfl _ _ 87 rfl (w.heap.size + 1) 98 i0 (.slice none 0 0) 1 Tryz.underlying87 hi hz0 hz1 .i64 .i64 _ _ args.length rfl rfl rfl rfl ?c2 ?c3 (by simp) ?_)
  case c2 => rw [hz2]; omega
  case c3 => unfold maxLen; omega
  intro w1 ho1 hg1
  rw [← hw0] at hg1
  have hb1 : Below w.heap.size w w1 := b0.trans (((Below.refl w0.heap.size w0).grown hg1 (Nat.le_refl _) (by intro k hk; cases hk)).mono (by omega))
  have x1 : w1.cell? ⟨w.heap.size, 0, none⟩ = some (.int .i64 o) := ((Below.refl w0.heap.size w0).grown hg1 (Nat.le_refl _) (by intro k hk; cases hk)).cell (p := ⟨w.heap.size, 0, none⟩) (by show w.heap.size < _; omega) |>.trans x0
  have HO0 : Hid (Apart w1 (w.heap.size + 1) (w.heap.size + 1) bp N args.length 0 (lnT args dir N 0)) := Apart.start (by simpa using ho1)
  have HB0 : Hid (Below w.heap.size w w1) := hb1
  have HX0 : Hid (w1.cell? ⟨w.heap.size, 0, none⟩ = some (.int .i64 o)) := x1
  clear ho1 hg1 hi hz0 hz1 hz2 hb1 x1 hw0 x0 b0 z0
  go_wp2_with fail
  go_loopw [8, 14] (fun _ x wr => ∃ i : Nat, i ≤ args.length ∧ x = .int .i64 i ∧ Hid (Apart wr (w.heap.size + 1) (w.heap.size + 1) bp N args.length i (lnT args dir N i)) ∧ Hid (Below w.heap.size w wr) ∧ Hid (wr.cell? ⟨w.heap.size, 0, none⟩ = some (.int .i64 o))) (fun _ x _ => args.length - (intOf x).toNat)
  case atStart => exact ⟨0, Nat.zero_le _, rfl, HO0.out, HB0.out, HX0.out⟩
  case round =>
    obtain ⟨i, hi2, rfl, HO, HB, HX⟩ := hrel
    clear HO0 HB0 HX0
    have hgb := HO.out.base
    have hzr := HB.out.size
    have x0 := HX.out
    by_cases hlt : i < args.length
    · have hii : (i : Int) < (args.length : Int) := by omega
      have hid : (i : Int) < (dir.length : Int) := by rw [HLE.out]; exact hii
      obtain ⟨b7, o7, rfl, hb7w, hc7⟩ := HA.out.resolve_left (by intro e; rw [e] at hlt; simp at hlt)
      obtain ⟨b8, o8, rfl, hb8w, hc8⟩ := HD.out.resolve_left (by intro e; have := HLE.out; rw [e] at this; simp at this; omega)
      have hx := (HB.out.cell (p := ⟨b7, o7 + i, none⟩) hb7w).trans (hc7 i hlt)
      have hy := (HB.out.cell (p := ⟨b8, o8 + i, none⟩) hb8w).trans (hc8 i (by rw [HLE.out]; exact hlt))
      have hXr := HN.out.at i
      have HYr := Lib.hid (HM.out.at i)
      have HTK : Hid (lnT args dir N (i + 1) = lnT args dir N i ++ [rowL (args.getD i 0) (dir.getD i 0) N]) := lnT_succ args dir N i
      have HTL := Lib.hid (lnT_len args dir N i)
      have HQC := fun W => Lib.hid (qConst (args.getD i 0) o N ho hN1 (by omega) hXr W)
      have HXR := Lib.hid hXr
      clear hc7 hc8 HA HD hXr
      generalize args.getD i 0 = x at *
      generalize dir.getD i 0 = y at *
      go_wp2_with fail
      go_region_held3 (fun w' => w'.cell? ⟨w.heap.size, 0, none⟩ = some (.int .i64 o) ∧ w'.cell? ⟨b7, o7 + i, none⟩ = some (.int .i64 x))
        (first
          | with_reducible exact ⟨x0, hx⟩
          | with_reducible exact Y0.out
          | with_reducible exact Y1.out
          | go_keep)
        ((go_at_call 118; refine (HQC _).out.mono ?_; rintro e v0 ⟨g0, c0, rfl, o0', l0, n0, d0'⟩; have d0 : Below wr.heap.size wr v0 := ⟨d0'.os, d0'.tape, d0'.output, d0'.size, d0'.block⟩; have o0 : Own wr.heap.size v0 g0 c0 (cstl x N) := o0'; have hg0 := o0.base; have Y0 : Hid (v0.cell? ⟨w.heap.size, 0, none⟩ = some (.int .i64 o) ∧ v0.cell? ⟨b7, o7 + i, none⟩ = some (.int .i64 x)) := ⟨(d0.cell (p := ⟨w.heap.size, 0, none⟩) (by show w.heap.size < _; omega)).trans x0, (d0.cell (p := ⟨b7, o7 + i, none⟩) (by show b7 < _; omega)).trans hx⟩; obtain ⟨z, hcs⟩ := (HO.out.next d0).cell hlt; have hfr := (HO.out.next d0).frz i; have Y1 : Hid ((v0.setCell ⟨w.heap.size + 1, i, none⟩ (.slice (some ⟨g0, 0, none⟩) N c0)).cell? ⟨w.heap.size, 0, none⟩ = some (.int .i64 o) ∧ (v0.setCell ⟨w.heap.size + 1, i, none⟩ (.slice (some ⟨g0, 0, none⟩) N c0)).cell? ⟨b7, o7 + i, none⟩ = some (.int .i64 x)) := ⟨(World.cell?_setCell_other _ _ _ _ (by simp)).trans Y0.out.1, (World.cell?_setCell_other _ _ _ _ (by simp <;> omega)).trans Y0.out.2⟩))
      all_goals
        obtain ⟨x0', _⟩ := Y1.out
        have hY : (v0.setCell ⟨w.heap.size + 1, i, none⟩ (.slice (some ⟨g0, 0, none⟩) N c0)).cell? ⟨b8, o8 + i, none⟩ = some (.int .i64 y) := (World.cell?_setCell_other _ _ _ _ (by simp <;> omega)).trans ((d0.cell (p := ⟨b8, o8 + i, none⟩) (by show b8 < _; omega)).trans hy)
        have hG : (v0.setCell ⟨w.heap.size + 1, i, none⟩ (.slice (some ⟨g0, 0, none⟩) N c0)).cell? ⟨w.heap.size + 1, i, none⟩ = some (.slice (some ⟨g0, 0, none⟩) N c0) := World.cell?_setCell_same _ _ _ hcs
        have B1 : Below w.heap.size w (v0.setCell ⟨w.heap.size + 1, i, none⟩ (.slice (some ⟨g0, 0, none⟩) N c0)) := (HB.out.trans (d0.mono hzr)).setCell (p := ⟨w.heap.size + 1, i, none⟩) (by show w.heap.size ≤ w.heap.size + 1; omega) _
        have hbw : bp < wr.heap.size := by omega
        by_cases hpos : (0 : Int) < o
        · have h1n : (1 : Int) < (N : Int) := by omega
          have o1 : Own wr.heap.size (v0.setCell ⟨w.heap.size + 1, i, none⟩ (.slice (some ⟨g0, 0, none⟩) N c0)) g0 c0 (cstl x N) := o0.setOther (p := ⟨w.heap.size + 1, i, none⟩) (by show w.heap.size + 1 ≠ g0; omega) _
          have hcs1 := o1.cellAt 1 (by rw [cstl_len]; omega)
          have hfr1 := o1.frz 1
          have HF : Hid (Apart ((v0.setCell ⟨w.heap.size + 1, i, none⟩ (.slice (some ⟨g0, 0, none⟩) N c0)).setCell ⟨g0, 1, none⟩ (.int .i64 y)) (w.heap.size + 1) (w.heap.size + 1) bp N args.length (i + 1) (lnT args dir N (i + 1))) := by
            show Apart _ _ _ _ _ _ _ _
            rw [HTK.out]
            exact Apart.line HO.out d0 hlt HTL.out o0 l0 (rowL_nums (n := N) HXR.out HYr.out) hbw
          have HBF : Hid (Below w.heap.size w ((v0.setCell ⟨w.heap.size + 1, i, none⟩ (.slice (some ⟨g0, 0, none⟩) N c0)).setCell ⟨g0, 1, none⟩ (.int .i64 y))) := B1.setCell (p := ⟨g0, 1, none⟩) (by show w.heap.size ≤ g0; omega) _
          have HXF : Hid (((v0.setCell ⟨w.heap.size + 1, i, none⟩ (.slice (some ⟨g0, 0, none⟩) N c0)).setCell ⟨g0, 1, none⟩ (.int .i64 y)).cell? ⟨w.heap.size, 0, none⟩ = some (.int .i64 o)) := (World.cell?_setCell_other _ _ _ _ (by simp <;> omega)).trans x0'
          generalize (cstl x N).getD 1 0 = z1 at hcs1
          have hne1 : ¬ g0 = w.heap.size + 1 := by omega
          generalize (v0.setCell ⟨w.heap.size + 1, i, none⟩ (.slice (some ⟨g0, 0, none⟩) N c0)) = v1 at *
          clear HO HB HTK HTL o1 o0 o0' Y0 Y1 hcs hfr HX x0
          go_wp2_with fail
          go_region
          all_goals
            go_wp2_with fail
            go_roundw
            case rel => exact ⟨i + 1, by omega, by go_num, HF.out.next (Below.refl _ _).drew, HBF.out.drew, HXF.out⟩
            case measure => simp [intOf]; omega
        · have e1 : rowL x y N = cstl x N := by
            unfold rowL
            exact List.set_eq_of_length_le (by rw [cstl_len]; omega)
          have HF : Hid (Apart (v0.setCell ⟨w.heap.size + 1, i, none⟩ (.slice (some ⟨g0, 0, none⟩) N c0)) (w.heap.size + 1) (w.heap.size + 1) bp N args.length (i + 1) (lnT args dir N (i + 1))) := by
            show Apart _ _ _ _ _ _ _ _
            rw [HTK.out, e1]
            exact (HO.out.next d0).push hlt HTL.out (o0.ls hbw) l0 n0
          have HBF := Lib.hid B1
          clear HO HB HTK HTL o0 o0' Y0 hcs hfr HX x0
          go_wp2_with fail
          go_roundw
          case rel => exact ⟨i + 1, by omega, by go_num, HF.out, HBF.out, x0'⟩
          case measure => simp [intOf]; omega
    · have hii : ¬ (i : Int) < (args.length : Int) := by omega
      obtain rfl : i = args.length := by omega
      go_wp2_with fail
      go_ret
      exact ⟨w.heap.size + 1, rfl, HO.out.en (lnT_len _ _ _ _) (by omega), HB.out⟩

end Sr

end Go.Proofs.YtldbhhocoolloaaGreat

namespace Go.Proofs.YtldbhhocoolloaaGreat
open Go.RowKit
set_option linter.unusedVariables false

namespace Sr
set_option maxRecDepth 100000 in
set_option maxHeartbeats 6400000 in
theorem iTaylor (o : Int) (N : Nat) (ho : o + 1 = (N : Int)) (hN1 : 1 ≤ N) (hN2 : N ≤ 13) (fs : List Fn) (ap : Option Addr) (capp : Nat) (j : Nat) (af : Option Addr) (cf : Nat) (aa da : Option Addr) (ca cd : Nat) (args dir : List Int) (w : World)
    (hpb : progB fs = true) (hj : j < fs.length) (hfl : fs.length ≤ 1048576) (hP : Pat w 0 w.heap.size fs ap) (hFo : Fat w 0 w.heap.size (fs.getD j noFn).outs af) (hA : At w aa args) (hD : At w da dir) (hl : dir.length = args.length) (hN : Nums args) (hM : Nums dir) (hal : (args.length : Int) = (fs.getD j noFn).params) (hca : args.length ≤ ca) (hca2 : ca ≤ 9223372036854775807) :
    Calls Tryz.prog 68 #[.agg #[ofN, .slice ap fs.length capp, .string (fs.getD j noFn).name, .int .i64 (fs.getD j noFn).params, .slice af (fs.getD j noFn).outs.len cf, .slice aa args.length ca], .slice da dir.length cd, .int .i64 o] w (Ev2 N w (lisE (sA N) (evE (sA N) fs 3001) (fs.getD j noFn).outs (lnT args dir N args.length) 0 (fs.getD j noFn).outs.len)) := by
  obtain ⟨w1, hw1⟩ : ∃ w1, w1 = (w.alloc (.cells #[ofN, .slice ap fs.length capp, .string (fs.getD j noFn).name, .int .i64 (fs.getD j noFn).params, .slice af (fs.getD j noFn).outs.len cf, .slice aa args.length ca] 73)) := ⟨_, rfl⟩
  have b1 : Below w.heap.size w w1 := by rw [hw1]; exact (Below.refl _ _).alloc (Nat.le_refl _) _
  have z1 : w1.heap.size = w.heap.size + 1 := by rw [hw1]; simp
  have p0 : w1.cell? ⟨w.heap.size, 0, none⟩ = some (ofN) := by rw [hw1]; simp [go_sem]
  have p1 : w1.cell? ⟨w.heap.size, 1, none⟩ = some (.slice ap fs.length capp) := by rw [hw1]; simp [go_sem]
  have p2 : w1.cell? ⟨w.heap.size, 2, none⟩ = some (.string (fs.getD j noFn).name) := by rw [hw1]; simp [go_sem]
  have p3 : w1.cell? ⟨w.heap.size, 3, none⟩ = some (.int .i64 (fs.getD j noFn).params) := by rw [hw1]; simp [go_sem]
  have p4 : w1.cell? ⟨w.heap.size, 4, none⟩ = some (.slice af (fs.getD j noFn).outs.len cf) := by rw [hw1]; simp [go_sem]
  have p5 : w1.cell? ⟨w.heap.size, 5, none⟩ = some (.slice aa args.length ca) := by rw [hw1]; simp [go_sem]
  obtain ⟨w2, hw2⟩ : ∃ w2, w2 = w1.alloc (.cells #[.int .i64 o] 91) := ⟨_, rfl⟩
  have b2' : Below w1.heap.size w1 w2 := by rw [hw2]; exact (Below.refl _ _).alloc (Nat.le_refl _) _
  have b2 : Below w.heap.size w w2 := b1.trans (b2'.mono (by omega))
  have z2 : w2.heap.size = w.heap.size + 1 + 1 := by rw [hw2]; simp [z1]
  have x0 : w2.cell? ⟨w.heap.size + 1, 0, none⟩ = some (.int .i64 o) := by rw [hw2, ← z1]; simp [go_sem]
  replace p1 := (b2'.cell (p := ⟨w.heap.size, 1, none⟩) (by show w.heap.size < _; omega)).trans p1
  replace p2 := (b2'.cell (p := ⟨w.heap.size, 2, none⟩) (by show w.heap.size < _; omega)).trans p2
  replace p3 := (b2'.cell (p := ⟨w.heap.size, 3, none⟩) (by show w.heap.size < _; omega)).trans p3
  replace p4 := (b2'.cell (p := ⟨w.heap.size, 4, none⟩) (by show w.heap.size < _; omega)).trans p4
  replace p5 := (b2'.cell (p := ⟨w.heap.size, 5, none⟩) (by show w.heap.size < _; omega)).trans p5
  have hargs : args.length ≤ 12 := by obtain ⟨g1, _, _⟩ := fn_parts (progB_fn hpb hj); omega
  have HLN := fun (W : World) (hW : Below w2.heap.size w2 W) => Lib.hid (iLine o N ho hN1 hN2 w.heap.size aa da ca cd args dir W (by have := hW.size; omega) ((hA.below b2 (Nat.le_refl _)).below hW (by omega)) ((hD.below b2 (Nat.le_refl _)).below hW (by omega)) hl hargs hN hM)
  have HPT := fun (g : Nat) (W : World) (hW : Below w2.heap.size w2 W) (hE : En W w.heap.size (fun _ => True) N (some ⟨g, 0, none⟩) (lnT args dir N args.length)) => Lib.hid (show Calls Tryz.prog 56 #[.agg #[(ofS o), .slice ap fs.length capp, .string (fs.getD j noFn).name, .int .i64 (fs.getD j noFn).params, .slice af (fs.getD j noFn).outs.len cf, .slice (some ⟨g, 0, none⟩) args.length args.length]] W (Ev2 N W (lisE (sA N) (evE (sA N) fs 3001) (fs.getD j noFn).outs (lnT args dir N args.length) 0 (fs.getD j noFn).outs.len)) from by
    have hbW : Below w.heap.size w W := b2.trans (hW.mono (by omega))
    have h := iPointS o N ho hN1 hN2 fs ap capp j af cf w.heap.size (some ⟨g, 0, none⟩) args.length (lnT args dir N args.length) W hpb hj hfl ((hP.below hbW).mono (Nat.le_refl _) hbW.size) ((hFo.agree (fun i _ h2 => hbW.block i h2)).mono (Nat.le_refl _) hbW.size) hE (by rw [lnT_len]; exact hal) (by rw [lnT_len]; exact Nat.le_refl _) (by omega)
    rw [lnT_len] at h
    exact h)
  generalize (lisE (sA N) (evE (sA N) fs 3001) (fs.getD j noFn).outs (lnT args dir N args.length) 0 (fs.getD j noFn).outs.len) = r at HPT ⊢
  clear hP hFo hA hD hal hN hM hl
  generalize (fs.getD j noFn).name = nm at *
  generalize (fs.getD j noFn).params = pa at *
  generalize (fs.getD j noFn).outs.len = mo at *
  generalize args.length = al at *
  have HY0 : Hid (w2.cell? ⟨w.heap.size, 1, none⟩ = some (.slice ap fs.length capp) ∧ w2.cell? ⟨w.heap.size, 2, none⟩ = some (.string nm) ∧ w2.cell? ⟨w.heap.size, 3, none⟩ = some (.int .i64 pa) ∧ w2.cell? ⟨w.heap.size, 4, none⟩ = some (.slice af mo cf) ∧ w2.cell? ⟨w.heap.size, 5, none⟩ = some (.slice aa al ca) ∧ w2.cell? ⟨w.heap.size + 1, 0, none⟩ = some (.int .i64 o)) := ⟨p1, p2, p3, p4, p5, x0⟩
  go_enter Tryz.func68, Tryz.ntmps68
  go_wp2_with fail
  rw [← hw1]
  rw [← hw2]
  clear hw1 hw2
  go_region_held3 (fun w' => w'.cell? ⟨w.heap.size, 1, none⟩ = some (.slice ap fs.length capp) ∧ w'.cell? ⟨w.heap.size, 2, none⟩ = some (.string nm) ∧ w'.cell? ⟨w.heap.size, 3, none⟩ = some (.int .i64 pa) ∧ w'.cell? ⟨w.heap.size, 4, none⟩ = some (.slice af mo cf) ∧ w'.cell? ⟨w.heap.size, 5, none⟩ = some (.slice aa al ca) ∧ w'.cell? ⟨w.heap.size + 1, 0, none⟩ = some (.int .i64 o))
    (first
      | with_reducible exact HY0.out
      | with_reducible exact Y1.out
      | with_reducible exact Y2.out
      | go_keep)
    (first
      | (go_at_call 102; refine (HLN _ (by first | exact Below.refl _ _ | exact (Below.refl _ _).drew)).out.mono ?_; rintro e v1 ⟨g1, rfl, hE1, d1'⟩; have d1 : Below w2.heap.size w2 v1 := ⟨d1'.os, d1'.tape, d1'.output, d1'.size, d1'.block⟩; have Y1 : Hid (v1.cell? ⟨w.heap.size, 1, none⟩ = some (.slice ap fs.length capp) ∧ v1.cell? ⟨w.heap.size, 2, none⟩ = some (.string nm) ∧ v1.cell? ⟨w.heap.size, 3, none⟩ = some (.int .i64 pa) ∧ v1.cell? ⟨w.heap.size, 4, none⟩ = some (.slice af mo cf) ∧ v1.cell? ⟨w.heap.size, 5, none⟩ = some (.slice aa al ca) ∧ v1.cell? ⟨w.heap.size + 1, 0, none⟩ = some (.int .i64 o)) := ⟨(d1.cell (p := ⟨w.heap.size, 1, none⟩) (by show w.heap.size < _; omega)).trans p1, (d1.cell (p := ⟨w.heap.size, 2, none⟩) (by show w.heap.size < _; omega)).trans p2, (d1.cell (p := ⟨w.heap.size, 3, none⟩) (by show w.heap.size < _; omega)).trans p3, (d1.cell (p := ⟨w.heap.size, 4, none⟩) (by show w.heap.size < _; omega)).trans p4, (d1.cell (p := ⟨w.heap.size, 5, none⟩) (by show w.heap.size < _; omega)).trans p5, (d1.cell (p := ⟨w.heap.size + 1, 0, none⟩) (by show w.heap.size + 1 < _; omega)).trans x0⟩)
      | (go_at_call 56; refine (HPT _ _ d1 hE1).out.mono ?_; intro e v2 h2; have Y2 : Hid (v2.cell? ⟨w.heap.size, 1, none⟩ = some (.slice ap fs.length capp) ∧ v2.cell? ⟨w.heap.size, 2, none⟩ = some (.string nm) ∧ v2.cell? ⟨w.heap.size, 3, none⟩ = some (.int .i64 pa) ∧ v2.cell? ⟨w.heap.size, 4, none⟩ = some (.slice af mo cf) ∧ v2.cell? ⟨w.heap.size, 5, none⟩ = some (.slice aa al ca) ∧ v2.cell? ⟨w.heap.size + 1, 0, none⟩ = some (.int .i64 o)) := ⟨(h2.1.cell (p := ⟨w.heap.size, 1, none⟩) (by show w.heap.size < _; have := d1.size; omega)).trans Y1.out.1, (h2.1.cell (p := ⟨w.heap.size, 2, none⟩) (by show w.heap.size < _; have := d1.size; omega)).trans Y1.out.2.1, (h2.1.cell (p := ⟨w.heap.size, 3, none⟩) (by show w.heap.size < _; have := d1.size; omega)).trans Y1.out.2.2.1, (h2.1.cell (p := ⟨w.heap.size, 4, none⟩) (by show w.heap.size < _; have := d1.size; omega)).trans Y1.out.2.2.2.1, (h2.1.cell (p := ⟨w.heap.size, 5, none⟩) (by show w.heap.size < _; have := d1.size; omega)).trans Y1.out.2.2.2.2.1, (h2.1.cell (p := ⟨w.heap.size + 1, 0, none⟩) (by show w.heap.size + 1 < _; have := d1.size; omega)).trans Y1.out.2.2.2.2.2⟩; have hf := Lib.hid (h2.from (b2.trans (d1.mono (by omega)))); obtain ⟨lv, rfl⟩ := h2.shape))
  all_goals
    go_wp2_with fail
    go_ret2
    exact hf.out

/-- a coefficient of an output, and a code -/
def cfV (r : Rl (List Int)) (pick order : Nat) : Int := if r.c = 0 then (r.l.getD pick []).getD order 0 else 0
set_option maxRecDepth 100000 in
set_option maxHeartbeats 6400000 in
theorem iCoef (o : Int) (N : Nat) (ho : o + 1 = (N : Int)) (hN1 : 1 ≤ N) (hN2 : N ≤ 13) (fs : List Fn) (ap : Option Addr) (capp : Nat) (j : Nat) (af : Option Addr) (cf : Nat) (aa da : Option Addr) (ca cd : Nat) (args dir : List Int) (w : World)
    (hpb : progB fs = true) (hj : j < fs.length) (hfl : fs.length ≤ 1048576) (hP : Pat w 0 w.heap.size fs ap) (hFo : Fat w 0 w.heap.size (fs.getD j noFn).outs af) (hA : At w aa args) (hD : At w da dir) (hl : dir.length = args.length) (hN : Nums args) (hM : Nums dir) (hal : (args.length : Int) = (fs.getD j noFn).params) (hca : args.length ≤ ca) (hca2 : ca ≤ 9223372036854775807) (pick : Nat) (hpk : pick < (fs.getD j noFn).outs.len) :
    Calls Tryz.prog 73 #[.agg #[ofN, .slice ap fs.length capp, .string (fs.getD j noFn).name, .int .i64 (fs.getD j noFn).params, .slice af (fs.getD j noFn).outs.len cf, .slice aa args.length ca], .int .i64 pick, .slice da dir.length cd, .int .i64 o] w fun e w' => e = .returned (.tuple #[.int .i64 (cfV (lisE (sA N) (evE (sA N) fs 3001) (fs.getD j noFn).outs (lnT args dir N args.length) 0 (fs.getD j noFn).outs.len) pick o.toNat), .int .i64 (lisE (sA N) (evE (sA N) fs 3001) (fs.getD j noFn).outs (lnT args dir N args.length) 0 (fs.getD j noFn).outs.len).c]) ∧ Below w.heap.size w w' ∧ (0 ≤ cfV (lisE (sA N) (evE (sA N) fs 3001) (fs.getD j noFn).outs (lnT args dir N args.length) 0 (fs.getD j noFn).outs.len) pick o.toNat ∧ cfV (lisE (sA N) (evE (sA N) fs 3001) (fs.getD j noFn).outs (lnT args dir N args.length) 0 (fs.getD j noFn).outs.len) pick o.toNat < 1000003) := by
  obtain ⟨w1, hw1⟩ : ∃ w1, w1 = (w.alloc (.cells #[ofN, .slice ap fs.length capp, .string (fs.getD j noFn).name, .int .i64 (fs.getD j noFn).params, .slice af (fs.getD j noFn).outs.len cf, .slice aa args.length ca] 73)) := ⟨_, rfl⟩
  have b1 : Below w.heap.size w w1 := by rw [hw1]; exact (Below.refl _ _).alloc (Nat.le_refl _) _
  have hs1 := b1.size
  have p0 : w1.cell? ⟨w.heap.size, 0, none⟩ = some (ofN) := by rw [hw1]; simp [go_sem]
  have p1 : w1.cell? ⟨w.heap.size, 1, none⟩ = some (.slice ap fs.length capp) := by rw [hw1]; simp [go_sem]
  have p2 : w1.cell? ⟨w.heap.size, 2, none⟩ = some (.string (fs.getD j noFn).name) := by rw [hw1]; simp [go_sem]
  have p3 : w1.cell? ⟨w.heap.size, 3, none⟩ = some (.int .i64 (fs.getD j noFn).params) := by rw [hw1]; simp [go_sem]
  have p4 : w1.cell? ⟨w.heap.size, 4, none⟩ = some (.slice af (fs.getD j noFn).outs.len cf) := by rw [hw1]; simp [go_sem]
  have p5 : w1.cell? ⟨w.heap.size, 5, none⟩ = some (.slice aa args.length ca) := by rw [hw1]; simp [go_sem]
  have HT := Lib.hid (iTaylor o N ho hN1 hN2 fs ap capp j af cf aa da ca cd args dir w1 hpb hj hfl ((hP.below b1).mono (Nat.le_refl _) hs1) ((hFo.agree (fun i _ h2 => b1.block i h2)).mono (Nat.le_refl _) hs1) (hA.below b1 (Nat.le_refl _)) (hD.below b1 (Nat.le_refl _)) hl hN hM hal hca hca2)
  have HLE : Hid ((lisE (sA N) (evE (sA N) fs 3001) (fs.getD j noFn).outs (lnT args dir N args.length) 0 (fs.getD j noFn).outs.len).c = 0 → (lisE (sA N) (evE (sA N) fs 3001) (fs.getD j noFn).outs (lnT args dir N args.length) 0 (fs.getD j noFn).outs.len).l.length = (fs.getD j noFn).outs.len) := lisE_len _
  generalize (lisE (sA N) (evE (sA N) fs 3001) (fs.getD j noFn).outs (lnT args dir N args.length) 0 (fs.getD j noFn).outs.len) = r at HT HLE ⊢
  clear hP hFo hA hD hal hN hM hl
  generalize (fs.getD j noFn).name = nm at *
  generalize (fs.getD j noFn).params = pa at *
  generalize (fs.getD j noFn).outs.len = mo at *
  obtain ⟨m, rfl⟩ := Int.eq_ofNat_of_zero_le (show 0 ≤ o by omega)
  rw [show (m : Int).toNat = m from rfl]
  go_enter Tryz.func73, Tryz.ntmps73
  go_wp2_with fail
  rw [← hw1]
  clear hw1
  refine HT.out.mono ?_; rintro e w2 ⟨b2, ⟨hc, g, br, rfl, hen⟩ | ⟨hc, rfl⟩⟩
  · have hln := HLE.out hc
    have hpl : pick < r.l.length := by omega
    have HV : Hid (cfV r pick m = (r.l.getD pick []).getD m 0) := if_pos hc
    obtain ⟨b7, o7, e7, hb7, hlt7, hall⟩ := hen.rows.resolve_left (by intro e; rw [e] at hpl; simp at hpl)
    cases e7
    obtain ⟨a5, c5, hx, hls, _⟩ := hall pick hpl
    rw [Nat.zero_add] at hx
    have hln5 := hen.len pick hpl
    have hnm := (hen.nums pick hpl).at m
    obtain ⟨b8, o8, rfl, hb8, hc8⟩ := hls.at_.resolve_left (by intro e; rw [e] at hln5; simp at hln5; omega)
    have hy := hc8 m (by omega)
    have hpi : (pick : Int) < (r.l.length : Int) := by omega
    have hmi : (m : Int) < (N : Int) := by omega
    have HC0 := Lib.hid hc
    clear hen hall hls hc8 HT HLE
    generalize (r.l.getD pick []).getD m 0 = x at hy hnm HV
    go_wp2_with fail
    go_ret2
    rw [HV.out, HC0.out]
    exact ⟨rfl, b1.trans (b2.mono hs1), hnm⟩
  · have hbf : (r.c != 0) = true := by simp [hc]
    have HV : Hid (cfV r pick m = 0) := if_neg hc
    clear HT HLE
    go_wp2_with fail
    go_ret2
    rw [HV.out]
    exact ⟨rfl, b1.trans (b2.mono hs1), by omega, by omega⟩

end Sr

end Go.Proofs.YtldbhhocoolloaaGreat

namespace Go.Proofs.YtldbhhocoolloaaGreat
open Go.RowKit
set_option linter.unusedVariables false

/-- a factorial: the product of 2 up to i + 1 -/
def facF : Nat → Int
  | 0 => 1
  | i + 1 => tms (facF i) ((i : Int) + 2)
theorem facF_bd : ∀ i, 0 ≤ facF i ∧ facF i < 1000003
  | 0 => by unfold facF; omega
  | i + 1 => tms_bd _ _
/-- the code for a place, an output, a direction and an order -/
def hdC (fs : List Fn) (f pick : Int) (args dir : List Int) (order : Int) : Int := if drC fs f args dir = 0 then (if (0 ≤ pick ∧ pick < ((fs.getD f.toNat noFn).outs.len : Int)) ∧ (0 ≤ order ∧ order < 13) then 0 else 2) else drC fs f args dir
def hdL (fs : List Fn) (f pick : Int) (args dir : List Int) (order : Int) : Rl (List Int) := if hdC fs f pick args dir order = 0 then lisE (sA (order.toNat + 1)) (evE (sA (order.toNat + 1)) fs 3001) (fs.getD f.toNat noFn).outs (lnT args dir (order.toNat + 1) args.length) 0 (fs.getD f.toNat noFn).outs.len else ⟨[], 0, hdC fs f pick args dir order⟩
theorem hdL_no {fs : List Fn} {f pick : Int} {args dir : List Int} {order : Int} (h : ¬ hdC fs f pick args dir order = 0) : hdL fs f pick args dir order = ⟨[], 0, hdC fs f pick args dir order⟩ := if_neg h
theorem hdL_yes {fs : List Fn} {f pick : Int} {args dir : List Int} {order : Int} (h : hdC fs f pick args dir order = 0) : hdL fs f pick args dir order = lisE (sA (order.toNat + 1)) (evE (sA (order.toNat + 1)) fs 3001) (fs.getD f.toNat noFn).outs (lnT args dir (order.toNat + 1) args.length) 0 (fs.getD f.toNat noFn).outs.len := if_pos h
/-- the answer -/
def hdV (r : Rl (List Int)) (pick order : Int) : Int := tms (facF (order.toNat - 1)) (Sr.cfV r pick.toNat order.toNat)
theorem hdV_no {r : Rl (List Int)} {pick order : Int} (h : ¬ r.c = 0) : hdV r pick order = 0 := by
  unfold hdV Sr.cfV
  rw [if_neg h]
  unfold tms
  simp

namespace Sr
set_option maxRecDepth 100000 in
set_option maxHeartbeats 3200000 in
theorem iFact (n : Nat) (hn : n ≤ 12) (w : World) :
    Calls Tryz.prog 75 #[.int .i64 n] w fun e w' => e = .returned (.int .i64 (facF (n - 1))) ∧ w = w' := by
  go_enter Tryz.func75, Tryz.ntmps75
  go_wp2_with fail
  go_loopw [3, 4] (fun v x wr => ∃ i : Nat, i ≤ n - 1 ∧ x = .int .i64 ((i : Int) + 2) ∧ v = .int .i64 (facF i) ∧ w = wr) (fun _ x _ => n + 2 - (intOf x).toNat)
  case atStart => exact ⟨0, Nat.zero_le _, rfl, rfl, rfl⟩
  case round =>
    obtain ⟨i, hi, rfl, rfl, rfl⟩ := hrel
    have hb := facF_bd i
    have HE : Hid (facF (i + 1) = tms (facF i) ((i : Int) + 2)) := rfl
    have HEN : Hid (¬ (i : Int) + 2 ≤ (n : Int) → facF (n - 1) = facF i) := fun h => by rw [show n - 1 = i by omega]
    generalize facF i = x at *
    have HT := fun W => Lib.hid (iTimes x ((i : Int) + 2) (by omega) (by omega) W)
    by_cases hlt : (i : Int) + 2 ≤ (n : Int)
    · clear HEN
      go_wp2_with fail
      refine (HT _).out.mono ?_; rintro e w' ⟨rfl, rfl⟩
      go_wp2_with fail
      go_roundw
      case rel => exact ⟨i + 1, by omega, by go_num, by rw [HE.out], by first | rfl | trivial⟩
      case measure => simp [intOf]; omega
    · clear HT
      go_wp2_with fail
      go_ret
      exact ⟨by rw [HEN.out hlt]; rfl, rfl⟩
set_option maxRecDepth 100000 in
theorem iUpTo (n : Int) (w : World) : Calls Tryz.prog 67 #[.int .i64 n] w fun e w' => e = .returned (.bool (decide (0 ≤ n ∧ n < 13))) ∧ w = w' := by
  have HC := Lib.hid (iIndex n 13 w)
  generalize decide (0 ≤ n ∧ n < 13) = bb at *
  go_enter Tryz.func67, Tryz.ntmps67
  go_wp2_with fail
  refine HC.out.mono ?_; rintro e w' ⟨rfl, rfl⟩
  go_wp2_with fail
  go_ret
  exact ⟨rfl, rfl⟩
set_option maxRecDepth 100000 in
theorem iHasOut (pick : Int) (ap : Option Addr) (fl capp : Nat) (nm : ByteArray) (pa : Int) (af : Option Addr) (mo cf : Nat) (aa : Option Addr) (al ca : Nat) (w : World) :
    Calls Tryz.prog 72 #[.agg #[ofN, .slice ap fl capp, .string nm, .int .i64 pa, .slice af mo cf, .slice aa al ca], .int .i64 pick] w fun e w' => e = .returned (.bool (decide (0 ≤ pick ∧ pick < (mo : Int)))) ∧ Below w.heap.size w w' := by
  have b1 : Below w.heap.size w (w.alloc (.cells #[ofN, .slice ap fl capp, .string nm, .int .i64 pa, .slice af mo cf, .slice aa al ca] 73)) := (Below.refl _ _).alloc (Nat.le_refl _) _
  have HC := Lib.hid (iIndex pick (mo : Int) (w.alloc (.cells #[ofN, .slice ap fl capp, .string nm, .int .i64 pa, .slice af mo cf, .slice aa al ca] 73)))
  generalize (decide (0 ≤ pick ∧ pick < (mo : Int))) = bb at *
  go_enter Tryz.func72, Tryz.ntmps72
  go_wp2_with fail
  refine HC.out.mono ?_; rintro e w' ⟨rfl, rfl⟩
  go_wp2_with fail
  go_ret
  exact ⟨rfl, b1⟩
set_option maxRecDepth 100000 in
theorem iHasDir (da : Option Addr) (cd : Nat) (dir : List Int) (ap : Option Addr) (fl capp : Nat) (nm : ByteArray) (pa : Int) (af : Option Addr) (mo cf : Nat) (aa : Option Addr) (al ca : Nat) (w : World) (hD : At w da dir) (hdl : dir.length ≤ 1048576) :
    Calls Tryz.prog 61 #[.agg #[ofN, .slice ap fl capp, .string nm, .int .i64 pa, .slice af mo cf, .slice aa al ca], .slice da dir.length cd] w fun e w' => e = .returned (.bool (areB dir pa)) ∧ Below w.heap.size w w' := by
  have b1 : Below w.heap.size w (w.alloc (.cells #[ofN, .slice ap fl capp, .string nm, .int .i64 pa, .slice af mo cf, .slice aa al ca] 73)) := (Below.refl _ _).alloc (Nat.le_refl _) _
  have HC := Lib.hid (iAre da cd dir pa (w.alloc (.cells #[ofN, .slice ap fl capp, .string nm, .int .i64 pa, .slice af mo cf, .slice aa al ca] 73)) (hD.below b1 (Nat.le_refl _)) hdl)
  generalize (areB dir pa) = bb at *
  go_enter Tryz.func61, Tryz.ntmps61
  go_wp2_with fail
  refine HC.out.mono ?_; rintro e w' ⟨rfl, rfl⟩
  go_wp2_with fail
  go_ret
  exact ⟨rfl, b1⟩

set_option maxRecDepth 100000 in
set_option maxHeartbeats 6400000 in
theorem iHigher (fs : List Fn) (ap : Option Addr) (capp : Nat) (f pick : Int) (aa da : Option Addr) (ca cd : Nat) (args dir : List Int) (order : Int) (w : World) (hP : Pat w 0 w.heap.size fs ap) (hsz : pgSize fs ≤ 1048576) (hcap : fs.length ≤ capp) (hcm : capp ≤ 1048576) (hA : At w aa args) (hal : args.length ≤ 1048576) (hca : args.length ≤ ca) (hca2 : ca ≤ 9223372036854775807) (hD : At w da dir) (hdl : dir.length ≤ 1048576) :
    Calls Tryz.prog 35 #[.agg #[.slice ap fs.length capp], .int .i64 f, .int .i64 pick, .slice aa args.length ca, .slice da dir.length cd, .int .i64 order] w fun e w' => e = .returned (.tuple #[.int .i64 (hdV (hdL fs f pick args dir order) pick order), .int .i64 (hdL fs f pick args dir order).c]) ∧ Below w.heap.size w w' := by
  have hfl : fs.length ≤ 1048576 := by unfold pgSize at hsz; omega
  obtain ⟨w0, hw0⟩ : ∃ w0, w0 = w.alloc (.cells #[.slice ap fs.length capp] 31) := ⟨_, rfl⟩
  have hb0 : Below w.heap.size w w0 := by rw [hw0]; exact (Below.refl _ _).alloc (Nat.le_refl _) _
  have c0 : w0.cell? ⟨w.heap.size, 0, none⟩ = some (.slice ap fs.length capp) := by rw [hw0]; simp [go_sem]
  have P0 := (hP.below hb0).mono (Nat.le_refl _) hb0.size
  have A0 := hA.below hb0 (Nat.le_refl _)
  have HF := Lib.hid (iPlaceOf fs ap capp f aa ca args w0 P0 hsz hcap hcm A0 hal)
  have HP := Lib.hid P0
  have HA := Lib.hid A0
  have HD := Lib.hid (hD.below hb0 (Nat.le_refl _))
  clear hP hA P0 A0 hD
  go_enter Tryz.func35, Tryz.ntmps35
  go_wp2_with fail
  rw [← hw0]
  clear hw0
  refine HF.out.mono ?_; rintro e w1 ⟨hb1, ⟨hn, rfl⟩ | ⟨hy, hfa, hab, af, cf, rfl, hFo⟩⟩
  · have hB1 := hb0.trans (hb1.mono hb0.size)
    have hbf : (plC fs f args != 0) = true := by simp [hn]
    have hdr : drC fs f args dir = plC fs f args := if_neg hn
    have hhd : hdC fs f pick args dir order = plC fs f args := by unfold hdC; rw [hdr, if_neg hn]
    have HX : Hid (hdL fs f pick args dir order = ⟨[], 0, plC fs f args⟩) := by show _ = _; rw [hdL_no (by rw [hhd]; exact hn), hhd]
    have HV0 : Hid (hdV ⟨[], 0, plC fs f args⟩ pick order = 0) := hdV_no hn
    have hs1 := hB1.size
    clear HF HP HA HD hn hdr hhd
    generalize plC fs f args = pc at *
    go_wp2_with fail
    go_ret2
    exact ⟨by rw [HX.out, HV0.out]; rfl, hB1.alloc hs1 _⟩
  · have hB1 := hb0.trans (hb1.mono hb0.size)
    obtain ⟨hp1, hf1, hf2⟩ := hfa
    obtain ⟨j, rfl⟩ := Int.eq_ofNat_of_zero_le hf1
    have ej : (j : Int).toNat = j := rfl
    rw [ej] at hab hFo ⊢
    have hj : j < fs.length := by omega
    have hln := areB_ln hab
    have hnm := areB_nm hab
    have hs1 := hb1.size
    obtain ⟨w2, hw2⟩ : ∃ w2, w2 = w1.alloc (.cells #[ofN, .slice ap fs.length capp, .string (fs.getD j noFn).name, .int .i64 (fs.getD j noFn).params, .slice af (fs.getD j noFn).outs.len cf, .slice aa args.length ca] 73) := ⟨_, rfl⟩
    have b2 : Below w1.heap.size w1 w2 := by rw [hw2]; exact (Below.refl _ _).alloc (Nat.le_refl _) _
    have p0 : w2.cell? ⟨w1.heap.size, 0, none⟩ = some (ofN) := by rw [hw2]; simp [go_sem]
    have p1 : w2.cell? ⟨w1.heap.size, 1, none⟩ = some (.slice ap fs.length capp) := by rw [hw2]; simp [go_sem]
    have p2 : w2.cell? ⟨w1.heap.size, 2, none⟩ = some (.string (fs.getD j noFn).name) := by rw [hw2]; simp [go_sem]
    have p3 : w2.cell? ⟨w1.heap.size, 3, none⟩ = some (.int .i64 (fs.getD j noFn).params) := by rw [hw2]; simp [go_sem]
    have p4 : w2.cell? ⟨w1.heap.size, 4, none⟩ = some (.slice af (fs.getD j noFn).outs.len cf) := by rw [hw2]; simp [go_sem]
    have p5 : w2.cell? ⟨w1.heap.size, 5, none⟩ = some (.slice aa args.length ca) := by rw [hw2]; simp [go_sem]
    have hb12 := hb1.trans (b2.mono hs1)
    have hB2 := hB1.trans (b2.mono hB1.size)
    have hDR : Hid (drC fs (j : Int) args dir = if areB dir (fs.getD j noFn).params = true then 0 else 2) := if_pos hy
    have HHD : Hid (hdC fs (j : Int) pick args dir order = if areB dir (fs.getD j noFn).params = true ∧ (0 ≤ pick ∧ pick < ((fs.getD j noFn).outs.len : Int)) ∧ (0 ≤ order ∧ order < 13) then 0 else 2) := by
      show _ = _
      unfold hdC
      rw [hDR.out, ej]
      by_cases h1 : areB dir (fs.getD j noFn).params = true
      · rw [if_pos h1, if_pos rfl]
        by_cases h2 : (0 ≤ pick ∧ pick < ((fs.getD j noFn).outs.len : Int)) ∧ (0 ≤ order ∧ order < 13)
        · rw [if_pos h2, if_pos ⟨h1, h2⟩]
        · rw [if_neg h2, if_neg (fun h => h2 h.2)]
      · rw [if_neg h1, if_neg (by decide), if_neg (fun h => h1 h.1)]
    have HBAD : Hid (¬ (areB dir (fs.getD j noFn).params = true ∧ (0 ≤ pick ∧ pick < ((fs.getD j noFn).outs.len : Int)) ∧ (0 ≤ order ∧ order < 13)) → hdL fs (j : Int) pick args dir order = ⟨[], 0, 2⟩ ∧ hdV ⟨[], 0, 2⟩ pick order = 0) := fun h => by
      have e : hdC fs (j : Int) pick args dir order = 2 := by rw [HHD.out, if_neg h]
      exact ⟨by rw [hdL_no (by rw [e]; decide), e], hdV_no (show ¬ (2 : Int) = 0 by decide)⟩
    have HGOOD : Hid (∀ m : Nat, order = (m : Int) → (areB dir (fs.getD j noFn).params = true ∧ (0 ≤ pick ∧ pick < ((fs.getD j noFn).outs.len : Int)) ∧ (0 ≤ order ∧ order < 13)) → hdL fs (j : Int) pick args dir order = lisE (sA (m + 1)) (evE (sA (m + 1)) fs 3001) (fs.getD j noFn).outs (lnT args dir (m + 1) args.length) 0 (fs.getD j noFn).outs.len) := by
      show ∀ m : Nat, _
      intro m hm h
      rw [hdL_yes (by rw [HHD.out, if_pos h]), hm]
      rfl
    have HO := fun W => Lib.hid (iHasOut pick ap fs.length capp (fs.getD j noFn).name (fs.getD j noFn).params af (fs.getD j noFn).outs.len cf aa args.length ca W)
    have HDI := fun (W : World) (hW : Below w2.heap.size w2 W) => Lib.hid (iHasDir da cd dir ap fs.length capp (fs.getD j noFn).name (fs.getD j noFn).params af (fs.getD j noFn).outs.len cf aa args.length ca W ((HD.out.below hb12 (Nat.le_refl _)).below hW (Nat.le_refl _)) hdl)
    have HU := fun W => Lib.hid (iUpTo order W)
    have HCO := fun (W : World) (hW : Below w2.heap.size w2 W) (m : Nat) (hm : order = (m : Int)) (pk : Nat) (hpk : pick = (pk : Int)) (hd : areB dir (fs.getD j noFn).params = true) (h1 : pick < ((fs.getD j noFn).outs.len : Int)) (h2 : order < 13) => Lib.hid (show Calls Tryz.prog 73 #[.agg #[ofN, .slice ap fs.length capp, .string (fs.getD j noFn).name, .int .i64 (fs.getD j noFn).params, .slice af (fs.getD j noFn).outs.len cf, .slice aa args.length ca], .int .i64 pick, .slice da dir.length cd, .int .i64 order] W (fun e w' => e = .returned (.tuple #[.int .i64 (cfV (hdL fs (j : Int) pick args dir order) pk m), .int .i64 (hdL fs (j : Int) pick args dir order).c]) ∧ Below W.heap.size W w' ∧ (0 ≤ cfV (hdL fs (j : Int) pick args dir order) pk m ∧ cfV (hdL fs (j : Int) pick args dir order) pk m < 1000003)) from by
      have hbW : Below w0.heap.size w0 W := hb12.trans (hW.mono hb12.size)
      rw [HGOOD.out m hm ⟨hd, ⟨by omega, h1⟩, by omega, h2⟩, hpk, hm]
      exact iCoef (m : Int) (m + 1) (by omega) (by omega) (by omega) fs ap capp j af cf aa da ca cd args dir W hp1 hj hfl ((HP.out.below hbW).mono (Nat.le_refl _) hbW.size) ((hFo.agree (fun i _ h2 => hbW.block i h2)).mono (Nat.le_refl _) hbW.size) (HA.out.below hbW (Nat.le_refl _)) (HD.out.below hbW (Nat.le_refl _)) (by have := areB_ln hd; omega) hnm (areB_nm hd) hln hca hca2 pk (by omega))
    clear HF HP HA HD HHD HGOOD hDR hFo hab hln hnm hy hp1 hf1 hf2 hb12 hb1
    obtain ⟨R, hR⟩ : ∃ R, hdL fs (j : Int) pick args dir order = R := ⟨_, rfl⟩
    rw [hR] at HBAD HCO
    have HRQ := Lib.hid hR
    clear hR
    generalize (fs.getD j noFn).name = nm at *
    generalize (fs.getD j noFn).params = pa at *
    generalize (fs.getD j noFn).outs.len = mo at *
    go_wp2_with fail
    rw [← hw2]
    clear hw2
    have HO2 := HO w2
    clear HO
    refine HO2.out.mono ?_; rintro e w3 ⟨rfl, b3⟩
    clear HO2
    replace p0 := (b3.cell (p := ⟨w1.heap.size, 0, none⟩) (cell_lt p0)).trans p0
    replace p1 := (b3.cell (p := ⟨w1.heap.size, 1, none⟩) (cell_lt p1)).trans p1
    replace p2 := (b3.cell (p := ⟨w1.heap.size, 2, none⟩) (cell_lt p2)).trans p2
    replace p3 := (b3.cell (p := ⟨w1.heap.size, 3, none⟩) (cell_lt p3)).trans p3
    replace p4 := (b3.cell (p := ⟨w1.heap.size, 4, none⟩) (cell_lt p4)).trans p4
    replace p5 := (b3.cell (p := ⟨w1.heap.size, 5, none⟩) (cell_lt p5)).trans p5
    have B3 := hB2.trans (b3.mono hB2.size)
    have BB3 : Below w2.heap.size w2 w3 := b3
    have hs3 := b3.size
    by_cases h1 : 0 ≤ pick ∧ pick < (mo : Int)
    rotate_left
    · have hd1 : decide (0 ≤ pick ∧ pick < (mo : Int)) = false := decide_eq_false h1
      have HX := Lib.hid (HBAD.out (fun h => h1 h.2.1))
      rw [hd1]
      clear HBAD HDI HU HCO h1
      go_wp2_with fail
      go_ret2
      exact ⟨by rw [HRQ.out, HX.out.1, HX.out.2]; rfl, B3⟩
    have hd1 : decide (0 ≤ pick ∧ pick < (mo : Int)) = true := decide_eq_true h1
    rw [hd1]
    have HD3 := HDI w3 BB3
    clear HDI
    cases hq : areB dir pa with
    | false =>
      rw [hq] at HD3
      have HX := Lib.hid (HBAD.out (fun h => by rw [hq] at h; exact absurd h.1 (by decide)))
      clear HBAD HU HCO hq h1 hd1
      go_wp2_with fail
      refine HD3.out.mono ?_; rintro e w4 ⟨rfl, b4⟩
      have B4 := B3.trans (b4.mono B3.size)
      go_wp2_with fail
      go_ret2
      exact ⟨by rw [HRQ.out, HX.out.1, HX.out.2]; rfl, B4⟩
    | true =>
      rw [hq] at HD3
      by_cases h2 : 0 ≤ order ∧ order < 13
      rotate_left
      · have hd2 : decide (0 ≤ order ∧ order < 13) = false := decide_eq_false h2
        rw [hd2] at HU
        have HX := Lib.hid (HBAD.out (fun h => h2 h.2.2))
        clear HBAD HCO hq h1 hd1 h2 hd2
        go_wp2_with fail
        refine HD3.out.mono ?_; rintro e w4 ⟨rfl, b4⟩
        have B4 := B3.trans (b4.mono B3.size)
        go_wp2_with fail
        refine (HU _).out.mono ?_; rintro e w5 ⟨rfl, rfl⟩
        go_wp2_with fail
        go_ret2
        exact ⟨by rw [HRQ.out, HX.out.1, HX.out.2]; rfl, B4⟩
      · have hd2 : decide (0 ≤ order ∧ order < 13) = true := decide_eq_true h2
        rw [hd2] at HU
        obtain ⟨m, hm⟩ := Int.eq_ofNat_of_zero_le h2.1
        obtain ⟨pk, hpk⟩ := Int.eq_ofNat_of_zero_le h1.1
        have HC4 := fun (W : World) (hW : Below w2.heap.size w2 W) => HCO W hW m hm pk hpk hq h1.2 h2.2
        have HFA := fun W => Lib.hid (show Calls Tryz.prog 75 #[.int .i64 order] W (fun e w' => e = .returned (.int .i64 (facF (m - 1))) ∧ W = w') from by rw [hm]; exact iFact m (by omega) W)
        have HV : Hid (hdV R pick order = tms (facF (m - 1)) (cfV R pk m)) := by show _ = _; unfold hdV; rw [hm, hpk]; rfl
        have hfb := facF_bd (m - 1)
        have HTM := fun (c : Int) (hc : 0 ≤ c ∧ c < 1000003) W => Lib.hid (iTimes (facF (m - 1)) c (by omega) (by omega) W)
        clear HBAD HCO hq h1 hd1 h2 hd2 hm hpk hfb
        generalize facF (m - 1) = fa at *
        go_wp2_with fail
        refine HD3.out.mono ?_; rintro e w4 ⟨rfl, b4⟩
        have B4 := B3.trans (b4.mono B3.size)
        have BB4 : Below w2.heap.size w2 w4 := BB3.trans (b4.mono hs3)
        replace p0 := (b4.cell (p := ⟨w1.heap.size, 0, none⟩) (cell_lt p0)).trans p0
        replace p1 := (b4.cell (p := ⟨w1.heap.size, 1, none⟩) (cell_lt p1)).trans p1
        replace p2 := (b4.cell (p := ⟨w1.heap.size, 2, none⟩) (cell_lt p2)).trans p2
        replace p3 := (b4.cell (p := ⟨w1.heap.size, 3, none⟩) (cell_lt p3)).trans p3
        replace p4 := (b4.cell (p := ⟨w1.heap.size, 4, none⟩) (cell_lt p4)).trans p4
        replace p5 := (b4.cell (p := ⟨w1.heap.size, 5, none⟩) (cell_lt p5)).trans p5
        have HC5 := HC4 w4 BB4
        clear HC4
        go_wp2_with fail
        refine (HU _).out.mono ?_; rintro e w5 ⟨rfl, rfl⟩
        go_wp2_with fail
        refine HC5.out.mono ?_; rintro e w6 ⟨rfl, b6, hcf⟩
        have B6 := B4.trans (b6.mono B4.size)
        have HTN := HTM _ hcf
        clear HTM HC5 hcf
        generalize cfV R pk m = cv at *
        go_wp2_with fail
        refine (HFA _).out.mono ?_; rintro e w7 ⟨rfl, rfl⟩
        go_wp2_with fail
        refine (HTN _).out.mono ?_; rintro e w8 ⟨rfl, rfl⟩
        go_wp2_with fail
        go_ret2
        exact ⟨by rw [HRQ.out, HV.out]; rfl, B6⟩

end Sr

end Go.Proofs.YtldbhhocoolloaaGreat
