/- Interpolate: the program by divided differences and Newton's form, the model one point after the other. -/
import Derived.Test.YtldbhhocoolloaaGreatFit
import Derived.Test.YtldbhhocoolloaaGreatRevW
import Derived.Laws.CopyOwn
namespace Go.Proofs.YtldbhhocoolloaaGreat
open Go.RowKit
set_option linter.unusedVariables false

theorem Own.full {B : Nat} {w : World} {g n : Nat} {l : List Int} (h : Own B w g n l) (hn : l.length = n) : w.heap[g]? = some (.cells (l.map (Value.int .i64)).toArray 2 (0, 0)) := by
  subst hn
  obtain ⟨h1, h2⟩ := h
  rcases h2 with ⟨h2, _⟩ | ⟨g', cap', cur, hv, hB, hh, hc, hm, hs, ht⟩
  · cases h2
  · simp only [Value.slice.injEq, Option.some.injEq, Addr.mk.injEq, true_and, and_true] at hv
    obtain ⟨rfl, rfl⟩ := hv
    rw [hh]
    congr 2
    rw [Nat.mul_one] at ht hs
    rw [List.take_of_length_le (by rw [Array.length_toList]; omega)] at ht
    rw [← ht]
theorem own_cells {B : Nat} {w : World} {g n : Nat} {l : List Int} (hn : l.length = n) (hB : B ≤ g) (hm : n ≤ maxLen) (h : w.heap[g]? = some (.cells (l.map (Value.int .i64)).toArray 2 (0, 0))) : Own B w g n l := by
  subst hn
  refine ⟨by simp, .inr ⟨g, l.length, _, rfl, hB, h, Nat.le_refl _, hm, by simp, ?_⟩⟩
  rw [List.take_of_length_le (by simp)]

/-- where the differences stand after k rounds -/
def dval (f : Nat → Int) (k q : Nat) : Int := if q ≤ k then ddf f q 0 else ddf f k (q - k)
/-- within the round k + 1: from i + 1 on it is done -/
def dmix (f : Nat → Int) (n k i : Nat) : List Int := tab (fun q => if i < q then dval f (k + 1) q else dval f k q) n
theorem dmix_len (f : Nat → Int) (n k i : Nat) : (dmix f n k i).length = n := tab_len _ _
theorem tab_congr {f g : Nat → Int} {n : Nat} (h : ∀ k, k < n → f k = g k) : tab f n = tab g n := by
  unfold tab
  exact List.map_congr_left fun k hk => h k (by simpa using hk)
theorem dmix_start (f : Nat → Int) (n k : Nat) : dmix f n k (n - 1) = tab (dval f k) n := tab_congr fun q hq => by rw [if_neg (by omega)]
theorem dval_same (f : Nat → Int) (k q : Nat) (h : q ≤ k) : dval f (k + 1) q = dval f k q := by unfold dval; rw [if_pos h, if_pos (by omega)]
theorem dmix_end (f : Nat → Int) (n k : Nat) : dmix f n k k = tab (dval f (k + 1)) n := tab_congr fun q _ => by
  split
  · rfl
  · exact (dval_same f k q (by omega)).symm
theorem dval_zero {l : List Int} : tab (dval (sq l) 0) l.length = l := tab_eq fun k hk => by
  unfold dval
  split
  · rw [show k = 0 from by omega]; rfl
  · show sq l (k - 0) = _; rw [Nat.sub_zero]; rfl
theorem dmix_get (f : Nat → Int) {n k i : Nat} (h : i < n) : (dmix f n k i).getD i 0 = dval f k i := by unfold dmix; rw [tab_at h, if_neg (by omega)]
theorem dmix_get' (f : Nat → Int) {n k i : Nat} (h : i < n) (h1 : 1 ≤ i) : (dmix f n k i).getD (i - 1) 0 = dval f k (i - 1) := by unfold dmix; rw [tab_at (by omega), if_neg (by omega)]
theorem dval_next (f : Nat → Int) (k i : Nat) (h : k < i) : tms (mns (dval f k i) (dval f k (i - 1))) (inv ((k : Int) + 1)) = dval f (k + 1) i := by
  have e1 : dval f k i = ddf f k (i - (k + 1) + 1) := by unfold dval; rw [if_neg (by omega), show i - (k + 1) + 1 = i - k from by omega]
  have e2 : dval f k (i - 1) = ddf f k (i - (k + 1)) := by
    unfold dval
    by_cases e : i - 1 ≤ k
    · rw [if_pos e, show i - 1 = k from by omega, show i - (k + 1) = 0 from by omega]
    · rw [if_neg e, show i - 1 - k = i - (k + 1) from by omega]
  have e3 : dval f (k + 1) i = ddf f (k + 1) (i - (k + 1)) := by
    unfold dval
    by_cases e : i ≤ k + 1
    · rw [if_pos e, show i = k + 1 from by omega, Nat.sub_self]
    · rw [if_neg e]
  rw [e1, e2, e3]; rfl
theorem dmix_set (f : Nat → Int) {n k i : Nat} (h : i < n) (h1 : k < i) : (dmix f n k i).set i (dval f (k + 1) i) = dmix f n k (i - 1) := by
  apply list_eq (by rw [List.length_set, dmix_len, dmix_len])
  intro q hq
  rw [List.length_set, dmix_len] at hq
  by_cases e : q = i
  · subst e
    rw [List.getD_eq_getElem?_getD, List.getElem?_set_self (by rw [dmix_len]; exact h)]
    unfold dmix
    rw [tab_at hq, if_pos (by omega)]; rfl
  · rw [List.getD_eq_getElem?_getD, List.getElem?_set_ne (by omega), ← List.getD_eq_getElem?_getD]
    unfold dmix
    rw [tab_at hq, tab_at hq]
    by_cases e2 : i < q
    · rw [if_pos e2, if_pos (by omega)]
    · rw [if_neg e2, if_neg (by omega)]
theorem dval_bd {f : Nat → Int} (hf : ∀ i, 0 ≤ f i ∧ f i < 1000003) (k q : Nat) : 0 ≤ dval f k q ∧ dval f k q < 1000003 := by
  have h : ∀ k i, 0 ≤ ddf f k i ∧ ddf f k i < 1000003 := fun k i => by
    cases k with
    | zero => exact hf i
    | succ k => exact tms_bd _ _
  unfold dval; split <;> exact h _ _

set_option maxRecDepth 100000 in
set_option maxHeartbeats 6400000 in
theorem iDiffs (n : Nat) (a : Option Addr) (ca : Nat) (l : List Int) (w : World) (ha : At w a l) (hL : Hid (l.length = n)) (h1 : 1 ≤ n) (hm : n ≤ 13) (hn : Nums l) :
    Calls Tryz.prog 152 #[.slice a n ca] w (FreshN w n (tab (dval (sq l) (n - 1)) n)) := by
  obtain ⟨b1, o1, rfl, hbl1, hc1⟩ := (ha.resolve_left (by intro e; have := hL.out; rw [e] at this; simp at this; omega))
  have hsq : ∀ i, 0 ≤ sq l i ∧ sq l i < 1000003 := fun i => hn.at i
  have HSQ := Lib.hid hsq
  have HC1 := Lib.hid hc1
  obtain ⟨i0, hi, hz0, hz1, hz2⟩ := info_parts info64
  clear hc1 hsq
  go_enter Tryz.func152, Tryz.ntmps152
  go_wp2_with (refine wpList_make_full _ rfl _ _ 98 rfl w.heap.size 2 i0 (.int .i64 0) 1 Tryz.underlying98 hi hz0 hz1 .i64 .i64 _ _ n rfl rfl rfl rfl ?c2 ?c3 (Nat.le_refl _) ?_)
  case c2 => rw [hz2]; omega
  case c3 => unfold maxLen; omega
  intro w1 ho1 hg1
  have hb1 := (Below.refl w.heap.size w).grown hg1 (Nat.le_refl _) (by intro k hk; cases hk)
  have ho2 := (made_own ho1).full (fillz_len (by simp))
  have HC2 : Hid (∀ (j : Nat) (v : Value), (l.map (Value.int .i64))[j]? = some v → w1.cell? ((⟨b1, o1, none⟩ : Addr).add j) = some v) := by
    intro j v hj
    rw [List.getElem?_map] at hj
    have hjl : j < l.length := by
      apply Nat.lt_of_not_le
      intro hge
      rw [List.getElem?_eq_none hge] at hj
      cases hj
    have e : (⟨b1, o1, none⟩ : Addr).add j = ⟨b1, o1 + j, none⟩ := by cases j <;> simp [Addr.add]
    rw [e, (hb1.cell (p := ⟨b1, o1 + j, none⟩) hbl1), HC1.out j hjl, ← hj, List.getElem?_eq_getElem hjl, List.getD_eq_getElem?_getD, List.getElem?_eq_getElem hjl]
    rfl
  have hone : Hid (∀ u ∈ l.map (Value.int .i64), u.oneCell' = true) := ints_oneCell .i64 l
  have hml : (l.map (Value.int .i64)).length = n := by rw [List.length_map]; exact hL.out
  have hsz : Hid ((Tryz.prog.info? 2).map (·.size) = some 1) := by show _ = _; rw [hi]; simp [hz1]
  have HML := Lib.hid hml
  have HO2 := Lib.hid ho2
  clear ho1 hg1 hi hz0 hz1 hz2 ho2 hml
  go_wp2_with (refine wpList_copy_splice rfl (.tmp 9) (.tmp 10) 98 98 rfl 2 Tryz.underlying98 hsz.out _ _ n n n ca rfl rfl w.heap.size 0 _ 2 HO2.out (l.map (Value.int .i64)) (by rw [HML.out]; exact (Nat.min_self n).symm) (fun _ => ⟨rfl, _, rfl, HC2.out⟩) (by rw [HML.out]; simp [fillz]) hone.out w.heap.size w hb1 (Nat.le_refl _) ?_; intro w2 hw2 hb2)
  have ho3 : Own w.heap.size w2 w.heap.size n l := own_cells hL.out (Nat.le_refl _) (by unfold maxLen; omega) (by
    have := hw2.out
    rw [show splice ((fillz n []).map (Value.int .i64)) 0 (l.map (Value.int .i64)) = l.map (Value.int .i64) from by
      unfold splice; rw [HML.out, Nat.zero_add, List.take_zero, List.nil_append, List.drop_of_length_le (by simp [fillz]), List.append_nil]] at this
    exact this)
  rw [show l = tab (dval (sq l) 0) n from by rw [← hL.out]; exact dval_zero.symm] at ho3
  clear hw2 HO2 hone HC2 hb1 hsz
  go_loopw [4, 5] (fun k i wr => ∃ k0 : Nat, k0 + 1 ≤ n ∧ k = .int .i64 ((k0 : Int) + 1) ∧ Own w.heap.size wr w.heap.size n (tab (dval (sq l) k0) n) ∧ Below w.heap.size w wr) (fun k _ _ => n - (intOf k).toNat)
  case atStart => exact ⟨0, h1, rfl, ho3, hb2⟩
  case round =>
    obtain ⟨k0, hk, rfl, ho, hw⟩ := hrel
    by_cases hlt : k0 + 1 < n
    · have hki : (k0 : Int) + 1 < (n : Int) := by omega
      rw [← dmix_start] at ho
      obtain ⟨m, hm1⟩ : ∃ m : Nat, n = m + 1 := ⟨n - 1, by omega⟩
      have hsub : (n : Int) - 1 = (m : Int) := by omega
      have hmk : k0 < m := by omega
      have HM := Lib.hid hm1
      have ho' : Own w.heap.size wr w.heap.size n (dmix (sq l) n k0 m) := by rw [show m = n - 1 from by omega]; exact ho
      clear ho3 hb2 ho hm1
      go_wp2
      have HS := Lib.hid hsub
      clear hsub
      obtain ⟨wo, hwo⟩ : ∃ wo : World, wo = wr := ⟨_, rfl⟩
      rw [← hwo] at ho' hw ⊢
      clear hwo
      go_loopw [5] (fun i wi => ∃ j : Nat, k0 ≤ j ∧ j ≤ m ∧ i = .int .i64 j ∧ Own w.heap.size wi w.heap.size n (dmix (sq l) n k0 j) ∧ Below w.heap.size w wi) (fun i _ => (intOf i).toNat)
      case atStart => exact ⟨m, by omega, Nat.le_refl _, rfl, ho', hw⟩
      case round =>
        obtain ⟨j, hj0, hjm, rfl, hoi, hwi⟩ := hrel
        by_cases hjl : k0 < j
        · have hmn : m < n := by have := HM.out; omega
          have hlen : (dmix (sq l) n k0 j).length = n := dmix_len _ _ _ _
          have c1 := hoi.cellAt j (by rw [hlen]; omega)
          rw [dmix_get (sq l) (by omega)] at c1
          obtain ⟨d, hd⟩ : ∃ d : Nat, d = j - 1 := ⟨_, rfl⟩
          have c2 : wr.cell? ⟨w.heap.size, d, none⟩ = some (.int .i64 (dval (sq l) k0 (j - 1))) := by
            have := hoi.cellAt (j - 1) (by rw [hlen]; omega)
            rw [dmix_get' (sq l) (by omega) (by omega)] at this
            rw [hd]; exact this
          have b1' := dval_bd HSQ.out k0 j
          have b2' := dval_bd HSQ.out k0 (j - 1)
          have hnx := Lib.hid (dval_next (sq l) k0 j hjl)
          have hfr := hoi.frz j
          have hset := hoi.set j (dval (sq l) (k0 + 1) j)
          rw [dmix_set (sq l) (by omega) hjl, ← hd] at hset
          have hb3 := hwi.setCell (p := ⟨w.heap.size, j, none⟩) (Nat.le_refl _) (.int .i64 (dval (sq l) (k0 + 1) j))
          have hwrap : IntKind.i64.wrap ((j : Int) - 1) = (d : Int) := by rw [show ((j : Int) - 1) = (d : Int) from by omega]; exact IntWalk.i64_in _ (by omega)
          have hi1 : (j : Int) < (n : Int) := by omega
          have hi2 : (d : Int) < (n : Int) := by omega
          have hcond : (k0 : Int) + 1 ≤ (j : Int) := by omega
          have hjn : j < n := by omega
          have hdn : d < n := by omega
          rw [← hnx.out] at hset hb3
          have HD := Lib.hid hd
          clear hnx hlen hoi hd
          generalize dval (sq l) k0 j = x at c1 b1' hset hb3
          generalize dval (sq l) k0 (j - 1) = y at c2 b2' hset hb3
          have bm := mns_bd x y
          go_wp2
          refine wp_region_still_tail 15 (by kernel_rfl) (by kernel_rfl) ?_
          simp only [List.take_succ_cons, List.take_zero, List.drop_succ_cons, List.drop_zero]
          repeat still_step
          still_call (flip (imns x y (by omega) (by omega) _))
          repeat still_step
          still_call (flip (ishare k0 (mns x y) (by omega) (by omega) _))
          repeat still_step
          refine wpStill_nil ?_
          change wpList _ _ _ _ _ wr.drew
          go_wp2
          go_roundw
          case rel => exact ⟨d, by have := HD.out; omega, by have := HD.out; omega, rfl, hset, hb3.drew⟩
          case measure => have := HD.out; simp [intOf]; omega
        · obtain rfl : j = k0 := by omega
          rw [dmix_end] at hoi
          have hcond : (j : Int) < (j : Int) + 1 := by omega
          clear ho' hw
          go_wp2
          go_roundw
          case rel => exact ⟨j + 1, by omega, by go_num, hoi, hwi⟩
          case measure => simp [intOf]; omega
    · have hfin : Hid (tab (dval (sq l) k0) n = tab (dval (sq l) (n - 1)) n) := by show _ = _; rw [show k0 = n - 1 from by omega]
      clear ho3 hb2
      go_wp2
      go_ret
      exact ⟨_, n, rfl, by rw [← hfin.out]; exact ho, hw⟩

/-- within one step of Newton's form: from i + 1 on it is done -/
def nmx (r : List Int) (k i : Nat) : List Int := tab (fun q => if i < q then mns (r.getD (q - 1) 0) (tms (k : Int) (r.getD q 0)) else r.getD q 0) r.length
theorem nmx_len (r : List Int) (k i : Nat) : (nmx r k i).length = r.length := tab_len _ _
theorem nmx_start (r : List Int) (k : Nat) : nmx r k (r.length - 1) = r := tab_eq fun q hq => by rw [if_neg (by omega)]
theorem nmx_get (r : List Int) {k i q : Nat} (h : q < r.length) (hq : q ≤ i) : (nmx r k i).getD q 0 = r.getD q 0 := by unfold nmx; rw [tab_at h, if_neg (by omega)]
theorem nmx_set (r : List Int) {k i : Nat} (h : i < r.length) (h1 : 1 ≤ i) : (nmx r k i).set i (mns (r.getD (i - 1) 0) (tms (k : Int) (r.getD i 0))) = nmx r k (i - 1) := by
  apply list_eq (by rw [List.length_set, nmx_len, nmx_len])
  intro q hq
  rw [List.length_set, nmx_len] at hq
  by_cases e : q = i
  · subst e
    rw [List.getD_eq_getElem?_getD, List.getElem?_set_self (by rw [nmx_len]; exact h)]
    unfold nmx
    rw [tab_at hq, if_pos (by omega)]; rfl
  · rw [List.getD_eq_getElem?_getD, List.getElem?_set_ne (by omega), ← List.getD_eq_getElem?_getD]
    unfold nmx
    rw [tab_at hq, tab_at hq]
    by_cases e2 : i < q
    · rw [if_pos e2, if_pos (by omega)]
    · rw [if_neg e2, if_neg (by omega)]
theorem nmx_end (r : List Int) (k : Nat) (d : Int) (h : 1 ≤ r.length) : (nmx r k 0).set 0 (mns d (tms (k : Int) (r.getD 0 0))) = nst r k d := by
  apply list_eq (by rw [List.length_set, nmx_len, nst_len])
  intro q hq
  rw [List.length_set, nmx_len] at hq
  by_cases e : q = 0
  · subst e
    rw [List.getD_eq_getElem?_getD, List.getElem?_set_self (by rw [nmx_len]; exact h)]
    unfold nst
    rw [tab_at hq, if_pos rfl]; rfl
  · rw [List.getD_eq_getElem?_getD, List.getElem?_set_ne (by omega), ← List.getD_eq_getElem?_getD]
    unfold nmx nst
    rw [tab_at hq, tab_at hq, if_pos (by omega), if_neg e]

set_option maxHeartbeats 400000 in
theorem imultK (k : Nat) (x : Int) (hk : k ≤ 1048576) (hx : -9223372036854775808 ≤ x ∧ x ≤ 9223372036854775807) (w : World) :
    Calls Tryz.prog 150 #[.int .i64 (k : Int), .int .i64 x] w fun e w' => e = .returned (.int .i64 (tms (k : Int) x)) ∧ w = w' := by
  go_enter Tryz.func150, Tryz.ntmps150
  go_wp2_with fail
  refine (iTimes (k : Int) x (by omega) hx _).mono ?_; rintro e w' ⟨rfl, rfl⟩
  go_wp2_with fail
  go_ret
  exact ⟨rfl, rfl⟩

set_option maxRecDepth 100000 in
set_option maxHeartbeats 1600000 in
theorem iFit (n : Nat) (a : Option Addr) (ca : Nat) (l : List Int) (w : World) (ha : At w a l) (hL : Hid (l.length = n)) (h1 : 1 ≤ n) (hm : n ≤ 13) (hn : Nums l) :
    Calls Tryz.prog 124 #[.slice a n ca] w fun e w' => ∃ g cap, e = .returned (.tuple #[.slice (some ⟨g, 0, none⟩) n cap, .int .i64 0]) ∧ Own w.heap.size w' g cap (fitl l) ∧ Below w.heap.size w w' := by
  have hdn : ∀ k, k < n → (tab (dval (sq l) (n - 1)) n).getD k 0 = ddf (sq l) k 0 := fun k hk => by rw [tab_at hk]; unfold dval; rw [if_pos (by omega)]
  have hdb : Nums (tab (dval (sq l) (n - 1)) n) := tab_nms _ fun k => dval_bd (fun i => hn.at i) _ _
  have hdl : Hid ((tab (dval (sq l) (n - 1)) n).length = n) := tab_len _ _
  have hfin : Hid (nws (fun k => ddf (sq l) k 0) n n = fitl l) := by show _ = _; rw [← hL.out]; rfl
  have HDN := Lib.hid hdn
  obtain ⟨i0, hi, hz0, hz1, hz2⟩ := info_parts info64
  obtain ⟨m, hm1⟩ : ∃ m : Nat, n = m + 1 := ⟨n - 1, by omega⟩
  have HM := Lib.hid hm1
  have hmn : m < n := by omega
  clear hdn hm1
  go_enter Tryz.func124, Tryz.ntmps124
  go_wp2_with fail
  refine (iDiffs n a ca l _ ha hL h1 hm hn).mono ?_
  rintro e w1 ⟨gd, cd, rfl, hod, hb1⟩
  generalize tab (dval (sq l) (n - 1)) n = D at hod hdb hdl HDN
  go_wp2_with (refine wpList_make_full _ rfl _ _ 98 rfl w.heap.size 2 i0 (.int .i64 0) 1 Tryz.underlying98 hi hz0 hz1 .i64 .i64 _ _ n rfl rfl rfl rfl ?c2 ?c3 hb1.size ?_)
  case c2 => rw [hz2]; omega
  case c3 => unfold maxLen; omega
  intro w2 ho1 hg1
  have hb2 := hb1.grown hg1 hb1.size (by intro k hk; cases hk)
  have ho2 := made_own ho1
  have hgG := hod.base.2
  replace hod := Own.keptBy hod hg1 (by simp)
  rw [fillz_zero] at ho2
  generalize w1.heap.size = G at ho2 hgG ⊢
  have hne : gd ≠ G := by omega
  clear ho1 hg1 hi hz0 hz1 hz2 hb1
  have hsub : (n : Int) - 1 = (m : Int) := by have := HM.out; omega
  go_wp2
  have HS := Lib.hid hsub
  clear hsub
  go_loopw [6, 7] (fun k _ wr => ∃ r : Nat, r ≤ n ∧ k = .int .i64 ((r : Int) - 1) ∧ Own w.heap.size wr gd cd D ∧ Own w.heap.size wr G n (nws (fun k => ddf (sq l) k 0) n (n - r)) ∧ Below w.heap.size w wr) (fun k _ _ => (intOf k + 1).toNat)
  case atStart => exact ⟨n, Nat.le_refl _, by have := HS.out; rw [← this], hod, by rw [Nat.sub_self]; exact ho2, hb2⟩
  case round =>
    obtain ⟨r, hr, rfl, hodr, ho, hw⟩ := hrel
    cases r with
    | zero =>
      rw [Nat.sub_zero, hfin.out] at ho
      go_wp2
      go_ret2
      exact ⟨G, n, rfl, ho, hw⟩
    | succ k =>
      have e : (((k + 1 : Nat) : Int) - 1) = (k : Int) := by omega
      rw [e]
      clear e
      have hkn : k < n := by omega
      have hki : (k : Int) < (n : Int) := by omega
      have hrl : Hid ((nws (fun k => ddf (sq l) k 0) n (n - (k + 1))).length = n) := nws_len _ _ _
      have hrn := nws_nums (fun k => ddf (sq l) k 0) n (n - (k + 1))
      have hnx : Hid (nst (nws (fun k => ddf (sq l) k 0) n (n - (k + 1))) k (D.getD k 0) = nws (fun k => ddf (sq l) k 0) n (n - k)) := by
        show _ = _
        rw [HDN.out k hkn, show n - k = (n - (k + 1)) + 1 from by omega, nws, show n - 1 - (n - (k + 1)) = k from by omega]
      generalize nws (fun k => ddf (sq l) k 0) n (n - (k + 1)) = R at ho hrl hrn hnx
      have ho' : Own w.heap.size wr G n (nmx R k m) := by
        rw [show m = R.length - 1 from by rw [hrl.out]; have := HM.out; omega, nmx_start]; exact ho
      clear ho hod ho2 hb2
      have hsub := HS.out
      go_wp2
      clear hsub
      obtain ⟨wo, hwo⟩ : ∃ wo : World, wo = wr := ⟨_, rfl⟩
      rw [← hwo] at ho' hw hodr ⊢
      clear hwo
      go_loopw [7] (fun i wi => ∃ j : Nat, j ≤ m ∧ i = .int .i64 j ∧ Own w.heap.size wi gd cd D ∧ Own w.heap.size wi G n (nmx R k j) ∧ Below w.heap.size w wi) (fun i _ => (intOf i).toNat)
      case atStart => exact ⟨m, Nat.le_refl _, rfl, hodr, ho', hw⟩
      case round =>
        obtain ⟨j, hjm, rfl, hodi, hoi, hwi⟩ := hrel
        have hlen : (nmx R k j).length = n := by rw [nmx_len]; exact hrl.out
        have hjR : j < R.length := by rw [hrl.out]; omega
        by_cases hj0 : 1 ≤ j
        · have c1 : wr.cell? ⟨G, j, none⟩ = some (.int .i64 (R.getD j 0)) := by
            have := hoi.cellAt j (by rw [hlen]; omega)
            rwa [nmx_get R hjR (Nat.le_refl _)] at this
          obtain ⟨d, hd⟩ : ∃ d : Nat, d = j - 1 := ⟨_, rfl⟩
          have c2 : wr.cell? ⟨G, d, none⟩ = some (.int .i64 (R.getD d 0)) := by
            have := hoi.cellAt d (by rw [hlen]; omega)
            rwa [nmx_get R (by omega) (by omega)] at this
          have b1' := hrn.at j
          have b2' := hrn.at d
          have hfr := hoi.frz j
          have hset := hoi.set j (mns (R.getD (j - 1) 0) (tms (k : Int) (R.getD j 0)))
          rw [nmx_set R hjR hj0, ← hd] at hset
          have hset2 := hodi.setOther (p := ⟨G, j, none⟩) (fun e => hne e.symm) (.int .i64 (mns (R.getD d 0) (tms (k : Int) (R.getD j 0))))
          have hb3 := hwi.setCell (p := ⟨G, j, none⟩) hoi.base.1 (.int .i64 (mns (R.getD d 0) (tms (k : Int) (R.getD j 0))))
          have hwrap : IntKind.i64.wrap ((j : Int) - 1) = (d : Int) := by rw [show ((j : Int) - 1) = (d : Int) from by omega]; exact IntWalk.i64_in _ (by omega)
          have hi1 : (j : Int) < (n : Int) := by omega
          have hi2 : (d : Int) < (n : Int) := by omega
          have hcond : (0 : Int) < (j : Int) := by omega
          have hjn : j < n := by omega
          have hdn : d < n := by omega
          have HD := Lib.hid hd
          clear hlen hoi hodi hd hjR
          generalize R.getD j 0 = x at c1 b1' hset hset2 hb3
          generalize R.getD d 0 = y at c2 b2' hset hset2 hb3
          have bm := tms_bd (k : Int) x
          go_wp2
          refine wp_region_still_tail 15 (by kernel_rfl) (by kernel_rfl) ?_
          simp only [List.take_succ_cons, List.take_zero, List.drop_succ_cons, List.drop_zero]
          repeat still_step
          still_call (flip (imultK k x (by omega) (by omega) _))
          repeat still_step
          still_call (flip (imns y (tms (k : Int) x) (by omega) (by omega) _))
          repeat still_step
          refine wpStill_nil ?_
          change wpList _ _ _ _ _ wr.drew
          go_wp2
          go_roundw
          case rel => exact ⟨d, by have := HD.out; omega, by have := HD.out; go_num, hset2, hset, hb3.drew⟩
          case measure => have := HD.out; simp [intOf]; omega
        · obtain rfl : j = 0 := by omega
          have hcond : ¬ (0 : Int) < ((0 : Nat) : Int) := by omega
          have c1 : wr.cell? ⟨G, 0, none⟩ = some (.int .i64 (R.getD 0 0)) := by
            have := hoi.cellAt 0 (by rw [hlen]; omega)
            rwa [nmx_get R hjR (Nat.le_refl _)] at this
          have c2 := hodi.cellAt k (by rw [hdl.out]; exact hkn)
          have b1' := hrn.at 0
          have b2' := hdb.at k
          have hfr := hoi.frz 0
          have hset := hoi.set 0 (mns (D.getD k 0) (tms (k : Int) (R.getD 0 0)))
          rw [nmx_end R k (D.getD k 0) (by omega), hnx.out] at hset
          have hset2 := hodi.setOther (p := ⟨G, 0, none⟩) (fun e => hne e.symm) (.int .i64 (mns (D.getD k 0) (tms (k : Int) (R.getD 0 0))))
          have hb3 := hwi.setCell (p := ⟨G, 0, none⟩) hoi.base.1 (.int .i64 (mns (D.getD k 0) (tms (k : Int) (R.getD 0 0))))
          have hi0 : (0 : Int) < (n : Int) := by omega
          have hin0 : 0 < n := by omega
          clear hlen hoi hodi hjR ho' hw hodr hnx hj0
          generalize R.getD 0 0 = x at c1 b1' hset hset2 hb3
          generalize D.getD k 0 = y at c2 b2' hset hset2 hb3
          have bm := tms_bd (k : Int) x
          go_wp2
          refine wp_region_still_tail 12 (by kernel_rfl) (by kernel_rfl) ?_
          simp only [List.take_succ_cons, List.take_zero, List.drop_succ_cons, List.drop_zero]
          repeat still_step
          still_call (flip (imultK k x (by omega) (by omega) _))
          repeat still_step
          still_call (flip (imns y (tms (k : Int) x) (by omega) (by omega) _))
          repeat still_step
          refine wpStill_nil ?_
          change wpList _ _ _ _ _ wr.drew
          go_wp2
          go_roundw
          case rel => exact ⟨k, by omega, rfl, hset2, hset, hb3.drew⟩
          case measure => simp [intOf]

set_option maxRecDepth 100000 in
set_option maxHeartbeats 1600000 in
theorem sScale (n : Nat) (a : Option Addr) (ca : Nat) (l : List Int) (c : Int) (w : World) (ha : At w a l) (hL : Hid (l.length = n)) (hm : n ≤ 1048576) (hn : Nums l) (hc : 0 ≤ c ∧ c < 1000003) :
    Calls Tryz.prog 128 #[.slice a n ca, .int .i64 c] w (FreshN w n (scll l c)) := by
  obtain ⟨i0, hi, hz0, hz1, hz2⟩ := info_parts info64
  have hB0 := (Below.refl w.heap.size w).alloc (Nat.le_refl _) (.cells #[] 2)
  have hO0 := own_none w w.heap.size (Nat.le_refl _)
  go_enter Tryz.func128, Tryz.ntmps128
  go_wp2
  go_loopw [5, 6] (fun v i wr => ∃ (k g cap : Nat) (xs : List Int), k ≤ n ∧ i = .int .i64 k ∧ v = .slice (some ⟨g, 0, none⟩) k cap ∧ xs.length = k ∧ Hid (xs = tab (fun i => tms (l.getD i 0) c) k) ∧ Own w.heap.size wr g cap xs ∧ Below w.heap.size w wr) (fun _ i _ => n - (intOf i).toNat)
  case atStart => exact ⟨0, w.heap.size, 0, [], Nat.zero_le _, rfl, rfl, rfl, rfl, hO0, hB0⟩
  case round =>
    obtain ⟨k, g, cap, xs, hk, rfl, rfl, hxl, hxs, ho, hw⟩ := hrel
    by_cases hlt : k < n
    · obtain ⟨b1, o1, rfl, hbl1, hc1⟩ := (ha.resolve_left (by intro e; have := hL.out; rw [e] at this; simp at this; omega))
      have h1 : wr.cell? ⟨b1, o1 + k, none⟩ = some (.int .i64 (l.getD k 0)) := (hw.cell (p := ⟨b1, o1 + k, none⟩) hbl1).trans (hc1 k (by rw [hL.out]; exact hlt))
      have r1 := hn.at k
      have hs2 : Hid (xs ++ [tms (l.getD k 0) c] = tab (fun i => tms (l.getD i 0) c) (k + 1)) := by rw [tab_succ, hxs.out]; rfl
      have hl2 : Hid ((xs ++ [tms (l.getD k 0) c]).length = k + 1) := by show _ = _; simp [hxl]
      have hi1 : (k : Int) < (n : Int) := by omega
      have ho2 : wr.ownsRow w.heap.size 2 1 (.slice (some ⟨g, 0, none⟩) k cap) k (xs.map (Value.int .i64)) := by rw [← hxl]; exact ho
      have hsz := hw.size
      have hgl := ho.base
      have HXL := Lib.hid hxl
      clear hc1 ha hxs hB0 hO0 ho hxl
      generalize l.getD k 0 = x at h1 r1 hs2 hl2
      go_wp2_with fail
      refine (sTimes x c (by omega) (by omega) _).mono ?_; rintro e w' ⟨rfl, rfl⟩
      generalize tms x c = y at hs2 hl2
      go_wp2_with (at_builtin; refine wpList_append_lies _ rfl _ _ _ rfl w.heap.size 2 i0 _ 1 8 Tryz.underlying25 hi hz0 hz1 hz2 rfl (by omega) (.slice (some ⟨g, 0, none⟩) k cap) k (xs.map (Value.int .i64)) rfl (ho2.alloc _) ⟨wr.heap.size, 0, none⟩ 1 1 [.int .i64 y] rfl rfl (World.news_of_block (cs := #[.int .i64 y]) (t := 2) (fr := (0, 0)) (heap_alloc_new wr _)) (by simp [Value.oneCell']) (by omega) (by unfold maxLen; omega) (by omega) (by simp; omega) (wr.heap.size + 1) (by simp) ?_; intro gg cc w1 hown1 hgrow hat hlt1)
      have hw2 : Below w.heap.size w w1 := (hw.alloc hsz (.cells #[.int .i64 y] 2)).grown hgrow (by simp; omega) (by intro q hq; simp [Value.ownBlock] at hq; omega)
      have ho3 : Own w.heap.size w1 gg cc (xs ++ [y]) := own_appended (by rw [HXL.out]; exact hown1)
      clear hgrow hown1 ho2
      go_roundw
      case rel => exact ⟨k + 1, gg, cc, xs ++ [y], by omega, by go_num, rfl, hl2.out, hs2, ho3, hw2⟩
      case measure => simp [intOf]; omega
    · have hkk : k = n := by omega
      subst hkk
      have hfin : Hid (xs = scll l c) := by show _ = _; unfold scll; rw [hL.out]; exact hxs.out
      clear hxl
      go_wp2
      go_ret
      exact ⟨g, cap, rfl, by rw [← hfin.out]; exact ho, hw⟩

theorem At.drewN {w : World} {a : Option Addr} {l : List Int} (h : At w a l) (q : Nat) : At (w.drewN q) a l := h.below (below_drewN (Below.refl _ _) q) (Nat.le_refl _)

theorem sAddN (n : Nat) (a b : Option Addr) (ca cb : Nat) (l m : List Int) (w : World) (ha : At w a l) (hb : At w b m) (hr : Nums l) (hr2 : Nums m) (h : Hid (l.length = n)) (h' : Hid (m.length = n)) (hl : n ≤ 1048576) :
    Calls Tryz.prog 80 #[.slice a n ca, .slice b n cb] w (FreshN w n (addl l m)) := by
  have e1 := h.out
  have e2 := h'.out
  have k := sAdd a b ca cb l m w ha hb hr.rng hr2.rng (by show _ = _; omega) (by omega)
  rw [e1, e2] at k
  exact k.mono fun _ _ r => freshN_of r (by rw [addl_len]; exact e1)
theorem scll_nums (b : List Int) (c : Int) : Nums (scll b c) := tab_nms _ fun _ => tms_bd _ _
/-- within the step to the next base: below i it is done -/
def bmx (b : List Int) (x : Int) (i : Nat) : List Int := tab (fun q => if q = 0 then tms (b.getD 0 0) (res (-x)) else if q < i then pls (tms (b.getD q 0) (res (-x))) (b.getD (q - 1) 0) else tms (b.getD q 0) (res (-x))) b.length
theorem bmx_len (b : List Int) (x : Int) (i : Nat) : (bmx b x i).length = b.length := tab_len _ _
theorem bmx_start (b : List Int) (x : Int) : bmx b x 1 = scll b (res (-x)) := tab_congr fun q _ => by
  by_cases e : q = 0
  · subst e; rfl
  · rw [if_neg e, if_neg (by omega)]
theorem bmx_end (b : List Int) (x : Int) : bmx b x b.length = bst b x := tab_congr fun q hq => by
  by_cases e : q = 0
  · rw [if_pos e, if_pos e]
  · rw [if_neg e, if_neg e, if_pos hq]
theorem bmx_get (b : List Int) (x : Int) {i : Nat} (h : i < b.length) (h1 : 1 ≤ i) : (bmx b x i).getD i 0 = tms (b.getD i 0) (res (-x)) := by
  unfold bmx; rw [tab_at h, if_neg (by omega), if_neg (by omega)]
theorem bmx_set (b : List Int) (x : Int) {i : Nat} (h : i < b.length) (h1 : 1 ≤ i) : (bmx b x i).set i (pls (tms (b.getD i 0) (res (-x))) (b.getD (i - 1) 0)) = bmx b x (i + 1) := by
  apply list_eq (by rw [List.length_set, bmx_len, bmx_len])
  intro q hq
  rw [List.length_set, bmx_len] at hq
  by_cases e : q = i
  · subst e
    rw [List.getD_eq_getElem?_getD, List.getElem?_set_self (by rw [bmx_len]; exact h)]
    unfold bmx
    rw [tab_at hq, if_neg (by omega), if_pos (by omega)]; rfl
  · rw [List.getD_eq_getElem?_getD, List.getElem?_set_ne (by omega), ← List.getD_eq_getElem?_getD]
    unfold bmx
    rw [tab_at hq, tab_at hq]
    by_cases e0 : q = 0
    · rw [if_pos e0, if_pos e0]
    · rw [if_neg e0, if_neg e0]
      by_cases e2 : q < i
      · rw [if_pos e2, if_pos (by omega)]
      · rw [if_neg e2, if_neg (by omega)]

def resInterpolate (l : List Int) : List Int := fitl l
def codInterpolate (_ : List Int) : Int := 0
def allInterpolate (l : List Int) : List Int := if okS l = true then resInterpolate l else []
def alcInterpolate (l : List Int) : Int := if okS l = true then codInterpolate l else 1
theorem resInterpolate_len (l : List Int) (h0 : 1 ≤ l.length) : (resInterpolate l).length ≤ l.length := by unfold resInterpolate; rw [fitl_len]; exact Nat.le_refl _
theorem iInterpolateR (a : Option Addr) (ca : Nat) (l : List Int) (w : World) (ha : At w a l) (h1 : Hid (okS l = true)) :
    Calls Tryz.prog 124 #[.slice a l.length ca] w (Res2 w (resInterpolate l) (codInterpolate l)) := by
  obtain ⟨hl1, hl13, hn⟩ := okS_t h1.out
  refine (iFit l.length a ca l w ha rfl hl1 hl13 hn).mono ?_
  rintro e w1 ⟨g, cap, rfl, ho, hb⟩
  exact ⟨_, cap, by rw [show resInterpolate l = fitl l from rfl, fitl_len]; rfl, ho.a, hb⟩

set_option maxRecDepth 100000 in
set_option maxHeartbeats 1600000 in
theorem itransform5 (a : Option Addr) (ca : Nat) (l : List Int) (w : World) (ha : At w a l) (hl : l.length ≤ 1048576) :
    Calls Tryz.prog 106 #[.int .i64 5, .slice a l.length ca] w (Res2 w (allInterpolate l) (alcInterpolate l)) := by
  cases h1 : okS l with
  | true =>
    have hif := Lib.hid (show resInterpolate l = allInterpolate l by unfold allInterpolate; rw [if_pos h1])
    have hic := Lib.hid (show codInterpolate l = alcInterpolate l by unfold alcInterpolate; rw [if_pos h1])
    have H1 := Lib.hid h1
    clear h1
    go_enter Tryz.func106, Tryz.ntmps106
    go_wp2_with fail
    refine (iValid a ca l _ ha (by omega)).mono ?_; rintro e w' ⟨rfl, rfl⟩
    rw [H1.out]
    go_wp2_with fail
    refine (iInterpolateR a ca l _ (by exact ha.alloc _) H1).mono ?_; rintro e w1 ⟨g, cap, rfl, ho, hbel⟩
    go_wp2_with fail
    go_ret2
    rw [← hif.out, ← hic.out]
    exact res2_alloc ⟨g, cap, rfl, ho, hbel⟩
  | false =>
    have hif := Lib.hid (show ([] : List Int) = allInterpolate l by unfold allInterpolate; rw [if_neg (by rw [h1]; simp)])
    have hic := Lib.hid (show (1 : Int) = alcInterpolate l by unfold alcInterpolate; rw [if_neg (by rw [h1]; simp)])
    have H1 := Lib.hid h1
    clear h1
    go_enter Tryz.func106, Tryz.ntmps106
    go_wp2_with fail
    refine (iValid a ca l _ ha (by omega)).mono ?_; rintro e w' ⟨rfl, rfl⟩
    rw [H1.out]
    go_wp2_with fail
    go_ret2
    rw [← hif.out, ← hic.out]
    exact ⟨none, 0, rfl, .inl rfl, Below.refl _ _⟩

theorem resLen_Interpolate (l : List Int) (hl : l.length ≤ 1048576) : (allInterpolate l).length ≤ 1048576 := by
  unfold allInterpolate; split
  · rename_i h; exact Nat.le_trans (resInterpolate_len l (okS_t h).1) hl
  · simp


end Go.Proofs.YtldbhhocoolloaaGreat
