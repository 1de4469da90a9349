/- ReverseSeries: the program by Lagrange's form, the model one coefficient after the other. Interpolate: the program by divided differences and Newton's form, the model one point after the other. -/
import Derived.Laws.CopyOwn
import Derived.Test.YtoedccgiahegnaaGreatFit
namespace Go.Proofs.YtoedccgiahegnaaGreat
open Go.RowKit
set_option linter.unusedVariables false

/-- The call answers a new slice of n numbers that reads as l. -/
def FreshN (w : World) (n : Nat) (l : List Int) (e : Ending) (w' : World) : Prop :=
  ∃ g cap, e = .returned (.slice (some ⟨g, 0, none⟩) n cap) ∧ Own w.heap.size w' g cap l ∧ Below w.heap.size w w'
theorem freshN_of {w w1 : World} {n : Nat} {l : List Int} {e : Ending} (h : Fresh w l e w1) (hn : l.length = n) : FreshN w n l e w1 := by
  subst hn; exact h
def resReverseSeries (l : List Int) : List Int := if l.length = 1 then [] else if l.getD 0 0 ≠ 0 then [] else if l.getD 1 0 = 0 then [] else revl l
def codReverseSeries (l : List Int) : Int := if l.length = 1 then 2 else if l.getD 0 0 ≠ 0 then 4 else if l.getD 1 0 = 0 then 6 else 0
def allReverseSeries (l : List Int) : List Int := if okS l = true then resReverseSeries l else []
def alcReverseSeries (l : List Int) : Int := if okS l = true then codReverseSeries l else 1

theorem okS_parts {l : List Int} (h : okS l = true) : 1 ≤ l.length ∧ l.length ≤ 13 ∧ Nums l := okS_t h
theorem resReverseSeries_len (l : List Int) (h0 : 1 ≤ l.length) : (resReverseSeries l).length ≤ l.length := by
  unfold resReverseSeries; repeat' split
  all_goals first | (rw [revl_len h0]; exact Nat.le_refl _) | simp
theorem resLen_ReverseSeries (l : List Int) (hl : l.length ≤ 1048576) : (allReverseSeries l).length ≤ 1048576 := by
  unfold allReverseSeries; split
  · rename_i h; exact Nat.le_trans (resReverseSeries_len l (okS_t h).1) hl
  · simp

end Go.Proofs.YtoedccgiahegnaaGreat

namespace Go.Proofs.YtoedccgiahegnaaGreat
open Go.RowKit
set_option linter.unusedVariables false

theorem Own.full {B : Nat} {w : World} {g n : Nat} {l : List Int} (h : Own B w g n l) (hn : l.length = n) : w.heap[g]? = some (.cells (l.map (Value.int .i64)).toArray 2 (0, 0)) := by
  subst hn
  obtain ⟨h1, h2⟩ := h
  rcases h2 with ⟨h2, _⟩ | ⟨g', cap', cur, hv, hB, hh, hc, hm, hs, ht⟩
  · cases h2
  · simp only [Value.slice.injEq, Option.some.injEq, Addr.mk.injEq, true_and, and_true] at hv
    obtain ⟨rfl, rfl⟩ := hv
    rw [hh]
    congr 2
    rw [Nat.mul_one] at ht hs
    rw [List.take_of_length_le (by rw [Array.length_toList]; omega)] at ht
    rw [← ht]
theorem own_cells {B : Nat} {w : World} {g n : Nat} {l : List Int} (hn : l.length = n) (hB : B ≤ g) (hm : n ≤ maxLen) (h : w.heap[g]? = some (.cells (l.map (Value.int .i64)).toArray 2 (0, 0))) : Own B w g n l := by
  subst hn
  refine ⟨by simp, .inr ⟨g, l.length, _, rfl, hB, h, Nat.le_refl _, hm, by simp, ?_⟩⟩
  rw [List.take_of_length_le (by simp)]

/-- where the differences stand after k rounds -/
def dval (f : Nat → Int) (k q : Nat) : Int := if q ≤ k then ddf f q 0 else ddf f k (q - k)
/-- within the round k + 1: from i + 1 on it is done -/
def dmix (f : Nat → Int) (n k i : Nat) : List Int := tab (fun q => if i < q then dval f (k + 1) q else dval f k q) n
theorem dmix_len (f : Nat → Int) (n k i : Nat) : (dmix f n k i).length = n := tab_len _ _
theorem tab_congr {f g : Nat → Int} {n : Nat} (h : ∀ k, k < n → f k = g k) : tab f n = tab g n := by
  unfold tab
  exact List.map_congr_left fun k hk => h k (by simpa using hk)
theorem dmix_start (f : Nat → Int) (n k : Nat) : dmix f n k (n - 1) = tab (dval f k) n := tab_congr fun q hq => by rw [if_neg (by omega)]
theorem dval_same (f : Nat → Int) (k q : Nat) (h : q ≤ k) : dval f (k + 1) q = dval f k q := by unfold dval; rw [if_pos h, if_pos (by omega)]
theorem dmix_end (f : Nat → Int) (n k : Nat) : dmix f n k k = tab (dval f (k + 1)) n := tab_congr fun q _ => by
  split
  · rfl
  · exact (dval_same f k q (by omega)).symm
theorem dval_zero {l : List Int} : tab (dval (sq l) 0) l.length = l := tab_eq fun k hk => by
  unfold dval
  split
  · rw [show k = 0 from by omega]; rfl
  · show sq l (k - 0) = _; rw [Nat.sub_zero]; rfl
theorem dmix_get (f : Nat → Int) {n k i : Nat} (h : i < n) : (dmix f n k i).getD i 0 = dval f k i := by unfold dmix; rw [tab_at h, if_neg (by omega)]
theorem dmix_get' (f : Nat → Int) {n k i : Nat} (h : i < n) (h1 : 1 ≤ i) : (dmix f n k i).getD (i - 1) 0 = dval f k (i - 1) := by unfold dmix; rw [tab_at (by omega), if_neg (by omega)]
theorem dval_next (f : Nat → Int) (k i : Nat) (h : k < i) : tms (mns (dval f k i) (dval f k (i - 1))) (inv ((k : Int) + 1)) = dval f (k + 1) i := by
  have e1 : dval f k i = ddf f k (i - (k + 1) + 1) := by unfold dval; rw [if_neg (by omega), show i - (k + 1) + 1 = i - k from by omega]
  have e2 : dval f k (i - 1) = ddf f k (i - (k + 1)) := by
    unfold dval
    by_cases e : i - 1 ≤ k
    · rw [if_pos e, show i - 1 = k from by omega, show i - (k + 1) = 0 from by omega]
    · rw [if_neg e, show i - 1 - k = i - (k + 1) from by omega]
  have e3 : dval f (k + 1) i = ddf f (k + 1) (i - (k + 1)) := by
    unfold dval
    by_cases e : i ≤ k + 1
    · rw [if_pos e, show i = k + 1 from by omega, Nat.sub_self]
    · rw [if_neg e]
  rw [e1, e2, e3]; rfl
theorem dmix_set (f : Nat → Int) {n k i : Nat} (h : i < n) (h1 : k < i) : (dmix f n k i).set i (dval f (k + 1) i) = dmix f n k (i - 1) := by
  apply list_eq (by rw [List.length_set, dmix_len, dmix_len])
  intro q hq
  rw [List.length_set, dmix_len] at hq
  by_cases e : q = i
  · subst e
    rw [List.getD_eq_getElem?_getD, List.getElem?_set_self (by rw [dmix_len]; exact h)]
    unfold dmix
    rw [tab_at hq, if_pos (by omega)]; rfl
  · rw [List.getD_eq_getElem?_getD, List.getElem?_set_ne (by omega), ← List.getD_eq_getElem?_getD]
    unfold dmix
    rw [tab_at hq, tab_at hq]
    by_cases e2 : i < q
    · rw [if_pos e2, if_pos (by omega)]
    · rw [if_neg e2, if_neg (by omega)]
theorem dval_bd {f : Nat → Int} (hf : ∀ i, 0 ≤ f i ∧ f i < 1000003) (k q : Nat) : 0 ≤ dval f k q ∧ dval f k q < 1000003 := by
  have h : ∀ k i, 0 ≤ ddf f k i ∧ ddf f k i < 1000003 := fun k i => by
    cases k with
    | zero => exact hf i
    | succ k => exact tms_bd _ _
  unfold dval; split <;> exact h _ _

/-- within one step of Newton's form: from i + 1 on it is done -/
def nmx (r : List Int) (k i : Nat) : List Int := tab (fun q => if i < q then mns (r.getD (q - 1) 0) (tms (k : Int) (r.getD q 0)) else r.getD q 0) r.length
theorem nmx_len (r : List Int) (k i : Nat) : (nmx r k i).length = r.length := tab_len _ _
theorem nmx_start (r : List Int) (k : Nat) : nmx r k (r.length - 1) = r := tab_eq fun q hq => by rw [if_neg (by omega)]
theorem nmx_get (r : List Int) {k i q : Nat} (h : q < r.length) (hq : q ≤ i) : (nmx r k i).getD q 0 = r.getD q 0 := by unfold nmx; rw [tab_at h, if_neg (by omega)]
theorem nmx_set (r : List Int) {k i : Nat} (h : i < r.length) (h1 : 1 ≤ i) : (nmx r k i).set i (mns (r.getD (i - 1) 0) (tms (k : Int) (r.getD i 0))) = nmx r k (i - 1) := by
  apply list_eq (by rw [List.length_set, nmx_len, nmx_len])
  intro q hq
  rw [List.length_set, nmx_len] at hq
  by_cases e : q = i
  · subst e
    rw [List.getD_eq_getElem?_getD, List.getElem?_set_self (by rw [nmx_len]; exact h)]
    unfold nmx
    rw [tab_at hq, if_pos (by omega)]; rfl
  · rw [List.getD_eq_getElem?_getD, List.getElem?_set_ne (by omega), ← List.getD_eq_getElem?_getD]
    unfold nmx
    rw [tab_at hq, tab_at hq]
    by_cases e2 : i < q
    · rw [if_pos e2, if_pos (by omega)]
    · rw [if_neg e2, if_neg (by omega)]
theorem nmx_end (r : List Int) (k : Nat) (d : Int) (h : 1 ≤ r.length) : (nmx r k 0).set 0 (mns d (tms (k : Int) (r.getD 0 0))) = nst r k d := by
  apply list_eq (by rw [List.length_set, nmx_len, nst_len])
  intro q hq
  rw [List.length_set, nmx_len] at hq
  by_cases e : q = 0
  · subst e
    rw [List.getD_eq_getElem?_getD, List.getElem?_set_self (by rw [nmx_len]; exact h)]
    unfold nst
    rw [tab_at hq, if_pos rfl]; rfl
  · rw [List.getD_eq_getElem?_getD, List.getElem?_set_ne (by omega), ← List.getD_eq_getElem?_getD]
    unfold nmx nst
    rw [tab_at hq, tab_at hq, if_pos (by omega), if_neg e]

set_option maxRecDepth 100000 in
set_option maxHeartbeats 1600000 in
theorem sScale (n : Nat) (a : Option Addr) (ca : Nat) (l : List Int) (c : Int) (w : World) (ha : At w a l) (hL : Hid (l.length = n)) (hm : n ≤ 1048576) (hn : Nums l) (hc : 0 ≤ c ∧ c < 1000003) :
    Calls Tryz.prog 106 #[.slice a n ca, .int .i64 c] w (FreshN w n (scll l c)) := by
  obtain ⟨i0, hi, hz0, hz1, hz2⟩ := info_parts info64
  have hB0 := (Below.refl w.heap.size w).alloc (Nat.le_refl _) (.cells #[] 2)
  have hO0 := own_none w w.heap.size (Nat.le_refl _)
  go_enter Tryz.func106, Tryz.ntmps106
  go_wp2
  go_loopw [5, 6] (fun v i wr => ∃ (k g cap : Nat) (xs : List Int), k ≤ n ∧ i = .int .i64 k ∧ v = .slice (some ⟨g, 0, none⟩) k cap ∧ xs.length = k ∧ Hid (xs = tab (fun i => tms (l.getD i 0) c) k) ∧ Own w.heap.size wr g cap xs ∧ Below w.heap.size w wr) (fun _ i _ => n - (intOf i).toNat)
  case atStart => exact ⟨0, w.heap.size, 0, [], Nat.zero_le _, rfl, rfl, rfl, rfl, hO0, hB0⟩
  case round =>
    obtain ⟨k, g, cap, xs, hk, rfl, rfl, hxl, hxs, ho, hw⟩ := hrel
    by_cases hlt : k < n
    · obtain ⟨b1, o1, rfl, hbl1, hc1⟩ := (ha.resolve_left (by intro e; have := hL.out; rw [e] at this; simp at this; omega))
      have h1 : wr.cell? ⟨b1, o1 + k, none⟩ = some (.int .i64 (l.getD k 0)) := (hw.cell (p := ⟨b1, o1 + k, none⟩) hbl1).trans (hc1 k (by rw [hL.out]; exact hlt))
      have r1 := hn.at k
      have hs2 : Hid (xs ++ [tms (l.getD k 0) c] = tab (fun i => tms (l.getD i 0) c) (k + 1)) := by rw [tab_succ, hxs.out]; rfl
      have hl2 : Hid ((xs ++ [tms (l.getD k 0) c]).length = k + 1) := by show _ = _; simp [hxl]
      have hi1 : (k : Int) < (n : Int) := by omega
      have ho2 : wr.ownsRow w.heap.size 2 1 (.slice (some ⟨g, 0, none⟩) k cap) k (xs.map (Value.int .i64)) := by rw [← hxl]; exact ho
      have hsz := hw.size
      have hgl := ho.base
      have HXL := Lib.hid hxl
      clear hc1 ha hxs hB0 hO0 ho hxl
      generalize l.getD k 0 = x at h1 r1 hs2 hl2
      go_wp2_with fail
      refine (sTimes x c (by omega) (by omega) _).mono ?_; rintro e w' ⟨rfl, rfl⟩
      generalize tms x c = y at hs2 hl2
      go_wp2_with (at_builtin; refine wpList_append_lies _ rfl _ _ _ rfl w.heap.size 2 i0 _ 1 8 Tryz.underlying25 hi hz0 hz1 hz2 rfl (by omega) (.slice (some ⟨g, 0, none⟩) k cap) k (xs.map (Value.int .i64)) rfl (ho2.alloc _) ⟨wr.heap.size, 0, none⟩ 1 1 [.int .i64 y] rfl rfl (World.news_of_block (cs := #[.int .i64 y]) (t := 2) (fr := (0, 0)) (heap_alloc_new wr _)) (by simp [Value.oneCell']) (by omega) (by unfold maxLen; omega) (by omega) (by simp; omega) (wr.heap.size + 1) (by simp) ?_; intro gg cc w1 hown1 hgrow hat hlt1)
      have hw2 : Below w.heap.size w w1 := (hw.alloc hsz (.cells #[.int .i64 y] 2)).grown hgrow (by simp; omega) (by intro q hq; simp [Value.ownBlock] at hq; omega)
      have ho3 : Own w.heap.size w1 gg cc (xs ++ [y]) := own_appended (by rw [HXL.out]; exact hown1)
      clear hgrow hown1 ho2
      go_roundw
      case rel => exact ⟨k + 1, gg, cc, xs ++ [y], by omega, by go_num, rfl, hl2.out, hs2, ho3, hw2⟩
      case measure => simp [intOf]; omega
    · have hkk : k = n := by omega
      subst hkk
      have hfin : Hid (xs = scll l c) := by show _ = _; unfold scll; rw [hL.out]; exact hxs.out
      clear hxl
      go_wp2
      go_ret
      exact ⟨g, cap, rfl, by rw [← hfin.out]; exact ho, hw⟩

theorem At.drewN {w : World} {a : Option Addr} {l : List Int} (h : At w a l) (q : Nat) : At (w.drewN q) a l := h.below (below_drewN (Below.refl _ _) q) (Nat.le_refl _)

theorem sAddN (n : Nat) (a b : Option Addr) (ca cb : Nat) (l m : List Int) (w : World) (ha : At w a l) (hb : At w b m) (hr : Nums l) (hr2 : Nums m) (h : Hid (l.length = n)) (h' : Hid (m.length = n)) (hl : n ≤ 1048576) :
    Calls Tryz.prog 54 #[.slice a n ca, .slice b n cb] w (FreshN w n (addl l m)) := by
  have e1 := h.out
  have e2 := h'.out
  have k := sAdd a b ca cb l m w ha hb hr.rng hr2.rng (by show _ = _; omega) (by omega)
  rw [e1, e2] at k
  exact k.mono fun _ _ r => freshN_of r (by rw [addl_len]; exact e1)
theorem scll_nums (b : List Int) (c : Int) : Nums (scll b c) := tab_nms _ fun _ => tms_bd _ _
/-- within the step to the next base: below i it is done -/
def bmx (b : List Int) (x : Int) (i : Nat) : List Int := tab (fun q => if q = 0 then tms (b.getD 0 0) (res (-x)) else if q < i then pls (tms (b.getD q 0) (res (-x))) (b.getD (q - 1) 0) else tms (b.getD q 0) (res (-x))) b.length
theorem bmx_len (b : List Int) (x : Int) (i : Nat) : (bmx b x i).length = b.length := tab_len _ _
theorem bmx_start (b : List Int) (x : Int) : bmx b x 1 = scll b (res (-x)) := tab_congr fun q _ => by
  by_cases e : q = 0
  · subst e; rfl
  · rw [if_neg e, if_neg (by omega)]
theorem bmx_end (b : List Int) (x : Int) : bmx b x b.length = bst b x := tab_congr fun q hq => by
  by_cases e : q = 0
  · rw [if_pos e, if_pos e]
  · rw [if_neg e, if_neg e, if_pos hq]
theorem bmx_get (b : List Int) (x : Int) {i : Nat} (h : i < b.length) (h1 : 1 ≤ i) : (bmx b x i).getD i 0 = tms (b.getD i 0) (res (-x)) := by
  unfold bmx; rw [tab_at h, if_neg (by omega), if_neg (by omega)]
theorem bmx_set (b : List Int) (x : Int) {i : Nat} (h : i < b.length) (h1 : 1 ≤ i) : (bmx b x i).set i (pls (tms (b.getD i 0) (res (-x))) (b.getD (i - 1) 0)) = bmx b x (i + 1) := by
  apply list_eq (by rw [List.length_set, bmx_len, bmx_len])
  intro q hq
  rw [List.length_set, bmx_len] at hq
  by_cases e : q = i
  · subst e
    rw [List.getD_eq_getElem?_getD, List.getElem?_set_self (by rw [bmx_len]; exact h)]
    unfold bmx
    rw [tab_at hq, if_neg (by omega), if_pos (by omega)]; rfl
  · rw [List.getD_eq_getElem?_getD, List.getElem?_set_ne (by omega), ← List.getD_eq_getElem?_getD]
    unfold bmx
    rw [tab_at hq, tab_at hq]
    by_cases e0 : q = 0
    · rw [if_pos e0, if_pos e0]
    · rw [if_neg e0, if_neg e0]
      by_cases e2 : q < i
      · rw [if_pos e2, if_pos (by omega)]
      · rw [if_neg e2, if_neg (by omega)]

def resInterpolate (l : List Int) : List Int := fitl l
def codInterpolate (_ : List Int) : Int := 0
def allInterpolate (l : List Int) : List Int := if okS l = true then resInterpolate l else []
def alcInterpolate (l : List Int) : Int := if okS l = true then codInterpolate l else 1
theorem resInterpolate_len (l : List Int) (h0 : 1 ≤ l.length) : (resInterpolate l).length ≤ l.length := by unfold resInterpolate; rw [fitl_len]; exact Nat.le_refl _
theorem resLen_Interpolate (l : List Int) (hl : l.length ≤ 1048576) : (allInterpolate l).length ≤ 1048576 := by
  unfold allInterpolate; split
  · rename_i h; exact Nat.le_trans (resInterpolate_len l (okS_t h).1) hl
  · simp


end Go.Proofs.YtoedccgiahegnaaGreat
