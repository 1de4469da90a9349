/- The laws' own helpers: a list with another first number, a sum, equal fronts. -/
import Derived.Test.YtegjlfbklcgapaaSer
import Derived.Test.YtegjlfbklcgapaaLogL
import Derived.StillTailTactics
namespace Go.Proofs.Ytegjlfbklcgapaa
open Go.RowKit
attribute [local go_sem ↓] Go.wp_at_zero Go.wp_at_succ

set_option maxRecDepth 100000 in
set_option maxHeartbeats 3200000 in
theorem a2Add (a b : Option Addr) (ca cb : Nat) (l m : List Int) (w : World) (ha : At w a l) (hb : At w b m) (hr : Rng l) (hr2 : Rng m) (hlm : Hid (m.length = l.length)) (hl : l.length ≤ 1048576) :
    Calls Try.prog 45 #[.slice a l.length ca, .slice b m.length cb] w (Fresh w (addl l m)) := by
  obtain ⟨i0, hi, hz0, hz1, hz2⟩ := info_parts info64
  have hB0 := (Below.refl w.heap.size w).alloc (Nat.le_refl _) (.cells #[] 2)
  have hO0 := own_none w w.heap.size (Nat.le_refl _)
  go_enter Try.func45, Try.ntmps45
  go_wp2
  go_loopw [5, 6] (fun v i wr => ∃ (k g cap : Nat) (xs : List Int), k ≤ l.length ∧ i = .int .i64 k ∧ v = .slice (some ⟨g, 0, none⟩) xs.length cap ∧ Hid (xs = tab (fun k => pls (l.getD k 0) (m.getD k 0)) k) ∧ Own w.heap.size wr g cap xs ∧ Below w.heap.size w wr) (fun _ i _ => l.length - (intOf i).toNat)
  case atStart => exact ⟨0, w.heap.size, 0, [], Nat.zero_le _, rfl, rfl, rfl, hO0, hB0⟩
  case round =>
    obtain ⟨k, g, cap, xs, hk, rfl, rfl, hxs, ho, hw⟩ := hrel
    by_cases hlt : k < l.length
    · obtain ⟨b1, o1, rfl, hbl1, hc1⟩ := (ha.resolve_left (by intro e; rw [e] at hlt; simp at hlt))
      have hlt2 : k < m.length := by have := hlm.out; omega
      obtain ⟨b2, o2, rfl, hbl2, hc2⟩ := (hb.resolve_left (by intro e; rw [e] at hlt2; simp at hlt2))
      have h1 : wr.cell? ⟨b1, o1 + k, none⟩ = some (.int .i64 (l.getD k 0)) := (hw.cell (p := ⟨b1, o1 + k, none⟩) hbl1).trans (hc1 k hlt)
      have h2 : wr.cell? ⟨b2, o2 + k, none⟩ = some (.int .i64 (m.getD k 0)) := (hw.cell (p := ⟨b2, o2 + k, none⟩) hbl2).trans (hc2 k hlt2)
      have hxl : xs.length ≤ k := by rw [hxs.out, tab_len]; exact Nat.le_refl _
      have r1 := hr.at k
      have r2 := hr2.at k
      have hs2 : Hid (xs ++ [pls (l.getD k 0) (m.getD k 0)] = tab (fun k => pls (l.getD k 0) (m.getD k 0)) (k + 1)) := by rw [tab_succ, hxs.out]; rfl
      clear hc1 hc2 ha hb hxs hB0 hO0
      have hi1 : (k : Int) < (l.length : Int) := by omega
      have hi2 : (k : Int) < (m.length : Int) := by omega
      generalize l.getD k 0 = x at h1 r1 hs2
      generalize m.getD k 0 = y at h2 r2 hs2
      have ho2 : wr.ownsRow w.heap.size 2 1 (.slice (some ⟨g, 0, none⟩) xs.length cap) xs.length (xs.map (Value.int .i64)) := ho
      have hsz := hw.size
      have hgl := ho.base
      go_wp2
      go_region_held3 (fun w' => w'.cell? ⟨b1, o1 + k, none⟩ = some (.int .i64 x) ∧ w'.cell? ⟨b2, o2 + k, none⟩ = some (.int .i64 y))
        (first
          | go_keep
          | (go_split_ands
             refine ⟨?_, ?_⟩
             · (rw [hgrow.cell_far _ (by simp; omega) (by simp [Value.ownBlock]; omega)]; assumption)
             · (rw [hgrow.cell_far _ (by simp; omega) (by simp [Value.ownBlock]; omega)]; assumption)))
        (first | ((refine step_append_lies _ (by rfl) _ _ _ (by rfl) w.heap.size 2 i0 _ 1 8 Try.underlying30 hi hz0 hz1 hz2 rfl (by omega) (.slice (some ⟨g, 0, none⟩) xs.length cap) xs.length (xs.map (Value.int .i64)) (by rfl) ((ho2.alloc _).drew) ⟨wr.heap.size, 0, none⟩ 1 1 [.int .i64 (pls x y)] (by rfl) (by rfl) (World.news_of_block (cs := #[.int .i64 (pls x y)]) (t := 2) (fr := (0, 0)) (heap_alloc_new wr _)) (by simp [Value.oneCell']) (by omega) (by unfold maxLen; omega) (by omega) (by simp; omega) (wr.heap.size + 1) (by simp) ?_; intro gg cc w1 hown1 hgrow hat hlt1)) | (go_at_call 51; refine (sPlus x y r1 r2 _).mono ?_; rintro e w' ⟨rfl, rfl⟩))
      have hw2 : Below w.heap.size w w1 := ((hw.alloc hsz (.cells #[.int .i64 (pls x y)] 2)).drew).grown hgrow (by simp; omega) (by intro q hq; simp [Value.ownBlock] at hq; omega)
      have ho3 := own_appended hown1
      clear hgrow hown1 ho2
      go_wp2
      go_roundw
      case rel => exact ⟨k + 1, gg, cc, xs ++ [pls x y], by omega, by go_num, by simp, hs2, ho3, hw2⟩
      case measure => simp [intOf]; omega
    · have hkk : k = l.length := by omega
      subst hkk
      go_wp2
      go_ret
      exact ⟨g, cap, ret_slice (by rw [hxs.out, tab_len, addl_len]), by rw [show addl l m = xs from hxs.out.symm]; exact ho, hw⟩

theorem Own.cap_le {B : Nat} {w : World} {g cap : Nat} {l : List Int} (h : Own B w g cap l) : l.length ≤ cap := by
  obtain ⟨_, h2⟩ := h
  rcases h2 with ⟨h2, _⟩ | ⟨g', cap', cur, hv, _, _, hc, _⟩
  · cases h2
  · simp only [Value.slice.injEq] at hv
    omega
theorem At.take {w : World} {a : Option Addr} {l : List Int} (h : At w a l) (c : Nat) : At w a (l.take c) := by
  rcases h with h | ⟨b, off, h1, h2, h3⟩
  · exact .inl (by rw [h]; simp)
  · refine .inr ⟨b, off, h1, h2, fun k hk => ?_⟩
    have hk' : k < c ∧ k < l.length := by simp at hk; omega
    rw [show (l.take c).getD k 0 = l.getD k 0 from by simp [List.getD_eq_getElem?_getD, hk'.1]]
    exact h3 k hk'.2

set_option maxRecDepth 100000 in
set_option maxHeartbeats 1600000 in
theorem a2Front (n c g1 g2 ca cb : Nat) (l m : List Int) (w : World) (ha : At w (some ⟨g1, 0, none⟩) l) (hb : At w (some ⟨g2, 0, none⟩) m) (hcn : c ≤ n) (hn : n ≤ 1000)
    (hca : n ≤ ca) (hcb : n ≤ cb) (hl : Hid ((l.take c).length = c)) (he : Hid (l.take c = m.take c)) :
    Calls Try.prog 41 #[.slice (some ⟨g1, 0, none⟩) n ca, .slice (some ⟨g2, 0, none⟩) n cb, .int .i64 c] w fun e w' => e = .returned (.bool true) ∧ Below w.heap.size w w' := by
  have h1 : At w (some ⟨g1, 0, none⟩) (l.take c) := ha.take c
  have h2 : At w (some ⟨g2, 0, none⟩) (l.take c) := by rw [he.out]; exact hb.take c
  have i1 : (c : Int) ≤ (ca : Int) := by omega
  have i2 : (c : Int) ≤ (cb : Int) := by omega
  have i3 : c ≤ ca := by omega
  have i4 : c ≤ cb := by omega
  have d1 : decide ((n : Int) < (c : Int)) = false := by simp; omega
  have d2 : decide (n < c) = false := by simp; omega
  clear ha hb
  go_enter Try.func41, Try.ntmps41
  go_wp2
  refine wp_region_still_tail 6 (by kernel_rfl) (by kernel_rfl) ?_
  simp only [List.take_succ_cons, List.take_zero, List.drop_succ_cons, List.drop_zero]
  repeat still_step
  refine wpStill_nil ?_
  change wpList _ _ _ _ _ w.drew
  go_wp2_with fail
  have k := a2Same (some ⟨g1, 0, none⟩) (some ⟨g2, 0, none⟩) ca cb (l.take c) w.drew h1 h2 (by rw [hl.out]; omega)
  rw [hl.out] at k
  refine k.mono ?_
  rintro e w' ⟨rfl, b⟩
  go_wp2_with fail
  go_ret
  exact ⟨rfl, (Below.refl _ _).drew.trans b⟩

theorem begin_facts {w w1 : World} {g cc n : Nat} {l : List Int} (hl : Hid (l.length = n)) (h1 : 1 ≤ n)
    (hown : w1.ownsRow w.heap.size 2 1 (.slice (some ⟨g, 0, none⟩) (0 + n) cc) (0 + n) ([] ++ l.map (Value.int .i64)))
    (hgrow : (w.alloc (.cells #[] 2)).grownBy w1 (Value.slice (some ⟨w.heap.size, 0, none⟩) 0 0).ownBlock) (x : Int) :
    (∃ y, w1.cell? ⟨g, 0, none⟩ = some (.int .i64 y)) ∧ w1.frozen? ⟨g, 0, none⟩ = false ∧ Own w.heap.size (w1.setCell ⟨g, 0, none⟩ (.int .i64 x)) g cc (l.set 0 x) ∧ Below w.heap.size w (w1.setCell ⟨g, 0, none⟩ (.int .i64 x)) := by
  have hB0 := (Below.refl w.heap.size w).alloc (Nat.le_refl _) (.cells #[] 2)
  have hw2 : Below w.heap.size w w1 := hB0.grown hgrow (by simp) (by intro q hq; simp [Value.ownBlock] at hq; omega)
  have ho3 : Own w.heap.size w1 g cc l := by
    unfold Own
    rw [hl.out]
    simpa using hown
  exact ⟨⟨_, ho3.cellAt 0 (by rw [hl.out]; omega)⟩, ho3.frz 0, ho3.set 0 x, hw2.setCell (p := ⟨g, 0, none⟩) ho3.base.1 (.int .i64 x)⟩

set_option maxRecDepth 100000 in
set_option maxHeartbeats 1600000 in
theorem a2Begin (n : Nat) (x : Int) (a : Option Addr) (ca : Nat) (l : List Int) (w : World) (ha : At w a l) (hl : Hid (l.length = n)) (h1 : 1 ≤ n) (h2 : n ≤ 13) :
    Calls Try.prog 38 #[.slice a n ca, .int .i64 x] w fun e w' => ∃ g cap, e = .returned (.slice (some ⟨g, 0, none⟩) n cap) ∧ Own w.heap.size w' g cap (l.set 0 x) ∧ Below w.heap.size w w' := by
  obtain ⟨i0, hi, hz0, hz1, hz2⟩ := info_parts info64
  obtain ⟨b1, o1, rfl, hbl1, hc1⟩ := (ha.resolve_left (by intro e; have := hl.out; rw [e] at this; simp at this; omega))
  have hB0 := (Below.refl w.heap.size w).alloc (Nat.le_refl _) (.cells #[] 2)
  have hO0 : (w.alloc (.cells #[] 2)).ownsRow w.heap.size 2 1 (.slice (some ⟨w.heap.size, 0, none⟩) 0 0) 0 [] := World.ownsRow_made w #[] 0 (Nat.le_refl _) (by unfold maxLen; omega) rfl
  have hnews : ∀ (j : Nat) (u : Value), (l.map (Value.int .i64))[j]? = some u → (w.alloc (.cells #[] 2)).cell? ((⟨b1, o1, none⟩ : Addr).add j) = some u := by
    intro j u hj
    rw [List.getElem?_map] at hj
    have hjl : j < l.length := by
      apply Nat.lt_of_not_le
      intro hge
      rw [List.getElem?_eq_none hge] at hj
      cases hj
    have e : (⟨b1, o1, none⟩ : Addr).add j = ⟨b1, o1 + j, none⟩ := by cases j <;> simp [Addr.add]
    rw [e, (hB0.cell (p := ⟨b1, o1 + j, none⟩) hbl1), hc1 j hjl, ← hj, List.getElem?_eq_getElem hjl, List.getD_eq_getElem?_getD, List.getElem?_eq_getElem hjl]
    rfl
  have HN := Lib.hid hnews
  have hin : 0 < n := by omega
  have hii : (0 : Int) < (n : Int) := by omega
  have hone : Hid (∀ u ∈ l.map (Value.int .i64), u.oneCell' = true) := ints_oneCell .i64 l
  clear hc1 hnews ha
  go_enter Try.func38, Try.ntmps38
  go_wp2_with (at_builtin; refine wpList_append_lies _ rfl _ _ _ rfl w.heap.size 2 i0 _ 1 8 Try.underlying30 hi hz0 hz1 hz2 rfl (by omega) (.slice (some ⟨w.heap.size, 0, none⟩) 0 0) 0 [] rfl hO0 ⟨b1, o1, none⟩ n ca (l.map (Value.int .i64)) rfl (by rw [List.length_map, hl.out, Nat.mul_one]) HN.out hone.out (by omega) (by unfold maxLen; omega) (by omega) (by simp) (w.heap.size + 1) (by simp) ?_; intro g cc w1 hown1 hgrow hat hlt1; obtain ⟨⟨y, hcs⟩, hfr, hset, hb4⟩ := begin_facts hl h1 hown1 hgrow x; clear hown1 hgrow hat)
  go_ret
  exact ⟨_, _, rfl, hset, hb4⟩

end Go.Proofs.Ytegjlfbklcgapaa
