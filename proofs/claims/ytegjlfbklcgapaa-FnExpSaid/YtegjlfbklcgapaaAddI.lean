/- The program's sum of two series. -/
import Derived.Test.YtegjlfbklcgapaaAdd
import Derived.StillTailTactics
namespace Go.Proofs.Ytegjlfbklcgapaa
open Go.RowKit

/-- The call answers a slice of its own that reads as l, and a code; nothing that was there has turned. -/
def Fresh2 (w : World) (l : List Int) (c : Int) (e : Ending) (w' : World) : Prop :=
  ∃ g cap, e = .returned (.tuple #[.slice (some ⟨g, 0, none⟩) l.length cap, .int .i64 c]) ∧ Own w.heap.size w' g cap l ∧ Below w.heap.size w w'

theorem ret_slice2 {a : Option Addr} {n m c : Nat} {z : Int} (h : n = m) : Ending.returned (.tuple #[.slice a n c, .int .i64 z]) = .returned (.tuple #[.slice a m c, .int .i64 z]) := by rw [h]

set_option maxRecDepth 100000 in
set_option maxHeartbeats 3200000 in
theorem iadd (a b : Option Addr) (ca cb : Nat) (l m : List Int) (w : World) (ha : At w a l) (hb : At w b m) (hr : Rng l) (hr2 : Rng m) (hlm : Hid (m.length = l.length)) (hl : l.length ≤ 1048576) :
    Calls Try.prog 102 #[.slice a l.length ca, .slice b m.length cb] w (Fresh2 w (addl l m) 0) := by
  obtain ⟨i0, hi, hz0, hz1, hz2⟩ := info_parts info64
  go_enter Try.func102, Try.ntmps102
  go_wp2_with (refine wpList_make_full _ rfl _ _ 69 rfl w.heap.size 2 i0 (.int .i64 0) 1 Try.underlying69 hi hz0 hz1 .i64 .i64 _ _ l.length rfl rfl rfl rfl ?c2 ?c3 (Nat.le_refl _) ?_)
  case c2 => rw [hz2]; omega
  case c3 => unfold maxLen; omega
  intro w1 ho1 hg1
  have hb1 := (Below.refl w.heap.size w).grown hg1 (Nat.le_refl _) (by intro k hk; cases hk)
  have ho2 := made_own ho1
  clear ho1 hg1 hi hz0 hz1 hz2
  go_wp2
  go_loopw [7, 13] (fun _ i wr => ∃ (k : Nat) (xs : List Int), k ≤ l.length ∧ i = .int .i64 k ∧ xs.length = k ∧ Hid (xs = tab (fun k => pls (l.getD k 0) (m.getD k 0)) k) ∧ Own w.heap.size wr w.heap.size l.length (fillz l.length xs) ∧ Below w.heap.size w wr) (fun _ i _ => l.length - (intOf i).toNat)
  case atStart => exact ⟨0, [], Nat.zero_le _, rfl, rfl, rfl, ho2, hb1⟩
  case round =>
    obtain ⟨k, xs, hk, rfl, hxl, hxs, ho, hw⟩ := hrel
    by_cases hlt : k < l.length
    · obtain ⟨b1, o1, rfl, hbl1, hc1⟩ := (ha.resolve_left (by intro e; rw [e] at hlt; simp at hlt))
      have hlt2 : k < m.length := by have := hlm.out; omega
      obtain ⟨b2, o2, rfl, hbl2, hc2⟩ := (hb.resolve_left (by intro e; rw [e] at hlt2; simp at hlt2))
      have h1 : wr.cell? ⟨b1, o1 + k, none⟩ = some (.int .i64 (l.getD k 0)) := (hw.cell (p := ⟨b1, o1 + k, none⟩) hbl1).trans (hc1 k hlt)
      have h2 : wr.cell? ⟨b2, o2 + k, none⟩ = some (.int .i64 (m.getD k 0)) := (hw.cell (p := ⟨b2, o2 + k, none⟩) hbl2).trans (hc2 k hlt2)
      have r1 := hr.at k
      have r2 := hr2.at k
      have hs2 : Hid (xs ++ [pls (l.getD k 0) (m.getD k 0)] = tab (fun k => pls (l.getD k 0) (m.getD k 0)) (k + 1)) := by rw [tab_succ, hxs.out]; rfl
      have hcs := ho.cellAt k (by rw [fillz_len (by omega)]; exact hlt)
      have hfr := ho.frz k
      have hset := ho.set k (pls (l.getD k 0) (m.getD k 0))
      rw [show (fillz l.length xs).set k (pls (l.getD k 0) (m.getD k 0)) = fillz l.length (xs ++ [pls (l.getD k 0) (m.getD k 0)]) from by
        have := fillz_set (n := l.length) (xs := xs) (by omega) (pls (l.getD k 0) (m.getD k 0)); rw [hxl] at this; exact this] at hset
      have hb2 := hw.setCell (p := ⟨w.heap.size, k, none⟩) (Nat.le_refl _) (.int .i64 (pls (l.getD k 0) (m.getD k 0)))
      have hl2 : Hid ((xs ++ [pls (l.getD k 0) (m.getD k 0)]).length = k + 1) := by show _ = _; simp [hxl]
      clear hc1 hc2 ha hb hxs ho ho2 hb1 hxl
      have hi1 : (k : Int) < (l.length : Int) := by omega
      have hi2 : (k : Int) < (m.length : Int) := by omega
      generalize l.getD k 0 = x at h1 r1 hs2 hset hb2 hl2
      generalize m.getD k 0 = y at h2 r2 hs2 hset hb2 hl2
      generalize (fillz l.length xs).getD k 0 = z at hcs
      go_wp2
      refine wp_region_still_tail 12 (by kernel_rfl) (by kernel_rfl) ?_
      simp only [List.take_succ_cons, List.take_zero, List.drop_succ_cons, List.drop_zero]
      repeat still_step
      still_call (flip (iPlus x y r1 r2 _))
      repeat still_step
      refine wpStill_nil ?_
      change wpList _ _ _ _ _ wr.drew
      go_wp2
      go_roundw
      case rel => exact ⟨k + 1, xs ++ [pls x y], by omega, by go_num, hl2.out, hs2, hset, hb2.drew⟩
      case measure => simp [intOf]; omega
    · have hkk : k = l.length := by omega
      subst hkk
      have hfin := Lib.hid (show fillz l.length xs = addl l m by rw [fillz_full hxl]; exact hxs.out)
      clear hxl
      go_wp2
      go_ret2
      exact ⟨_, l.length, ret_slice2 (addl_len l m).symm, by rw [hfin.out] at ho; exact ho, hw⟩

end Go.Proofs.Ytegjlfbklcgapaa
