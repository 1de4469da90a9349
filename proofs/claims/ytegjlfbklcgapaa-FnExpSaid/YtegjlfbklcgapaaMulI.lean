/- The program's product of two series. -/
import Derived.Test.YtegjlfbklcgapaaMulS
namespace Go.Proofs.Ytegjlfbklcgapaa
open Go.RowKit

set_option maxRecDepth 100000 in
set_option maxHeartbeats 6400000 in
theorem iproduct (a b : Option Addr) (ca cb : Nat) (l m : List Int) (w : World) (ha : At w a l) (hb : At w b m) (hr : Rng l) (hr2 : Rng m) (hlm : Hid (m.length = l.length)) (hl : l.length ≤ 1048576) :
    Calls Try.prog 117 #[.slice a l.length ca, .slice b m.length cb] w (Fresh w (mull l m)) := by
  obtain ⟨i0, hi, hz0, hz1, hz2⟩ := info_parts info64
  go_enter Try.func117, Try.ntmps117
  go_wp2_with (refine wpList_make_full _ rfl _ _ 69 rfl w.heap.size 2 i0 (.int .i64 0) 1 Try.underlying69 hi hz0 hz1 .i64 .i64 _ _ l.length rfl rfl rfl rfl ?c2 ?c3 (Nat.le_refl _) ?_)
  case c2 => rw [hz2]; omega
  case c3 => unfold maxLen; omega
  intro w1 ho1 hg1
  have hb1 := (Below.refl w.heap.size w).grown hg1 (Nat.le_refl _) (by intro k hk; cases hk)
  have ho2 := made_own ho1
  clear ho1 hg1 hi hz0 hz1 hz2
  go_wp2
  go_loopw [6, 7, 13] (fun _ _ i wr => ∃ (k : Nat) (xs : List Int), k ≤ l.length ∧ i = .int .i64 k ∧ xs.length = k ∧ Hid (xs = tab (mulc l m) k) ∧ Own w.heap.size wr w.heap.size l.length (fillz l.length xs) ∧ Below w.heap.size w wr) (fun _ _ i _ => l.length - (intOf i).toNat)
  case atStart => exact ⟨0, [], Nat.zero_le _, rfl, rfl, rfl, ho2, hb1⟩
  case round =>
    obtain ⟨k, xs, hk, rfl, hxl, hxs, ho, hw⟩ := hrel
    by_cases hlt : k < l.length
    · obtain ⟨b1, o1, rfl, hbl1, hc1⟩ := (ha.resolve_left (by intro e; rw [e] at hlt; simp at hlt))
      have hlt2 : k < m.length := by have := hlm.out; omega
      obtain ⟨b2, o2, rfl, hbl2, hc2⟩ := (hb.resolve_left (by intro e; rw [e] at hlt2; simp at hlt2))
      have HC1 := Lib.hid hc1
      have HC2 := Lib.hid hc2
      have hs2 : Hid (xs ++ [mulc l m k] = tab (mulc l m) (k + 1)) := by rw [tab_succ, hxs.out]; rfl
      rw [fillz_snoc0 (by omega)] at ho
      have HX := Lib.hid hxl
      clear hc1 hc2 ha hb hxs ho2 hb1 hxl
      go_wp2
      obtain ⟨wo, hwo⟩ : ∃ wo : World, wo = wr := ⟨_, rfl⟩
      rw [← hwo] at ho hw ⊢
      clear hwo
      go_loopw [7] (fun i wi => ∃ (j : Nat) (s : Int), j ≤ k + 1 ∧ i = .int .i64 j ∧ Hid (s = psum (fun i => tms (l.getD i 0) (m.getD (k - i) 0)) j) ∧ Own w.heap.size wi w.heap.size l.length (fillz l.length (xs ++ [s])) ∧ Below w.heap.size w wi) (fun i _ => k + 1 - (intOf i).toNat)
      case atStart => exact ⟨0, 0, Nat.zero_le _, rfl, rfl, ho, hw⟩
      case round =>
        obtain ⟨j, s, hj, rfl, hs, hoi, hwi⟩ := hrel
        by_cases hjl : j ≤ k
        · obtain ⟨d, hd⟩ : ∃ d : Nat, d = k - j := ⟨_, rfl⟩
          have h1 : wr.cell? ⟨b1, o1 + j, none⟩ = some (.int .i64 (l.getD j 0)) := (hwi.cell (p := ⟨b1, o1 + j, none⟩) hbl1).trans (HC1.out j (by omega))
          have h2 : wr.cell? ⟨b2, o2 + d, none⟩ = some (.int .i64 (m.getD d 0)) := (hwi.cell (p := ⟨b2, o2 + d, none⟩) hbl2).trans (HC2.out d (by omega))
          have hwrap : IntKind.i64.wrap ((k : Int) - (j : Int)) = (d : Int) := by rw [show ((k : Int) - (j : Int)) = (d : Int) from by omega]; exact IntWalk.i64_in _ (by omega)
          have hi1 : (j : Int) < (l.length : Int) := by omega
          have hi2 : (d : Int) < (m.length : Int) := by omega
          have hi3 : (k : Int) < (l.length : Int) := by omega
          have r1 := hr.at j
          have r2 := hr2.at d
          have bs : 0 ≤ s ∧ s < 1000003 := by rw [hs.out]; exact psum_bd _ _
          have hs2' : Hid (pls s (tms (l.getD j 0) (m.getD d 0)) = psum (fun i => tms (l.getD i 0) (m.getD (k - i) 0)) (j + 1)) := by
            rw [hs.out, hd]; rfl
          have bt := tms_bd (l.getD j 0) (m.getD d 0)
          have hcs := hoi.cellAt k (by rw [fillz_len (by simp [HX.out]; omega)]; exact hlt)
          rw [show (fillz l.length (xs ++ [s])).getD k 0 = s from by have := fillz_get (n := l.length) (xs := xs) s; rw [HX.out] at this; exact this] at hcs
          have hfr := hoi.frz k
          have hset := hoi.set k (pls s (tms (l.getD j 0) (m.getD d 0)))
          rw [show (fillz l.length (xs ++ [s])).set k (pls s (tms (l.getD j 0) (m.getD d 0))) = fillz l.length (xs ++ [pls s (tms (l.getD j 0) (m.getD d 0))]) from by have := fillz_reset (n := l.length) (xs := xs) s (pls s (tms (l.getD j 0) (m.getD d 0))); rw [HX.out] at this; exact this] at hset
          have hb2 := hwi.setCell (p := ⟨w.heap.size, k, none⟩) (Nat.le_refl _) (.int .i64 (pls s (tms (l.getD j 0) (m.getD d 0))))
          clear hs hd hoi ho hw
          generalize l.getD j 0 = x at h1 r1 hs2' bt hset hb2
          generalize m.getD d 0 = y at h2 r2 hs2' bt hset hb2
          go_wp2
          refine wp_region_still_tail 19 (by kernel_rfl) (by kernel_rfl) ?_
          simp only [List.take_succ_cons, List.take_zero, List.drop_succ_cons, List.drop_zero]
          repeat still_step
          still_call (flip (iTimes x y r1 r2 _))
          repeat still_step
          still_call (flip (iPlus s (tms x y) (by omega) (by omega) _))
          repeat still_step
          refine wpStill_nil ?_
          change wpList _ _ _ _ _ wr.drew
          go_wp2
          go_roundw
          case rel => exact ⟨j + 1, _, by omega, by go_num, hs2', hset, hb2.drew⟩
          case measure => simp [intOf]; omega
        · have hjk : j = k + 1 := by omega
          subst hjk
          have hsm : Hid (s = mulc l m k) := hs.out
          have hs3 : Hid (xs ++ [s] = tab (mulc l m) (k + 1)) := by rw [hsm.out]; exact hs2.out
          have hl2 : Hid ((xs ++ [s]).length = k + 1) := by show _ = _; simp [HX.out]
          clear hs hs2 ho hw hsm
          go_wp2
          go_roundw
          case rel => exact ⟨k + 1, xs ++ [s], by omega, by go_num, hl2.out, hs3, hoi, hwi⟩
          case measure => simp [intOf]; omega
    · have hkk : k = l.length := by omega
      subst hkk
      have hfin := Lib.hid (show fillz l.length xs = mull l m by rw [fillz_full hxl]; exact hxs.out)
      clear hxl
      go_wp2
      go_ret
      exact ⟨_, l.length, ret_slice (mull_len l m).symm, by rw [hfin.out] at ho; exact ho, hw⟩

end Go.Proofs.Ytegjlfbklcgapaa
