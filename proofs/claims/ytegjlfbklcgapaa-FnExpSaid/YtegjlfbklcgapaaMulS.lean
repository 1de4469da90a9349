/- The model's product of two series. -/
import Derived.Test.YtegjlfbklcgapaaTwo
namespace Go.Proofs.Ytegjlfbklcgapaa
open Go.RowKit
attribute [local go_sem ↓] Go.wp_at_zero Go.wp_at_succ

set_option maxRecDepth 100000 in
set_option maxHeartbeats 6400000 in
theorem sMul (a b : Option Addr) (ca cb : Nat) (l m : List Int) (w : World) (ha : At w a l) (hb : At w b m) (hr : Rng l) (hr2 : Rng m) (hlm : Hid (m.length = l.length)) (hl : l.length ≤ 1048576) :
    Calls Try.prog 90 #[.slice a l.length ca, .slice b m.length cb] w (Fresh w (mull l m)) := by
  obtain ⟨i0, hi, hz0, hz1, hz2⟩ := info_parts info64
  have hB0 := (Below.refl w.heap.size w).alloc (Nat.le_refl _) (.cells #[] 2)
  have hO0 := own_none w w.heap.size (Nat.le_refl _)
  go_enter Try.func90, Try.ntmps90
  go_wp2
  go_loopw [5, 6, 7, 8] (fun v i _ _ wr => ∃ (k g cap : Nat) (xs : List Int), k ≤ l.length ∧ i = .int .i64 k ∧ v = .slice (some ⟨g, 0, none⟩) xs.length cap ∧ Hid (xs = tab (mulc l m) k) ∧ Own w.heap.size wr g cap xs ∧ Below w.heap.size w wr) (fun _ i _ _ _ => l.length - (intOf i).toNat)
  case atStart => exact ⟨0, w.heap.size, 0, [], Nat.zero_le _, rfl, rfl, rfl, hO0, hB0⟩
  case round =>
    obtain ⟨k, g, cap, xs, hk, rfl, rfl, hxs, ho, hw⟩ := hrel
    by_cases hlt : k < l.length
    · obtain ⟨b1, o1, rfl, hbl1, hc1⟩ := (ha.resolve_left (by intro e; rw [e] at hlt; simp at hlt))
      have hlt2 : k < m.length := by have := hlm.out; omega
      obtain ⟨b2, o2, rfl, hbl2, hc2⟩ := (hb.resolve_left (by intro e; rw [e] at hlt2; simp at hlt2))
      have HC1 := Lib.hid hc1
      have HC2 := Lib.hid hc2
      have hxl : xs.length ≤ k := by rw [hxs.out, tab_len]; exact Nat.le_refl _
      have hs2 : Hid (xs ++ [mulc l m k] = tab (mulc l m) (k + 1)) := by rw [tab_succ, hxs.out]; rfl
      clear hc1 hc2 ha hb hxs hB0 hO0
      go_wp2
      obtain ⟨wo, hwo⟩ : ∃ wo : World, wo = wr := ⟨_, rfl⟩
      rw [← hwo] at ho hw ⊢
      clear hwo
      go_loopw [7, 8] (fun q i wi => ∃ (j : Nat) (s : Int), j ≤ k + 1 ∧ i = .int .i64 j ∧ q = .int .i64 s ∧ Hid (s = psum (fun i => tms (l.getD i 0) (m.getD (k - i) 0)) j) ∧ Own w.heap.size wi g cap xs ∧ Below w.heap.size w wi) (fun _ i _ => k + 1 - (intOf i).toNat)
      case atStart => exact ⟨0, 0, Nat.zero_le _, rfl, rfl, rfl, ho, hw⟩
      case round =>
        obtain ⟨j, s, hj, rfl, rfl, hs, hoi, hwi⟩ := hrel
        by_cases hjl : j ≤ k
        · obtain ⟨d, hd⟩ : ∃ d : Nat, d = k - j := ⟨_, rfl⟩
          have h1 : wr.cell? ⟨b1, o1 + j, none⟩ = some (.int .i64 (l.getD j 0)) := (hwi.cell (p := ⟨b1, o1 + j, none⟩) hbl1).trans (HC1.out j (by omega))
          have h2 : wr.cell? ⟨b2, o2 + d, none⟩ = some (.int .i64 (m.getD d 0)) := (hwi.cell (p := ⟨b2, o2 + d, none⟩) hbl2).trans (HC2.out d (by omega))
          have hwrap : IntKind.i64.wrap ((k : Int) - (j : Int)) = (d : Int) := by rw [show ((k : Int) - (j : Int)) = (d : Int) from by omega]; exact IntWalk.i64_in _ (by omega)
          have hi1 : (j : Int) < (l.length : Int) := by omega
          have hi2 : (d : Int) < (m.length : Int) := by omega
          have r1 := hr.at j
          have r2 := hr2.at d
          have bs : 0 ≤ s ∧ s < 1000003 := by rw [hs.out]; exact psum_bd _ _
          have hs2' : Hid (pls s (tms (l.getD j 0) (m.getD d 0)) = psum (fun i => tms (l.getD i 0) (m.getD (k - i) 0)) (j + 1)) := by
            rw [hs.out, hd]; rfl
          have bt := tms_bd (l.getD j 0) (m.getD d 0)
          clear hs hd
          generalize l.getD j 0 = x at h1 r1 hs2' bt
          generalize m.getD d 0 = y at h2 r2 hs2' bt
          go_wp2
          go_quiet ((first | (go_at_call 52; exact quiet_same (sTimes x y r1 r2 _)) | (go_at_call 51; exact quiet_same (sPlus s (tms x y) (by omega) (by omega) _))))
          go_wp2
          go_roundw
          case rel => exact ⟨j + 1, _, by omega, by go_num, rfl, hs2', hoi, below_drewN hwi _⟩
          case measure => simp [intOf]; omega
        · have hjk : j = k + 1 := by omega
          subst hjk
          have hsm : Hid (s = mulc l m k) := hs.out
          have hs3 : Hid (xs ++ [s] = tab (mulc l m) (k + 1)) := by rw [hsm.out]; exact hs2.out
          have hsz := hwi.size
          have hgl := hoi.base
          clear hs hs2 ho hw hsm
          go_wp2_with (at_builtin; refine wpList_append_lies _ rfl _ _ _ rfl w.heap.size 2 i0 _ 1 8 Try.underlying30 hi hz0 hz1 hz2 rfl (by omega) (.slice (some ⟨g, 0, none⟩) xs.length cap) xs.length (xs.map (Value.int .i64)) rfl (hoi.alloc _) ⟨wr.heap.size, 0, none⟩ 1 1 [.int .i64 s] rfl rfl (World.news_of_block (cs := #[.int .i64 s]) (t := 2) (fr := (0, 0)) (heap_alloc_new wr _)) (by simp [Value.oneCell']) (by omega) (by unfold maxLen; omega) (by omega) (by simp; omega) (wr.heap.size + 1) (by simp) ?_; intro gg cc w1 hown1 hgrow hat hlt1)
          have hw2 : Below w.heap.size w w1 := (hwi.alloc hsz (.cells #[.int .i64 s] 2)).grown hgrow (by simp; omega) (by intro q hq; simp [Value.ownBlock] at hq; omega)
          have ho3 := own_appended hown1
          clear hgrow hown1 hoi hwi
          go_wp2
          go_roundw
          case rel => exact ⟨k + 1, gg, cc, xs ++ [s], by omega, by go_num, by simp, hs3, ho3, hw2⟩
          case measure => simp [intOf]; omega
    · have hkk : k = l.length := by omega
      subst hkk
      go_wp2
      go_ret
      exact ⟨g, cap, ret_slice (by rw [hxs.out, tab_len, mull_len]), by rw [show mull l m = xs from hxs.out.symm]; exact ho, hw⟩

end Go.Proofs.Ytegjlfbklcgapaa
