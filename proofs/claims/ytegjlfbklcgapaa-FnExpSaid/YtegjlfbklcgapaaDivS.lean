/- The model's quotient of two series. -/
import Derived.Test.YtegjlfbklcgapaaMulT
namespace Go.Proofs.Ytegjlfbklcgapaa
open Go.RowKit
attribute [local go_sem ↓] Go.wp_at_zero Go.wp_at_succ

set_option maxHeartbeats 400000 in
theorem sMinus (a b : Int) (ha : 0 ≤ a ∧ a < 1000003) (hb : 0 ≤ b ∧ b < 1000003) (w : World) :
    Calls Try.prog 114 #[.int .i64 a, .int .i64 b] w fun e w' => e = .returned (.int .i64 (mns a b)) ∧ w = w' := by
  go_enter Try.func114, Try.ntmps114
  go_wp2_with fail
  refine (sResidue _ (by omega) (by omega) _).mono ?_; rintro e w' ⟨rfl, rfl⟩
  go_wp2_with fail
  go_ret
  exact ⟨rfl, rfl⟩

set_option maxRecDepth 100000 in
set_option maxHeartbeats 6400000 in
theorem sDiv (a b : Option Addr) (ca cb : Nat) (l m : List Int) (w : World) (ha : At w a l) (hb : At w b m) (hr : Nums l) (hr2 : Nums m) (hlm : Hid (m.length = l.length)) (hl0 : 1 ≤ l.length) (hl : l.length ≤ 1048576) :
    Calls Try.prog 91 #[.slice a l.length ca, .slice b m.length cb] w (Fresh w (divl l m)) := by
  obtain ⟨i0, hi, hz0, hz1, hz2⟩ := info_parts info64
  have hB0 := (Below.refl w.heap.size w).alloc (Nat.le_refl _) (.cells #[] 2)
  have hO0 := own_none w w.heap.size (Nat.le_refl _)
  obtain ⟨b1, o1, rfl, hbl1, hc1⟩ := (ha.resolve_left (by intro e; rw [e] at hl0; simp at hl0))
  have hm0 : 1 ≤ m.length := by have := hlm.out; omega
  obtain ⟨b2, o2, rfl, hbl2, hc2⟩ := (hb.resolve_left (by intro e; rw [e] at hm0; simp at hm0))
  have hz : (w.alloc (.cells #[] 2)).cell? ⟨b2, o2, none⟩ = some (.int .i64 (m.getD 0 0)) := (hB0.cell (p := ⟨b2, o2, none⟩) hbl2).trans (by have := hc2 0 hm0; rwa [Nat.add_zero] at this)
  have hf0 := hr2.at 0
  have HC1 := Lib.hid hc1
  have HC2 := Lib.hid hc2
  have hmi : (0 : Int) < (m.length : Int) := by omega
  have hfin := Lib.hid (show dvs l m (inv (m.getD 0 0)) l.length = divl l m from rfl)
  clear hc1 hc2 ha hb
  generalize m.getD 0 0 = f0 at hz hf0 hfin
  have hfb := pwr_bd f0 1000001
  go_enter Try.func91, Try.ntmps91
  go_wp2_with fail
  refine (sinv f0 (by omega) _).mono ?_; rintro e w' ⟨rfl, rfl⟩
  go_wp2_with fail
  clear hz
  have hfb2 : 0 ≤ inv f0 ∧ inv f0 < 1000003 := hfb
  clear hfb
  generalize inv f0 = f at hfb2 hfin ⊢
  go_loopw [5, 7, 8, 9] (fun v i _ _ wr => ∃ (k g cap : Nat) (xs : List Int), k ≤ l.length ∧ i = .int .i64 k ∧ v = .slice (some ⟨g, 0, none⟩) xs.length cap ∧ Hid (xs = dvs l m f k) ∧ Own w.heap.size wr g cap xs ∧ Below w.heap.size w wr) (fun _ i _ _ _ => l.length - (intOf i).toNat)
  case atStart => exact ⟨0, w.heap.size, 0, [], Nat.zero_le _, rfl, rfl, rfl, hO0, hB0⟩
  case round =>
    obtain ⟨k, g, cap, xs, hk, rfl, rfl, hxs, ho, hw⟩ := hrel
    by_cases hlt : k < l.length
    · have hlt2 : k < m.length := by have := hlm.out; omega
      have hxl : Hid (xs.length = k) := by rw [hxs.out]; exact dvs_len _ _ _ _
      have hxn : Nums xs := by rw [hxs.out]; exact dvs_nms _ _ _ _
      have h1 : wr.cell? ⟨b1, o1 + k, none⟩ = some (.int .i64 (l.getD k 0)) := (hw.cell (p := ⟨b1, o1 + k, none⟩) hbl1).trans (HC1.out k hlt)
      have r1 := hr.at k
      obtain ⟨x0, hx0⟩ : ∃ x0, l.getD k 0 = x0 := ⟨_, rfl⟩
      rw [hx0] at h1 r1
      have HX0 := Lib.hid hx0
      clear hB0 hO0 hx0
      go_wp2
      obtain ⟨wo, hwo⟩ : ∃ wo : World, wo = wr := ⟨_, rfl⟩
      rw [← hwo] at ho hw ⊢
      clear hwo h1
      go_loopw [8, 9] (fun q i wi => ∃ (j : Nat) (s : Int), j ≤ k ∧ i = .int .i64 j ∧ q = .int .i64 s ∧ Hid (s = msub x0 (fun i => tms (xs.getD i 0) (m.getD (k - i) 0)) j) ∧ Own w.heap.size wi g cap xs ∧ Below w.heap.size w wi) (fun _ i _ => k - (intOf i).toNat)
      case atStart => exact ⟨0, x0, Nat.zero_le _, rfl, rfl, rfl, ho, hw⟩
      case round =>
        obtain ⟨j, s, hj, rfl, rfl, hs, hoi, hwi⟩ := hrel
        by_cases hjl : j < k
        · obtain ⟨d, hd⟩ : ∃ d : Nat, d = k - j := ⟨_, rfl⟩
          have h1 : wr.cell? ⟨g, j, none⟩ = some (.int .i64 (xs.getD j 0)) := hoi.cellAt j (by rw [hxl.out]; exact hjl)
          have h2 : wr.cell? ⟨b2, o2 + d, none⟩ = some (.int .i64 (m.getD d 0)) := (hwi.cell (p := ⟨b2, o2 + d, none⟩) hbl2).trans (HC2.out d (by omega))
          have hwrap : IntKind.i64.wrap ((k : Int) - (j : Int)) = (d : Int) := by rw [show ((k : Int) - (j : Int)) = (d : Int) from by omega]; exact IntWalk.i64_in _ (by omega)
          have hi1 : (j : Int) < (xs.length : Int) := by rw [hxl.out]; omega
          have hi2 : (d : Int) < (m.length : Int) := by omega
          have r1' := hxn.at j
          have r2 := hr2.at d
          have bs : 0 ≤ s ∧ s < 1000003 := by rw [hs.out]; exact msub_bd _ _ r1
          have hs2' : Hid (mns s (tms (xs.getD j 0) (m.getD d 0)) = msub x0 (fun i => tms (xs.getD i 0) (m.getD (k - i) 0)) (j + 1)) := by
            rw [hs.out, hd]; rfl
          have bt := tms_bd (xs.getD j 0) (m.getD d 0)
          clear hs hd
          generalize xs.getD j 0 = x at h1 r1' hs2' bt
          generalize m.getD d 0 = y at h2 r2 hs2' bt
          go_wp2
          go_quiet ((first | (go_at_call 52; exact quiet_same (sTimes x y (by omega) (by omega) _)) | (go_at_call 114; exact quiet_same (sMinus s (tms x y) (by omega) (by omega) _))))
          go_wp2
          go_roundw
          case rel => exact ⟨j + 1, _, by omega, by go_num, rfl, hs2', hoi, below_drewN hwi _⟩
          case measure => simp [intOf]; omega
        · have hjk : j = k := by omega
          subst hjk
          have bs : 0 ≤ s ∧ s < 1000003 := by rw [hs.out]; exact msub_bd _ _ r1
          have hs3 : Hid (xs ++ [tms s f] = dvs l m f (j + 1)) := by rw [dvs, ← hxs.out, hs.out, HX0.out]; rfl
          have hsz := hwi.size
          have hgl := hoi.base
          have hxl2 : xs.length ≤ 1048576 := by rw [hxl.out]; omega
          clear hs hxs ho hw
          go_wp2_with fail
          refine (sTimes s f (by omega) (by omega) _).mono ?_; rintro e w' ⟨rfl, rfl⟩
          generalize tms s f = s2 at hs3
          go_wp2_with (at_builtin; refine wpList_append_lies _ rfl _ _ _ rfl w.heap.size 2 i0 _ 1 8 Try.underlying30 hi hz0 hz1 hz2 rfl (by omega) (.slice (some ⟨g, 0, none⟩) xs.length cap) xs.length (xs.map (Value.int .i64)) rfl (hoi.alloc _) ⟨wr.heap.size, 0, none⟩ 1 1 [.int .i64 s2] rfl rfl (World.news_of_block (cs := #[.int .i64 s2]) (t := 2) (fr := (0, 0)) (heap_alloc_new wr _)) (by simp [Value.oneCell']) (by omega) (by unfold maxLen; omega) (by omega) (by simp; omega) (wr.heap.size + 1) (by simp) ?_; intro gg cc w1 hown1 hgrow hat hlt1)
          have hw2 : Below w.heap.size w w1 := (hwi.alloc hsz (.cells #[.int .i64 s2] 2)).grown hgrow (by simp; omega) (by intro q hq; simp [Value.ownBlock] at hq; omega)
          have ho3 := own_appended hown1
          clear hgrow hown1 hoi hwi
          go_wp2
          go_roundw
          case rel => exact ⟨j + 1, gg, cc, xs ++ [s2], by omega, by go_num, by simp, hs3, ho3, hw2⟩
          case measure => simp [intOf]; omega
    · have hkk : k = l.length := by omega
      subst hkk
      have hx2 := Lib.hid (hxs.out.trans hfin.out)
      clear hxs hfin
      go_wp2
      go_ret
      exact ⟨g, cap, ret_slice (by rw [hx2.out]), by rw [← hx2.out]; exact ho, hw⟩

end Go.Proofs.Ytegjlfbklcgapaa
