/- The program's quotient of two series. -/
import Derived.Test.YtegjlfbklcgapaaDivS
namespace Go.Proofs.Ytegjlfbklcgapaa
open Go.RowKit

set_option maxRecDepth 100000 in
set_option maxHeartbeats 6400000 in
theorem iquotient (a b : Option Addr) (ca cb : Nat) (l m : List Int) (w : World) (ha : At w a l) (hb : At w b m) (hr : Nums l) (hr2 : Nums m) (hlm : Hid (m.length = l.length)) (hl0 : 1 ≤ l.length) (hl : l.length ≤ 1048576) :
    Calls Try.prog 118 #[.slice a l.length ca, .slice b m.length cb] w (Fresh w (divl l m)) := by
  obtain ⟨i0, hi, hz0, hz1, hz2⟩ := info_parts info64
  obtain ⟨b1, o1, rfl, hbl1, hc1⟩ := (ha.resolve_left (by intro e; rw [e] at hl0; simp at hl0))
  have hm0 : 1 ≤ m.length := by have := hlm.out; omega
  obtain ⟨b2, o2, rfl, hbl2, hc2⟩ := (hb.resolve_left (by intro e; rw [e] at hm0; simp at hm0))
  have hz : w.cell? ⟨b2, o2, none⟩ = some (.int .i64 (m.getD 0 0)) := by have := hc2 0 hm0; rwa [Nat.add_zero] at this
  have hf0 := hr2.at 0
  have HC1 := Lib.hid hc1
  have HC2 := Lib.hid hc2
  have hmi : (0 : Int) < (m.length : Int) := by omega
  have hfin := Lib.hid (show dvs l m (inv (m.getD 0 0)) l.length = divl l m from rfl)
  clear hc1 hc2 ha hb
  generalize m.getD 0 0 = f0 at hz hf0 hfin
  have hfb := pwr_bd f0 1000001
  go_enter Try.func118, Try.ntmps118
  go_wp2_with fail
  refine (iinv f0 (by omega) _).mono ?_; rintro e w' ⟨rfl, rfl⟩
  clear hz
  have hfb2 : 0 ≤ inv f0 ∧ inv f0 < 1000003 := hfb
  clear hfb
  generalize inv f0 = f at hfb2 hfin ⊢
  go_wp2_with (refine wpList_make_full _ rfl _ _ 69 rfl w.heap.size 2 i0 (.int .i64 0) 1 Try.underlying69 hi hz0 hz1 .i64 .i64 _ _ l.length rfl rfl rfl rfl ?c2 ?c3 (Nat.le_refl _) ?_)
  case c2 => rw [hz2]; omega
  case c3 => unfold maxLen; omega
  intro w1 ho1 hg1
  have hb1 := (Below.refl w.heap.size w).grown hg1 (Nat.le_refl _) (by intro k hk; cases hk)
  have ho2 := made_own ho1
  clear ho1 hg1 hi hz0 hz1 hz2
  go_wp2
  go_loopw [7, 8, 9, 19] (fun _ _ _ i wr => ∃ (k : Nat) (xs : List Int), k ≤ l.length ∧ i = .int .i64 k ∧ xs.length = k ∧ Hid (xs = dvs l m f k) ∧ Own w.heap.size wr w.heap.size l.length (fillz l.length xs) ∧ Below w.heap.size w wr) (fun _ _ _ i _ => l.length - (intOf i).toNat)
  case atStart => exact ⟨0, [], Nat.zero_le _, rfl, rfl, rfl, ho2, hb1⟩
  case round =>
    obtain ⟨k, xs, hk, rfl, hxl0, hxs, ho, hw⟩ := hrel
    by_cases hlt : k < l.length
    · have hlt2 : k < m.length := by have := hlm.out; omega
      have hxl := Lib.hid hxl0
      have hxn : Nums xs := by rw [hxs.out]; exact dvs_nms _ _ _ _
      have h1 : wr.cell? ⟨b1, o1 + k, none⟩ = some (.int .i64 (l.getD k 0)) := (hw.cell (p := ⟨b1, o1 + k, none⟩) hbl1).trans (HC1.out k hlt)
      have r1 := hr.at k
      have hi3 : (k : Int) < (l.length : Int) := by omega
      obtain ⟨x0, hx0⟩ : ∃ x0, l.getD k 0 = x0 := ⟨_, rfl⟩
      rw [hx0] at h1 r1
      have HX0 := Lib.hid hx0
      clear hb1 ho2 hx0 hxl0
      go_wp2
      obtain ⟨wo, hwo⟩ : ∃ wo : World, wo = wr := ⟨_, rfl⟩
      rw [← hwo] at ho hw ⊢
      clear hwo h1
      go_loopw [8, 9] (fun q i wi => ∃ (j : Nat) (s : Int), j ≤ k ∧ i = .int .i64 j ∧ q = .int .i64 s ∧ Hid (s = msub x0 (fun i => tms (xs.getD i 0) (m.getD (k - i) 0)) j) ∧ Own w.heap.size wi w.heap.size l.length (fillz l.length xs) ∧ Below w.heap.size w wi) (fun _ i _ => k - (intOf i).toNat)
      case atStart => exact ⟨0, x0, Nat.zero_le _, rfl, rfl, rfl, ho, hw⟩
      case round =>
        obtain ⟨j, s, hj, rfl, rfl, hs, hoi, hwi⟩ := hrel
        by_cases hjl : j < k
        · obtain ⟨d, hd⟩ : ∃ d : Nat, d = k - j := ⟨_, rfl⟩
          have h1 : wr.cell? ⟨w.heap.size, j, none⟩ = some (.int .i64 (xs.getD j 0)) := by
            rw [hoi.cellAt j (by rw [fillz_len (by rw [hxl.out]; exact hk)]; omega), fillz_low (by rw [hxl.out]; exact hjl)]
          have h2 : wr.cell? ⟨b2, o2 + d, none⟩ = some (.int .i64 (m.getD d 0)) := (hwi.cell (p := ⟨b2, o2 + d, none⟩) hbl2).trans (HC2.out d (by omega))
          have hwrap : IntKind.i64.wrap ((k : Int) - (j : Int)) = (d : Int) := by rw [show ((k : Int) - (j : Int)) = (d : Int) from by omega]; exact IntWalk.i64_in _ (by omega)
          have hi1 : (j : Int) < (l.length : Int) := by omega
          have hi2 : (d : Int) < (m.length : Int) := by omega
          have r1' := hxn.at j
          have r2 := hr2.at d
          have bs : 0 ≤ s ∧ s < 1000003 := by rw [hs.out]; exact msub_bd _ _ r1
          have hs2' : Hid (mns s (tms (xs.getD j 0) (m.getD d 0)) = msub x0 (fun i => tms (xs.getD i 0) (m.getD (k - i) 0)) (j + 1)) := by
            rw [hs.out, hd]; rfl
          have bt := tms_bd (xs.getD j 0) (m.getD d 0)
          clear hs hd
          generalize xs.getD j 0 = x at h1 r1' hs2' bt
          generalize m.getD d 0 = y at h2 r2 hs2' bt
          go_wp2
          go_quiet ((first | (go_at_call 29; exact quiet_same (iTimes x y (by omega) (by omega) _)) | (go_at_call 121; exact quiet_same (imns s (tms x y) (by omega) (by omega) _))))
          go_wp2
          go_roundw
          case rel => exact ⟨j + 1, _, by omega, by go_num, rfl, hs2', hoi, below_drewN hwi _⟩
          case measure => simp [intOf]; omega
        · have hjk : j = k := by omega
          subst hjk
          have bs : 0 ≤ s ∧ s < 1000003 := by rw [hs.out]; exact msub_bd _ _ r1
          have hs3 : Hid (xs ++ [tms s f] = dvs l m f (j + 1)) := by rw [dvs, ← hxs.out, hs.out, HX0.out]; rfl
          have hcs := hoi.cellAt j (by rw [fillz_len (by rw [hxl.out]; omega)]; omega)
          have hfr := hoi.frz j
          have hset := hoi.set j (tms s f)
          rw [show (fillz l.length xs).set j (tms s f) = fillz l.length (xs ++ [tms s f]) from by
            have := fillz_set (n := l.length) (xs := xs) (by rw [hxl.out]; omega) (tms s f); rw [hxl.out] at this; exact this] at hset
          have hb2 := hwi.setCell (p := ⟨w.heap.size, j, none⟩) (Nat.le_refl _) (.int .i64 (tms s f))
          have hl2 : Hid ((xs ++ [tms s f]).length = j + 1) := by show _ = _; simp [hxl.out]
          clear hs hxs ho hw hoi
          generalize (fillz l.length xs).getD j 0 = z at hcs
          go_wp2_with fail
          refine (iTimes s f (by omega) (by omega) _).mono ?_; rintro e w' ⟨rfl, rfl⟩
          generalize tms s f = s2 at hs3 hset hb2 hl2
          go_wp2
          go_roundw
          case rel => exact ⟨j + 1, xs ++ [s2], by omega, by go_num, hl2.out, hs3, hset, hb2⟩
          case measure => simp [intOf]; omega
    · have hkk : k = l.length := by omega
      subst hkk
      have hx2 := Lib.hid (show fillz l.length xs = divl l m by rw [fillz_full hxl0]; exact hxs.out.trans hfin.out)
      clear hxs hfin hxl0
      go_wp2
      go_ret
      exact ⟨_, l.length, ret_slice (divl_len l m).symm, by rw [hx2.out] at ho; exact ho, hw⟩

end Go.Proofs.Ytegjlfbklcgapaa
