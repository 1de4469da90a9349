/- ReverseSeries: the program by Lagrange's form, the model one coefficient after the other. -/
import Derived.Test.YtldbhhocoolloaaGreatRev
namespace Go.Proofs.YtldbhhocoolloaaGreat
open Go.RowKit
set_option linter.unusedVariables false

/-- The call answers a new slice of n numbers that reads as l. -/
def FreshN (w : World) (n : Nat) (l : List Int) (e : Ending) (w' : World) : Prop :=
  ∃ g cap, e = .returned (.slice (some ⟨g, 0, none⟩) n cap) ∧ Own w.heap.size w' g cap l ∧ Below w.heap.size w w'
theorem freshN_of {w w1 : World} {n : Nat} {l : List Int} {e : Ending} (h : Fresh w l e w1) (hn : l.length = n) : FreshN w n l e w1 := by
  subst hn; exact h
theorem iquotN (n : Nat) (a b : Option Addr) (ca cb : Nat) (l m : List Int) (w : World) (ha : At w a l) (hb : At w b m) (hr : Nums l) (hr2 : Nums m) (h : Hid (l.length = n)) (h' : Hid (m.length = n)) (h1 : 1 ≤ n) (hl : n ≤ 1048576) :
    Calls Tryz.prog 148 #[.slice a n ca, .slice b n cb] w (FreshN w n (divl l m)) := by
  have e1 := h.out
  have e2 := h'.out
  have k := iquotient a b ca cb l m w ha hb hr hr2 (by show _ = _; omega) (by omega) (by omega)
  rw [e1, e2] at k
  exact k.mono fun _ _ r => freshN_of r (by rw [divl_len]; exact e1)

def resReverseSeries (l : List Int) : List Int := if l.length = 1 then [] else if l.getD 0 0 ≠ 0 then [] else if l.getD 1 0 = 0 then [] else revl l
def codReverseSeries (l : List Int) : Int := if l.length = 1 then 2 else if l.getD 0 0 ≠ 0 then 4 else if l.getD 1 0 = 0 then 6 else 0
def allReverseSeries (l : List Int) : List Int := if okS l = true then resReverseSeries l else []
def alcReverseSeries (l : List Int) : Int := if okS l = true then codReverseSeries l else 1

set_option maxRecDepth 100000 in
set_option maxHeartbeats 3200000 in
theorem iRev (n N : Nat) (a : Option Addr) (ca : Nat) (l : List Int) (w : World) (ha : At w a l) (hL : Hid (l.length = n)) (hN : Hid (n = N + 1)) (hN1 : 1 ≤ N) (hm : n ≤ 13) (hn : Nums l) (h0 : Hid (l.getD 0 0 = 0)) (h1 : Hid (l.getD 1 0 ≠ 0)) (hca : n ≤ ca) :
    Calls Tryz.prog 119 #[.slice a n ca] w fun e w' => ∃ g cap, e = .returned (.tuple #[.slice (some ⟨g, 0, none⟩) n cap, .int .i64 0]) ∧ Own w.heap.size w' g cap (revl l) ∧ Below w.heap.size w w' := by
  have hn2 : 2 ≤ n := by have := hN.out; omega
  obtain ⟨b1, o1, rfl, hbl1, hc1⟩ := (ha.resolve_left (by intro e; have := hL.out; rw [e] at this; simp at this; omega))
  have z0 : w.cell? ⟨b1, o1, none⟩ = some (.int .i64 0) := by have := hc1 0 (by rw [hL.out]; omega); rw [h0.out, Nat.add_zero] at this; exact this
  have z1 : w.cell? ⟨b1, o1 + 1, none⟩ = some (.int .i64 (l.getD 1 0)) := hc1 1 (by rw [hL.out]; omega)
  have hq : (l.getD 1 0 == 0) = false := beq_eq_false_iff_ne.2 h1.out
  have hs1 : ((n : Int) == 1) = false := beq_eq_false_iff_ne.2 (by omega)
  have hi0 : (0 : Int) < (n : Int) := by omega
  have hi1 : (1 : Int) < (n : Int) := by omega
  have hj0 : 0 < n := by omega
  have hj1 : 1 < n := by omega
  obtain ⟨i0, hi, hz0, hz1, hz2⟩ := info_parts info64
  have HC1 := Lib.hid hc1
  generalize hy : l.getD 1 0 = y at z1 hq
  clear hy hc1
  have hsub : (n : Int) - 1 = (N : Int) := by have := hN.out; omega
  go_enter Tryz.func119, Tryz.ntmps119
  go_wp2_with (refine wpList_make_full _ rfl _ _ 98 rfl w.heap.size 2 i0 (.int .i64 0) 1 Tryz.underlying98 hi hz0 hz1 .i64 .i64 _ _ N rfl rfl rfl rfl ?c2 ?c3 (Nat.le_refl _) ?_)
  case c2 => rw [hz2]; omega
  case c3 => unfold maxLen; omega
  intro w1 ho1 hg1
  have hb1 := (Below.refl w.heap.size w).grown hg1 (Nat.le_refl _) (by intro k hk; cases hk)
  have ho2 := made_own ho1
  have HS := Lib.hid hsub
  have hl0 : (fillz N []).length = N := fillz_len (by simp)
  have hcs := ho2.cellAt 0 (by rw [hl0]; omega)
  have hfr := ho2.frz 0
  generalize (fillz N []).getD 0 0 = z at hcs
  have hset := ho2.set 0 1
  rw [show (fillz N []).set 0 1 = cstl 1 N from by rw [fillz_zero]; rfl] at hset
  have hb2 := hb1.setCell (p := ⟨w.heap.size, 0, none⟩) (Nat.le_refl _) (.int .i64 1)
  clear ho1 hg1 ho2 hl0 hsub hq hs1 hb1
  have hNi : (0 : Int) < (N : Int) := by omega
  obtain ⟨w2, hw2⟩ : ∃ w2, w2 = w1.setCell ⟨w.heap.size, 0, none⟩ (.int .i64 1) := ⟨_, rfl⟩
  have HW2 := Lib.hid hw2
  have hsz : w.heap.size ≤ w2.heap.size := by rw [hw2]; exact hb2.size
  rw [← hw2] at hset hb2
  clear hw2
  go_wp2_with (rw [← HW2.out]; refine wpList_make_full _ rfl _ _ 98 rfl w.heap.size 2 i0 (.int .i64 0) 1 Tryz.underlying98 hi hz0 hz1 .i64 .i64 _ _ n rfl rfl rfl rfl ?c4 ?c5 hsz ?_)
  case c4 => rw [hz2]; omega
  case c5 => unfold maxLen; omega
  intro w3 ho3 hg3
  have hb3 := hb2.grown hg3 hsz (by intro k hk; cases hk)
  have ho4 := made_own ho3
  rw [fillz_zero, fillz_nil_zero (by omega)] at ho4
  replace hset := Own.keptBy hset hg3 (by simp)
  clear ho3 hg3 hi hz0 hz1 hz2 hb2
  generalize w2.heap.size = G at ho4 ⊢
  go_wp2
  go_loopw [4, 6] (fun p i wr => ∃ (k g cap : Nat) (xs : List Int), k + 1 ≤ n ∧ i = .int .i64 ((k : Int) + 1) ∧ p = .slice (some ⟨g, 0, none⟩) N cap ∧ xs.length = k + 1 ∧ Hid (xs = 0 :: tab (rco l) k) ∧ Own w.heap.size wr g cap (rpw l k) ∧ Own w.heap.size wr G n (fillz n xs) ∧ Below w.heap.size w wr) (fun _ i _ => n - (intOf i).toNat)
  case atStart => exact ⟨0, w.heap.size, N, [0], by omega, rfl, rfl, rfl, rfl, by rw [rpw, hL.out, hN.out]; exact hset, ho4, hb3⟩
  case round =>
    obtain ⟨k, g, cap, xs, hk, rfl, rfl, hxl, hxs, hop, ho, hw⟩ := hrel
    have hfl : Hid ((fillz n xs).length = n) := fillz_len (by omega)
    by_cases hlt : k + 1 < n
    · have hat : At wr (some ⟨b1, o1 + 1, none⟩) l.tail := .inr ⟨b1, o1 + 1, rfl, Nat.lt_of_lt_of_le hbl1 hw.size, fun j hj => by
        have hj2 : j + 1 < l.length := by simp at hj; omega
        have := (hw.cell (p := ⟨b1, o1 + (j + 1), none⟩) hbl1).trans (HC1.out (j + 1) hj2)
        rw [show o1 + 1 + j = o1 + (j + 1) from by omega, this]
        show some (Value.int .i64 (sq l (j + 1))) = some (Value.int .i64 (sq l.tail j))
        rw [tail_sq]⟩
      have htl : Hid (l.tail.length = N) := by show _ = _; rw [List.length_tail, hL.out, hN.out]; rfl
      have hpl : Hid ((rpw l k).length = N) := by show _ = _; rw [rpw_len, hL.out, hN.out]; rfl
      have hki : (k : Int) + 1 < (n : Int) := by omega
      have hca1 : 1 < ca := by omega
      clear hb3 ho4 hset hsz
      go_wp2_with fail
      rw [show n - 1 = N from by have := hN.out; omega]
      refine (iquotN N _ _ cap (ca - 1) (rpw l k) l.tail _ hop.at hat (rpw_nums _ _) (tail_nums hn) hpl htl hN1 (by have := hN.out; omega)).mono ?_
      rintro e w4 ⟨g4, c4, rfl, hop4, hb4⟩
      have hGlt := ho.base.2
      have hg4 := hop4.base.1
      have hw4 := hw.trans (hb4.mono hw.size)
      replace ho := ho.kept hb4 ho.base.2
      replace hop4 := hop4.mono hw.size
      rw [show divl (rpw l k) l.tail = rpw l (k + 1) from rfl] at hop4
      have hpl4 : (rpw l (k + 1)).length = N := by rw [rpw_len, hL.out, hN.out]; rfl
      have hcp := hop4.cellAt k (by rw [hpl4]; have := hN.out; omega)
      have hxv : Hid (rco l k = tms ((rpw l (k + 1)).getD k 0) (inv ((k : Int) + 1))) := rfl
      have hbp := (rpw_nums l (k + 1)).at k
      have hcs := ho.cellAt (k + 1) (by rw [hfl.out]; omega)
      have hfr := ho.frz (k + 1)
      have hset := ho.set (k + 1) (rco l k)
      rw [fillz_set' hxl (by omega)] at hset
      have hset2 := hop4.setOther (p := ⟨G, k + 1, none⟩) (by
        intro e
        have e2 : G = g4 := e
        omega) (.int .i64 (rco l k))
      have hb5 := hw4.setCell (p := ⟨G, k + 1, none⟩) ho.base.1 (.int .i64 (rco l k))
      have hl2 : Hid ((xs ++ [rco l k]).length = k + 1 + 1) := by show _ = _; simp [hxl]
      have hx2 : Hid (xs ++ [rco l k] = 0 :: tab (rco l) (k + 1)) := by rw [tab_succ, hxs.out]; rfl
      have hkN : (k : Int) < (N : Int) := by have := hN.out; omega
      have hkN' : k < N := by have := hN.out; omega
      rw [hxv.out] at hset hset2 hb5 hl2 hx2
      clear hop ho hxs hxl hat hb4 hw hpl4 hxv hGlt hg4
      generalize hG : (rpw l (k + 1)).getD k 0 = y2 at hcp hbp hset hset2 hb5 hl2 hx2
      clear hG
      generalize (fillz n xs).getD (k + 1) 0 = z2 at hcs
      go_wp2_with fail
      refine (ishare k y2 (by omega) (by omega) _).mono ?_; rintro e w' ⟨rfl, rfl⟩
      generalize tms y2 (inv ((k : Int) + 1)) = y3 at hset hset2 hb5 hl2 hx2
      go_wp2
      go_roundw
      case rel => exact ⟨k + 1, g4, c4, xs ++ [y3], by omega, by go_num, rfl, hl2.out, hx2, hset2, hset, hb5⟩
      case measure => simp [intOf]; omega
    · have hfin : Hid (fillz n xs = revl l) := by
        show _ = _
        unfold revl
        rw [fillz_full (by omega), hxs.out, show k = l.length - 1 from by rw [hL.out]; omega]
      clear hxl hxs
      go_wp2
      go_ret2
      exact ⟨G, n, rfl, by rw [← hfin.out]; exact ho, hw⟩

theorem okS_parts {l : List Int} (h : okS l = true) : 1 ≤ l.length ∧ l.length ≤ 13 ∧ Nums l := okS_t h
set_option maxRecDepth 100000 in
set_option maxHeartbeats 1600000 in
theorem iReverseR (a : Option Addr) (ca : Nat) (l : List Int) (w : World) (ha : At w a l) (h1 : Hid (okS l = true)) (hca : l.length ≤ ca) :
    Calls Tryz.prog 119 #[.slice a l.length ca] w (Res2 w (resReverseSeries l) (codReverseSeries l)) := by
  obtain ⟨hl1, hl13, hn⟩ := okS_t h1.out
  by_cases hl : l.length = 1
  · have hif := Lib.hid (show ([] : List Int) = resReverseSeries l by unfold resReverseSeries; rw [if_pos hl])
    have hic := Lib.hid (show (2 : Int) = codReverseSeries l by unfold codReverseSeries; rw [if_pos hl])
    have hs1 : ((l.length : Int) == 1) = true := by rw [hl]; rfl
    clear hl
    go_enter Tryz.func119, Tryz.ntmps119
    go_wp2_with fail
    go_ret2
    rw [← hif.out, ← hic.out]
    exact ⟨none, 0, rfl, .inl rfl, Below.refl _ _⟩
  · have hs1 : ((l.length : Int) == 1) = false := beq_eq_false_iff_ne.2 (by omega)
    have hi0 : (0 : Int) < (l.length : Int) := by omega
    have hi1 : (1 : Int) < (l.length : Int) := by omega
    have ha' := ha
    obtain ⟨b1, o1, rfl, hbl1, hc1⟩ := (ha.resolve_left (by intro e; rw [e] at hl1; simp at hl1))
    have z0 : w.cell? ⟨b1, o1, none⟩ = some (.int .i64 (l.getD 0 0)) := by have := hc1 0 (by omega); rwa [Nat.add_zero] at this
    have z1 : w.cell? ⟨b1, o1 + 1, none⟩ = some (.int .i64 (l.getD 1 0)) := hc1 1 (by omega)
    clear hc1
    by_cases h0 : l.getD 0 0 = 0
    · by_cases hu : l.getD 1 0 = 0
      · have hif := Lib.hid (show ([] : List Int) = resReverseSeries l by unfold resReverseSeries; rw [if_neg hl, if_neg (by simpa using h0), if_pos hu])
        have hic := Lib.hid (show (6 : Int) = codReverseSeries l by unfold codReverseSeries; rw [if_neg hl, if_neg (by simpa using h0), if_pos hu])
        rw [h0] at z0
        rw [hu] at z1
        clear h0 hu hl
        go_enter Tryz.func119, Tryz.ntmps119
        go_wp2_with fail
        go_ret2
        rw [← hif.out, ← hic.out]
        exact ⟨none, 0, rfl, .inl rfl, Below.refl _ _⟩
      · have hif := Lib.hid (show revl l = resReverseSeries l by unfold resReverseSeries; rw [if_neg hl, if_neg (by simpa using h0), if_neg hu])
        have hic := Lib.hid (show (0 : Int) = codReverseSeries l by unfold codReverseSeries; rw [if_neg hl, if_neg (by simpa using h0), if_neg hu])
        refine (iRev l.length (l.length - 1) _ ca l w ha' rfl (by show _ = _; omega) (by omega) hl13 hn h0 hu hca).mono ?_
        rintro e w1 ⟨g, cap, rfl, ho, hb⟩
        rw [← hif.out, ← hic.out]
        exact ⟨_, cap, by rw [revl_len hl1], ho.a, hb⟩
    · have hif := Lib.hid (show ([] : List Int) = resReverseSeries l by unfold resReverseSeries; rw [if_neg hl, if_pos (by simpa using h0)])
      have hic := Lib.hid (show (4 : Int) = codReverseSeries l by unfold codReverseSeries; rw [if_neg hl, if_pos (by simpa using h0)])
      have hq : (l.getD 0 0 != 0) = true := by rw [bne_iff_ne]; exact h0
      generalize l.getD 0 0 = x0 at z0 hq h0
      clear h0 hl z1 ha'
      go_enter Tryz.func119, Tryz.ntmps119
      go_wp2_with fail
      go_ret2
      rw [← hif.out, ← hic.out]
      exact ⟨none, 0, rfl, .inl rfl, Below.refl _ _⟩

set_option maxRecDepth 100000 in
set_option maxHeartbeats 1600000 in
theorem itransform0 (a : Option Addr) (ca : Nat) (l : List Int) (w : World) (ha : At w a l) (hl : l.length ≤ 1048576) (hca : l.length ≤ ca) :
    Calls Tryz.prog 106 #[.int .i64 0, .slice a l.length ca] w (Res2 w (allReverseSeries l) (alcReverseSeries l)) := by
  cases h1 : okS l with
  | true =>
    have hif := Lib.hid (show resReverseSeries l = allReverseSeries l by unfold allReverseSeries; rw [if_pos h1])
    have hic := Lib.hid (show codReverseSeries l = alcReverseSeries l by unfold alcReverseSeries; rw [if_pos h1])
    have H1 := Lib.hid h1
    clear h1
    go_enter Tryz.func106, Tryz.ntmps106
    go_wp2_with fail
    refine (iValid a ca l _ ha (by omega)).mono ?_; rintro e w' ⟨rfl, rfl⟩
    rw [H1.out]
    go_wp2_with fail
    refine (iReverseR a ca l _ (by exact ha.alloc _) H1 hca).mono ?_; rintro e w1 ⟨g, cap, rfl, ho, hbel⟩
    go_wp2_with fail
    go_ret2
    rw [← hif.out, ← hic.out]
    exact res2_alloc ⟨g, cap, rfl, ho, hbel⟩
  | false =>
    have hif := Lib.hid (show ([] : List Int) = allReverseSeries l by unfold allReverseSeries; rw [if_neg (by rw [h1]; simp)])
    have hic := Lib.hid (show (1 : Int) = alcReverseSeries l by unfold alcReverseSeries; rw [if_neg (by rw [h1]; simp)])
    have H1 := Lib.hid h1
    clear h1
    go_enter Tryz.func106, Tryz.ntmps106
    go_wp2_with fail
    refine (iValid a ca l _ ha (by omega)).mono ?_; rintro e w' ⟨rfl, rfl⟩
    rw [H1.out]
    go_wp2_with fail
    go_ret2
    rw [← hif.out, ← hic.out]
    exact ⟨none, 0, rfl, .inl rfl, Below.refl _ _⟩

theorem resReverseSeries_len (l : List Int) (h0 : 1 ≤ l.length) : (resReverseSeries l).length ≤ l.length := by
  unfold resReverseSeries; repeat' split
  all_goals first | (rw [revl_len h0]; exact Nat.le_refl _) | simp
theorem resLen_ReverseSeries (l : List Int) (hl : l.length ≤ 1048576) : (allReverseSeries l).length ≤ 1048576 := by
  unfold allReverseSeries; split
  · rename_i h; exact Nat.le_trans (resReverseSeries_len l (okS_t h).1) hl
  · simp

end Go.Proofs.YtldbhhocoolloaaGreat
