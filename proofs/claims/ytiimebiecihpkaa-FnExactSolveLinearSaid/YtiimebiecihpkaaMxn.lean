/- Columns taken out of rows, by the program. -/
import Derived.Test.YtiimebiecihpkaaMxl
import Derived.Test.YtiimebiecihpkaaTar
namespace Go.Proofs.Ytiimebiecihpkaa
open Go.RowKit
set_option linter.unusedVariables false

/-- the columns from one on -/
def cutF (f : Nat) (ls : List (List Int)) : List (List Int) := ls.map fun r => r.drop f
theorem cutF_len (f : Nat) (ls : List (List Int)) : (cutF f ls).length = ls.length := by simp [cutF]
theorem cutF_at {f i : Nat} {ls : List (List Int)} (h : i < ls.length) : (cutF f ls).getD i [] = (ls.getD i []).drop f := by
  simp [cutF, List.getD_eq_getElem?_getD, h]
theorem Own.drop {B : Nat} {w : World} {g cap : Nat} {l : List Int} (h : Own B w g cap l) (f : Nat) : At w (some ⟨g, f, none⟩) (l.drop f) := by
  by_cases e : l.drop f = []
  · exact .inl e
  · refine .inr ⟨g, f, rfl, h.base.2, fun k hk => ?_⟩
    rw [List.length_drop] at hk
    have := h.cellAt (f + k) (by omega)
    rw [this]; simp [List.getD_eq_getElem?_getD, List.getElem?_drop]

set_option maxRecDepth 100000 in
set_option maxHeartbeats 3200000 in
theorem iFrom (L g n wd f : Nat) (M : List (List Int)) (R K : Nat → Nat) (w : World) (h : Mo w L g n n n M R K) (hs : Wd n wd M) (hf : f < wd) :
    Calls Try.prog 161 #[.slice (some ⟨g, 0, none⟩) n n, .int .i64 f] w fun e w' => ∃ g2, e = .returned (.slice (some ⟨g2, 0, none⟩) n n) ∧ (∃ R K, Mo w' w.heap.size g2 n n n (cutF f M) R K) ∧ Below w.heap.size w w' := by
  obtain ⟨i1, hj, hy0, hy1, hy2⟩ := info_parts infoRow
  have hn6 := hs.n6
  have hw9 := hs.w9
  have HS := Lib.hid hs
  have HM := Lib.hid h
  clear h hs
  go_enter Try.func161, Try.ntmps161
  go_wp2_with (refine wpList_make_full _ rfl _ _ 22 rfl w.heap.size 23 i1 (.slice none 0 0) 1 Try.underlying22 hj hy0 hy1 .i64 .i64 _ _ n rfl rfl rfl rfl ?c2 ?c3 (Nat.le_refl _) ?_)
  case c2 => rw [hy2]; omega
  case c3 => unfold maxLen; omega
  intro w1 ho1 hg1
  have hb1 := (Below.refl w.heap.size w).grown hg1 (Nat.le_refl _) (by intro k hk; cases hk)
  have HM0 : Hid (Mo w1 w.heap.size w.heap.size n n 0 (cutF f M) (fun _ => 0) (fun _ => 0)) := ⟨⟨_, ho1, fun i h => absurd h (Nat.not_lt_zero _)⟩, fun i h => absurd h (Nat.not_lt_zero _), fun i h => absurd h (Nat.not_lt_zero _), fun i j h => absurd h (Nat.not_lt_zero _)⟩
  have HB1 := Lib.hid hb1
  clear ho1 hg1 hj hy0 hy1 hy2 hb1
  go_wp2_with fail
  go_loopw [13] (fun i wr => ∃ (k : Nat) (R K : Nat → Nat), k ≤ n ∧ i = .int .i64 k ∧ Hid (Mo wr w.heap.size w.heap.size n n k (cutF f M) R K) ∧ Hid (Below w.heap.size w wr)) (fun i _ => n - (intOf i).toNat)
  case atStart => exact ⟨0, _, _, Nat.zero_le _, rfl, HM0.out, HB1.out⟩
  case round =>
    obtain ⟨k, R2, K2, hk, rfl, HM2, HB⟩ := hrel
    clear HM0 HB1
    by_cases hlt : k < n
    · have hii : (k : Int) < (n : Int) := by omega
      have hmr := HM.out.next HB.out
      have c0 := hmr.cell (Nat.le_refl _) k hlt
      rw [HS.out.row k hlt] at c0
      have hor := hmr.row k hlt
      have hcap := hor.cap_le
      rw [HS.out.row k hlt] at hcap
      have hat := hor.drop f
      have hdl : ((M.getD k []).drop f).length = wd - f := by rw [List.length_drop, HS.out.row k hlt]
      have HC := iClone (some ⟨R k, f, none⟩) (K k - f) ((M.getD k []).drop f) wr hat (by rw [hdl]; omega) (by rw [hdl]; omega)
      rw [hdl] at HC
      have HCC := Lib.hid HC
      have HCF : Hid ((M.getD k []).drop f = (cutF f M).getD k []) := by show _ = _; rw [cutF_at (by have := HS.out.len; omega)]
      obtain ⟨v0, q0⟩ := HM2.out.has k hlt
      have qf := HM2.out.frz k
      have hgs := HM2.out.base
      have hsz := HB.out.size
      have HDL := Lib.hid hdl
      have hfw : (f : Int) ≤ (wd : Int) := by omega
      have hkf : ¬ K k = f := by omega
      have hfk : (f : Int) ≤ (K k : Int) := by omega
      clear hmr hor hat HC hdl
      generalize (M.getD k []).drop f = x at *
      generalize K k = kk at *
      go_wp2_with fail
      refine HCC.out.mono ?_; rintro e w5 ⟨r, cr, rfl, ho, hb⟩
      have hM5 := HM2.out.next hb
      have hb5 := HB.out.trans (hb.mono hsz)
      have q5 := (hb.cell (p := ⟨w.heap.size, k, none⟩) (cell_lt q0)).trans q0
      have qf5 := (hb.frozen (p := ⟨w.heap.size, k, none⟩) (cell_lt q0)).trans qf
      have hob := ho.base
      have HN := Lib.hid (hM5.put hlt (ho.mono hsz) (by omega) (fun i hi => by have := (HM2.out.row i hi).base; omega) HCF.out)
      have HBN := Lib.hid (hb5.setCell (p := ⟨w.heap.size, k, none⟩) (Nat.le_refl _) (.slice (some ⟨r, 0, none⟩) x.length cr))
      clear hM5 hb5 hb ho q0 qf HM2 HCC HB c0
      go_wp2_with fail
      go_roundw
      case rel => exact ⟨k + 1, _, _, by omega, by go_num, HN.out, HBN.out⟩
      case measure => simp [intOf]; omega
    · have hii : ¬ (k : Int) < (n : Int) := by omega
      obtain rfl : k = n := by omega
      go_wp2_with fail
      go_ret
      exact ⟨_, rfl, ⟨R2, K2, HM2.out⟩, HB.out⟩

set_option maxRecDepth 100000 in
set_option maxHeartbeats 3200000 in
theorem iColumn (a : Option Addr) (ca n k : Nat) (X : List (List Int)) (w : World) (h : Mat w a X) (hl : X.length = n) (hn : n ≤ 6) (hk : ∀ i, i < n → k < (X.getD i []).length) (hb : ∀ i, i < n → (X.getD i []).length ≤ 12) :
    Calls Try.prog 157 #[.slice a n ca, .int .i64 k] w (Fresh w (coln X k)) := by
  obtain ⟨i0, hi, hz0, hz1, hz2⟩ := info_parts info64
  have HM := Lib.hid h
  have HK := Lib.hid hk
  have HBD := Lib.hid hb
  have HL := Lib.hid hl
  clear h hk hb hl
  go_enter Try.func157, Try.ntmps157
  go_wp2_with (refine wpList_make_full _ rfl _ _ 23 rfl w.heap.size 2 i0 (.int .i64 0) 1 Try.underlying23 hi hz0 hz1 .i64 .i64 _ _ n rfl rfl rfl rfl ?c2 ?c3 (Nat.le_refl _) ?_)
  case c2 => rw [hz2]; omega
  case c3 => unfold maxLen; omega
  intro w1 ho1 hg1
  have hb1 := (Below.refl w.heap.size w).grown hg1 (Nat.le_refl _) (by intro k hk; cases hk)
  have HO0 : Hid (Own w.heap.size w1 w.heap.size n (fillz n (coln (X.take 0) k))) := made_own ho1
  have HB1 := Lib.hid hb1
  clear ho1 hg1 hi hz0 hz1 hz2 hb1
  go_wp2_with fail
  go_loopw [13] (fun q wr => ∃ i : Nat, i ≤ n ∧ q = .int .i64 i ∧ Hid (Own w.heap.size wr w.heap.size n (fillz n (coln (X.take i) k))) ∧ Hid (Below w.heap.size w wr)) (fun q _ => n - (intOf q).toNat)
  case atStart => exact ⟨0, Nat.zero_le _, rfl, HO0.out, HB1.out⟩
  case round =>
    obtain ⟨i, hi, rfl, HO, HB⟩ := hrel
    clear HO0 HB1
    by_cases hlt : i < n
    · have hii : (i : Int) < (n : Int) := by omega
      have hlX := HL.out
      obtain ⟨b, off, rfl, hbl, hall⟩ := (HM.out.below HB.out (Nat.le_refl _)).resolve_left (by intro e; rw [e] at hlX; simp at hlX; omega)
      obtain ⟨ai, ci, c0, hat⟩ := hall i (by omega)
      have hkl := HK.out i hlt
      obtain ⟨b2, o2, rfl, _, hc2⟩ := hat.resolve_left (by intro e; rw [e] at hkl; simp at hkl)
      have c1 := hc2 k hkl
      have hcl : (coln (X.take i) k).length = i := by simp [coln]; omega
      have q0 := HO.out.cellAt i (by rw [fillz_len (by omega)]; exact hlt)
      have qf := HO.out.frz i
      have hsz := HO.out.base
      have HS : Hid ((fillz n (coln (X.take i) k)).set i ((X.getD i []).getD k 0) = fillz n (coln (X.take (i + 1)) k)) := by
        show _ = _
        have e := fillz_set (n := n) (xs := coln (X.take i) k) (by omega) ((X.getD i []).getD k 0)
        rw [hcl, coln_take (by omega)] at e; exact e
      have hset := HO.out.set i ((X.getD i []).getD k 0)
      rw [HS.out] at hset
      have HSET := Lib.hid hset
      have HBN := Lib.hid (HB.out.setCell (p := ⟨w.heap.size, i, none⟩) (Nat.le_refl _) (.int .i64 ((X.getD i []).getD k 0)))
      have hki : (k : Int) < ((X.getD i []).length : Int) := by omega
      clear hall hat hc2 hset HS HO hkl hcl hlX
      generalize (X.getD i []).getD k 0 = x at *
      generalize (X.getD i []).length = m at *
      go_wp2_with fail
      go_roundw
      case rel => exact ⟨i + 1, by omega, by go_num, HSET.out, HBN.out⟩
      case measure => simp [intOf]; omega
    · have hii : ¬ (i : Int) < (n : Int) := by omega
      obtain rfl : i = n := by omega
      have hcl : (coln X k).length = i := by simp [coln]; exact HL.out
      have HOF : Hid (Own w.heap.size wr w.heap.size i (coln X k)) := by
        show Own _ _ _ _ _
        have := HO.out
        rw [show X.take i = X by rw [← HL.out, List.take_length], fillz_full hcl] at this
        exact this
      have HCL := Lib.hid hcl
      clear HO hcl
      go_wp2_with fail
      go_ret
      exact ⟨w.heap.size, i, by show Ending.returned (.slice (some ⟨w.heap.size, 0, none⟩) i i) = _; rw [HCL.out], HOF.out, HB.out⟩

end Go.Proofs.Ytiimebiecihpkaa
