/- A linear system solved, by the model. -/
import Derived.Test.YtiimebiecihpkaaMxr
namespace Go.Proofs.Ytiimebiecihpkaa
open Go.RowKit
set_option linter.unusedVariables false

theorem Kp.grw {w w' : World} {g : Nat} (h : w.grownBy w' (some g)) : Kp (fun k => k = g) w w' := ⟨h.os, h.tape, h.output, h.size, fun k hk hn => h.block k hk (by intro e; cases e; exact hn rfl)⟩
/-- the first k rows have their number more -/
def apK (ls : List (List Int)) (l : List Int) : Nat → List (List Int)
  | 0 => ls
  | k + 1 => (apK ls l k).set k (ls.getD k [] ++ [l.getD k 0])
theorem apK_len (ls : List (List Int)) (l : List Int) : ∀ k, (apK ls l k).length = ls.length
  | 0 => rfl
  | k + 1 => by rw [apK, List.length_set, apK_len ls l k]
theorem apK_at (ls : List (List Int)) (l : List Int) (i : Nat) : ∀ k, k ≤ ls.length → (apK ls l k).getD i [] = if i < k then ls.getD i [] ++ [l.getD i 0] else ls.getD i []
  | 0, _ => by rw [apK, if_neg (by omega)]
  | k + 1, h => by
    rw [apK, getD_set_row (by rw [apK_len]; omega)]
    by_cases e : i = k
    · subst e; rw [if_pos rfl, if_pos (by omega)]
    · rw [if_neg e, apK_at ls l i k (by omega)]
      by_cases h2 : i < k
      · rw [if_pos h2, if_pos (by omega)]
      · rw [if_neg h2, if_neg (by omega)]
theorem apK_all {n : Nat} {ls : List (List Int)} {l : List Int} (hl : ls.length = n) (hb : l.length = n) : apK ls l n = cat2 n ls (sgl l) := by
  refine List.ext_getElem? fun i => ?_
  by_cases hi : i < n
  · have h1 := apK_at ls l i n (by omega)
    have h2 := cat2_at (ls := ls) (ms := sgl l) hi
    rw [if_pos hi] at h1
    rw [sgl_at (by omega)] at h2
    rw [List.getD_eq_getElem?_getD, List.getElem?_eq_getElem (by rw [apK_len]; omega)] at h1
    rw [List.getD_eq_getElem?_getD, List.getElem?_eq_getElem (by rw [cat2_len]; exact hi)] at h2
    rw [List.getElem?_eq_getElem (by rw [apK_len]; omega), List.getElem?_eq_getElem (by rw [cat2_len]; exact hi)]
    simp only [Option.getD_some] at h1 h2
    rw [h1, h2]
  · rw [List.getElem?_eq_none (by rw [apK_len]; omega), List.getElem?_eq_none (by rw [cat2_len]; omega)]

set_option maxRecDepth 100000 in
set_option maxHeartbeats 12800000 in
theorem sSolve (a : Option Addr) (ca : Nat) (b : Option Addr) (cb n : Nat) (ls : List (List Int)) (l : List Int) (w : World) (ha : Mat w a ls) (hb : At w b l) (hs : Sq n ls) (hl : l.length = n) (hln : Nums l) (hz : ¬ detP n 0 (cat2 n ls (sgl l)) 1 = 0) :
    Calls Try.prog 79 #[.slice a n ca, .slice b n cb] w (Fresh w (coln (rowP n 0 (cat2 n ls (sgl l))) n)) := by
  obtain ⟨i0, hi, hz0, hz1, hz2⟩ := info_parts info64
  have hn6 := hs.n6
  have HO := Lib.hid (sOwnMat a ca n ls w ha hs)
  have HS := Lib.hid hs
  have HB := Lib.hid hb
  have HL := Lib.hid hl
  have HLN := Lib.hid hln
  have HZ := Lib.hid hz
  clear ha hb hs hl hln hz
  go_enter Try.func79, Try.ntmps79
  go_wp2_with fail
  refine HO.out.mono ?_; rintro e w1 ⟨g, kg, rfl, ⟨R0, K0, hm⟩, hb1⟩
  have HM0 : Hid (∃ R K, Mo w1 w.heap.size g kg n n (apK ls l 0) R K) := ⟨R0, K0, hm⟩
  have HB0 := Lib.hid hb1
  clear HO hm hb1
  go_wp2_with fail
  go_loopw [6] (fun q wr => ∃ k : Nat, k ≤ n ∧ q = .int .i64 k ∧ Hid (∃ R K, Mo wr w.heap.size g kg n n (apK ls l k) R K) ∧ Hid (Below w.heap.size w wr)) (fun q _ => n - (intOf q).toNat)
  case atStart => exact ⟨0, Nat.zero_le _, rfl, HM0.out, HB0.out⟩
  case round =>
    obtain ⟨k, hk, rfl, HM, HBW⟩ := hrel
    clear HM0 HB0
    by_cases hlt : k < n
    · have hii : (k : Int) < (n : Int) := by omega
      have hlL := HL.out
      obtain ⟨bb, bo, rfl, hbl, hall⟩ := (HB.out.below HBW.out (Nat.le_refl _)).resolve_left (by intro e; rw [e] at hlL; simp at hlL; omega)
      have c1 := hall k (by omega)
      obtain ⟨R, K, hM⟩ := HM.out
      have hrk : (apK ls l k).getD k [] = ls.getD k [] := by rw [apK_at ls l k k (by have := HS.out.len; omega), if_neg (by omega)]
      have c0 := hM.cell (Nat.le_refl _) k hlt
      rw [hrk, HS.out.row k hlt] at c0
      have horow := hM.row k hlt
      rw [hrk] at horow
      have f0 := hM.frz k
      have ho2 : wr.ownsRow w.heap.size 2 1 (.slice (some ⟨R k, 0, none⟩) n (K k)) n ((ls.getD k []).map (Value.int .i64)) := by have := horow; unfold Own at this; rw [HS.out.row k hlt] at this; exact this
      have hgb := hM.base
      have hRb := horow.base
      have hszw := HBW.out.size
      have hneq : ¬ g = R k := fun e => hM.ne k hlt e.symm
      have HMM := Lib.hid hM
      have HLA := Lib.hid (apK_len ls l k)
      have HXX : ∃ x, x = l.getD k 0 := ⟨_, rfl⟩
      obtain ⟨x, hx⟩ := HXX
      rw [← hx] at c1
      have HXV := Lib.hid hx
      have HRW := Lib.hid (HS.out.row k hlt)
      clear hall hM horow hrk HM hlL hx
      go_wp2_with fail
      have HF5 : Hid (∀ w5, ((wr.alloc (.cells #[.int .i64 x] 2)).drew).grownBy w5 (some (R k)) → w5.frozen? ⟨g, k, none⟩ = false ∧ w5.cell? ⟨g, k, none⟩ = some (.slice (some ⟨R k, 0, none⟩) n (K k))) := fun w5 hgrow => by
        have hba : Below wr.heap.size wr ((wr.alloc (.cells #[.int .i64 x] 2)).drew) := ((Below.refl wr.heap.size wr).alloc (Nat.le_refl _) _).drew
        have hzz := hba.size
        exact ⟨((Kp.grw hgrow).fz (b := g) (o := k) (by omega) hneq).trans ((hba.frozen (p := ⟨g, k, none⟩) hgb.2).trans f0), (Kp.grw hgrow).cell ((hba.cell (p := ⟨g, k, none⟩) hgb.2).trans c0) hneq⟩
      go_region_law (first
        | ((refine step_append_lies _ (by rfl) _ _ _ (by rfl) w.heap.size 2 i0 _ 1 8 Try.underlying23 hi hz0 hz1 hz2 rfl (by omega) (.slice (some ⟨R k, 0, none⟩) n (K k)) n ((ls.getD k []).map (Value.int .i64)) (by rfl) ((ho2.alloc _).drew) ⟨wr.heap.size, 0, none⟩ 1 1 [.int .i64 x] (by rfl) (by rfl) (World.news_of_block (cs := #[.int .i64 x]) (t := 2) (fr := (0, 0)) (heap_alloc_new wr _)) (by simp [Value.oneCell']) (by omega) (by unfold maxLen; omega) (by omega) (by simp; omega) (wr.heap.size + 1) (by simp) ?_; intro gg cc w5 hown5 hgrow hat hlt5;
            obtain ⟨cf5, c05⟩ := HF5.out w5 hgrow)))
      all_goals
        have hO5 : Own w.heap.size w5 gg cc (ls.getD k [] ++ [x]) := by unfold Own; rw [List.length_append, HRW.out, List.map_append]; exact hown5
        have hgg : gg = R k ∨ wr.heap.size ≤ gg := by
          rcases hat with e | e
          · left; simp [Value.ownBlock] at e; exact e.symm
          · right; omega
        have q2 : Kp (fun j => j = R k) wr w5 := ((Kp.of_below (S := fun j => j = R k) ((Below.refl wr.heap.size wr).alloc (Nat.le_refl _) (.cells #[.int .i64 x] 2)).drew)).trans (Kp.grw hgrow)
        have hM5 := HMM.out.rep (by rw [HLA.out]; exact HS.out.len) hlt q2 hO5 hgg
        have hlx : (ls.getD k [] ++ [x]).length = n + 1 := by rw [List.length_append, HRW.out]; rfl
        rw [hlx] at hM5
        have HM5 : Hid (∃ R K, Mo (w5.setCell ⟨g, k, none⟩ (.slice (some ⟨gg, 0, none⟩) (n + 1) cc)) w.heap.size g kg n n (apK ls l (k + 1)) R K) := ⟨_, _, by rw [apK, ← HXV.out]; exact hM5⟩
        have HB5 := Lib.hid ((HBW.out.trans (q2.below (L := w.heap.size) hszw (fun b e => by omega))).setCell (p := ⟨g, k, none⟩) hgb.1 (.slice (some ⟨gg, 0, none⟩) (n + 1) cc))
        clear hown5 hgrow hat hO5 q2 hM5 hlx cf5 c05 ho2 HMM
        go_wp2_with fail
        go_roundw
        case rel => exact ⟨k + 1, by omega, by go_num, HM5.out, HB5.out⟩
        case measure => simp [intOf]; omega
    · have hii : ¬ (k : Int) < (n : Int) := by omega
      have hkn : n = k := by omega
      subst hkn
      rw [apK_all HS.out.len HL.out] at HM
      have hce : ∀ i, i < n → (cat2 n ls (sgl l)).getD i [] = ls.getD i [] ++ [l.getD i 0] := fun i hi => by rw [cat2_at hi, sgl_at (by rw [HL.out]; exact hi)]
      have HWA : Hid (Wd n (n + 1) (cat2 n ls (sgl l))) := ⟨hn6, by omega, cat2_len _ _ _, fun i hi => by rw [hce i hi, List.length_append, HS.out.row i hi]; rfl, fun i hi => by
        rw [hce i hi]; exact nms_snoc (HS.out.nums i hi) (HLN.out.at i)⟩
      clear hce
      obtain ⟨A, hA⟩ : ∃ A, A = cat2 n ls (sgl l) := ⟨_, rfl⟩
      rw [← hA] at HM HWA HZ ⊢
      have HA := Lib.hid hA
      clear hA HB HL HLN HS
      go_wp2_with fail
      go_loopw [7] (fun q wr2 => ∃ (c : Nat) (M : List (List Int)), c ≤ n ∧ q = .int .i64 c ∧ Hid (rowP n 0 A = rowP (n - c) c M) ∧ Hid (∃ d, detP n 0 A 1 = detP (n - c) c M d) ∧ Hid (Wd n (n + 1) M) ∧ Hid (∃ R K, Mo wr2 w.heap.size g kg n n M R K) ∧ Hid (Below w.heap.size w wr2)) (fun q _ => n - (intOf q).toNat)
      case atStart => exact ⟨0, A, Nat.zero_le _, rfl, rfl, ⟨1, rfl⟩, HWA.out, HM.out, HBW.out⟩
      case round =>
        obtain ⟨c, M, hc, rfl, HRP, HDP, HS, HM2, HB2⟩ := hrel
        clear HM HBW HWA
        by_cases hlt : c < n
        · have hci : (c : Int) < (n : Int) := by omega
          have hex : ∃ r0, fnz M c = some r0 := by
            cases hf : fnz M c with
            | some r0 => exact ⟨r0, rfl⟩
            | none =>
              obtain ⟨d, hd⟩ := HDP.out
              rw [show n - c = (n - (c + 1)) + 1 by omega, detP_none hf] at hd
              exact absurd hd HZ.out
          obtain ⟨r0, hr0⟩ := hex
          have hrb := fnz_bd (by have := HS.out.len; omega) hr0
          have hr0n : r0 < n := by have := HS.out.len; omega
          have HR0 := Lib.hid hr0
          have hcr0 := hrb.1
          have HF0 : Hid (lst (nzB M c) (n - c) c = some r0) := by show _ = _; rw [← hr0]; unfold fnz; rw [HS.out.len]
          clear hr0 hrb
          go_wp2_with fail
          go_loop [8] (fun q => ∃ r : Nat, c ≤ r ∧ r ≤ r0 ∧ q = .int .i64 r ∧ Hid (lst (nzB M c) (n - r) r = some r0)) (fun q => n - (intOf q).toNat)
          case atStart => exact ⟨c, Nat.le_refl _, hcr0, rfl, HF0.out⟩
          case round =>
            obtain ⟨r, hcr, hrr, rfl, HF⟩ := hrel
            clear HF0
            have hrn : r < n := by omega
            obtain ⟨R, K, hM⟩ := HM2.out
            have x0 := hM.cell (Nat.le_refl _) r hrn
            have x1 := (hM.row r hrn).cellAt c (by rw [HS.out.row r hrn]; omega)
            rw [HS.out.row r hrn] at x0
            have HN : Hid ((if nzB M c r = true then some r else lst (nzB M c) (n - (r + 1)) (r + 1)) = some r0) := by show _ = _; rw [← HF.out, show n - r = (n - (r + 1)) + 1 by omega]; rfl
            have hcn1 : (c : Int) < ((n + 1 : Nat) : Int) := by omega
            have hrni : (r : Int) < (n : Int) := by omega
            by_cases hz : (M.getD r []).getD c 0 = 0
            · rw [hz] at x1
              have HN2 : Hid (lst (nzB M c) (n - (r + 1)) (r + 1) = some r0) := (if_neg (by unfold nzB; rw [hz]; simp)).symm.trans HN.out
              have hr1 : r + 1 ≤ r0 := (lst_ge HN2.out).1
              clear hz HN HF hM
              go_wp2_with fail
              go_round
              case rel => exact ⟨r + 1, by omega, by omega, by go_num, HN2.out⟩
              case measure => simp [intOf]; omega
            · have HN2 : Hid (some r = some r0) := (if_pos (by unfold nzB; simp only [Bool.not_eq_true', beq_eq_false_iff_ne]; exact hz)).symm.trans HN.out
              have hrr0 : r = r0 := Option.some.inj HN2.out
              subst hrr0
              have hzb : ((M.getD r []).getD c 0 == 0) = false := by simpa using hz
              clear hz HN HF HN2
              have HMr := Lib.hid hM
              clear hM HM2
              generalize hxv : (M.getD r []).getD c 0 = x at x1 hzb
              have HXV0 := Lib.hid hxv
              clear hxv
              have y0 := HMr.out.cell (Nat.le_refl _) c hlt
              rw [HS.out.row c hlt] at y0
              have fr := HMr.out.frz r
              have fc := HMr.out.frz c
              have hnb := HMr.out.ne r hrn
              have hgb := HMr.out.base
              obtain ⟨w2, hw2⟩ : ∃ w2, w2 = wr.setCell ⟨g, r, none⟩ (.slice (some ⟨R c, 0, none⟩) (n + 1) (K c)) := ⟨_, rfl⟩
              have z1 : w2.cell? ⟨R r, c, none⟩ = some (.int .i64 x) := by rw [hw2, World.cell?_setCell_far _ _ _ _ (fun e => hnb e.symm)]; exact x1
              have HROW : Hid (Own w.heap.size w2 (R r) (K r) (M.getD r [])) := by show Own _ _ _ _ _; rw [hw2]; exact (HMr.out.row r hrn).setOther (fun e => hnb e.symm) _
              have fc2 : w2.frozen? ⟨g, c, none⟩ = false := by rw [hw2]; simpa using fc
              have hx0 : 0 ≤ x ∧ x < 1000003 := by rw [← HXV0.out]; exact (HS.out.nums r hrn).at c
              have y2 : ∃ v, w2.cell? ⟨g, c, none⟩ = some v := by
                obtain ⟨vs, h1, h2⟩ := HMr.out.top
                have h1' := World.ownsRow.stored h1 r (.slice (some ⟨R c, 0, none⟩) (n + 1) (K c))
                have hvl : vs.length = n * 1 := h1.1
                refine ⟨(vs.set r (.slice (some ⟨R c, 0, none⟩) (n + 1) (K c)))[c]'(by rw [List.length_set]; omega), ?_⟩
                rw [hw2, h1'.1.cellAt c (by omega)]; exact List.getElem?_eq_getElem _
              obtain ⟨v2, y2⟩ := y2
              have sz2 : w2.heap.size = wr.heap.size := by rw [hw2]; simp
              have HBW2 : Hid (Below w.heap.size w w2) := by show Below _ _ _; rw [hw2]; exact HB2.out.setCell (p := ⟨g, r, none⟩) hgb.1 _
              have HI := fun (W : World) => Lib.hid (sinv x (by omega) W)
              have HSC := Lib.hid (sScaleM (n + 1) (some ⟨R r, 0, none⟩) (K r) (M.getD r []) (inv x) w2 HROW.out.at (HS.out.row r hrn) (by omega) (HS.out.nums r hrn) (pwr_bd x 1000001))
              have hEX := fun (W2 : World) (gN cN : Nat) (q : List Int) => HMr.out.exch (W2 := W2) (gN := gN) (cN := cN) (x := q) HS.out.len hlt hrn
              rw [HS.out.row c hlt, ← hw2] at hEX
              have HEX := Lib.hid hEX
              have HW2 := Lib.hid hw2
              clear hEX
              go_wp2_with fail
              rw [← hw2]
              clear hw2
              refine (HI _).out.mono ?_; rintro e w9 ⟨rfl, rfl⟩
              go_wp2_with fail
              refine HSC.out.mono ?_; rintro e w3 ⟨gN, cN, rfl, hoN, hbN⟩
              have fc3 : w3.frozen? ⟨g, c, none⟩ = false := (hbN.frozen (p := ⟨g, c, none⟩) (by show g < _; omega)).trans fc2
              have y3 : w3.cell? ⟨g, c, none⟩ = some v2 := (hbN.cell (p := ⟨g, c, none⟩) (by show g < _; omega)).trans y2
              have hsl : (scm (M.getD r []) (inv x)).length = n + 1 := by unfold scm; rw [tab_len]; exact HS.out.row r hrn
              have hM3 := HEX.out w3 gN cN _ hbN (hoN.mono (by have := HBW2.out.size; omega)) (by have := hoN.base; omega)
              rw [hsl, scm_dv, ← HXV0.out, exch_clP (by have := HS.out.len; omega) (by have := HS.out.len; omega)] at hM3
              have HMI : Hid (∃ R K, Mo (w3.setCell ⟨g, c, none⟩ (.slice (some ⟨gN, 0, none⟩) (n + 1) cN)) w.heap.size g kg n n (clP (swp M c r) c 0) R K) := ⟨_, _, hM3⟩
              have HB3 : Hid (Below w.heap.size w (w3.setCell ⟨g, c, none⟩ (.slice (some ⟨gN, 0, none⟩) (n + 1) cN))) := (HBW2.out.trans (hbN.mono HBW2.out.size)).setCell (p := ⟨g, c, none⟩) hgb.1 _
              clear hM3 HEX HSC HI HW2 hoN HROW HMr HB2 HXV0
              go_wp2_with fail
              clear y0 y2 y3 fc3 fc2 fr fc z1 x0 x1
              generalize (w3.setCell ⟨g, c, none⟩ (.slice (some ⟨gN, 0, none⟩) (n + 1) cN)) = w4 at *
              have HNX : Hid (rowP n 0 A = rowP (n - (c + 1)) (c + 1) (clP (swp M c r) c n)) := by
                show _ = _
                rw [HRP.out, show n - c = (n - (c + 1)) + 1 by omega, rowP_some HR0.out, HS.out.len]
              have HND : Hid (∃ d, detP n 0 A 1 = detP (n - (c + 1)) (c + 1) (clP (swp M c r) c n) d) := by
                obtain ⟨d, hd⟩ := HDP.out
                rw [show n - c = (n - (c + 1)) + 1 by omega, detP_some HR0.out, HS.out.len] at hd
                exact ⟨_, hd⟩
              have HWS := Lib.hid (HS.out.swp hlt hrn)
              clear HRP HDP HR0 HS
              generalize swp M c r = S at *
              go_wp2_with fail
              go_loopw [10] (fun q wi => ∃ k : Nat, k ≤ n ∧ q = .int .i64 k ∧ Hid (∃ R K, Mo wi w.heap.size g kg n n (clP S c k) R K) ∧ Hid (Below w.heap.size w wi)) (fun q _ => n - (intOf q).toNat)
              case atStart => exact ⟨0, Nat.zero_le _, rfl, HMI.out, HB3.out⟩
              case round =>
                obtain ⟨k, hk, rfl, HMk, HBk⟩ := hrel
                clear HMI HB3
                by_cases hin : k < n
                · have hini : (k : Int) < (n : Int) := by omega
                  by_cases hkc : k = c
                  · subst hkc
                    have HNK : Hid (∃ R K, Mo wr w.heap.size g kg n n (clP S k (k + 1)) R K) := by show ∃ R K, Mo _ _ _ _ _ _ _ R K; rw [clP, if_pos rfl]; exact HMk.out
                    clear HMk
                    go_wp2_with fail
                    go_roundw
                    case rel => exact ⟨k + 1, by omega, by go_num, HNK.out, HBk.out⟩
                    case measure => simp [intOf]; omega
                  · have hkci : ((k : Int) == (c : Int)) = false := by simp; omega
                    have hSl := HWS.out.len
                    have hcn2 : (c : Int) < (n : Int) + 1 := by omega
                    have hcn3 : c < n + 1 := by omega
                    have HCk : Hid ((clP S c k).getD k [] = S.getD k []) := by show _ = _; rw [clP_at S c k (by omega) k (by omega), if_neg hkc, if_neg (by omega)]
                    have HCc : Hid ((clP S c k).getD c [] = dv (S.getD c []) ((S.getD c []).getD c 0)) := by show _ = _; rw [clP_at S c c (by omega) k (by omega), if_pos rfl]
                    obtain ⟨R4, K4, hM4⟩ := HMk.out
                    have hWk := HWS.out.clP (k := k) hlt (by omega)
                    have z0 := hM4.cell (Nat.le_refl _) k hin
                    have z1 := (hM4.row k hin).cellAt c (by rw [hWk.row k hin]; omega)
                    have z2 := hM4.cell (Nat.le_refl _) c hlt
                    rw [hWk.row k hin] at z0
                    rw [hWk.row c hlt] at z2
                    have HT := sTake w.heap.size (R4 k) (K4 k) ((clP S c k).getD k []) ((clP S c k).getD c []) (some ⟨R4 c, 0, none⟩) (K4 c) (((clP S c k).getD k []).getD c 0) wr.drew (hM4.row k hin) (hM4.row c hlt).at (fun p hp => by cases hp; exact fun e => hkc (hM4.inj c k hlt hin e).symm) (by rw [hWk.row k hin, hWk.row c hlt]; exact Nat.le_refl _) (by rw [hWk.row c hlt]; omega) (hWk.nums k hin) (hWk.nums c hlt) ((hWk.nums k hin).at c)
                    rw [hWk.row k hin, hWk.row c hlt] at HT
                    have HNK : ∀ w5, Hid (Own w.heap.size w5 (R4 k) (K4 k) (tk ((clP S c k).getD k []) ((clP S c k).getD c []) (((clP S c k).getD k []).getD c 0)) → Kp (fun b => b = R4 k) wr.drew w5 → (∃ R K, Mo w5 w.heap.size g kg n n (clP S c (k + 1)) R K) ∧ Below w.heap.size w w5) := fun w5 ho5 hk0 => by
                      have hk5 : Kp (fun b => b = R4 k) wr w5 := ⟨hk0.os, hk0.tape, hk0.output, hk0.size, hk0.block⟩
                      have hM5 := hM4.row1 hWk.len k hin hk5 ho5 (by rw [tk_len])
                      rw [HCk.out, HCc.out] at hM5
                      exact ⟨⟨R4, K4, by rw [clP, if_neg hkc]; exact hM5⟩, HBk.out.trans (hk5.below (L := w.heap.size) HBk.out.size (fun b e => by have := (hM4.row k hin).base; omega))⟩
                    have HTT := Lib.hid HT
                    clear HT HCk HCc hWk hM4 HMk
                    generalize (clP S c k).getD k [] = rk at *
                    generalize (clP S c k).getD c [] = rc at *
                    generalize rk.getD c 0 = xk at *
                    go_wp2_with fail
                    refine wp_region_still_tail 15 (by kernel_rfl) (by kernel_rfl) ?_
                    simp only [List.take_succ_cons, List.take_zero, List.drop_succ_cons, List.drop_zero]
                    repeat still_step
                    refine wpStill_nil ?_
                    change wpList _ _ _ _ _ wr.drew
                    go_wp2_with fail
                    refine HTT.out.mono ?_; rintro e w5 ⟨rfl, ho5, hk5⟩
                    obtain ⟨hM5, hB5⟩ := (HNK w5).out ho5 hk5
                    have HM5 := Lib.hid hM5
                    have HB5 := Lib.hid hB5
                    clear HTT HNK ho5 hk5 z0 z1 z2 hM5 hB5
                    go_wp2_with fail
                    go_roundw
                    case rel => exact ⟨k + 1, by omega, by go_num, HM5.out, HB5.out⟩
                    case measure => simp [intOf]; omega
                · have hini : ¬ (k : Int) < (n : Int) := by omega
                  have hkn : n = k := by omega
                  subst hkn
                  have HWN := Lib.hid (HWS.out.clP (k := n) hlt (Nat.le_refl _))
                  go_wp2_with fail
                  go_roundw
                  case rel => exact ⟨c + 1, _, by omega, by go_num, HNX.out, HND.out, HWN.out, HMk.out, HBk.out⟩
                  case measure => simp [intOf]; omega
        · have hci : ¬ (c : Int) < (n : Int) := by omega
          have hcn : n = c := by omega
          subst hcn
          have HFIN : Hid (rowP n 0 A = M) := by show _ = _; rw [HRP.out, Nat.sub_self]; rfl
          obtain ⟨R5, K5, hM5⟩ := HM2.out
          have HM5 := Lib.hid hM5
          clear hM5 HM2 HRP HDP HZ
          obtain ⟨W5, hW5⟩ : ∃ W, W = wr := ⟨_, rfl⟩
          subst hW5
          have hO0 := own_none W5 W5.heap.size (Nat.le_refl _)
          have hB0 := (Below.refl W5.heap.size W5).alloc (Nat.le_refl _) (.cells #[] 2)
          go_wp2_with fail
          go_loopw [11, 12] (fun v q wi => ∃ (k g2 cap2 : Nat) (xs : List Int), k ≤ n ∧ q = .int .i64 k ∧ v = .slice (some ⟨g2, 0, none⟩) k cap2 ∧ xs.length = k ∧ Hid (xs = coln (M.take k) n) ∧ Own W5.heap.size wi g2 cap2 xs ∧ Below W5.heap.size W5 wi) (fun _ q _ => n - (intOf q).toNat)
          case atStart => exact ⟨0, W5.heap.size, 0, [], Nat.zero_le _, rfl, rfl, rfl, rfl, hO0, hB0⟩
          case round =>
            obtain ⟨k, g2, cap2, xs, hk, rfl, rfl, hxl, hxs, ho, hw⟩ := hrel
            by_cases hlt2 : k < n
            · have hki : (k : Int) < (n : Int) := by omega
              have hnn : (n : Int) < ((n + 1 : Nat) : Int) := by omega
              have hM6 := HM5.out.next hw
              have d0 := hM6.cell (Nat.le_refl _) k hlt2
              have d1 := (hM6.row k hlt2).cellAt n (by rw [HS.out.row k hlt2]; omega)
              rw [HS.out.row k hlt2] at d0
              have hs2 : Hid (xs ++ [(M.getD k []).getD n 0] = coln (M.take (k + 1)) n) := by show _ = _; rw [hxs.out]; exact coln_take (by rw [HS.out.len]; exact hlt2)
              have hl2 : Hid ((xs ++ [(M.getD k []).getD n 0]).length = k + 1) := by show _ = _; simp [hxl]
              have ho2 : wr.ownsRow W5.heap.size 2 1 (.slice (some ⟨g2, 0, none⟩) k cap2) k (xs.map (Value.int .i64)) := by rw [← hxl]; exact ho
              have hsz := hw.size
              have hgl := ho.base
              have HXL := Lib.hid hxl
              clear hxs hB0 hO0 ho hxl hM6
              generalize (M.getD k []).getD n 0 = y at d1 hs2 hl2
              go_wp2_with (at_builtin; refine wpList_append_lies _ rfl _ _ _ rfl W5.heap.size 2 i0 _ 1 8 Try.underlying23 hi hz0 hz1 hz2 rfl (by omega) (.slice (some ⟨g2, 0, none⟩) k cap2) k (xs.map (Value.int .i64)) rfl (ho2.alloc _) ⟨wr.heap.size, 0, none⟩ 1 1 [.int .i64 y] rfl rfl (World.news_of_block (cs := #[.int .i64 y]) (t := 2) (fr := (0, 0)) (heap_alloc_new wr _)) (by simp [Value.oneCell']) (by omega) (by unfold maxLen; omega) (by omega) (by simp; omega) (wr.heap.size + 1) (by simp) ?_; intro gg cc w1 hown1 hgrow hat hlt1)
              have hw2 : Below W5.heap.size W5 w1 := (hw.alloc hsz (.cells #[.int .i64 y] 2)).grown hgrow (by simp; omega) (by intro q hq; simp [Value.ownBlock] at hq; omega)
              have ho3 : Own W5.heap.size w1 gg cc (xs ++ [y]) := own_appended (by rw [HXL.out]; exact hown1)
              clear hgrow hown1 ho2
              go_roundw
              case rel => exact ⟨k + 1, gg, cc, xs ++ [y], by omega, by go_num, rfl, hl2.out, hs2, ho3, hw2⟩
              case measure => simp [intOf]; omega
            · have hki : ¬ (k : Int) < (n : Int) := by omega
              have hkn : n = k := by omega
              subst hkn
              have hfin : Hid (xs = coln (rowP n 0 A) n) := by show _ = _; rw [HFIN.out, hxs.out, List.take_of_length_le (by have := HS.out.len; omega)]
              have HLN : Hid (n = (coln (rowP n 0 A) n).length) := by show _ = _; rw [← hfin.out]; exact hxl.symm
              have hw5 := HB2.out.trans (hw.mono HB2.out.size)
              have ho5 := ho.mono HB2.out.size
              clear hxl
              go_wp2_with fail
              go_ret
              have hln := HLN.out
              rw [hfin.out, HA.out] at ho5
              rw [HA.out] at hln
              exact ⟨g2, cap2, congrArg (fun q => Ending.returned (Value.slice (some ⟨g2, 0, none⟩) q cap2)) hln, ho5, hw5⟩

end Go.Proofs.Ytiimebiecihpkaa
