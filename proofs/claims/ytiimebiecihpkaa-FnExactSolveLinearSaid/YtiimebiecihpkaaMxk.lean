/- A column is cleared, by the program. -/
import Derived.Test.YtiimebiecihpkaaMxe
import Derived.Test.YtiimebiecihpkaaNfn
import Derived.Deep.RegionWith
import Derived.Deep.RegionHeld3
namespace Go.Proofs.Ytiimebiecihpkaa
open Go.RowKit
set_option linter.unusedVariables false

/-- n rows of wd numbers -/
structure Wd (n wd : Nat) (ls : List (List Int)) : Prop where
  n6 : n ≤ 6
  w9 : n ≤ wd ∧ wd ≤ 12
  len : ls.length = n
  row : ∀ i, i < n → (ls.getD i []).length = wd
  nums : ∀ i, i < n → Nums (ls.getD i [])
/-- a row of which k numbers are divided -/
def dvK (r : List Int) (d : Int) (k : Nat) : List Int := tab (fun j => if j < k then tms (r.getD j 0) (inv d) else r.getD j 0) r.length
theorem dvK_len (r : List Int) (d : Int) (k : Nat) : (dvK r d k).length = r.length := tab_len _ _
theorem dvK_0 (r : List Int) (d : Int) : dvK r d 0 = r := by
  refine List.ext_getElem? fun i => ?_
  unfold dvK tab
  rw [List.getElem?_map]
  by_cases hi : i < r.length
  · rw [List.getElem?_range hi]; simp [hi]
  · rw [List.getElem?_eq_none (by simp; omega), List.getElem?_eq_none (by omega)]; rfl
theorem dvK_all (r : List Int) (d : Int) : dvK r d r.length = dv r d := by
  unfold dvK dv tab
  exact List.map_congr_left (fun j hj => by rw [if_pos (List.mem_range.1 hj)])
theorem dvK_at {r : List Int} {d : Int} {k : Nat} (hk : k < r.length) : (dvK r d k).getD k 0 = r.getD k 0 := by unfold dvK; rw [tab_at hk, if_neg (by omega)]
theorem dvK_set {r : List Int} {d : Int} {k : Nat} (hk : k < r.length) : (dvK r d k).set k (tms (r.getD k 0) (inv d)) = dvK r d (k + 1) := by
  refine List.ext_getElem? fun i => ?_
  unfold dvK tab
  rw [List.getElem?_set, List.getElem?_map, List.getElem?_map, List.length_map, List.length_range]
  by_cases hi : k = i
  · subst hi; rw [if_pos rfl, if_pos hk, List.getElem?_range hk]; simp
  · rw [if_neg hi]
    by_cases hi2 : i < r.length
    · rw [List.getElem?_range hi2]; simp only [Option.map_some]
      congr 1
      by_cases h3 : i < k
      · rw [if_pos h3, if_pos (by omega)]
      · rw [if_neg h3, if_neg (by omega)]
    · rw [List.getElem?_eq_none (by simp; omega)]; rfl
theorem Mo.elt {wr w5 : World} {L g kg n k i : Nat} {ls : List (List Int)} {r : List Int} {R K : Nat → Nat} (h : Mo wr L g kg n n (ls.set k r) R K) (hl : ls.length = n) (hk : k < n) (hb : Below wr.heap.size wr w5) (x : Int) : Mo (w5.setCell ⟨R k, i, none⟩ (.int .i64 x)) L g kg n n (ls.set k (r.set i x)) R K := by
  have := (h.next hb).set k i x hk (by rw [List.length_set]; omega)
  rw [getD_set_row (by omega), if_pos rfl, List.set_set] at this
  exact this
/-- rows' blocks -/
def Rbk (n : Nat) (R : Nat → Nat) (b : Nat) : Prop := ∃ i, i < n ∧ b = R i

set_option maxRecDepth 100000 in
set_option maxHeartbeats 12800000 in
theorem iClear (L g n wd c : Nat) (ls : List (List Int)) (R K : Nat → Nat) (w : World) (h : Mo w L g n n n ls R K) (hs : Wd n wd ls) (hc : c < n) :
    Calls Try.prog 207 #[.agg #[.slice (some ⟨g, 0, none⟩) n n, ofN], .int .i64 c] w fun e w' => e = .returned (.tuple #[]) ∧ Mo w' L g n n n (clP ls c n) R K ∧ Kp (Rbk n R) w w' := by
  have hn6 := hs.n6
  have hw9 := hs.w9
  have HS := Lib.hid hs
  have HM := Lib.hid h
  have oA := ovrAhead
  have oM := ovrMeth
  have tA := timAhead
  have tM := timMeth
  have nA := minAhead
  have nM := minMeth
  have hci : (c : Int) < (n : Int) := by omega
  have hcw : (c : Int) < (wd : Int) := by omega
  obtain ⟨d, hd⟩ : ∃ d, d = (ls.getD c []).getD c 0 := ⟨_, rfl⟩
  have x0 := h.cell (Nat.le_refl _) c hc
  rw [hs.row c hc] at x0
  have x1 := (h.row c hc).cellAt c (by rw [hs.row c hc]; omega)
  rw [← hd] at x1
  have hdb := (hs.nums c hc).at c
  rw [← hd] at hdb
  have HD := Lib.hid hd
  have hgb := h.base
  have hrcb := (h.row c hc).base
  clear h hs hd
  go_enter Try.func207, Try.ntmps207
  go_wp2_with fail
  obtain ⟨w1, hw1⟩ : ∃ w1, w1 = w.alloc (.cells #[.slice (some ⟨g, 0, none⟩) n n, ofN] 133) := ⟨_, rfl⟩
  have B1 : Below w.heap.size w w1 := by rw [hw1]; exact (Below.refl _ _).alloc (Nat.le_refl _) _
  have z1 : w1.heap.size = w.heap.size + 1 := by rw [hw1]; simp
  have m0 : w1.cell? ⟨w.heap.size, 0, none⟩ = some (.slice (some ⟨g, 0, none⟩) n n) := by rw [hw1]; simp [go_sem]
  have m1 : w1.cell? ⟨w.heap.size, 1, none⟩ = some ofN := by rw [hw1]; simp [go_sem]
  rw [← hw1]
  have HMC := Lib.hid (And.intro m0 m1)
  have hRn : Hid (∀ i, i < n → R i < w.heap.size) := fun i hi => (HM.out.row i hi).base.2
  have hself : ls.set c (ls.getD c []) = ls := by
    refine List.ext_getElem? fun i => ?_
    rw [List.getElem?_set]
    by_cases e : c = i
    · subst e; rw [if_pos rfl, if_pos (by have := HS.out.len; omega), List.getD_eq_getElem?_getD, List.getElem?_eq_getElem (by have := HS.out.len; omega)]; rfl
    · rw [if_neg e]
  have HM1 : Hid (Mo w1 L g n n n (ls.set c (dvK (ls.getD c []) d 0)) R K) := by show Mo _ _ _ _ _ _ _ _ _; rw [dvK_0, hself]; exact HM.out.next B1
  have HK1 : Hid (Kp (Rbk n R) w w1) := Kp.of_below B1
  clear hw1 B1 m0 m1 x0 x1 hself
  go_loopw [26] (fun q wr => ∃ i : Nat, i ≤ wd ∧ q = .int .i64 i ∧ Hid (Mo wr L g n n n (ls.set c (dvK (ls.getD c []) d i)) R K) ∧ Hid (Kp (Rbk n R) w1 wr)) (fun q _ => wd - (intOf q).toNat)
  case atStart => exact ⟨0, Nat.zero_le _, rfl, HM1.out, Kp.refl _ _⟩
  case round =>
    obtain ⟨i, hi, rfl, HMi, HKi⟩ := hrel
    clear HM1
    have hnS : ¬ Rbk n R w.heap.size := fun ⟨i, h1, h2⟩ => by have := hRn.out i h1; omega
    have p0 := HKi.out.cell HMC.out.1 hnS
    have p1 := HKi.out.cell HMC.out.2 hnS
    have hz := HKi.out.size
    by_cases hlt : i < wd
    · have hii : (i : Int) < (wd : Int) := by omega
      have HLR := Lib.hid (HS.out.row c hc)
      have y0 := HMi.out.cell (Nat.le_refl _) c hc
      have y1 := (HMi.out.row c hc).cellAt i (by rw [getD_set_row (by have := HS.out.len; omega), if_pos rfl, dvK_len]; have := HLR.out; omega)
      rw [getD_set_row (by have := HS.out.len; omega), if_pos rfl] at y0 y1
      rw [dvK_len, HLR.out] at y0
      rw [dvK_at (by have := HLR.out; omega)] at y1
      have yf := (HMi.out.row c hc).frz i
      have hxb := (HS.out.nums c hc).at i
      have HEX : Hid (ls.set c ((dvK (ls.getD c []) d i).set i (tms ((ls.getD c []).getD i 0) (inv d))) = ls.set c (dvK (ls.getD c []) d (i + 1))) := by show _ = _; rw [dvK_set (by have := HLR.out; omega)]
      have HLL := Lib.hid HS.out.len
      have HV := fun (W : World) => Lib.hid (nOver ((ls.getD c []).getD i 0) d hxb hdb W)
      have hgw : g < wr.heap.size := HMi.out.base.2
      have hRw : R c < wr.heap.size := (HMi.out.row c hc).base.2
      have hBw : w.heap.size < wr.heap.size := by omega
      clear HM HLR
      generalize (ls.getD c []).getD i 0 = x at *
      go_wp2_with fail
      go_region_with (go_at_call 246; refine (HV _).out.mono ?_; rintro e w5 ⟨rfl, hb5⟩; have hbb := (Below.refl wr.heap.size wr).drew.trans hb5; have p05 := (hbb.cell (p := ⟨w.heap.size, 0, none⟩) hBw).trans p0; have p15 := (hbb.cell (p := ⟨w.heap.size, 1, none⟩) hBw).trans p1; have y05 := (hbb.cell (p := ⟨g, c, none⟩) hgw).trans y0; have y15 := (hbb.cell (p := ⟨R c, i, none⟩) hRw).trans y1; have yf5 := (hbb.frozen (p := ⟨R c, i, none⟩) hRw).trans yf)
      all_goals
        have hM6 := HMi.out.elt (i := i) HLL.out hc hbb (tms x (inv d))
        rw [HEX.out] at hM6
        have HM6 := Lib.hid hM6
        have HK6 := Lib.hid (HKi.out.trans ((Kp.of_below hbb).trans (Kp.set (S := Rbk n R) (p := ⟨R c, i, none⟩) (v := .int .i64 (tms x (inv d))) ⟨c, hc, rfl⟩)))
        clear hM6 hbb hb5 p05 p15 y05 y15 yf5 HV HMi HKi HEX
        go_wp2_with fail
        go_roundw
        case rel => exact ⟨i + 1, by omega, by go_num, HM6.out, HK6.out⟩
        case measure => simp [intOf]; omega
    · have hii : ¬ (i : Int) < (wd : Int) := by omega
      obtain rfl : i = wd := by omega
      have HQL : Hid ((dv (ls.getD c []) d).length = i) := by show _ = _; rw [dv_len, HS.out.row c hc]
      have hclp : ls.set c (dvK (ls.getD c []) d i) = clP ls c 0 := by
        have e : dvK (ls.getD c []) d i = dv (ls.getD c []) d := by have := dvK_all (ls.getD c []) d; rw [HS.out.row c hc] at this; exact this
        rw [e, clP, ← HD.out]
      have HM2 : Hid (Mo wr L g n n n (clP ls c 0) R K) := by show Mo _ _ _ _ _ _ _ _ _; rw [← hclp]; exact HMi.out
      have HK2 := Lib.hid HKi.out
      clear HM HMi HKi hclp
      obtain ⟨q, hq⟩ : ∃ q, q = dv (ls.getD c []) d := ⟨_, rfl⟩
      rw [← hq] at HQL
      have HQ := Lib.hid hq
      have hqn : Nums q := by rw [hq]; exact tab_nms _ (fun _ => tms_bd _ _)
      have HQN := Lib.hid hqn
      clear hq hqn
      go_wp2_with fail
      go_loopw [47] (fun p wr => ∃ k : Nat, k ≤ n ∧ p = .int .i64 k ∧ Hid (Mo wr L g n n n (clP ls c k) R K) ∧ Hid (Kp (Rbk n R) w1 wr)) (fun p _ => n - (intOf p).toNat)
      case atStart => exact ⟨0, Nat.zero_le _, rfl, HM2.out, HK2.out⟩
      case round =>
        obtain ⟨k, hk, rfl, HMk, HKk⟩ := hrel
        clear HM2 HK2
        have hlc := Lib.hid (clP_len ls c k)
        by_cases hkn : k < n
        · have hki : (k : Int) < (n : Int) := by omega
          have HAT := Lib.hid (fun j => clP_at ls c j (by have := HS.out.len; omega) k (by have := HS.out.len; omega))
          have z0 := HMk.out.cell (Nat.le_refl _) k hkn
          by_cases hkc : k = c
          · have hkeq : ((k : Int) == (c : Int)) = true := by simp; omega
            have hzl : ((clP ls c k).getD k []).length = i := by rw [HAT.out k, if_pos hkc, dv_len, HS.out.row c hc]
            rw [hzl] at z0
            have HMn : Hid (Mo wr L g n n n (clP ls c (k + 1)) R K) := by show Mo _ _ _ _ _ _ _ _ _; rw [clP, if_pos hkc]; exact HMk.out
            clear hkc hzl HMk HAT
            go_wp2_with fail
            go_roundw
            case rel => exact ⟨k + 1, by omega, by go_num, HMn.out, HKk.out⟩
            case measure => simp [intOf]; omega
          · have hkeq : ((k : Int) == (c : Int)) = false := by simp; omega
            have hrk : (clP ls c k).getD k [] = ls.getD k [] := by rw [HAT.out k, if_neg hkc, if_neg (by omega)]
            have z1 := (HMk.out.row k hkn).cellAt c (by rw [hrk, HS.out.row k hkn]; omega)
            rw [hrk] at z0 z1
            rw [HS.out.row k hkn] at z0
            have hfb := (HS.out.nums k hkn).at c
            obtain ⟨f, hf⟩ : ∃ f, f = (ls.getD k []).getD c 0 := ⟨_, rfl⟩
            rw [← hf] at z1 hfb
            have hself : (clP ls c k).set k (tkK (ls.getD k []) q f 0) = clP ls c k := by
              rw [tkK_0, ← hrk]
              refine List.ext_getElem? fun j => ?_
              rw [List.getElem?_set]
              by_cases e : k = j
              · subst e; rw [if_pos rfl, if_pos (by have := hlc.out; have := HS.out.len; omega), List.getD_eq_getElem?_getD, List.getElem?_eq_getElem (by have := hlc.out; have := HS.out.len; omega)]; rfl
              · rw [if_neg e]
            have HMI : Hid (Mo wr L g n n n ((clP ls c k).set k (tkK (ls.getD k []) q f 0)) R K) := by show Mo _ _ _ _ _ _ _ _ _; rw [hself]; exact HMk.out
            have HNX : Hid ((clP ls c k).set k (tkK (ls.getD k []) q f i) = clP ls c (k + 1)) := by
              show _ = _
              have e := tkK_all (ls.getD k []) q f
              rw [HS.out.row k hkn] at e
              rw [e, clP, if_neg hkc, HQ.out, hf, HD.out]
            have HF := Lib.hid hf
            have HKC : Hid (k ≠ c) := hkc
            have HQC : Hid ((clP ls c k).getD c [] = q) := by show _ = _; rw [HAT.out c, if_pos rfl, HQ.out, HD.out]
            have HKI := Lib.hid HKk.out
            clear hself hrk hf hkc HMk HKk HAT
            go_wp2_with fail
            go_loopw [61] (fun p wr => ∃ j : Nat, j ≤ i ∧ p = .int .i64 j ∧ Hid (Mo wr L g n n n ((clP ls c k).set k (tkK (ls.getD k []) q f j)) R K) ∧ Hid (Kp (Rbk n R) w1 wr)) (fun p _ => i - (intOf p).toNat)
            case atStart => exact ⟨0, Nat.zero_le _, rfl, HMI.out, HKI.out⟩
            case round =>
              obtain ⟨j, hj, rfl, HMj, HKj⟩ := hrel
              clear HMI HKI
              by_cases hji : j < i
              · have hjj : (j : Int) < (i : Int) := by omega
                have hnS : ¬ Rbk n R w.heap.size := fun ⟨i, h1, h2⟩ => by have := hRn.out i h1; omega
                have p0 := HKj.out.cell HMC.out.1 hnS
                have p1 := HKj.out.cell HMC.out.2 hnS
                have hz := HKj.out.size
                have hcl : (clP ls c k).length = n := by have := hlc.out; have := HS.out.len; omega
                have y0 := HMj.out.cell (Nat.le_refl _) c hc
                have y1 := (HMj.out.row c hc).cellAt j (by rw [getD_set_row (by omega), if_neg (fun e => HKC.out e.symm), HQC.out, HQL.out]; exact hji)
                rw [getD_set_row (by omega), if_neg (fun e => HKC.out e.symm), HQC.out] at y0 y1
                rw [HQL.out] at y0
                have hkl := HS.out.row k hkn
                have x1 := (HMj.out.row k hkn).cellAt j (by rw [getD_set_row (by omega), if_pos rfl, tkK_len]; omega)
                rw [getD_set_row (by omega), if_pos rfl, tkK_at (by omega)] at x1
                have xf := (HMj.out.row k hkn).frz j
                have hxb := (HS.out.nums k hkn).at j
                have hyb := HQN.out.at j
                have hfb2 : 0 ≤ f ∧ f < 1000003 := by rw [HF.out]; exact (HS.out.nums k hkn).at c
                have HEX : Hid ((clP ls c k).set k ((tkK (ls.getD k []) q f j).set j (mns ((ls.getD k []).getD j 0) (tms f (q.getD j 0)))) = (clP ls c k).set k (tkK (ls.getD k []) q f (j + 1))) := by show _ = _; rw [tkK_set (by omega)]
                have HCL := Lib.hid hcl
                have hgw : g < wr.heap.size := HMj.out.base.2
                have hRw : R c < wr.heap.size := (HMj.out.row c hc).base.2
                have hRw2 : R k < wr.heap.size := (HMj.out.row k hkn).base.2
                have hBw : w.heap.size < wr.heap.size := by omega
                have htb := tms_bd f (q.getD j 0)
                have HT := fun (W : World) => Lib.hid (nTimes f (q.getD j 0) hfb2 hyb W)
                have HV := fun (W : World) => Lib.hid (nMinus ((ls.getD k []).getD j 0) (tms f (q.getD j 0)) hxb htb W)
                clear hcl hkl hnS
                generalize (ls.getD k []).getD j 0 = x at *
                generalize q.getD j 0 = y at *
                generalize tms f y = t at *
                have P5 : ∀ w5, Below wr.heap.size wr w5 → w5.cell? ⟨w.heap.size, 0, none⟩ = some (.slice (some ⟨g, 0, none⟩) n n) ∧ w5.cell? ⟨w.heap.size, 1, none⟩ = some ofN ∧ w5.cell? ⟨g, c, none⟩ = some (.slice (some ⟨R c, 0, none⟩) i (K c)) ∧ w5.cell? ⟨R c, j, none⟩ = some (.int .i64 y) ∧ w5.cell? ⟨R k, j, none⟩ = some (.int .i64 x) ∧ w5.frozen? ⟨R k, j, none⟩ = false := fun w5 hbb =>
                  ⟨(hbb.cell (p := ⟨w.heap.size, 0, none⟩) hBw).trans p0, (hbb.cell (p := ⟨w.heap.size, 1, none⟩) hBw).trans p1, (hbb.cell (p := ⟨g, c, none⟩) hgw).trans y0, (hbb.cell (p := ⟨R c, j, none⟩) hRw).trans y1, (hbb.cell (p := ⟨R k, j, none⟩) hRw2).trans x1, (hbb.frozen (p := ⟨R k, j, none⟩) hRw2).trans xf⟩
                have HP5 := Lib.hid P5
                clear P5
                go_wp2_with fail
                have n1 : R k ≠ w.heap.size := fun e => by have := hRn.out k hkn; omega
                have n2 : R k ≠ g := HMj.out.ne k hkn
                have n3 : R k ≠ R c := fun e => HKC.out (HMj.out.inj k c hkn hc e)
                go_region_held3 (fun w' => w'.cell? ⟨w.heap.size, 0, none⟩ = some (.slice (some ⟨g, 0, none⟩) n n) ∧ w'.cell? ⟨w.heap.size, 1, none⟩ = some ofN ∧ w'.cell? ⟨g, c, none⟩ = some (.slice (some ⟨R c, 0, none⟩) i (K c)) ∧ w'.cell? ⟨R c, j, none⟩ = some (.int .i64 y))
                  (first
                    | exact ⟨(World.cell?_setCell_far _ _ _ _ n1).trans p06, (World.cell?_setCell_far _ _ _ _ n1).trans p16, (World.cell?_setCell_far _ _ _ _ n2).trans y06, (World.cell?_setCell_far _ _ _ _ n3).trans y16⟩
                    | exact ⟨p06, p16, y06, y16⟩
                    | exact ⟨p05, p15, y05, y15⟩
                    | exact ⟨p0, p1, y0, y1⟩
                    | go_keep)
                  (first
                    | (go_at_call 244; refine (HV _).out.mono ?_; rintro e w6 ⟨rfl, hb6⟩; have hbc := hbb.trans (hb6.mono hbb.size); obtain ⟨p06, p16, y06, y16, x16, xf6⟩ := HP5.out w6 hbc)
                    | (go_at_call 248; refine (HT _).out.mono ?_; rintro e w5 ⟨rfl, hb5⟩; have hbb : Below wr.heap.size wr w5 := ⟨hb5.os, hb5.tape, hb5.output, hb5.size, hb5.block⟩; obtain ⟨p05, p15, y05, y15, x15, xf5⟩ := HP5.out w5 hbb))
                have hM6 := HMj.out.elt (i := j) HCL.out hkn hbc (mns x t)
                rw [HEX.out] at hM6
                have HM6 := Lib.hid hM6
                have HK6 := Lib.hid (HKj.out.trans ((Kp.of_below hbc).trans (Kp.set (S := Rbk n R) (p := ⟨R k, j, none⟩) (v := .int .i64 (mns x t)) ⟨k, hkn, rfl⟩)))
                clear hM6 hbb hbc hb5 hb6 HP5 HV HT HMj HKj HEX p05 p15 y05 y15 x15 xf5 p06 p16 y06 y16 x16 xf6 p0 p1 y0 y1 x1 xf
                go_wp2_with fail
                go_roundw
                case rel => exact ⟨j + 1, by omega, by go_num, HM6.out, HK6.out⟩
                case measure => simp [intOf]; omega
              · have hjj : ¬ (j : Int) < (i : Int) := by omega
                obtain rfl : j = i := by omega
                have HMn : Hid (Mo wr L g n n n (clP ls c (k + 1)) R K) := by show Mo _ _ _ _ _ _ _ _ _; rw [← HNX.out]; exact HMj.out
                clear HMj
                go_wp2_with fail
                go_roundw
                case rel => exact ⟨k + 1, by omega, by go_num, HMn.out, HKj.out⟩
                case measure => simp [intOf]; omega
        · have hki : ¬ (k : Int) < (n : Int) := by omega
          obtain rfl : k = n := by omega
          go_wp2_with fail
          go_end0
          exact ⟨rfl, HMk.out, HK1.out.trans HKk.out⟩

end Go.Proofs.Ytiimebiecihpkaa
