/- The determinant by the model. -/
import Derived.Test.YtiimebiecihpkaaMxf
import Derived.StillTailTactics
import Derived.Test.YtiimebiecihpkaaNfn
namespace Go.Proofs.Ytiimebiecihpkaa
open Go.RowKit
set_option linter.unusedVariables false

theorem Sq.swp {n : Nat} {ls : List (List Int)} (h : Sq n ls) {c r : Nat} (hc : c < n) (hr : r < n) : Sq n (swp ls c r) := by
  have hl := h.len
  refine ⟨h.n6, by rw [swp_len]; exact hl, fun i hi => ?_, fun i hi => ?_⟩
  · rw [swp_at (by omega) (by omega)]; split
    · exact h.row r hr
    · split
      · exact h.row c hc
      · exact h.row i hi
  · rw [swp_at (by omega) (by omega)]; split
    · exact h.nums r hr
    · split
      · exact h.nums c hc
      · exact h.nums i hi
theorem Sq.elM {n : Nat} {ls : List (List Int)} (h : Sq n ls) {c k : Nat} (hk : c + 1 + k ≤ n) : Sq n (elM ls c k) := by
  have hl := h.len
  refine ⟨h.n6, by rw [elM_len]; exact hl, fun i hi => ?_, fun i hi => ?_⟩
  · rw [elM_at ls c i k (by omega)]; split
    · rw [tk_len]; exact h.row i hi
    · exact h.row i hi
  · rw [elM_at ls c i k (by omega)]; split
    · exact tk_nums
    · exact h.nums i hi
theorem neg_eq (d : Int) : res (-d) = mns 0 d := by unfold res mns; rw [Int.zero_sub]
theorem Mo.row_at {W : World} {L g kg n : Nat} {ls : List (List Int)} {R K : Nat → Nat} (h : Mo W L g kg n n ls R K) (hs : Sq n ls) (i j : Nat) (hi : i < n) (hj : j < n) : W.cell? ⟨g, i, none⟩ = some (.slice (some ⟨R i, 0, none⟩) n (K i)) ∧ W.cell? ⟨R i, j, none⟩ = some (.int .i64 ((ls.getD i []).getD j 0)) := by
  have h1 := h.cell (Nat.le_refl _) i hi
  rw [hs.row i hi] at h1
  exact ⟨h1, (h.row i hi).cellAt j (by rw [hs.row i hi]; exact hj)⟩

set_option maxRecDepth 100000 in
set_option maxHeartbeats 6400000 in
theorem sDet (a : Option Addr) (cap n : Nat) (ls : List (List Int)) (w : World) (h : Mat w a ls) (hs : Sq n ls) :
    Calls Try.prog 78 #[.slice a n cap] w fun e w' => e = .returned (.int .i64 (detM n 0 ls 1)) ∧ Below w.heap.size w w' := by
  have hn6 := hs.n6
  have HO := Lib.hid (sOwnMat a cap n ls w h hs)
  have HS0 := Lib.hid hs
  clear h hs
  go_enter Try.func78, Try.ntmps78
  go_wp2_with fail
  refine HO.out.mono ?_; rintro e w1 ⟨g, kg, rfl, hm, hb⟩
  have HM0 := Lib.hid hm
  have HB0 := Lib.hid hb
  clear HO hm hb
  go_wp2_with fail
  go_loopw [4, 5] (fun v i wr => ∃ (c : Nat) (d : Int) (M : List (List Int)), c ≤ n ∧ v = .int .i64 d ∧ i = .int .i64 c ∧ 0 ≤ d ∧ d < 1000003 ∧ Hid (detM n 0 ls 1 = detM (n - c) c M d) ∧ Hid (Sq n M) ∧ Hid (∃ R K, Mo wr w.heap.size g kg n n M R K) ∧ Hid (Below w.heap.size w wr)) (fun _ i _ => n - (intOf i).toNat)
  case atStart => exact ⟨0, 1, ls, Nat.zero_le _, rfl, rfl, by omega, by omega, rfl, HS0.out, HM0.out, HB0.out⟩
  case round =>
    obtain ⟨c, d, M, hc, rfl, rfl, d0, d1, HD, HS, HM, HB⟩ := hrel
    clear HM0 HB0 HS0
    by_cases hlt : c < n
    · have hii : (c : Int) < (n : Int) := by omega
      have HF0 : Hid (fnz M c = lst (nzB M c) (n - c) c) := by show _ = _; unfold fnz; rw [HS.out.len]
      go_wp2_with fail
      go_loop [6] (fun q => ∃ r : Nat, c ≤ r ∧ r ≤ n ∧ q = .int .i64 r ∧ Hid (fnz M c = lst (nzB M c) (n - r) r)) (fun q => n - (intOf q).toNat)
      case atStart => exact ⟨c, Nat.le_refl _, hc, rfl, HF0.out⟩
      case round =>
        obtain ⟨r, hcr, hrn, rfl, HF⟩ := hrel
        clear HF0
        by_cases hr : r < n
        · have hri : (r : Int) < (n : Int) := by omega
          obtain ⟨R, K, hM⟩ := HM.out
          obtain ⟨x0, x1⟩ := hM.row_at HS.out r c hr hlt
          have HN : Hid (fnz M c = if nzB M c r = true then some r else lst (nzB M c) (n - (r + 1)) (r + 1)) := by show _ = _; rw [HF.out, show n - r = (n - (r + 1)) + 1 by omega]; rfl
          by_cases hz : (M.getD r []).getD c 0 = 0
          · rw [hz] at x1
            have HN2 : Hid (fnz M c = lst (nzB M c) (n - (r + 1)) (r + 1)) := HN.out.trans (if_neg (by unfold nzB; rw [hz]; simp))
            clear hz HN HF hM
            go_wp2_with fail
            go_round
            case rel => exact ⟨r + 1, by omega, by omega, by go_num, HN2.out⟩
            case measure => simp [intOf]; omega
          · have HN2 : Hid (fnz M c = some r) := HN.out.trans (if_pos (by unfold nzB; simp only [Bool.not_eq_true', beq_eq_false_iff_ne]; exact hz))
            have hzb : ((M.getD r []).getD c 0 == 0) = false := by simpa using hz
            clear hz HN HF
            have HMr := Lib.hid hM
            clear hM HM
            generalize hxv : (M.getD r []).getD c 0 = x at x1 hzb
            have HXV0 := Lib.hid hxv
            clear hxv
            have hrne : ((r : Int) == (n : Int)) = false := by simp; omega
            have HDS : Hid (detM n 0 ls 1 = detM (n - (c + 1)) (c + 1) (elM (swp M c r) c (n - c - 1)) (tms (sgn c r d) (((swp M c r).getD c []).getD c 0))) := by
              show _ = _
              rw [HD.out, show n - c = (n - (c + 1)) + 1 by omega, detM, HN2.out, HS.out.len]
              rw [show n - (c + 1) + 1 - 1 = n - c - 1 by omega]
            clear HD HN2
            by_cases hrc : c < r
            · have hrci : (c : Int) < (r : Int) := by omega
              have HSg : Hid (sgn c r d = mns 0 d) := by show _ = _; unfold sgn; rw [if_neg (by omega)]
              obtain ⟨q0, _⟩ := HMr.out.row_at HS.out c c hlt hlt
              have fc := HMr.out.frz c
              have fr := HMr.out.frz r
              have HS2 := Lib.hid (HS.out.swp hlt hr)
              have hsw := HMr.out.swap HS.out.len r c hr hlt (by omega)
              rw [HS.out.row c hlt, HS.out.row r hr] at hsw
              have esw : (M.set r (M.getD c [])).set c (M.getD r []) = swp M c r := by unfold swp; rw [if_neg (by omega)]
              rw [esw] at hsw
              have HSW := Lib.hid hsw
              have hg0 := HMr.out.base
              rw [HSg.out] at HDS
              have hdb := mns_bd 0 d
              have HNG := fun (W : World) => Lib.hid (sNeg d (by omega) W)
              rw [neg_eq] at HNG
              generalize mns 0 d = dn at *
              clear hsw esw HMr HSg
              go_wp2_with fail
              refine (HNG _).out.mono ?_; rintro e w9 ⟨rfl, rfl⟩
              obtain ⟨w2, hw2⟩ : ∃ w2 : World, w2 = (wr.setCell ⟨g, r, none⟩ (.slice (some ⟨R c, 0, none⟩) n (K c))).setCell ⟨g, c, none⟩ (.slice (some ⟨R r, 0, none⟩) n (K r)) := ⟨_, rfl⟩
              have HB2 : Hid (Below w.heap.size w w2) := by show Below _ _ _; rw [hw2]; exact (HB.out.setCell (p := ⟨g, r, none⟩) hg0.1 _).setCell (p := ⟨g, c, none⟩) hg0.1 _
              rw [← hw2] at HSW ⊢
              clear hw2 x0 x1 q0 fc fr HNG HB HXV0
              obtain ⟨R2, hR2⟩ : ∃ R2, R2 = (fun q => if q = c then R r else if q = r then R c else R q) := ⟨_, rfl⟩
              obtain ⟨K2, hK2⟩ : ∃ K2, K2 = (fun q => if q = c then K r else if q = r then K c else K q) := ⟨_, rfl⟩
              rw [← hR2, ← hK2] at HSW
              clear hR2 hK2
              have HM2 := HSW
              clear HSW
              obtain ⟨M2, hM2⟩ : ∃ M2, M2 = swp M c r := ⟨_, rfl⟩
              rw [← hM2] at HM2 HDS HS2
              clear hM2
              obtain ⟨pv, hpv⟩ : ∃ pv, pv = (M2.getD c []).getD c 0 := ⟨_, rfl⟩
              obtain ⟨y0, y1⟩ := HM2.out.row_at HS2.out c c hlt hlt
              rw [← hpv] at y1 HDS
              have HPV := Lib.hid hpv
              have hpb := (HS2.out.nums c hlt).at c
              rw [← hpv] at hpb
              clear hpv
              have hcn1 : (c : Int) < (n : Int) := hii
              have HT := Lib.hid (sTimes dn pv (by omega) (by omega) w2)
              have htb := tms_bd dn pv
              generalize tms dn pv = dt at *
              go_wp2_with fail
              refine HT.out.mono ?_; rintro e w9 ⟨rfl, rfl⟩
              go_wp2_with fail
              have HMI : Hid (Mo w2 w.heap.size g kg n n (elM M2 c 0) R2 K2) := HM2.out
              clear HM2 y0 y1 HT
              go_loopw [8] (fun q wi => ∃ k : Nat, c + 1 + k ≤ n ∧ q = .int .i64 ((c + 1 + k : Nat) : Int) ∧ Hid (Mo wi w.heap.size g kg n n (elM M2 c k) R2 K2) ∧ Hid (Below w.heap.size w wi)) (fun q _ => n - (intOf q).toNat)
              case atStart => exact ⟨0, by omega, by go_num, HMI.out, HB2.out⟩
              case round =>
                obtain ⟨k, hk, rfl, HMk, HBk⟩ := hrel
                clear HMI HB2
                obtain ⟨i, hi⟩ : ∃ i : Nat, i = c + 1 + k := ⟨_, rfl⟩
                by_cases hin : i < n
                · have hini : (i : Int) < (n : Int) := by omega
                  have HEi : Hid ((elM M2 c k).getD i [] = M2.getD i []) := by show _ = _; rw [elM_at M2 c i k (by have := HS2.out.len; omega), if_neg (by omega)]
                  have HEc : Hid ((elM M2 c k).getD c [] = M2.getD c []) := by show _ = _; rw [elM_at M2 c c k (by have := HS2.out.len; omega), if_neg (by omega)]
                  have HSk := Lib.hid (HS2.out.elM hk)
                  obtain ⟨z0, z1⟩ := HMk.out.row_at HSk.out i c hin hlt
                  obtain ⟨z2, z3⟩ := HMk.out.row_at HSk.out c c hlt hlt
                  rw [HEi.out] at z1
                  rw [HEc.out, ← HPV.out] at z3
                  have hbx := (HS2.out.nums i hin).at c
                  have HXV : Hid ((M2.getD i []).getD c 0 = (M2.getD i []).getD c 0) := rfl
                  obtain ⟨x, hx⟩ : ∃ x, x = (M2.getD i []).getD c 0 := ⟨_, rfl⟩
                  rw [← hx] at z1 hbx
                  have hib := pwr_bd pv 1000001
                  have HI := fun (W : World) => Lib.hid (sinv pv (by omega) W)
                  have HTx := fun (W : World) => Lib.hid (sTimes x (inv pv) (by omega) (by unfold inv; omega) W)
                  have hrow := HMk.out.row i hin
                  have hrowc := HMk.out.row c hlt
                  rw [HEi.out] at hrow
                  rw [HEc.out] at hrowc
                  have hneq : R2 c ≠ R2 i := fun e => by have := HMk.out.inj c i hlt hin e; omega
                  have li := HS2.out.row i hin
                  have lc := HS2.out.row c hlt
                  have HC := sTake w.heap.size (R2 i) (K2 i) (M2.getD i []) (M2.getD c []) (some ⟨R2 c, 0, none⟩) (K2 c) (tms x (inv pv)) wr.drew hrow hrowc.at (fun p hp => by cases hp; exact hneq) (by omega) (by omega) (HS2.out.nums i hin) (HS2.out.nums c hlt) (tms_bd _ _)
                  rw [li, lc] at HC
                  have HCC := Lib.hid HC
                  have HNX : Hid ((elM M2 c k).set i (tk (M2.getD i []) (M2.getD c []) (tms x (inv pv))) = elM M2 c (k + 1)) := by
                    show _ = _
                    rw [hx, HPV.out, hi]; rfl
                  have HLI := Lib.hid li
                  have hci : IntKind.i64.wrap ((i : Int) + 1) = (i : Int) + 1 := IntWalk.i64_in _ (by omega)
                  have HII := Lib.hid hi
                  have hmi : ((c + 1 + k : Nat) : Int) = (i : Int) := by omega
                  rw [hmi]
                  clear hrow hrowc HC li lc hx HXV hib hi hmi
                  go_wp2_with fail
                  refine wp_region_still_tail 24 (by kernel_rfl) (by kernel_rfl) ?_
                  simp only [List.take_succ_cons, List.take_zero, List.drop_succ_cons, List.drop_zero]
                  repeat still_step
                  still_call (flip (HI _).out)
                  repeat still_step
                  still_call (flip (HTx _).out)
                  repeat still_step
                  refine wpStill_nil ?_
                  change wpList _ _ _ _ _ wr.drew
                  go_wp2_with fail
                  refine HCC.out.mono ?_; rintro e w5 ⟨rfl, ho5, hk5⟩
                  have hk6 : Kp (fun b => b = R2 i) wr w5 := ⟨hk5.os, hk5.tape, hk5.output, hk5.size, hk5.block⟩
                  have HM5 := Lib.hid (HMk.out.row1 HSk.out.len i hin hk6 ho5 (by rw [tk_len, HEi.out]))
                  have HB5 := Lib.hid (HBk.out.trans (hk6.below (L := w.heap.size) HBk.out.size (fun b e => by have := (HMk.out.row i hin).base; omega)))
                  rw [HNX.out] at HM5
                  clear HCC HI HTx ho5 hk5 hk6 z0 z1 z2 z3
                  go_wp2_with fail
                  go_roundw
                  case rel => exact ⟨k + 1, by have := HII.out; omega, by have := HII.out; simp; omega, HM5.out, HB5.out⟩
                  case measure => simp [intOf]; have := HII.out; omega
                · have hini : ¬ (i : Int) < (n : Int) := by omega
                  have hkk : k = n - c - 1 := by omega
                  have HMF := Lib.hid HMk.out
                  rw [hkk] at HMF
                  have HSF := Lib.hid (HS2.out.elM (c := c) (k := n - c - 1) (by omega))
                  have hmi : ((c + 1 + k : Nat) : Int) = (i : Int) := by omega
                  rw [hmi]
                  clear hkk HMk hmi hi
                  go_wp2_with fail
                  go_roundw
                  case rel => exact ⟨c + 1, dt, _, by omega, rfl, by go_num, htb.1, htb.2, HDS.out, HSF.out, ⟨R2, K2, HMF.out⟩, HBk.out⟩
                  case measure => simp [intOf]; omega
            · have hrci : ¬ (c : Int) < (r : Int) := by omega
              obtain rfl : r = c := by omega
              have HSg : Hid (sgn r r d = d) := by show _ = _; unfold sgn; rw [if_pos rfl]
              have esw : swp M r r = M := by unfold swp; rw [if_pos rfl]
              rw [HSg.out, esw] at HDS
              have HM2 := HMr
              have HS2 := HS
              have HB2 := HB
              clear HMr HSg esw HS HB
              obtain ⟨M2, hM2⟩ : ∃ M2, M2 = M := ⟨_, rfl⟩
              rw [← hM2] at HM2 HDS HS2
              obtain ⟨pv, hpv⟩ : ∃ pv, pv = (M2.getD r []).getD r 0 := ⟨_, rfl⟩
              have hpx : pv = x := by rw [hpv, hM2]; exact HXV0.out
              clear hM2 HXV0
              subst hpx
              rw [← hpv] at HDS
              have HPV := Lib.hid hpv
              have hpb := (HS2.out.nums r hlt).at r
              rw [← hpv] at hpb
              clear hpv
              have hcn1 :  (r : Int) < (n : Int) := hii
              have HT := Lib.hid (sTimes d pv (by omega) (by omega) wr)
              have htb := tms_bd d pv
              generalize tms d pv = dt at *
              go_wp2_with fail
              refine HT.out.mono ?_; rintro e w9 ⟨rfl, rfl⟩
              go_wp2_with fail
              have HMI : Hid (Mo wr w.heap.size g kg n n (elM M2 r 0) R K) := HM2.out
              clear HM2 HT x0 x1 hzb
              go_loopw [8] (fun q wi => ∃ k : Nat, r + 1 + k ≤ n ∧ q = .int .i64 ( (r + 1 + k : Nat) : Int) ∧ Hid (Mo wi w.heap.size g kg n n (elM M2 r k) R K) ∧ Hid (Below w.heap.size w wi)) (fun q _ => n - (intOf q).toNat)
              case atStart => exact ⟨0, by omega, by go_num, HMI.out, HB2.out⟩
              case round =>
                obtain ⟨k, hk, rfl, HMk, HBk⟩ := hrel
                clear HMI HB2
                obtain ⟨i, hi⟩ : ∃ i : Nat, i = r + 1 + k := ⟨_, rfl⟩
                by_cases hin : i < n
                · have hini : (i : Int) < (n : Int) := by omega
                  have HEi : Hid ((elM M2 r k).getD i [] = M2.getD i []) := by show _ = _; rw [elM_at M2 r i k (by have := HS2.out.len; omega), if_neg (by omega)]
                  have HEc : Hid ((elM M2 r k).getD r [] = M2.getD r []) := by show _ = _; rw [elM_at M2 r r k (by have := HS2.out.len; omega), if_neg (by omega)]
                  have HSk := Lib.hid (HS2.out.elM hk)
                  obtain ⟨z0, z1⟩ := HMk.out.row_at HSk.out i r hin hlt
                  obtain ⟨z2, z3⟩ := HMk.out.row_at HSk.out r r hlt hlt
                  rw [HEi.out] at z1
                  rw [HEc.out, ← HPV.out] at z3
                  have hbx := (HS2.out.nums i hin).at r
                  have HXV : Hid ((M2.getD i []).getD r 0 = (M2.getD i []).getD r 0) := rfl
                  obtain ⟨x, hx⟩ : ∃ x, x = (M2.getD i []).getD r 0 := ⟨_, rfl⟩
                  rw [← hx] at z1 hbx
                  have hib := pwr_bd pv 1000001
                  have HI := fun (W : World) => Lib.hid (sinv pv (by omega) W)
                  have HTx := fun (W : World) => Lib.hid (sTimes x (inv pv) (by omega) (by unfold inv; omega) W)
                  have hrow := HMk.out.row i hin
                  have hrowc := HMk.out.row r hlt
                  rw [HEi.out] at hrow
                  rw [HEc.out] at hrowc
                  have hneq : R r ≠ R i := fun e => by have := HMk.out.inj r i hlt hin e; omega
                  have li := HS2.out.row i hin
                  have lc := HS2.out.row r hlt
                  have HC := sTake w.heap.size (R i) (K i) (M2.getD i []) (M2.getD r []) (some ⟨R r, 0, none⟩) (K r) (tms x (inv pv)) wr.drew hrow hrowc.at (fun p hp => by cases hp; exact hneq) (by omega) (by omega) (HS2.out.nums i hin) (HS2.out.nums r hlt) (tms_bd _ _)
                  rw [li, lc] at HC
                  have HCC := Lib.hid HC
                  have HNX : Hid ((elM M2 r k).set i (tk (M2.getD i []) (M2.getD r []) (tms x (inv pv))) = elM M2 r (k + 1)) := by
                    show _ = _
                    rw [hx, HPV.out, hi]; rfl
                  have HLI := Lib.hid li
                  have hci : IntKind.i64.wrap ((i : Int) + 1) = (i : Int) + 1 := IntWalk.i64_in _ (by omega)
                  have HII := Lib.hid hi
                  have hmi : ( (r + 1 + k : Nat) : Int) = (i : Int) := by omega
                  rw [hmi]
                  clear hrow hrowc HC li lc hx HXV hib hi hmi
                  go_wp2_with fail
                  refine wp_region_still_tail 24 (by kernel_rfl) (by kernel_rfl) ?_
                  simp only [List.take_succ_cons, List.take_zero, List.drop_succ_cons, List.drop_zero]
                  repeat still_step
                  still_call (flip (HI _).out)
                  repeat still_step
                  still_call (flip (HTx _).out)
                  repeat still_step
                  refine wpStill_nil ?_
                  change wpList _ _ _ _ _ wr.drew
                  go_wp2_with fail
                  refine HCC.out.mono ?_; rintro e w5 ⟨rfl, ho5, hk5⟩
                  have hk6 : Kp (fun b => b = R i) wr w5 := ⟨hk5.os, hk5.tape, hk5.output, hk5.size, hk5.block⟩
                  have HM5 := Lib.hid (HMk.out.row1 HSk.out.len i hin hk6 ho5 (by rw [tk_len, HEi.out]))
                  have HB5 := Lib.hid (HBk.out.trans (hk6.below (L := w.heap.size) HBk.out.size (fun b e => by have := (HMk.out.row i hin).base; omega)))
                  rw [HNX.out] at HM5
                  clear HCC HI HTx ho5 hk5 hk6 z0 z1 z2 z3
                  go_wp2_with fail
                  go_roundw
                  case rel => exact ⟨k + 1, by have := HII.out; omega, by have := HII.out; simp; omega, HM5.out, HB5.out⟩
                  case measure => simp [intOf]; have := HII.out; omega
                · have hini : ¬ (i : Int) < (n : Int) := by omega
                  have hkk : k = n - r - 1 := by omega
                  have HMF := Lib.hid HMk.out
                  rw [hkk] at HMF
                  have HSF := Lib.hid (HS2.out.elM (c := r) (k := n - r - 1) (by omega))
                  have hmi : ( (r + 1 + k : Nat) : Int) = (i : Int) := by omega
                  rw [hmi]
                  clear hkk HMk hmi hi
                  go_wp2_with fail
                  go_roundw
                  case rel => exact ⟨r + 1, dt, _, by omega, rfl, by go_num, htb.1, htb.2, HDS.out, HSF.out, ⟨R, K, HMF.out⟩, HBk.out⟩
                  case measure => simp [intOf]; omega
        · have hri : ¬ (r : Int) < (n : Int) := by omega
          obtain rfl : r = n := by omega
          have HN : Hid (detM r 0 ls 1 = 0) := by
            show _ = _
            rw [HD.out, show r - c = (r - (c + 1)) + 1 by omega, detM, HF.out, Nat.sub_self]; rfl
          clear HD HF HM
          go_wp2_with fail
          go_ret
          exact ⟨ret_int HN.out.symm, HB.out⟩
    · have hii : ¬ (c : Int) < (n : Int) := by omega
      obtain rfl : c = n := by omega
      have HN : Hid (d = detM c 0 ls 1) := by show _ = _; rw [HD.out, Nat.sub_self]; rfl
      clear HD HM
      go_wp2_with fail
      go_ret
      exact ⟨ret_int HN.out, HB.out⟩

end Go.Proofs.Ytiimebiecihpkaa
