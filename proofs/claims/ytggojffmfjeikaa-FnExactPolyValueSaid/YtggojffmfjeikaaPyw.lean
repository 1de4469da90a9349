/- Which polynomials are valid by the program. -/
import Derived.Test.YtggojffmfjeikaaPyv
import Derived.Test.YtggojffmfjeikaaTai
namespace Go.Proofs.Ytggojffmfjeikaa
open Go.RowKit
set_option linter.unusedVariables false

set_option maxHeartbeats 400000 in
theorem iNaN (x : Int) (w : World) : Calls Try.prog 106 #[.int .i64 x] w fun e w' => e = .returned (.bool false) ∧ w = w' := by
  have e1 : (x != x) = false := by simp
  go_enter Try.func106, Try.ntmps106
  go_wp2_with fail
  go_ret
  exact ⟨rfl, rfl⟩
/-- the order of two numbers -/
def cmp1 (x y : Int) : Int := if x < y then -1 else if y < x then 1 else 0
set_option maxHeartbeats 800000 in
theorem iCmp1 (x y : Int) (w : World) : Calls Try.prog 78 #[.int .i64 x, .int .i64 y] w fun e w' => e = .returned (.int .i64 (cmp1 x y)) ∧ w = w' := by
  by_cases c1 : x < y
  · have d1 : decide (x < y) = true := decide_eq_true c1
    have HF : Hid (cmp1 x y = -1) := if_pos c1
    go_enter Try.func78, Try.ntmps78
    go_wp2_with fail
    refine (iNaN x _).mono ?_; rintro e w' ⟨rfl, rfl⟩
    go_wp2_with fail
    refine (iNaN y _).mono ?_; rintro e w' ⟨rfl, rfl⟩
    go_wp2_with fail
    go_ret
    exact ⟨ret_int HF.out.symm, rfl⟩
  · have d1 : decide (x < y) = false := decide_eq_false c1
    by_cases c2 : y < x
    · have d2 : decide (y < x) = true := decide_eq_true c2
      have HF : Hid (cmp1 x y = 1) := (if_neg c1).trans (if_pos c2)
      go_enter Try.func78, Try.ntmps78
      go_wp2_with fail
      refine (iNaN x _).mono ?_; rintro e w' ⟨rfl, rfl⟩
      go_wp2_with fail
      refine (iNaN y _).mono ?_; rintro e w' ⟨rfl, rfl⟩
      go_wp2_with fail
      go_ret
      exact ⟨ret_int HF.out.symm, rfl⟩
    · have d2 : decide (y < x) = false := decide_eq_false c2
      have HF : Hid (cmp1 x y = 0) := (if_neg c1).trans (if_neg c2)
      go_enter Try.func78, Try.ntmps78
      go_wp2_with fail
      refine (iNaN x _).mono ?_; rintro e w' ⟨rfl, rfl⟩
      go_wp2_with fail
      refine (iNaN y _).mono ?_; rintro e w' ⟨rfl, rfl⟩
      go_wp2_with fail
      go_ret
      exact ⟨ret_int HF.out.symm, rfl⟩

set_option maxRecDepth 100000 in
set_option maxHeartbeats 1600000 in
theorem iCompare (a b : Option Addr) (ca cb : Nat) (l m : List Int) (w : World) (hA : At w a l) (hB : At w b m) (he : m.length = l.length) (hl : l.length ≤ 1048576) :
    Calls Try.prog 39 #[.slice a l.length ca, .slice b m.length cb] w fun e w' => e = .returned (.int .i64 (cmpL l m)) ∧ w = w' := by
  have H0 : Hid (cmpL l m = cmpL (l.drop 0) (m.drop 0)) := rfl
  have HE := Lib.hid he
  clear he
  go_enter Try.func39, Try.ntmps39
  go_wp2_with fail
  go_loopw [11] (fun i wr => ∃ k : Nat, k ≤ l.length ∧ i = .int .i64 k ∧ Hid (cmpL l m = cmpL (l.drop k) (m.drop k)) ∧ wr = w) (fun i _ => l.length - (intOf i).toNat)
  case atStart => exact ⟨0, Nat.zero_le _, rfl, H0, rfl⟩
  case round =>
    obtain ⟨k, hk, rfl, HX, rfl⟩ := hrel
    clear H0
    by_cases hlt : k < l.length
    · have hlt2 : k < m.length := by have := HE.out; omega
      obtain ⟨b1, o1, rfl, hbl1, hc1⟩ := (hA.resolve_left (by intro e; rw [e] at hlt; simp at hlt))
      obtain ⟨b2, o2, rfl, hbl2, hc2⟩ := (hB.resolve_left (by intro e; rw [e] at hlt2; simp at hlt2))
      have h1 := hc1 k hlt
      have h2 := hc2 k hlt2
      have hi : (k : Int) < (l.length : Int) := by omega
      have hi2 : (k : Int) < (m.length : Int) := by omega
      have hi3 : decide (m.length ≤ k) = false := decide_eq_false (by omega)
      have hi4 : decide ((m.length : Int) ≤ (k : Int)) = false := decide_eq_false (by omega)
      have HC := Lib.hid (cmpL_drop hlt hlt2)
      clear hc1 hc2 hA hB
      generalize l.getD k 0 = x at h1 HC
      generalize m.getD k 0 = y at h2 HC
      have HZ := Lib.hid (iCmp1 x y wr)
      by_cases c1 : x < y
      · have HF : Hid (cmpL l m = -1) := by show _ = _; rw [HX.out, HC.out, if_pos c1]
        rw [show cmp1 x y = -1 from if_pos c1] at HZ
        clear c1
        go_wp2_with fail
        refine HZ.out.mono ?_; rintro e w' ⟨rfl, rfl⟩
        go_wp2_with fail
        go_ret
        exact ⟨ret_int HF.out.symm, rfl⟩
      · by_cases c2 : y < x
        · have HF : Hid (cmpL l m = 1) := by show _ = _; rw [HX.out, HC.out, if_neg c1, if_pos c2]
          rw [show cmp1 x y = 1 from (if_neg c1).trans (if_pos c2)] at HZ
          clear c1 c2
          go_wp2_with fail
          refine HZ.out.mono ?_; rintro e w' ⟨rfl, rfl⟩
          go_wp2_with fail
          go_ret
          exact ⟨ret_int HF.out.symm, rfl⟩
        · have HF : Hid (cmpL l m = cmpL (l.drop (k + 1)) (m.drop (k + 1))) := by show _ = _; rw [HX.out, HC.out, if_neg c1, if_neg c2]
          rw [show cmp1 x y = 0 from (if_neg c1).trans (if_neg c2)] at HZ
          clear c1 c2
          go_wp2_with fail
          refine HZ.out.mono ?_; rintro e w' ⟨rfl, rfl⟩
          go_wp2_with fail
          go_roundw
          case rel => exact ⟨k + 1, by omega, by go_num, HF, by trivial⟩
          case measure => simp [intOf]; omega
    · have hkk : k = l.length := by omega
      subst hkk
      have HF : Hid (cmpL l m = 0) := by show _ = _; rw [HX.out, cmpL_end (by omega)]
      have hi : ¬ (l.length : Int) < (l.length : Int) := by omega
      have hi2 : decide ((l.length : Int) < (m.length : Int)) = false := decide_eq_false (by have := HE.out; omega)
      have hi3 : decide (l.length < m.length) = false := decide_eq_false (by have := HE.out; omega)
      go_wp2_with fail
      go_ret
      exact ⟨ret_int HF.out.symm, rfl⟩

theorem degB_more {e : List Int} {k : Nat} {d : Int} (hk : k < e.length) (h : 0 ≤ e.getD k 0) : degB (e.drop k) (12 - d) = degB (e.drop (k + 1)) (12 - (d + e.getD k 0)) := by
  rw [degB_good hk h]; congr 1; omega

set_option maxRecDepth 100000 in
set_option maxHeartbeats 3200000 in
theorem iTerm (x : Tm) (a : Option Addr) (c : Nat) (vars : Int) (w : World) (hA : At w a x.exps) (hv : 0 ≤ vars ∧ vars ≤ 12) (hl : x.exps.length ≤ 1048576) :
    Calls Try.prog 38 #[tmv x a c, .int .i64 vars] w fun e w' => e = .returned (.bool (termB x vars)) ∧ Below w.heap.size w w' := by
  unfold tmv
  have B1 : ∀ o, Below w.heap.size w (w.alloc o) := fun o => (Below.refl _ _).alloc (Nat.le_refl _) o
  by_cases h0 : (x.exps.length : Int) = vars
  rotate_left
  · have hd : ((x.exps.length : Int) != vars) = true := by simpa using h0
    have HF := Lib.hid (termB_len h0)
    clear h0
    go_enter Try.func38, Try.ntmps38
    go_wp2_with fail
    go_ret
    exact ⟨ret_bool HF.out.symm, B1 _⟩
  have hd : ((x.exps.length : Int) != vars) = false := by simpa using h0
  by_cases h2 : x.coef = 0
  · have hd2 : (x.coef == 0) = true := by simpa using h2
    have HF := Lib.hid (termB_zero (v := vars) h2)
    clear h0 h2
    go_enter Try.func38, Try.ntmps38
    go_wp2_with fail
    go_ret
    exact ⟨ret_bool HF.out.symm, B1 _⟩
  have hd2 : (x.coef == 0) = false := by simpa using h2
  have HN := fun W => Lib.hid (tIx x.coef 1000003 W)
  rw [← okNum_ix] at HN
  cases h1 : okNum x.coef with
  | false =>
    have HF := Lib.hid (termB_num (v := vars) h1)
    rw [h1] at HN
    clear h0 h1 h2
    go_enter Try.func38, Try.ntmps38
    go_wp2_with fail
    refine (HN _).out.mono ?_; rintro e w' ⟨rfl, rfl⟩
    go_wp2_with fail
    go_ret
    exact ⟨ret_bool HF.out.symm, B1 _⟩
  | true =>
    have HF := Lib.hid (termB_deg h0 h1 h2)
    have hl12 : x.exps.length ≤ 12 := by omega
    rw [h1] at HN
    clear h0 h1 h2 hv
    obtain ⟨w0, hw0⟩ : ∃ w0, w0 = w.alloc (.cells #[.slice a x.exps.length c, .int .i64 x.coef] 67) := ⟨_, rfl⟩
    have HB : Below w.heap.size w w0 := by rw [hw0]; exact B1 _
    have hA0 : At w0 a x.exps := hA.below HB (Nat.le_refl _)
    clear hA
    go_enter Try.func38, Try.ntmps38
    go_wp2_with fail
    refine (HN _).out.mono ?_; rintro e w' ⟨rfl, rfl⟩
    clear HN
    go_wp2_with fail
    rw [← hw0]
    clear hw0 B1
    go_loopw [5, 27] (fun q i wr => ∃ (k : Nat) (d : Int), k ≤ x.exps.length ∧ i = .int .i64 k ∧ q = .int .i64 d ∧ 0 ≤ d ∧ d ≤ 12 * (k : Int) ∧ Hid (termB x vars = degB (x.exps.drop k) (12 - d)) ∧ wr = w0) (fun _ i _ => x.exps.length - (intOf i).toNat)
    case atStart => exact ⟨0, 0, Nat.zero_le _, rfl, rfl, by omega, by omega, HF, rfl⟩
    case round =>
      obtain ⟨k, d, hk, rfl, rfl, hy0, hy1, HX, rfl⟩ := hrel
      clear HF
      by_cases hlt : k < x.exps.length
      · obtain ⟨b1, o1, rfl, hbl1, hc1⟩ := (hA0.resolve_left (by intro e; rw [e] at hlt; simp at hlt))
        have f0 := hc1 k hlt
        have hi : (k : Int) < (x.exps.length : Int) := by omega
        have HC := Lib.hid (tIx (x.exps.getD k 0) 13 wr)
        by_cases hg : 0 ≤ x.exps.getD k 0 ∧ x.exps.getD k 0 < 13
        · rw [ixB_of hg] at HC
          have HX2 := Lib.hid (HX.out.trans (degB_more hlt hg.1))
          obtain ⟨g1, g2⟩ := hg
          clear hc1 hA0 HX
          generalize x.exps.getD k 0 = v at f0 HC HX2 g1 g2
          go_wp2_with fail
          refine HC.out.mono ?_; rintro e w' ⟨rfl, rfl⟩
          go_wp2_with fail
          go_roundw
          case rel => exact ⟨k + 1, d + v, by omega, by go_num, by go_num, by omega, by omega, HX2, by trivial⟩
          case measure => simp [intOf]; omega
        · rw [ixB_no hg] at HC
          have HX2 := Lib.hid (HX.out.trans (degB_bad hlt (by omega)))
          clear hc1 hA0 HX hg
          generalize x.exps.getD k 0 = v at f0 HC
          go_wp2_with fail
          refine HC.out.mono ?_; rintro e w' ⟨rfl, rfl⟩
          go_wp2_with fail
          go_ret
          exact ⟨ret_bool HX2.out.symm, HB⟩
      · have hi : ¬ (k : Int) < (x.exps.length : Int) := by omega
        have HX2 : Hid (termB x vars = decide (d ≤ 12)) := by
          show _ = _
          rw [HX.out, degB_end (by omega)]
          by_cases h : d ≤ 12
          · rw [decide_eq_true h, decide_eq_true (by omega)]
          · rw [decide_eq_false h, decide_eq_false (by omega)]
        go_wp2_with fail
        go_ret
        exact ⟨ret_bool HX2.out.symm, HB⟩

set_option maxRecDepth 100000 in
set_option maxHeartbeats 6400000 in
theorem iValidPoly (q : Py) (a : Option Addr) (c : Nat) (w : World) (hP : TmAt w 0 w.heap.size q.terms a) (hs : tmSize q.terms ≤ 1048576) :
    Calls Try.prog 12 #[pyv q a c] w fun e w' => e = .returned (.bool (polyB q)) ∧ Below w.heap.size w w' := by
  unfold pyv
  have hlen : q.terms.length ≤ 1048576 := by unfold tmSize at hs; omega
  obtain ⟨w0, hw0⟩ : ∃ w0, w0 = w.alloc (.cells #[.int .i64 q.vars, .slice a q.terms.length c] 29) := ⟨_, rfl⟩
  have HB : Below w.heap.size w w0 := by rw [hw0]; exact (Below.refl _ _).alloc (Nat.le_refl _) _
  have z0 := Lib.hid (show w0.heap.size = w.heap.size + 1 by rw [hw0]; simp)
  have p0 : w0.cell? ⟨w.heap.size, 0, none⟩ = some (.int .i64 q.vars) := by rw [hw0]; simp [go_sem]
  have p1 : w0.cell? ⟨w.heap.size, 1, none⟩ = some (.slice a q.terms.length c) := by rw [hw0]; simp [go_sem]
  have HC := Lib.hid (tIx q.vars 13 w0)
  by_cases h1 : 0 ≤ q.vars ∧ q.vars < 13
  rotate_left
  · have HF : Hid (polyB q = false) := polyB_head (by omega)
    rw [ixB_no h1] at HC
    clear hP h1
    go_enter Try.func12, Try.ntmps12
    go_wp2_with fail
    rw [← hw0]
    refine HC.out.mono ?_; rintro e w' ⟨rfl, rfl⟩
    clear hw0
    go_wp2_with fail
    go_ret
    exact ⟨ret_bool HF.out.symm, HB⟩
  rw [ixB_of h1] at HC
  by_cases h2 : 120 < q.terms.length
  · have HF : Hid (polyB q = false) := polyB_head (by omega)
    have d2 : decide ((120 : Int) < (q.terms.length : Int)) = true := decide_eq_true (by omega)
    clear hP h1
    go_enter Try.func12, Try.ntmps12
    go_wp2_with fail
    rw [← hw0]
    refine HC.out.mono ?_; rintro e w' ⟨rfl, rfl⟩
    clear hw0
    go_wp2_with fail
    go_ret
    exact ⟨ret_bool HF.out.symm, HB⟩
  have d2 : decide ((120 : Int) < (q.terms.length : Int)) = false := decide_eq_false (by omega)
  have hv : 0 ≤ q.vars ∧ q.vars ≤ 12 := by omega
  have HH := Lib.hid hv
  have HL := Lib.hid (show q.terms.length ≤ 120 by omega)
  have HA := Lib.hid (show ∀ k, k < q.terms.length → (q.terms.getD k noTm).exps.length ≤ 1048576 from fun k hk => by have := tmSum_le hk; unfold tmSize at hs; omega)
  have HS0 : Hid (Sofar q 0) := fun i hi => by omega
  clear h1 h2 hv
  go_enter Try.func12, Try.ntmps12
  go_wp2_with fail
  rw [← hw0]
  clear hw0
  refine HC.out.mono ?_; rintro e w' ⟨rfl, rfl⟩
  clear HC
  go_wp2_with fail
  go_loopw [18] (fun i wr => ∃ k : Nat, k ≤ q.terms.length ∧ i = .int .i64 k ∧ Hid (Sofar q k) ∧ Below w0.heap.size w0 wr) (fun i _ => q.terms.length - (intOf i).toNat)
  case atStart => exact ⟨0, Nat.zero_le _, rfl, HS0, Below.refl _ _⟩
  case round =>
    obtain ⟨k, hk, rfl, HX, hw⟩ := hrel
    clear HS0 d2
    have zr := Lib.hid hw.size
    have HBr := HB.trans (hw.mono HB.size)
    have q0 : wr.cell? ⟨w.heap.size, 0, none⟩ = some (.int .i64 q.vars) := (hw.cell (p := ⟨w.heap.size, 0, none⟩) (by show w.heap.size < _; have := z0.out; omega)).trans p0
    have q1 : wr.cell? ⟨w.heap.size, 1, none⟩ = some (.slice a q.terms.length c) := (hw.cell (p := ⟨w.heap.size, 1, none⟩) (by show w.heap.size < _; have := z0.out; omega)).trans p1
    have hP' : TmAt wr 0 wr.heap.size q.terms a := hP.next (HBr.mono (Nat.le_refl _))
    have hlr : w.heap.size < wr.heap.size := by have := z0.out; have := zr.out; omega
    clear p0 p1 hP
    by_cases hlt : k < q.terms.length
    · obtain ⟨bt, off, rfl⟩ : ∃ bt off, a = some ⟨bt, off, none⟩ := by
        rcases hP' with e | ⟨bt, off, e, _⟩
        · rw [e] at hlt; simp at hlt
        · exact ⟨bt, off, e⟩
      have hi : (k : Int) < (q.terms.length : Int) := by omega
      obtain ⟨a1, c1, hT, hR⟩ := hP'.term hlt
      have f0 := hT.c0
      have f1 := hT.c1
      obtain ⟨wx, hwx⟩ : ∃ wx, wx = wr.alloc (.cells #[.slice a1 (q.terms.getD k noTm).exps.length c1, .int .i64 (q.terms.getD k noTm).coef] 67) := ⟨_, rfl⟩
      have hx : Below wr.heap.size wr wx := by rw [hwx]; exact (Below.refl _ _).alloc (Nat.le_refl _) _
      have zx := Lib.hid (show wx.heap.size = wr.heap.size + 1 by rw [hwx]; simp)
      have x0 : wx.cell? ⟨wr.heap.size, 0, none⟩ = some (.slice a1 (q.terms.getD k noTm).exps.length c1) := by rw [hwx]; simp [go_sem]
      have x1 : wx.cell? ⟨wr.heap.size, 1, none⟩ = some (.int .i64 (q.terms.getD k noTm).coef) := by rw [hwx]; simp [go_sem]
      have y0 : wx.cell? ⟨w.heap.size, 0, none⟩ = some (.int .i64 q.vars) := (hx.cell (p := ⟨w.heap.size, 0, none⟩) hlr).trans q0
      have HT := Lib.hid (iTerm (q.terms.getD k noTm) a1 c1 q.vars wx (hT.at'.below hx (Nat.le_refl _)) HH.out (HA.out k hlt))
      unfold tmv at HT
      cases hb : termB (q.terms.getD k noTm) q.vars with
      | false =>
        have HF : Hid (polyB q = false) := polyB_bad hlt (.inl hb)
        rw [hb] at HT
        clear hP' hT hR hb HX HA
        generalize (q.terms.getD k noTm).exps.length = l2 at f0 x0 HT hwx
        generalize (q.terms.getD k noTm).coef = cf at f1 x1 HT hwx
        have HWX := Lib.hid hwx
        clear hwx x0 x1 y0
        go_wp2_with fail
        rw [← HWX.out]
        refine HT.out.mono ?_; rintro e w1 ⟨rfl, b⟩
        go_wp2_with fail
        go_ret
        exact ⟨ret_bool HF.out.symm, (HBr.trans (hx.mono HBr.size)).trans (b.mono (by have := zx.out; omega))⟩
      | true =>
        rw [hb] at HT
        by_cases hk0 : k = 0
        · have d0 : decide (0 < k) = false := decide_eq_false (by omega)
          have HX2 : Hid (Sofar q (k + 1)) := HX.out.next hb (by rw [hk0]; exact stepB_0)
          clear hP' hT hR hb HX HA hk0
          generalize (q.terms.getD k noTm).exps.length = l2 at f0 x0 HT hwx
          generalize (q.terms.getD k noTm).coef = cf at f1 x1 HT hwx
          have HWX := Lib.hid hwx
          clear hwx x0 x1 y0
          go_wp2_with fail
          rw [← HWX.out]
          clear HWX
          refine HT.out.mono ?_; rintro e w1 ⟨rfl, b⟩
          have hw2 := hw.trans ((hx.mono zr.out).trans (b.mono (by have := zx.out; have := zr.out; omega)))
          have HQ2 := fun n => Lib.hid (below_drewN hw2 n)
          clear HT f0 f1 q0 q1
          go_wp2_with fail
          go_quiet (fail)
          go_wp2_with fail
          go_roundw
          case rel => exact ⟨k + 1, by omega, by go_num, HX2, (HQ2 _).out⟩
          case measure => simp [intOf]; omega
        · have d0 : decide (0 < k) = true := decide_eq_true (by omega)
          have hk1 : k - 1 < q.terms.length := by omega
          have e1 : (k : Int) - 1 = ((k - 1 : Nat) : Int) := by omega
          obtain ⟨a2, c2, hT2, hR2⟩ := hP'.term hk1
          have g1 := hT2.c0
          have hbt := cell_lt g1
          have hln : ((q.terms.getD k noTm).exps.length : Int) = q.vars := termB_ln hb
          have hln2 : ((q.terms.getD (k - 1) noTm).exps.length : Int) = q.vars := termB_ln (HX.out (k - 1) (by omega)).1
          have hA1 := hT.at'.below hx (Nat.le_refl _)
          have hA2 := hT2.at'.below hx (Nat.le_refl _)
          have HM := Lib.hid (fun (W : World) (hW : Below wx.heap.size wx W) => iCompare a2 a1 c2 c1 (q.terms.getD (k - 1) noTm).exps (q.terms.getD k noTm).exps W (hA2.below hW (Nat.le_refl _)) (hA1.below hW (Nat.le_refl _)) (by omega) (HA.out _ hk1))
          have HBD := Lib.hid (cmpL_bd (q.terms.getD (k - 1) noTm).exps (q.terms.getD k noTm).exps)
          have hi1 : ((k - 1 : Nat) : Int) < (q.terms.length : Int) := by omega
          by_cases hc : cmpL (q.terms.getD (k - 1) noTm).exps (q.terms.getD k noTm).exps < 0
          · have HX2 : Hid (Sofar q (k + 1)) := HX.out.next hb (stepB_t hk0 hc)
            have d3 : decide (0 ≤ cmpL (q.terms.getD (k - 1) noTm).exps (q.terms.getD k noTm).exps) = false := decide_eq_false (by omega)
            clear hP' hT hR hb HX HA hk0 hT2 hR2 hln hln2 hc HBD hA1 hA2
            generalize cmpL (q.terms.getD (k - 1) noTm).exps (q.terms.getD k noTm).exps = z at HM d3
            generalize (q.terms.getD (k - 1) noTm).exps.length = l1 at g1 HM
            generalize (q.terms.getD k noTm).exps.length = l2 at f0 x0 HT hwx HM
            generalize (q.terms.getD k noTm).coef = cf at f1 x1 HT hwx
            have HWX := Lib.hid hwx
            have X0 := Lib.hid x0
            clear hwx x0 x1 y0
            go_wp2_with fail
            rw [← HWX.out]
            clear HWX
            refine HT.out.mono ?_; rintro e w1 ⟨rfl, b⟩
            have hw2 := hw.trans ((hx.mono zr.out).trans (b.mono (by have := zx.out; have := zr.out; omega)))
            have HQ2 := fun n => Lib.hid (below_drewN hw2 n)
            have x0 : w1.cell? ⟨wr.heap.size, 0, none⟩ = some (.slice a1 l2 c1) := (b.cell (p := ⟨wr.heap.size, 0, none⟩) (by show wr.heap.size < _; have := zx.out; omega)).trans X0.out
            replace q1 : w1.cell? ⟨w.heap.size, 1, none⟩ = some (.slice (some ⟨bt, off, none⟩) q.terms.length c) := (b.cell (p := ⟨w.heap.size, 1, none⟩) (by show w.heap.size < _; have := zx.out; omega)).trans ((hx.cell (p := ⟨w.heap.size, 1, none⟩) hlr).trans q1)
            replace g1 : w1.cell? ⟨bt, off + (k - 1) * 2, none⟩ = some (.slice a2 l1 c2) := (b.cell (p := ⟨bt, off + (k - 1) * 2, none⟩) (by show bt < _; have := zx.out; omega)).trans ((hx.cell (p := ⟨bt, off + (k - 1) * 2, none⟩) hbt).trans g1)
            have HM2 := fun n => Lib.hid (HM.out (w1.drewN n) (below_drewN b n))
            clear HT f0 f1 q0 HM X0
            go_wp2_with fail
            go_quiet ((go_at_call 39; exact quiet_same (HM2 _).out))
            go_wp2_with fail
            go_roundw
            case rel => exact ⟨k + 1, by omega, by go_num, HX2, (HQ2 _).out⟩
            case measure => simp [intOf]; omega
          · have HF : Hid (polyB q = false) := polyB_bad hlt (.inr (stepB_f hk0 hc))
            have d3 : decide (0 ≤ cmpL (q.terms.getD (k - 1) noTm).exps (q.terms.getD k noTm).exps) = true := decide_eq_true (by omega)
            clear hP' hT hR hb HX HA hk0 hT2 hR2 hln hln2 hc HBD hA1 hA2
            generalize cmpL (q.terms.getD (k - 1) noTm).exps (q.terms.getD k noTm).exps = z at HM d3
            generalize (q.terms.getD (k - 1) noTm).exps.length = l1 at g1 HM
            generalize (q.terms.getD k noTm).exps.length = l2 at f0 x0 HT hwx HM
            generalize (q.terms.getD k noTm).coef = cf at f1 x1 HT hwx
            have HWX := Lib.hid hwx
            have X0 := Lib.hid x0
            clear hwx x0 x1 y0
            go_wp2_with fail
            rw [← HWX.out]
            clear HWX
            refine HT.out.mono ?_; rintro e w1 ⟨rfl, b⟩
            have hw2 := hw.trans ((hx.mono zr.out).trans (b.mono (by have := zx.out; have := zr.out; omega)))
            have HQ2 := fun n => Lib.hid (below_drewN hw2 n)
            have x0 : w1.cell? ⟨wr.heap.size, 0, none⟩ = some (.slice a1 l2 c1) := (b.cell (p := ⟨wr.heap.size, 0, none⟩) (by show wr.heap.size < _; have := zx.out; omega)).trans X0.out
            replace q1 : w1.cell? ⟨w.heap.size, 1, none⟩ = some (.slice (some ⟨bt, off, none⟩) q.terms.length c) := (b.cell (p := ⟨w.heap.size, 1, none⟩) (by show w.heap.size < _; have := zx.out; omega)).trans ((hx.cell (p := ⟨w.heap.size, 1, none⟩) hlr).trans q1)
            replace g1 : w1.cell? ⟨bt, off + (k - 1) * 2, none⟩ = some (.slice a2 l1 c2) := (b.cell (p := ⟨bt, off + (k - 1) * 2, none⟩) (by show bt < _; have := zx.out; omega)).trans ((hx.cell (p := ⟨bt, off + (k - 1) * 2, none⟩) hbt).trans g1)
            have HM2 := fun n => Lib.hid (HM.out (w1.drewN n) (below_drewN b n))
            clear HT f0 f1 q0 HM X0
            go_wp2_with fail
            go_quiet ((go_at_call 39; exact quiet_same (HM2 _).out))
            go_wp2_with fail
            go_ret
            exact ⟨ret_bool HF.out.symm, HB.trans ((HQ2 _).out.mono HB.size)⟩
    · have hkk : k = q.terms.length := by omega
      have HF : Hid (polyB q = true) := polyB_all ⟨HH.out.1, HH.out.2, HL.out⟩ (fun i hi => HX.out i (by omega))
      have hi : ¬ (k : Int) < (q.terms.length : Int) := by omega
      clear hP' HX
      go_wp2_with fail
      go_ret
      exact ⟨ret_bool HF.out.symm, HBr⟩

end Go.Proofs.Ytggojffmfjeikaa
