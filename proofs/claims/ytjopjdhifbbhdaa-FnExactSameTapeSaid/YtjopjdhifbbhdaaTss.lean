/- Tapes: which ones are the same, by the model. -/
import Derived.Test.YtjopjdhifbbhdaaTsp
namespace Go.Proofs.Ytjopjdhifbbhdaa
open Go.RowKit
set_option linter.unusedVariables false

theorem same_lenc {t u : Tp} (h : ¬ t.code.length = u.code.length) : RSameTape t u = false := same_code (sameL_len h)
theorem same_leng {t u : Tp} (h : ¬ t.guards.length = u.guards.length) : RSameTape t u = false := same_guards (sameL_len h)

set_option maxRecDepth 100000 in
set_option maxHeartbeats 3200000 in
theorem sSameTape (t u : Tp) (ac : Option Addr) (cc : Nat) (ag : Option Addr) (cg : Nat) (ao : Option Addr) (co : Nat) (ac2 : Option Addr) (cc2 : Nat) (ag2 : Option Addr) (cg2 : Nat) (ao2 : Option Addr) (co2 : Nat) (w : World) (hP : Tat w 0 w.heap.size t ac ag ao) (hQ : Tat w 0 w.heap.size u ac2 ag2 ao2) (hs : tpSize t ≤ 1048576) (hs2 : tpSize u ≤ 1048576) :
    Calls Try.prog 17 #[tpv t ac cc ag cg ao co, tpv u ac2 cc2 ag2 cg2 ao2 co2] w fun e w' => e = .returned (.bool (RSameTape t u)) ∧ Below w.heap.size w w' := by
  unfold tpv
  obtain ⟨s1, s2, s3⟩ : t.code.length ≤ 1048576 ∧ t.guards.length ≤ 1048576 ∧ t.outs.length ≤ 1048576 := by unfold tpSize at hs; omega
  obtain ⟨r1, r2, r3⟩ : u.code.length ≤ 1048576 ∧ u.guards.length ≤ 1048576 ∧ u.outs.length ≤ 1048576 := by unfold tpSize at hs2; omega
  obtain ⟨w0, hw0⟩ : ∃ w0, w0 = w.alloc (.cells #[.int .i64 t.inputs, .slice ac t.code.length cc, .slice ag t.guards.length cg, .slice ao t.outs.length co] 32) := ⟨_, rfl⟩
  obtain ⟨wb, hwb⟩ : ∃ wb, wb = w0.alloc (.cells #[.int .i64 u.inputs, .slice ac2 u.code.length cc2, .slice ag2 u.guards.length cg2, .slice ao2 u.outs.length co2] 32) := ⟨_, rfl⟩
  have A0 : Below w.heap.size w w0 := by rw [hw0]; exact (Below.refl _ _).alloc (Nat.le_refl _) _
  have Ab : Below w0.heap.size w0 wb := by rw [hwb]; exact (Below.refl _ _).alloc (Nat.le_refl _) _
  have T0 : Tcl w0 w.heap.size t ac cc ag cg ao co := by rw [hw0]; exact tcl_new w t ac cc ag cg ao co 32
  have U0 : Tcl wb w0.heap.size u ac2 cc2 ag2 cg2 ao2 co2 := by rw [hwb]; exact tcl_new w0 u ac2 cc2 ag2 cg2 ao2 co2 32
  have T1 := T0.next Ab
  have A1 := A0.trans (Ab.mono A0.size)
  have z0 : w0.heap.size = w.heap.size + 1 := by rw [hw0]; simp
  have P1 := hP.next A1
  have Q1 := hQ.next A1
  obtain ⟨c0, c1, c2, c3⟩ := id T1
  obtain ⟨d0, d1, d2, d3⟩ := id U0
  clear T0 hP hQ Ab
  by_cases h0 : t.inputs = u.inputs
  · have he : (t.inputs != u.inputs) = false := by simp [h0]
    have H0 := Lib.hid h0
    clear h0
    by_cases h1 : t.code.length = u.code.length
    · have he1 : ((t.code.length : Int) != (u.code.length : Int)) = false := by simp [h1]
      have H1 := Lib.hid h1
      clear h1
      by_cases h2 : t.guards.length = u.guards.length
      · have he2 : ((t.guards.length : Int) != (u.guards.length : Int)) = false := by simp [h2]
        have H2 := Lib.hid h2
        clear h2
        have HO := Lib.hid (sSame ao ao2 co co2 t.outs u.outs wb (P1.outs.at (Nat.le_refl _)) (Q1.outs.at (Nat.le_refl _)) s3 r3)
        cases k3 : sameL eqN 0 t.outs u.outs with
        | false =>
          have HF := Lib.hid (same_outs k3)
          rw [k3] at HO
          clear k3
          go_enter Try.func17, Try.ntmps17
          go_wp2_with fail
          rw [← hw0, ← z0]
          rw [← hwb]
          clear hw0 hwb z0
          refine HO.out.mono ?_; rintro e w2 ⟨rfl, b2⟩
          clear c0 c1 c2 c3 d0 d1 d2 d3 HO
          go_wp2_with fail
          go_ret
          exact ⟨ret_bool HF.out.symm, A1.trans (b2.mono A1.size)⟩
        | true =>
          have K3 := Lib.hid k3
          rw [k3] at HO
          clear k3
          go_enter Try.func17, Try.ntmps17
          go_wp2_with fail
          rw [← hw0, ← z0]
          rw [← hwb]
          clear hw0 hwb z0
          refine HO.out.mono ?_; rintro e w2 ⟨rfl, b2⟩
          clear c0 c1 c2 c3 d0 d1 d2 d3 HO
          have A2 := A1.trans (b2.mono A1.size)
          have T2 := T1.next b2
          have U2 := U0.next b2
          have P2 := P1.next b2
          have Q2 := Q1.next b2
          clear T1 U0 P1 Q1 A1 b2
          go_wp2_with fail
          go_loopw [5] (fun q wr => ∃ i : Nat, i ≤ t.code.length ∧ q = .int .i64 i ∧ Hid (∀ j, j < i → eqI (t.code.getD j no4) (u.code.getD j no4) = true) ∧ Below w2.heap.size w2 wr) (fun q _ => t.code.length - (intOf q).toNat)
          case atStart => exact ⟨0, Nat.zero_le _, rfl, (fun j hj => by omega), Below.refl _ _⟩
          case round =>
            obtain ⟨i, hi, rfl, HX, hw⟩ := hrel
            have A3 := A2.trans (hw.mono A2.size)
            have T3 := T2.next hw
            have U3 := U2.next hw
            obtain ⟨c0, c1, c2, c3⟩ := id T3
            obtain ⟨d0, d1, d2, d3⟩ := id U3
            by_cases hlt : i < t.code.length
            · have hlt2 : i < u.code.length := by have := H1.out; omega
              have hii : (i : Int) < (t.code.length : Int) := by omega
              have hii2 : (i : Int) < (u.code.length : Int) := by omega
              obtain ⟨b1, o1, rfl, hb1, hall1⟩ := ((P2.next hw).code.resolve_left (by intro e; rw [e] at hlt; simp at hlt))
              obtain ⟨b2, o2, rfl, hb2, hall2⟩ := ((Q2.next hw).code.resolve_left (by intro e; rw [e] at hlt2; simp at hlt2))
              obtain ⟨hr, f0, f1, f2, f3⟩ := hall1 i hlt
              obtain ⟨hr2, e0, e1, e2, e3⟩ := hall2 i hlt2
              have HQ := neqI (t.code.getD i no4) (u.code.getD i no4)
              clear hall1 hall2 hr hr2
              cases hq : eqI (t.code.getD i no4) (u.code.getD i no4) with
              | true =>
                have HX2 : Hid (∀ j, j < i + 1 → eqI (t.code.getD j no4) (u.code.getD j no4) = true) := by
                  intro j hj
                  by_cases hji : j = i
                  · rw [hji]; exact hq
                  · exact HX.out j (by omega)
                rw [hq] at HQ
                clear hq HX P2 Q2 T2 U2 T3 U3
                generalize t.code.getD i no4 = x at *
                generalize u.code.getD i no4 = y at *
                go_wp2_with fail
                go_quiet (fail)
                go_wp2_with fail
                go_roundw
                case rel => exact ⟨i + 1, by omega, by go_num, HX2, below_drewN hw _⟩
                case measure => simp [intOf]; omega
              | false =>
                have HF := Lib.hid (same_code (sameL_ne hlt hq))
                rw [hq] at HQ
                clear hq HX P2 Q2 T2 U2 T3 U3
                generalize t.code.getD i no4 = x at *
                generalize u.code.getD i no4 = y at *
                go_wp2_with fail
                go_quiet (fail)
                go_wp2_with fail
                go_ret
                exact ⟨ret_bool HF.out.symm, below_drewN A3 _⟩
            · have hii : ¬ (i : Int) < (t.code.length : Int) := by omega
              have HC : Hid (sameL eqI no4 t.code u.code = true) := sameL_all H1.out (fun j hj => HX.out j (by omega))
              have P3 := P2.next hw
              have Q3 := Q2.next hw
              clear HX P2 Q2 T2 U2 hlt
              go_wp2_with fail
              clear c0 c1 c2 c3 d0 d1 d2 d3
              go_loopw [6] (fun q ws => ∃ i : Nat, i ≤ t.guards.length ∧ q = .int .i64 i ∧ Hid (∀ j, j < i → eqGd (t.guards.getD j noG) (u.guards.getD j noG) = true) ∧ Below wr.heap.size wr ws) (fun q _ => t.guards.length - (intOf q).toNat)
              case atStart => exact ⟨0, Nat.zero_le _, rfl, (fun j hj => by omega), Below.refl _ _⟩
              case round =>
                obtain ⟨i2, hi2, rfl, HX, hw'⟩ := hrel
                have A4 := A3.trans (hw'.mono A3.size)
                obtain ⟨c0, c1, c2, c3⟩ := T3.next hw'
                obtain ⟨d0, d1, d2, d3⟩ := U3.next hw'
                by_cases hlt : i2 < t.guards.length
                · have hlt2 : i2 < u.guards.length := by have := H2.out; omega
                  have hii : (i2 : Int) < (t.guards.length : Int) := by omega
                  have hii2 : (i2 : Int) < (u.guards.length : Int) := by omega
                  obtain ⟨b1, o1, rfl, hb1, hall1⟩ := ((P3.next hw').guards.resolve_left (by intro e; rw [e] at hlt; simp at hlt))
                  obtain ⟨b2, o2, rfl, hb2, hall2⟩ := ((Q3.next hw').guards.resolve_left (by intro e; rw [e] at hlt2; simp at hlt2))
                  obtain ⟨hr, f0, f1⟩ := hall1 i2 hlt
                  obtain ⟨hr2, e0, e1⟩ := hall2 i2 hlt2
                  have HQ := neqGd (t.guards.getD i2 noG) (u.guards.getD i2 noG)
                  clear hall1 hall2 hr hr2
                  cases hq : eqGd (t.guards.getD i2 noG) (u.guards.getD i2 noG) with
                  | true =>
                    have HX2 : Hid (∀ j, j < i2 + 1 → eqGd (t.guards.getD j noG) (u.guards.getD j noG) = true) := by
                      intro j hj
                      by_cases hji : j = i2
                      · rw [hji]; exact hq
                      · exact HX.out j (by omega)
                    rw [hq] at HQ
                    clear hq HX P3 Q3 T3 U3
                    generalize t.guards.getD i2 noG = x at *
                    generalize u.guards.getD i2 noG = y at *
                    go_wp2_with fail
                    go_quiet (fail)
                    go_wp2_with fail
                    go_roundw
                    case rel => exact ⟨i2 + 1, by omega, by go_num, HX2, below_drewN hw' _⟩
                    case measure => simp [intOf]; omega
                  | false =>
                    have HF := Lib.hid (same_guards (sameL_ne hlt hq))
                    rw [hq] at HQ
                    clear hq HX P3 Q3 T3 U3
                    generalize t.guards.getD i2 noG = x at *
                    generalize u.guards.getD i2 noG = y at *
                    go_wp2_with fail
                    go_quiet (fail)
                    go_wp2_with fail
                    go_ret
                    exact ⟨ret_bool HF.out.symm, below_drewN A4 _⟩
                · have hii : ¬ (i2 : Int) < (t.guards.length : Int) := by omega
                  have HF := Lib.hid (same_yes H0.out HC.out (sameL_all H2.out (fun j hj => HX.out j (by omega))) K3.out)
                  clear HX P3 Q3 T3 U3
                  go_wp2_with fail
                  go_ret
                  exact ⟨ret_bool HF.out.symm, A4⟩
      · have he2 : ((t.guards.length : Int) != (u.guards.length : Int)) = true := by simp [bne]; omega
        have HF := Lib.hid (same_leng h2)
        clear h2
        go_enter Try.func17, Try.ntmps17
        go_wp2_with fail
        rw [← hw0, ← z0]
        rw [← hwb]
        clear hw0 hwb z0
        go_wp2_with fail
        go_ret
        exact ⟨ret_bool HF.out.symm, A1⟩
    · have he1 : ((t.code.length : Int) != (u.code.length : Int)) = true := by simp [bne]; omega
      have HF := Lib.hid (same_lenc h1)
      clear h1
      go_enter Try.func17, Try.ntmps17
      go_wp2_with fail
      rw [← hw0, ← z0]
      rw [← hwb]
      clear hw0 hwb z0
      go_wp2_with fail
      go_ret
      exact ⟨ret_bool HF.out.symm, A1⟩
  · have he : (t.inputs != u.inputs) = true := by simp [bne]; exact h0
    have HF := Lib.hid (same_inp h0)
    clear h0
    go_enter Try.func17, Try.ntmps17
    go_wp2_with fail
    rw [← hw0, ← z0]
    rw [← hwb]
    clear hw0 hwb z0
    go_wp2_with fail
    go_ret
    exact ⟨ret_bool HF.out.symm, A1⟩

end Go.Proofs.Ytjopjdhifbbhdaa
