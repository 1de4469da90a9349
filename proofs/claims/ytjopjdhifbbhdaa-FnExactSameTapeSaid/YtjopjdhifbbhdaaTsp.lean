/- Tapes: the law's function on two tapes that are the same or not. -/
import Derived.Test.YtjopjdhifbbhdaaTsm
namespace Go.Proofs.Ytjopjdhifbbhdaa
open Go.RowKit
set_option linter.unusedVariables false

def RSameTape (t u : Tp) : Bool := decide (t.inputs = u.inputs) && (sameL eqI no4 t.code u.code && (sameL eqGd noG t.guards u.guards && sameL eqN 0 t.outs u.outs))
theorem same_inp {t u : Tp} (h : ¬ t.inputs = u.inputs) : RSameTape t u = false := by unfold RSameTape; rw [decide_eq_false h, Bool.false_and]
theorem same_code {t u : Tp} (h : sameL eqI no4 t.code u.code = false) : RSameTape t u = false := by unfold RSameTape; rw [h, Bool.false_and, Bool.and_false]
theorem same_guards {t u : Tp} (h : sameL eqGd noG t.guards u.guards = false) : RSameTape t u = false := by unfold RSameTape; rw [h, Bool.false_and, Bool.and_false, Bool.and_false]
theorem same_outs {t u : Tp} (h : sameL eqN 0 t.outs u.outs = false) : RSameTape t u = false := by unfold RSameTape; rw [h, Bool.and_false, Bool.and_false, Bool.and_false]
theorem same_yes {t u : Tp} (h0 : t.inputs = u.inputs) (h1 : sameL eqI no4 t.code u.code = true) (h2 : sameL eqGd noG t.guards u.guards = true) (h3 : sameL eqN 0 t.outs u.outs = true) : RSameTape t u = true := by
  unfold RSameTape; rw [decide_eq_true h0, h1, h2, h3]; rfl

set_option maxRecDepth 100000 in
set_option maxHeartbeats 1600000 in
theorem iSameTape (t u : Tp) (ac : Option Addr) (cc : Nat) (ag : Option Addr) (cg : Nat) (ao : Option Addr) (co : Nat) (ac2 : Option Addr) (cc2 : Nat) (ag2 : Option Addr) (cg2 : Nat) (ao2 : Option Addr) (co2 : Nat) (w : World) (hP : Tat w 0 w.heap.size t ac ag ao) (hQ : Tat w 0 w.heap.size u ac2 ag2 ao2) (hs : tpSize t ≤ 1048576) (hs2 : tpSize u ≤ 1048576) :
    Calls Try.prog 18 #[tpv t ac cc ag cg ao co, tpv u ac2 cc2 ag2 cg2 ao2 co2] w fun e w' => e = .returned (.bool (RSameTape t u)) ∧ Below w.heap.size w w' := by
  unfold tpv
  obtain ⟨s1, s2, s3⟩ : t.code.length ≤ 1048576 ∧ t.guards.length ≤ 1048576 ∧ t.outs.length ≤ 1048576 := by unfold tpSize at hs; omega
  obtain ⟨r1, r2, r3⟩ : u.code.length ≤ 1048576 ∧ u.guards.length ≤ 1048576 ∧ u.outs.length ≤ 1048576 := by unfold tpSize at hs2; omega
  obtain ⟨w0, hw0⟩ : ∃ w0, w0 = w.alloc (.cells #[.int .i64 t.inputs, .slice ac t.code.length cc, .slice ag t.guards.length cg, .slice ao t.outs.length co] 32) := ⟨_, rfl⟩
  obtain ⟨wb, hwb⟩ : ∃ wb, wb = w0.alloc (.cells #[.int .i64 u.inputs, .slice ac2 u.code.length cc2, .slice ag2 u.guards.length cg2, .slice ao2 u.outs.length co2] 32) := ⟨_, rfl⟩
  have A0 : Below w.heap.size w w0 := by rw [hw0]; exact (Below.refl _ _).alloc (Nat.le_refl _) _
  have Ab : Below w0.heap.size w0 wb := by rw [hwb]; exact (Below.refl _ _).alloc (Nat.le_refl _) _
  have T0 : Tcl w0 w.heap.size t ac cc ag cg ao co := by rw [hw0]; exact tcl_new w t ac cc ag cg ao co 32
  have U0 : Tcl wb w0.heap.size u ac2 cc2 ag2 cg2 ao2 co2 := by rw [hwb]; exact tcl_new w0 u ac2 cc2 ag2 cg2 ao2 co2 32
  have T1 := T0.next Ab
  have A1 := A0.trans (Ab.mono A0.size)
  have z0 : w0.heap.size = w.heap.size + 1 := by rw [hw0]; simp
  have P1 := hP.next A1
  have Q1 := hQ.next A1
  obtain ⟨c0, c1, c2, c3⟩ := id T1
  obtain ⟨d0, d1, d2, d3⟩ := id U0
  clear T0 hP hQ Ab
  by_cases h0 : t.inputs = u.inputs
  · have he : (t.inputs == u.inputs) = true := by simp [h0]
    have H0 := Lib.hid h0
    clear h0
    have HC := Lib.hid (iEqCode ac ac2 cc cc2 t.code u.code wb P1.code Q1.code s1 r1)
    cases k1 : sameL eqI no4 t.code u.code with
    | false =>
      have HF := Lib.hid (same_code k1)
      rw [k1] at HC
      clear k1
      go_enter Try.func18, Try.ntmps18
      go_wp2_with fail
      rw [← hw0, ← z0]
      rw [← hwb]
      clear hw0 hwb z0
      refine HC.out.mono ?_; rintro e w2 ⟨rfl, b2⟩
      clear c0 c1 c2 c3 d0 d1 d2 d3 T1 U0 HC
      go_wp2_with fail
      go_ret
      exact ⟨ret_bool HF.out.symm, A1.trans (b2.mono A1.size)⟩
    | true =>
      have K1 := Lib.hid k1
      rw [k1] at HC
      clear k1
      cases k2 : sameL eqGd noG t.guards u.guards with
      | false =>
        have HF := Lib.hid (same_guards k2)
        have HG := fun W (hW : Below wb.heap.size wb W) => Lib.hid (iEqGuards ag ag2 cg cg2 t.guards u.guards W (P1.next hW).guards (Q1.next hW).guards s2 r2)
        rw [k2] at HG
        clear k2
        go_enter Try.func18, Try.ntmps18
        go_wp2_with fail
        rw [← hw0, ← z0]
        rw [← hwb]
        clear hw0 hwb z0
        refine HC.out.mono ?_; rintro e w2 ⟨rfl, b2⟩
        clear c0 c1 c2 c3 d0 d1 d2 d3 HC
        obtain ⟨c0, c1, c2, c3⟩ := T1.next b2
        obtain ⟨d0, d1, d2, d3⟩ := U0.next b2
        have A2 := A1.trans (b2.mono A1.size)
        clear T1 U0
        go_wp2_with fail
        refine (HG _ b2).out.mono ?_; rintro e w3 ⟨rfl, b3⟩
        clear c0 c1 c2 c3 d0 d1 d2 d3 HG
        go_wp2_with fail
        go_ret
        exact ⟨ret_bool HF.out.symm, A2.trans (b3.mono A2.size)⟩
      | true =>
        have HG := fun W (hW : Below wb.heap.size wb W) => Lib.hid (iEqGuards ag ag2 cg cg2 t.guards u.guards W (P1.next hW).guards (Q1.next hW).guards s2 r2)
        have HO := fun W (hW : Below wb.heap.size wb W) => Lib.hid (iEqInts ao ao2 co co2 t.outs u.outs W ((P1.next hW).outs.at (Nat.le_refl _)) ((Q1.next hW).outs.at (Nat.le_refl _)) s3 r3)
        have HF : Hid (RSameTape t u = sameL eqN 0 t.outs u.outs) := by show _ = _; unfold RSameTape; rw [decide_eq_true H0.out, K1.out, k2]; rfl
        rw [k2] at HG
        clear k2
        go_enter Try.func18, Try.ntmps18
        go_wp2_with fail
        rw [← hw0, ← z0]
        rw [← hwb]
        clear hw0 hwb z0
        refine HC.out.mono ?_; rintro e w2 ⟨rfl, b2⟩
        clear c0 c1 c2 c3 d0 d1 d2 d3 HC
        have T2 := T1.next b2
        have U2 := U0.next b2
        obtain ⟨c0, c1, c2, c3⟩ := id T2
        obtain ⟨d0, d1, d2, d3⟩ := id U2
        have A2 := A1.trans (b2.mono A1.size)
        clear T1 U0
        go_wp2_with fail
        refine (HG _ b2).out.mono ?_; rintro e w3 ⟨rfl, b3⟩
        clear c0 c1 c2 c3 d0 d1 d2 d3 HG
        obtain ⟨c0, c1, c2, c3⟩ := T2.next b3
        obtain ⟨d0, d1, d2, d3⟩ := U2.next b3
        have A3 := A2.trans (b3.mono A2.size)
        have b23 := b2.trans (b3.mono b2.size)
        clear T2 U2
        go_wp2_with fail
        refine (HO _ b23).out.mono ?_; rintro e w4 ⟨rfl, b4⟩
        clear c0 c1 c2 c3 d0 d1 d2 d3 HO
        go_wp2_with fail
        go_ret
        exact ⟨ret_bool HF.out.symm, A3.trans (b4.mono A3.size)⟩
  · have he : (t.inputs == u.inputs) = false := beq_eq_false_iff_ne.2 h0
    have HF := Lib.hid (same_inp h0)
    clear h0
    go_enter Try.func18, Try.ntmps18
    go_wp2_with fail
    rw [← hw0, ← z0]
    rw [← hwb]
    clear hw0 hwb z0
    go_wp2_with fail
    go_ret
    exact ⟨ret_bool HF.out.symm, A1⟩

end Go.Proofs.Ytjopjdhifbbhdaa
