/- Tapes: TapeReverse by the program. -/
import Derived.Test.YtggojffmfjeikaaTsi
namespace Go.Proofs.Ytggojffmfjeikaa
open Go.RowKit
set_option linter.unusedVariables false

theorem adjC_zero {t : Tp} {l ws : List Int} (h : CAdjointsOf t l ws = 0) : tapeB t = true ∧ (RAdjointsOf t l ws).length = t.code.length ∧ Nums (RAdjointsOf t l ws) := by
  by_cases h0 : wgC t l ws l = 0
  · obtain ⟨h1, -, -, -, -⟩ := wgC_zero h0
    obtain ⟨h2, -, -⟩ := askC_zero h1
    rw [(adjR_of h0).2] at h
    rw [(adjR_of h0).1]
    cases hv : runV t l t.code.length with
    | none => rw [(adjW_none (ws := ws) hv).2] at h; omega
    | some rs => rw [(adjW_some (ws := ws) hv).1]; exact ⟨h2, adjV_len _ _ _, adjV_nums _ _ _⟩
  · rw [(adjR_bad h0).2] at h
    exact absurd h h0
def RTapeReverse (t : Tp) (l ws : List Int) : List Int := if CAdjointsOf t l ws = 0 then sumsV t (RAdjointsOf t l ws) t.code.length else []
def CTapeReverse (t : Tp) (l ws : List Int) : Int := CAdjointsOf t l ws
theorem revR_ok {t : Tp} {l ws : List Int} (h : CAdjointsOf t l ws = 0) : RTapeReverse t l ws = sumsV t (RAdjointsOf t l ws) t.code.length := if_pos h
theorem revR_no {t : Tp} {l ws : List Int} (h : CAdjointsOf t l ws ≠ 0) : RTapeReverse t l ws = [] := if_neg h
theorem RTapeReverse_len (t : Tp) (l ws : List Int) (hs : tpSize t ≤ 1048576) (hl : l.length ≤ 1048576) (hw : ws.length ≤ 1048576) : (RTapeReverse t l ws).length ≤ 1048576 := by
  by_cases h : CAdjointsOf t l ws = 0
  · rw [revR_ok h, sumsV_len]
    have := (tapeB_ok (adjC_zero h).1).inputs
    omega
  · rw [revR_no h]; exact Nat.zero_le _

set_option maxRecDepth 100000 in
set_option maxHeartbeats 3200000 in
theorem iTapeReverse (t : Tp) (ac : Option Addr) (cc : Nat) (ag : Option Addr) (cg : Nat) (ao : Option Addr) (co : Nat) (a : Option Addr) (ca : Nat) (l : List Int) (aw : Option Addr) (cw : Nat) (ws : List Int) (w : World)
    (hP : Tat w 0 w.heap.size t ac ag ao) (hA : At w a l) (hR : Rng l) (hl : l.length ≤ 1048576) (hW : At w aw ws) (hRw : Rng ws) (hwl : ws.length ≤ 1048576) (hs : tpSize t ≤ 1048576) :
    Calls Try.prog 31 #[tpv t ac cc ag cg ao co, .slice a l.length ca, .slice aw ws.length cw] w (Res2 w (RTapeReverse t l ws) (CTapeReverse t l ws)) := by
  unfold tpv
  obtain ⟨w0, hw0⟩ : ∃ w0, w0 = w.alloc (.cells #[.int .i64 t.inputs, .slice ac t.code.length cc, .slice ag t.guards.length cg, .slice ao t.outs.length co] 53) := ⟨_, rfl⟩
  have A0 : Below w.heap.size w w0 := by rw [hw0]; exact (Below.refl _ _).alloc (Nat.le_refl _) _
  have T0 : Tcl w0 w.heap.size t ac cc ag cg ao co := by rw [hw0]; exact tcl_new w t ac cc ag cg ao co 53
  have HV := iAdjointsOf t ac cc ag cg ao co a ca l aw cw ws w0 (hP.next A0) (hA.below A0 (Nat.le_refl _)) hR hl (hW.below A0 (Nat.le_refl _)) hRw hwl hs
  unfold tpv at HV
  have HV := Lib.hid HV
  obtain ⟨c0, c1, c2, c3⟩ := id T0
  go_enter Try.func31, Try.ntmps31
  go_wp2_with fail
  rw [← hw0]
  clear hw0
  refine HV.out.mono ?_; rintro e w1 ⟨aj, cj, rfl, oj, b1⟩
  have A1 := A0.trans (b1.mono A0.size)
  have T1 := T0.next b1
  clear HV T0 b1 c0 c1 c2 c3
  by_cases h0 : CAdjointsOf t l ws = 0
  · obtain ⟨h1, h2, h3⟩ := adjC_zero h0
    have HE := Lib.hid (revR_ok h0)
    have HC : Hid (CTapeReverse t l ws = 0) := h0
    have HX := iInputSums t ac cc ag cg ao co aj cj (RAdjointsOf t l ws) w1 (hP.next A1) (tapeB_ok h1) oj.at h2 h3
    unfold tpv at HX
    have HX := Lib.hid HX
    rw [h0]
    obtain ⟨c0, c1, c2, c3⟩ := id T1
    clear h0 h1 h2 h3 hP hA hW oj
    generalize (RAdjointsOf t l ws).length = nj at HX ⊢
    go_wp2_with fail
    refine HX.out.mono ?_; rintro e w2 ⟨g, c, rfl, o2, b2⟩
    clear HX c0 c1 c2 c3
    go_wp2_with fail
    go_ret2
    exact ⟨_, _, sl2_eq (by rw [HE.out]) HC.out.symm, by rw [HE.out]; exact (o2.mono A1.size).a, A1.trans (b2.mono A1.size)⟩
  · have HR := Lib.hid (revR_no h0)
    have HC : Hid (CTapeReverse t l ws = CAdjointsOf t l ws) := rfl
    have hne : (CAdjointsOf t l ws != 0) = true := by simp [h0]
    clear h0
    generalize CAdjointsOf t l ws = cd at *
    generalize (RAdjointsOf t l ws).length = nj at *
    go_wp2_with fail
    go_ret2
    exact ⟨_, _, sl2_eq (by rw [HR.out]; rfl) HC.out.symm, .inl HR.out, A1⟩

end Go.Proofs.Ytggojffmfjeikaa
