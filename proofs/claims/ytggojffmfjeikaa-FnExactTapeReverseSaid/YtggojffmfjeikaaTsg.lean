/- Tapes: AdjointsOf by the program. -/
import Derived.Test.YtggojffmfjeikaaTsf
namespace Go.Proofs.Ytggojffmfjeikaa
open Go.RowKit
set_option linter.unusedVariables false

def swC (t : Tp) (ls : List (List Int)) (ws : List Int) : Int := if chkC t ls = 0 then (if areB ws t.outs.length = true then 0 else 2) else chkC t ls
theorem swC_bad {t : Tp} {ls : List (List Int)} {ws : List Int} (h : chkC t ls ≠ 0) : swC t ls ws = chkC t ls := if_neg h
theorem swC_no {t : Tp} {ls : List (List Int)} {ws : List Int} (h : chkC t ls = 0) (h2 : areB ws t.outs.length = false) : swC t ls ws = 2 := by unfold swC; rw [if_pos h, h2]; rfl
theorem swC_ok {t : Tp} {ls : List (List Int)} {ws : List Int} (h : chkC t ls = 0) (h2 : areB ws t.outs.length = true) : swC t ls ws = 0 := by unfold swC; rw [if_pos h, h2]; rfl
theorem swC_one (t : Tp) (l ws : List Int) : swC t [l] ws = wgC t l ws l := by
  unfold swC wgC
  rw [chkC_one]
  by_cases h : askC t l = 0
  · rw [if_pos h, if_pos h]
    obtain ⟨-, h2, -⟩ := askC_zero h
    have h3 : okNums l = true := by
      unfold askC at h
      split at h
      · split at h
        · rename_i h4; exact h4.2
        · omega
      · omega
    unfold areB
    by_cases h5 : (ws.length : Int) = t.outs.length
    · by_cases h6 : okNums ws = true
      · rw [if_pos (by simp [h5, h6]), if_pos ⟨⟨h5, h6⟩, h2, h3⟩]
      · rw [if_neg (by simp [h6]), if_neg (fun h7 => h6 h7.1.2)]
    · rw [if_neg (by simp [h5]), if_neg (fun h7 => h5 h7.1.1)]
  · rw [if_neg h, if_neg h]

set_option maxRecDepth 100000 in
set_option maxHeartbeats 3200000 in
theorem iCheckSweep (t : Tp) (ac : Option Addr) (cc : Nat) (ag : Option Addr) (cg : Nat) (ao : Option Addr) (co : Nat) (aw : Option Addr) (cw : Nat) (ws : List Int) (g cl : Nat) (ls : List (List Int)) (w : World)
    (hP : Tat w 0 w.heap.size t ac ag ao) (hW : At w aw ws) (hwl : ws.length ≤ 1048576) (hL : Lsa w g ls) (hll : ls.length ≤ 1048576) (hs : tpSize t ≤ 1048576) :
    Calls Try.prog 72 #[tpv t ac cc ag cg ao co, .slice aw ws.length cw, .slice (some ⟨g, 0, none⟩) ls.length cl] w fun e w' => e = .returned (.int .i64 (swC t ls ws)) ∧ Below w.heap.size w w' := by
  unfold tpv
  obtain ⟨w0, hw0⟩ : ∃ w0, w0 = w.alloc (.cells #[.int .i64 t.inputs, .slice ac t.code.length cc, .slice ag t.guards.length cg, .slice ao t.outs.length co] 53) := ⟨_, rfl⟩
  have A0 : Below w.heap.size w w0 := by rw [hw0]; exact (Below.refl _ _).alloc (Nat.le_refl _) _
  have T0 : Tcl w0 w.heap.size t ac cc ag cg ao co := by rw [hw0]; exact tcl_new w t ac cc ag cg ao co 53
  have HV := iCheckTape t ac cc ag cg ao co g cl ls w0 (hP.next A0) (hL.next A0) hll hs
  unfold tpv at HV
  have HV := Lib.hid HV
  have hW0 := hW.below A0 (Nat.le_refl _)
  obtain ⟨c0, c1, c2, c3⟩ := id T0
  clear hP hL hW
  by_cases h0 : chkC t ls = 0
  · rw [h0] at HV
    cases hb : areB ws t.outs.length with
    | true =>
      have HF := Lib.hid (swC_ok h0 hb)
      have HN := Lib.hid (fun (W : World) (hW : Below w0.heap.size w0 W) => hb ▸ iAre aw cw ws t.outs.length W (hW0.below hW (Nat.le_refl _)) hwl)
      clear h0 hb
      go_enter Try.func72, Try.ntmps72
      go_wp2_with fail
      rw [← hw0]
      clear hw0
      refine HV.out.mono ?_; rintro e w1 ⟨rfl, b⟩
      have HB := A0.trans (b.mono A0.size)
      replace T0 := T0.next b
      have HN2 := Lib.hid (HN.out w1 b)
      clear b c0 c1 c2 c3 HN HV
      obtain ⟨c0, c1, c2, c3⟩ := id T0
      go_wp2_with fail
      refine HN2.out.mono ?_; rintro e w2 ⟨rfl, rfl⟩
      go_wp2_with fail
      go_ret
      exact ⟨ret_int HF.out.symm, HB⟩
    | false =>
      have HF := Lib.hid (swC_no h0 hb)
      have HN := Lib.hid (fun (W : World) (hW : Below w0.heap.size w0 W) => hb ▸ iAre aw cw ws t.outs.length W (hW0.below hW (Nat.le_refl _)) hwl)
      clear h0 hb
      go_enter Try.func72, Try.ntmps72
      go_wp2_with fail
      rw [← hw0]
      clear hw0
      refine HV.out.mono ?_; rintro e w1 ⟨rfl, b⟩
      have HB := A0.trans (b.mono A0.size)
      replace T0 := T0.next b
      have HN2 := Lib.hid (HN.out w1 b)
      clear b c0 c1 c2 c3 HN HV
      obtain ⟨c0, c1, c2, c3⟩ := id T0
      go_wp2_with fail
      refine HN2.out.mono ?_; rintro e w2 ⟨rfl, rfl⟩
      go_wp2_with fail
      go_ret
      exact ⟨ret_int HF.out.symm, HB⟩
  · have HF := Lib.hid (swC_bad (ws := ws) h0)
    have hne : (chkC t ls == 0) = false := by simpa using h0
    clear h0
    generalize chkC t ls = cd at HV HF hne
    go_enter Try.func72, Try.ntmps72
    go_wp2_with fail
    rw [← hw0]
    clear hw0
    refine HV.out.mono ?_; rintro e w1 ⟨rfl, b⟩
    have HB := A0.trans (b.mono A0.size)
    clear b c0 c1 c2 c3 HV
    go_wp2_with fail
    go_ret
    exact ⟨ret_int HF.out.symm, HB⟩

theorem adjR_of {t : Tp} {l ws : List Int} (h : wgC t l ws l = 0) : RAdjointsOf t l ws = RAdjW t l ws ∧ CAdjointsOf t l ws = regC t l := by
  unfold RAdjointsOf CAdjointsOf RAdjW regC; rw [if_pos h, if_pos h]; exact ⟨rfl, rfl⟩
theorem adjR_bad {t : Tp} {l ws : List Int} (h : wgC t l ws l ≠ 0) : RAdjointsOf t l ws = [] ∧ CAdjointsOf t l ws = wgC t l ws l := by
  unfold RAdjointsOf CAdjointsOf; rw [if_neg h, if_neg h]; exact ⟨rfl, rfl⟩

set_option maxRecDepth 100000 in
set_option maxHeartbeats 3200000 in
theorem iAdjointsOf (t : Tp) (ac : Option Addr) (cc : Nat) (ag : Option Addr) (cg : Nat) (ao : Option Addr) (co : Nat) (a : Option Addr) (ca : Nat) (l : List Int) (aw : Option Addr) (cw : Nat) (ws : List Int) (w : World)
    (hP : Tat w 0 w.heap.size t ac ag ao) (hA : At w a l) (hR : Rng l) (hl : l.length ≤ 1048576) (hW : At w aw ws) (hRw : Rng ws) (hwl : ws.length ≤ 1048576) (hs : tpSize t ≤ 1048576) :
    Calls Try.prog 33 #[tpv t ac cc ag cg ao co, .slice a l.length ca, .slice aw ws.length cw] w (Res2 w (RAdjointsOf t l ws) (CAdjointsOf t l ws)) := by
  unfold tpv
  obtain ⟨w0, hw0⟩ : ∃ w0, w0 = w.alloc (.cells #[.int .i64 t.inputs, .slice ac t.code.length cc, .slice ag t.guards.length cg, .slice ao t.outs.length co] 53) := ⟨_, rfl⟩
  have A0 : Below w.heap.size w w0 := by rw [hw0]; exact (Below.refl _ _).alloc (Nat.le_refl _) _
  have T0 : Tcl w0 w.heap.size t ac cc ag cg ao co := by rw [hw0]; exact tcl_new w t ac cc ag cg ao co 53
  have z0 : w0.heap.size = w.heap.size + 1 := by rw [hw0]; simp
  obtain ⟨wb, hwb⟩ : ∃ wb, wb = w0.alloc (.cells #[.slice a l.length ca] 37) := ⟨_, rfl⟩
  have Ab : Below w0.heap.size w0 wb := by rw [hwb]; exact (Below.refl _ _).alloc (Nat.le_refl _) _
  have Lb : Lsa wb w0.heap.size [l] := by rw [hwb]; exact lsa_one (hA.below A0 (Nat.le_refl _)) hl _
  have A1 := A0.trans (Ab.mono A0.size)
  have HV := iCheckSweep t ac cc ag cg ao co aw cw ws w0.heap.size 1 [l] wb (hP.next A1) (hW.below A1 (Nat.le_refl _)) hwl Lb (by simp) hs
  rw [swC_one] at HV
  unfold tpv at HV
  have HV := Lib.hid HV
  have Tb := T0.next Ab
  have lb0 := T0.lt
  clear Lb T0
  go_enter Try.func33, Try.ntmps33
  go_wp2_with fail
  rw [← hw0]
  rw [← hwb, ← z0]
  clear hw0 hwb z0
  refine HV.out.mono ?_; rintro e w1 ⟨rfl, b1⟩
  have A2 := A1.trans (b1.mono A1.size)
  have T1 := Tb.next b1
  clear HV Tb b1 Ab lb0
  by_cases h0 : wgC t l ws l = 0
  · obtain ⟨h1, h2, h3, h4, h5⟩ := wgC_zero h0
    obtain ⟨h6, -, -⟩ := askC_zero h1
    have ht := tapeB_ok h6
    have HE := Lib.hid (adjR_of h0)
    have HX := iAdjointsWith t ac cc ag cg ao co a ca l aw cw ws w1 (hP.next A2) ht (hA.below A2 (Nat.le_refl _)) (hW.below A2 (Nat.le_refl _)) hl (by omega) h5 h3 h2
    unfold tpv at HX
    have HX := Lib.hid HX
    rw [h0]
    obtain ⟨c0, c1, c2, c3⟩ := id T1
    clear h0 h1 h2 h3 h4 h5 h6 ht hP hA hW A1
    go_wp2_with fail
    refine HX.out.mono ?_; rintro e w2 ⟨g, c, rfl, o2, b2⟩
    clear HX c0 c1 c2 c3
    go_wp2_with fail
    go_ret2
    exact ⟨_, _, sl2_eq (by rw [HE.out.1]) HE.out.2.symm, by rw [HE.out.1]; exact o2.mono A2.size, A2.trans (b2.mono A2.size)⟩
  · have HR := Lib.hid (adjR_bad h0)
    have hne : (wgC t l ws l != 0) = true := by simp [h0]
    clear h0
    generalize wgC t l ws l = c at *
    go_wp2_with fail
    go_ret2
    exact ⟨_, _, sl2_eq (by rw [HR.out.1]; rfl) HR.out.2.symm, .inl HR.out.1, A2⟩

end Go.Proofs.Ytggojffmfjeikaa
