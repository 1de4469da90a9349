/- Tapes: TapeReverse by the model. -/
import Derived.Test.YtggojffmfjeikaaTsk
namespace Go.Proofs.Ytggojffmfjeikaa
open Go.RowKit
set_option linter.unusedVariables false

set_option maxRecDepth 100000 in
set_option maxHeartbeats 3200000 in
theorem sTapeReverse (t : Tp) (ac : Option Addr) (cc : Nat) (ag : Option Addr) (cg : Nat) (ao : Option Addr) (co : Nat) (a : Option Addr) (ca : Nat) (l : List Int) (aw : Option Addr) (cw : Nat) (ws : List Int) (w : World)
    (hP : Tat w 0 w.heap.size t ac ag ao) (hA : At w a l) (hR : Rng l) (hl : l.length ≤ 1048576) (hW : At w aw ws) (hRw : Rng ws) (hwl : ws.length ≤ 1048576) (hs : tpSize t ≤ 1048576) :
    Calls Try.prog 30 #[tpv t ac cc ag cg ao co, .slice a l.length ca, .slice aw ws.length cw] w (Res2 w (RTapeReverse t l ws) (CTapeReverse t l ws)) := by
  unfold tpv
  obtain ⟨w0, hw0⟩ : ∃ w0, w0 = w.alloc (.cells #[.int .i64 t.inputs, .slice ac t.code.length cc, .slice ag t.guards.length cg, .slice ao t.outs.length co] 53) := ⟨_, rfl⟩
  have A0 : Below w.heap.size w w0 := by rw [hw0]; exact (Below.refl _ _).alloc (Nat.le_refl _) _
  have C0 : TCells w0 w.heap.size 0 t ac cc ag cg ao co := by rw [hw0]; exact ⟨by simp [go_sem], by simp [go_sem], by simp [go_sem], by simp [go_sem]⟩
  have T0 : Tcl w0 w.heap.size t ac cc ag cg ao co := ⟨C0.c0, C0.c1, C0.c2, C0.c3⟩
  have HA := Lib.hid (sAdjoints t w.heap.size ac cc ag cg ao co a ca l aw cw ws w0 C0 (hP.next A0) (hA.below A0 (Nat.le_refl _)) (hW.below A0 (Nat.le_refl _)) hl hwl hs)
  clear C0
  by_cases h0 : CAdjointsOf t l ws = 0
  · obtain ⟨h1, h2, h3⟩ := adjC_zero h0
    have HE := Lib.hid (revR_ok h0)
    have HC : Hid (CTapeReverse t l ws = 0) := h0
    rw [h0] at HA
    have HX := Lib.hid (fun (W : World) (hb : Below w0.heap.size w0 W) (g c : Nat) (o : Rws W w0.heap.size g c (ones (RAdjointsOf t l ws))) => sInputs t w.heap.size ac cc ag cg ao co w0.heap.size g c (RAdjointsOf t l ws) W (T0.next hb) ((hP.next A0).next hb) (tapeB_ok h1) o h2 h3)
    clear h0 h1 h2 h3 hP hA hW T0
    go_enter Try.func30, Try.ntmps30
    go_wp2_with fail
    rw [← hw0]
    clear hw0
    refine HA.out.mono ?_; rintro e w1 ⟨g1, c1, rfl, o1, b1⟩
    have A1 := A0.trans (b1.mono A0.size)
    have HX2 := Lib.hid (HX.out w1 b1 g1 c1 o1)
    clear HA HX o1 b1
    generalize (ones (RAdjointsOf t l ws)).length = nn at *
    go_wp2_with fail
    refine HX2.out.mono ?_; rintro e w2 ⟨g2, c2, rfl, o2, b2⟩
    clear HX2
    go_wp2_with fail
    go_ret2
    exact ⟨_, _, sl2_eq (by rw [HE.out]) HC.out.symm, by rw [HE.out]; exact (o2.mono A1.size).a, A1.trans (b2.mono A1.size)⟩
  · have hne : (CAdjointsOf t l ws != 0) = true := by simp [h0]
    have HE := Lib.hid (revR_no h0)
    have HC : Hid (CTapeReverse t l ws = CAdjointsOf t l ws) := rfl
    clear h0 T0 hP hA hW
    generalize CAdjointsOf t l ws = c at *
    go_enter Try.func30, Try.ntmps30
    go_wp2_with fail
    rw [← hw0]
    clear hw0
    refine HA.out.mono ?_; rintro e w1 ⟨g1, c1, rfl, o1, b1⟩
    have A1 := A0.trans (b1.mono A0.size)
    clear HA o1
    generalize (ones (RAdjointsOf t l ws)).length = nn at *
    go_wp2_with fail
    go_ret2
    exact ⟨_, _, sl2_eq (by rw [HE.out]; rfl) HC.out.symm, .inl HE.out, A1.alloc A1.size _⟩

end Go.Proofs.Ytggojffmfjeikaa
