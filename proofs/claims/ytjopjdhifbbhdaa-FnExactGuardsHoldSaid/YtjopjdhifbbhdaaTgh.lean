/- Tapes: whether the guards hold, by the program. -/
import Derived.Test.YtjopjdhifbbhdaaTre
import Derived.BigQuiet
namespace Go.Proofs.Ytjopjdhifbbhdaa
open Go.RowKit
set_option linter.unusedVariables false

set_option maxRecDepth 100000 in
set_option maxHeartbeats 3200000 in
theorem iGuardsHold (t : Tp) (ac : Option Addr) (cc : Nat) (ag : Option Addr) (cg : Nat) (ao : Option Addr) (co : Nat) (a : Option Addr) (ca : Nat) (l : List Int) (w : World) (hP : Tat w 0 w.heap.size t ac ag ao) (hA : At w a l) (hR : Rng l) (hl : l.length ≤ 1048576) (hs : tpSize t ≤ 1048576) :
    Calls Try.prog 33 #[tpv t ac cc ag cg ao co, .slice a l.length ca] w fun e w' => e = .returned (.tuple #[.bool (RGuardsHold t l), .int .i64 (CGuardsHold t l)]) ∧ Below w.heap.size w w' := by
  unfold tpv
  obtain ⟨w0, hw0⟩ : ∃ w0, w0 = w.alloc (.cells #[.int .i64 t.inputs, .slice ac t.code.length cc, .slice ag t.guards.length cg, .slice ao t.outs.length co] 32) := ⟨_, rfl⟩
  have A0 : Below w.heap.size w w0 := by rw [hw0]; exact (Below.refl _ _).alloc (Nat.le_refl _) _
  have T0 : Tcl w0 w.heap.size t ac cc ag cg ao co := by rw [hw0]; exact tcl_new w t ac cc ag cg ao co 32
  have hs2 : t.guards.length ≤ 1048576 := by unfold tpSize at hs; omega
  have HV := Lib.hid (iRegistersOf t ac cc ag cg ao co a ca l w0 (hP.next A0) (hA.below A0 (Nat.le_refl _)) hR hl hs)
  have hrl := RRegistersOf_len t l hs hl
  obtain ⟨c0, c1, c2, c3⟩ := id T0
  by_cases h0 : CRegistersOf t l = 0
  · obtain ⟨ht, -, -, -, hrn, -⟩ := regs_ok h0
    have HR : Hid (RGuardsHold t l = ((List.range t.guards.length).all fun i => guB (RRegistersOf t l) (t.guards.getD i noG)) ∧ CGuardsHold t l = 0) := ⟨by unfold RGuardsHold; rw [decide_eq_true h0, Bool.true_and], h0⟩
    have HI : Hid (∀ i, i < t.guards.length → 0 ≤ (t.guards.getD i noG).reg ∧ (t.guards.getD i noG).reg < (RRegistersOf t l).length) := fun i hi => by have := ht.reg i hi; omega
    rw [h0] at HV
    clear h0 ht hrn
    generalize RRegistersOf t l = rs at *
    go_enter Try.func33, Try.ntmps33
    go_wp2_with fail
    rw [← hw0]
    refine HV.out.mono ?_; rintro e w1 ⟨g1, k1, rfl, o1, b1⟩
    have A1 := A0.trans (b1.mono A0.size)
    have T1 := T0.next b1
    have P1 := (hP.next A0).next b1
    have R1 := o1.at
    clear hw0 HV T0 c0 c1 c2 c3 o1
    obtain ⟨c0, c1, c2, c3⟩ := id T1
    go_wp2_with fail
    clear c0 c1 c2 c3
    go_loopw [22] (fun q wr => ∃ i : Nat, i ≤ t.guards.length ∧ q = .int .i64 i ∧ Hid (∀ j, j < i → guB rs (t.guards.getD j noG) = true) ∧ Below w1.heap.size w1 wr) (fun q _ => t.guards.length - (intOf q).toNat)
    case atStart => exact ⟨0, Nat.zero_le _, rfl, (fun j hj => by omega), Below.refl _ _⟩
    case round =>
      obtain ⟨i, hi, rfl, HX, hw⟩ := hrel
      have A2 := A1.trans (hw.mono A1.size)
      by_cases hlt : i < t.guards.length
      · have hii : (i : Int) < (t.guards.length : Int) := by omega
        obtain ⟨bg, og, rfl, hbB, hall⟩ := ((P1.next hw).guards.resolve_left (by intro e; rw [e] at hlt; simp at hlt))
        obtain ⟨hr, f0, f1⟩ := hall i hlt
        obtain ⟨h1, h2⟩ := HI.out i hlt
        obtain ⟨q, hq⟩ : ∃ q : Nat, (t.guards.getD i noG).reg = (q : Int) := ⟨((t.guards.getD i noG).reg).toNat, by omega⟩
        have hql : q < rs.length := by omega
        obtain ⟨b2, o2, rfl, hb2, hall2⟩ := ((R1.below hw (Nat.le_refl _)).resolve_left (by intro e; rw [e] at hql; simp at hql))
        have hqi : (q : Int) < (rs.length : Int) := by omega
        have hG : guB rs (t.guards.getD i noG) = (decide (rs.getD q 0 = 0) == (t.guards.getD i noG).zero) := by unfold guB; rw [hq, Int.toNat_natCast]
        obtain ⟨z, hz⟩ : ∃ z, z = (t.guards.getD i noG).zero := ⟨_, rfl⟩
        have f2 := (((Below.refl wr.heap.size wr).alloc (Nat.le_refl _) (.cells #[.int .i64 (q : Int), .bool z] 67)).cell (p := ⟨b2, o2 + q, none⟩) hb2).trans (hall2 q hql)
        have b9 := (Below.refl wr.heap.size wr).alloc (Nat.le_refl _) (.cells #[.int .i64 (q : Int), .bool z] 67)
        have A3 := A2.trans (b9.mono A2.size)
        have W3 := hw.trans (b9.mono hw.size)
        have q0 : (wr.alloc (.cells #[.int .i64 (q : Int), .bool z] 67)).cell? ⟨wr.heap.size, 0, none⟩ = some (.int .i64 (q : Int)) := by simp [go_sem]
        have q1 : (wr.alloc (.cells #[.int .i64 (q : Int), .bool z] 67)).cell? ⟨wr.heap.size, 1, none⟩ = some (.bool z) := by simp [go_sem]
        clear hall hall2 hr h1 h2 hA b9
        rw [hq] at f0
        rw [← hz] at f1 hG
        cases hb : guB rs (t.guards.getD i noG) with
        | true =>
          have HX2 : Hid (∀ j, j < i + 1 → guB rs (t.guards.getD j noG) = true) := by
            intro j hj
            by_cases hji : j = i
            · rw [hji]; exact hb
            · exact HX.out j (by omega)
          rw [hb] at hG
          clear hb HX hq hz
          have hz2 : z = decide (rs.getD q 0 = 0) := by cases z <;> cases hd : decide (rs.getD q 0 = 0) <;> rw [hd] at hG <;> first | rfl | cases hG
          clear hG
          generalize rs.getD q 0 = x at f2 hz2
          by_cases hx : x = 0
          · subst hx
            have hdd : z = true := hz2
            subst hdd
            clear hz2
            go_wp2_with fail
            go_quiet (fail)
            go_wp2_with fail
            go_roundw
            case rel => exact ⟨i + 1, by omega, by go_num, HX2, below_drewN W3 _⟩
            case measure => simp [intOf]; omega
          · rw [decide_eq_false hx] at hz2
            subst hz2
            have hx2 : (x == 0) = false := beq_eq_false_iff_ne.2 hx
            go_wp2_with fail
            go_quiet (fail)
            go_wp2_with fail
            go_roundw
            case rel => exact ⟨i + 1, by omega, by go_num, HX2, below_drewN W3 _⟩
            case measure => simp [intOf]; omega
        | false =>
          have HF : Hid (RGuardsHold t l = false) := HR.out.1.trans (allB_f hlt hb)
          rw [hb] at hG
          clear hb HX hq hz
          have hz2 : z = !decide (rs.getD q 0 = 0) := by cases z <;> cases hd : decide (rs.getD q 0 = 0) <;> rw [hd] at hG <;> first | rfl | cases hG
          clear hG
          generalize rs.getD q 0 = x at f2 hz2
          by_cases hx : x = 0
          · subst hx
            have hdd : z = false := hz2
            subst hdd
            clear hz2
            go_wp2_with fail
            go_quiet (fail)
            go_wp2_with fail
            go_ret2
            exact ⟨ret_bi HF.out.symm HR.out.2.symm, below_drewN A3 _⟩
          · rw [decide_eq_false hx] at hz2
            have hdd : z = true := hz2
            subst hdd
            clear hz2
            have hx2 : (x == 0) = false := beq_eq_false_iff_ne.2 hx
            go_wp2_with fail
            go_quiet (fail)
            go_wp2_with fail
            go_ret2
            exact ⟨ret_bi HF.out.symm HR.out.2.symm, below_drewN A3 _⟩
      · have hii : ¬ (i : Int) < (t.guards.length : Int) := by omega
        have hki : i = t.guards.length := by omega
        have HF : Hid (RGuardsHold t l = true) := HR.out.1.trans (allB_t (fun j hj => HX.out j (by omega)))
        clear HX HI hA
        go_wp2_with fail
        go_ret2
        exact ⟨ret_bi HF.out.symm HR.out.2.symm, A2⟩
  · have HR : Hid (RGuardsHold t l = false ∧ CGuardsHold t l = CRegistersOf t l) := ⟨by unfold RGuardsHold; rw [decide_eq_false h0, Bool.false_and], rfl⟩
    have hne : (CRegistersOf t l != 0) = true := by simp [h0]
    clear h0
    generalize CRegistersOf t l = c at *
    go_enter Try.func33, Try.ntmps33
    go_wp2_with fail
    rw [← hw0]
    refine HV.out.mono ?_; rintro e w1 ⟨g1, k1, rfl, o1, b1⟩
    have A1 := A0.trans (b1.mono A0.size)
    clear hw0 HV T0 c0 c1 c2 c3
    go_wp2_with fail
    go_ret2
    exact ⟨ret_bi HR.out.1.symm HR.out.2.symm, A1⟩

end Go.Proofs.Ytjopjdhifbbhdaa
