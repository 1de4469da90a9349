/- Tapes: outputs and guards, by the model. -/
import Derived.Test.YtjopjdhifbbhdaaTsr
import Derived.Test.YtjopjdhifbbhdaaTcn
import Derived.BigQuiet
namespace Go.Proofs.Ytjopjdhifbbhdaa
open Go.RowKit
set_option linter.unusedVariables false

/-- what is known where registers have values -/
theorem regs_ok {t : Tp} {l : List Int} (h : CRegistersOf t l = 0) : Okt t ∧ Nums l ∧ (l.length : Int) = t.inputs ∧ runV t l t.code.length = some (RRegistersOf t l) ∧ (RRegistersOf t l).length = t.code.length ∧ Nums (RRegistersOf t l) := by
  by_cases h0 : askC t l = 0
  · obtain ⟨h1, h2, h3⟩ := askC_zero h0
    have ht := tapeB_ok h1
    unfold CRegistersOf at h
    rw [if_pos h0] at h
    cases hv : runV t l t.code.length with
    | none => rw [if_pos hv] at h; omega
    | some rs =>
      have hR : RRegistersOf t l = rs := by unfold RRegistersOf; rw [if_pos h0, hv]; rfl
      rw [hR]
      exact ⟨ht, h3, h2, rfl, runV_ok ht h3 (Nat.le_refl _) hv⟩
  · unfold CRegistersOf at h
    rw [if_neg h0] at h
    exact absurd h h0

def CRunTape (t : Tp) (l : List Int) : Int := CRegistersOf t l
def RRunTape (t : Tp) (l : List Int) : List Int := if CRegistersOf t l = 0 then pick (RRegistersOf t l) t.outs else []
theorem pick_len (l m : List Int) : (pick l m).length = m.length := by simp [pick]
theorem RRunTape_len (t : Tp) (l : List Int) (hs : tpSize t ≤ 1048576) (hl : l.length ≤ 1048576) : (RRunTape t l).length ≤ 1048576 := by
  unfold RRunTape; split
  · rw [pick_len]; unfold tpSize at hs; omega
  · exact Nat.zero_le _

set_option maxRecDepth 100000 in
set_option maxHeartbeats 1600000 in
theorem sRunTape (t : Tp) (ac : Option Addr) (cc : Nat) (ag : Option Addr) (cg : Nat) (ao : Option Addr) (co : Nat) (a : Option Addr) (ca : Nat) (l : List Int) (w : World) (hP : Tat w 0 w.heap.size t ac ag ao) (hA : At w a l) (hR : Rng l) (hl : l.length ≤ 1048576) (hs : tpSize t ≤ 1048576) :
    Calls Try.prog 30 #[tpv t ac cc ag cg ao co, .slice a l.length ca] w (Res2 w (RRunTape t l) (CRunTape t l)) := by
  unfold tpv
  obtain ⟨w0, hw0⟩ : ∃ w0, w0 = w.alloc (.cells #[.int .i64 t.inputs, .slice ac t.code.length cc, .slice ag t.guards.length cg, .slice ao t.outs.length co] 32) := ⟨_, rfl⟩
  have A0 : Below w.heap.size w w0 := by rw [hw0]; exact (Below.refl _ _).alloc (Nat.le_refl _) _
  have C0 : TCells w0 w.heap.size 0 t ac cc ag cg ao co := by rw [hw0]; exact ⟨by simp [go_sem], by simp [go_sem], by simp [go_sem], by simp [go_sem]⟩
  have T0 : Tcl w0 w.heap.size t ac cc ag cg ao co := by rw [hw0]; exact tcl_new w t ac cc ag cg ao co 32
  have hs3 : t.outs.length ≤ 1048576 := by unfold tpSize at hs; omega
  have HV := Lib.hid (sRegs t w.heap.size ac cc ag cg ao co a ca l w0 C0 (hP.next A0) (hA.below A0 (Nat.le_refl _)) hl hs)
  have hrl := RRegistersOf_len t l hs hl
  by_cases h0 : CRegistersOf t l = 0
  · obtain ⟨ht, -, -, -, hrn, -⟩ := regs_ok h0
    have HR : Hid (RRunTape t l = pick (RRegistersOf t l) t.outs ∧ CRunTape t l = 0) := ⟨by unfold RRunTape; rw [if_pos h0], h0⟩
    have HI : Hid (∀ i, i < t.outs.length → 0 ≤ t.outs.getD i 0 ∧ t.outs.getD i 0 < (RRegistersOf t l).length) := fun i hi => by have := ht.out i hi; omega
    rw [h0] at HV
    clear h0 ht hrn
    generalize RRegistersOf t l = rs at *
    go_enter Try.func30, Try.ntmps30
    go_wp2_with fail
    rw [← hw0]
    refine HV.out.mono ?_; rintro e w1 ⟨g1, c1, rfl, o1, b1⟩
    have A1 := A0.trans (b1.mono A0.size)
    obtain ⟨c0, c1', c2, c3⟩ := T0.next b1
    have P1 := (hP.next A0).next b1
    clear hw0 HV T0 C0
    go_wp2_with fail
    refine (sPicked _ _ _ _ rs t.outs w1 o1.at (P1.outs.at (Nat.le_refl _)) HI.out hrl hs3).mono ?_; rintro e w2 ⟨g2, k2, rfl, o2, b2⟩
    clear c0 c1' c2 c3
    go_wp2_with fail
    go_ret2
    exact ⟨_, _, sl2_eq (by rw [HR.out.1]) HR.out.2.symm, by rw [HR.out.1]; exact (o2.mono A1.size).a, A1.trans (b2.mono A1.size)⟩
  · have HR : Hid (RRunTape t l = [] ∧ CRunTape t l = CRegistersOf t l) := ⟨by unfold RRunTape; rw [if_neg h0], rfl⟩
    have hne : (CRegistersOf t l != 0) = true := by simp [h0]
    clear h0
    generalize CRegistersOf t l = c at *
    go_enter Try.func30, Try.ntmps30
    go_wp2_with fail
    rw [← hw0]
    refine HV.out.mono ?_; rintro e w1 ⟨g1, c1, rfl, o1, b1⟩
    have A1 := A0.trans (b1.mono A0.size)
    clear hw0 HV T0 C0
    go_wp2_with fail
    go_ret2
    exact ⟨_, _, sl2_eq (by rw [HR.out.1]; rfl) HR.out.2.symm, .inl HR.out.1, A1.alloc A1.size _⟩

/-- a guard is true -/
def guB (rs : List Int) (g : Gd) : Bool := decide (rs.getD g.reg.toNat 0 = 0) == g.zero
def CGuardsHold (t : Tp) (l : List Int) : Int := CRegistersOf t l
def RGuardsHold (t : Tp) (l : List Int) : Bool := decide (CRegistersOf t l = 0) && (List.range t.guards.length).all fun i => guB (RRegistersOf t l) (t.guards.getD i noG)
theorem ret_bi {a b : Bool} {c d : Int} (h : a = b) (h2 : c = d) : Ending.returned (.tuple #[.bool a, .int .i64 c]) = .returned (.tuple #[.bool b, .int .i64 d]) := by rw [h, h2]

set_option maxRecDepth 100000 in
set_option maxHeartbeats 1600000 in
theorem sGuardsHold (t : Tp) (ac : Option Addr) (cc : Nat) (ag : Option Addr) (cg : Nat) (ao : Option Addr) (co : Nat) (a : Option Addr) (ca : Nat) (l : List Int) (w : World) (hP : Tat w 0 w.heap.size t ac ag ao) (hA : At w a l) (hR : Rng l) (hl : l.length ≤ 1048576) (hs : tpSize t ≤ 1048576) :
    Calls Try.prog 32 #[tpv t ac cc ag cg ao co, .slice a l.length ca] w fun e w' => e = .returned (.tuple #[.bool (RGuardsHold t l), .int .i64 (CGuardsHold t l)]) ∧ Below w.heap.size w w' := by
  unfold tpv
  obtain ⟨w0, hw0⟩ : ∃ w0, w0 = w.alloc (.cells #[.int .i64 t.inputs, .slice ac t.code.length cc, .slice ag t.guards.length cg, .slice ao t.outs.length co] 32) := ⟨_, rfl⟩
  have A0 : Below w.heap.size w w0 := by rw [hw0]; exact (Below.refl _ _).alloc (Nat.le_refl _) _
  have C0 : TCells w0 w.heap.size 0 t ac cc ag cg ao co := by rw [hw0]; exact ⟨by simp [go_sem], by simp [go_sem], by simp [go_sem], by simp [go_sem]⟩
  have T0 : Tcl w0 w.heap.size t ac cc ag cg ao co := by rw [hw0]; exact tcl_new w t ac cc ag cg ao co 32
  have hs2 : t.guards.length ≤ 1048576 := by unfold tpSize at hs; omega
  have HV := Lib.hid (sRegs t w.heap.size ac cc ag cg ao co a ca l w0 C0 (hP.next A0) (hA.below A0 (Nat.le_refl _)) hl hs)
  have hrl := RRegistersOf_len t l hs hl
  by_cases h0 : CRegistersOf t l = 0
  · obtain ⟨ht, -, -, -, hrn, -⟩ := regs_ok h0
    have HR : Hid (RGuardsHold t l = ((List.range t.guards.length).all fun i => guB (RRegistersOf t l) (t.guards.getD i noG)) ∧ CGuardsHold t l = 0) := ⟨by unfold RGuardsHold; rw [decide_eq_true h0, Bool.true_and], h0⟩
    have HI : Hid (∀ i, i < t.guards.length → 0 ≤ (t.guards.getD i noG).reg ∧ (t.guards.getD i noG).reg < (RRegistersOf t l).length) := fun i hi => by have := ht.reg i hi; omega
    rw [h0] at HV
    clear h0 ht hrn
    generalize RRegistersOf t l = rs at *
    go_enter Try.func32, Try.ntmps32
    go_wp2_with fail
    rw [← hw0]
    refine HV.out.mono ?_; rintro e w1 ⟨g1, c1, rfl, o1, b1⟩
    have A1 := A0.trans (b1.mono A0.size)
    have T1 := T0.next b1
    have P1 := (hP.next A0).next b1
    clear hw0 HV T0 C0
    go_wp2_with fail
    go_loopw [8] (fun q wr => ∃ i : Nat, i ≤ t.guards.length ∧ q = .int .i64 i ∧ Hid (∀ j, j < i → guB rs (t.guards.getD j noG) = true) ∧ Below w1.heap.size w1 wr) (fun q _ => t.guards.length - (intOf q).toNat)
    case atStart => exact ⟨0, Nat.zero_le _, rfl, (fun j hj => by omega), Below.refl _ _⟩
    case round =>
      obtain ⟨i, hi, rfl, HX, hw⟩ := hrel
      have A2 := A1.trans (hw.mono A1.size)
      obtain ⟨c0, c1', c2, c3⟩ := T1.next hw
      by_cases hlt : i < t.guards.length
      · have hii : (i : Int) < (t.guards.length : Int) := by omega
        obtain ⟨bg, og, rfl, hbB, hall⟩ := ((P1.next hw).guards.resolve_left (by intro e; rw [e] at hlt; simp at hlt))
        obtain ⟨hr, f0, f1⟩ := hall i hlt
        obtain ⟨h1, h2⟩ := HI.out i hlt
        obtain ⟨q, hq⟩ : ∃ q : Nat, (t.guards.getD i noG).reg = (q : Int) := ⟨((t.guards.getD i noG).reg).toNat, by omega⟩
        have hql : q < rs.length := by omega
        obtain ⟨b2, o2, rfl, hb2, hall2⟩ := ((o1.at.below hw (Nat.le_refl _)).resolve_left (by intro e; rw [e] at hql; simp at hql))
        have f2 := hall2 q hql
        have hqi : (q : Int) < (rs.length : Int) := by omega
        have hG : guB rs (t.guards.getD i noG) = (decide (rs.getD q 0 = 0) == (t.guards.getD i noG).zero) := by unfold guB; rw [hq, Int.toNat_natCast]
        have hsc := hr
        clear hall hall2 hr h1 h2 hA
        rw [hq] at f0
        cases hb : guB rs (t.guards.getD i noG) with
        | true =>
          have HX2 : Hid (∀ j, j < i + 1 → guB rs (t.guards.getD j noG) = true) := by
            intro j hj
            by_cases hji : j = i
            · rw [hji]; exact hb
            · exact HX.out j (by omega)
          rw [hb] at hG
          clear hb HX hq
          generalize (t.guards.getD i noG).zero = z at f1 hG
          have hz : z = decide (rs.getD q 0 = 0) := by cases z <;> cases hd : decide (rs.getD q 0 = 0) <;> rw [hd] at hG <;> first | rfl | cases hG
          subst hz
          clear hG
          generalize rs.getD q 0 = x at f1 f2
          by_cases hx : x = 0
          · subst hx
            have hdd : decide ((0 : Int) = 0) = true := rfl
            rw [hdd] at f1
            go_wp2_with fail
            go_quiet (fail)
            go_wp2_with fail
            go_roundw
            case rel => exact ⟨i + 1, by omega, by go_num, HX2, below_drewN hw _⟩
            case measure => simp [intOf]; omega
          · rw [decide_eq_false hx] at f1
            have hx2 : (x == 0) = false := by simp [hx]
            go_wp2_with fail
            go_quiet (fail)
            go_wp2_with fail
            go_roundw
            case rel => exact ⟨i + 1, by omega, by go_num, HX2, below_drewN hw _⟩
            case measure => simp [intOf]; omega
        | false =>
          have HF : Hid (RGuardsHold t l = false) := HR.out.1.trans (allB_f hlt hb)
          rw [hb] at hG
          clear hb HX hq
          generalize (t.guards.getD i noG).zero = z at f1 hG
          have hz : z = !decide (rs.getD q 0 = 0) := by cases z <;> cases hd : decide (rs.getD q 0 = 0) <;> rw [hd] at hG <;> first | rfl | cases hG
          subst hz
          clear hG
          generalize rs.getD q 0 = x at f1 f2
          by_cases hx : x = 0
          · subst hx
            have hdd : (!decide ((0 : Int) = 0)) = false := rfl
            rw [hdd] at f1
            go_wp2_with fail
            go_quiet (fail)
            go_wp2_with fail
            go_ret2
            exact ⟨ret_bi HF.out.symm HR.out.2.symm, below_drewN A2 _⟩
          · rw [decide_eq_false hx] at f1
            have hx2 : (x == 0) = false := by simp [hx]
            have hdd : (!false) = true := rfl
            rw [hdd] at f1
            go_wp2_with fail
            go_quiet (fail)
            go_wp2_with fail
            go_ret2
            exact ⟨ret_bi HF.out.symm HR.out.2.symm, below_drewN A2 _⟩
      · have hii : ¬ (i : Int) < (t.guards.length : Int) := by omega
        have hki : i = t.guards.length := by omega
        have HF : Hid (RGuardsHold t l = true) := HR.out.1.trans (allB_t (fun j hj => HX.out j (by omega)))
        clear HX HI hA
        go_wp2_with fail
        go_ret2
        exact ⟨ret_bi HF.out.symm HR.out.2.symm, A2⟩
  · have HR : Hid (RGuardsHold t l = false ∧ CGuardsHold t l = CRegistersOf t l) := ⟨by unfold RGuardsHold; rw [decide_eq_false h0, Bool.false_and], rfl⟩
    have hne : (CRegistersOf t l != 0) = true := by simp [h0]
    clear h0
    generalize CRegistersOf t l = c at *
    go_enter Try.func32, Try.ntmps32
    go_wp2_with fail
    rw [← hw0]
    refine HV.out.mono ?_; rintro e w1 ⟨g1, c1, rfl, o1, b1⟩
    have A1 := A0.trans (b1.mono A0.size)
    clear hw0 HV T0 C0
    go_wp2_with fail
    go_ret2
    exact ⟨ret_bi HR.out.1.symm HR.out.2.symm, A1⟩

end Go.Proofs.Ytjopjdhifbbhdaa
