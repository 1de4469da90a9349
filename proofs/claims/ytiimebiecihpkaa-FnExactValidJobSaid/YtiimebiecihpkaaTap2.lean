/- Tapes: which ones are valid by the model, whole. -/
import Derived.Test.YtiimebiecihpkaaTao
namespace Go.Proofs.Ytiimebiecihpkaa
open Go.RowKit
set_option linter.unusedVariables false

theorem tbdrew {B : Nat} {a w : World} (h : Below B a w) : Below B a w.drew := h.trans ⟨rfl, rfl, rfl, Nat.le_refl _, fun _ _ => rfl⟩
/-- the four cells of a tape -/
structure TCells (w : World) (bt o : Nat) (t : Tp) (ac : Option Addr) (cc : Nat) (ag : Option Addr) (cg : Nat) (ao : Option Addr) (co : Nat) : Prop where
  c0 : w.cell? ⟨bt, o, none⟩ = some (.int .i64 t.inputs)
  c1 : w.cell? ⟨bt, o + 1, none⟩ = some (.slice ac t.code.length cc)
  c2 : w.cell? ⟨bt, o + 2, none⟩ = some (.slice ag t.guards.length cg)
  c3 : w.cell? ⟨bt, o + 3, none⟩ = some (.slice ao t.outs.length co)
theorem TCells.below {w w' : World} {bt o : Nat} {t : Tp} {ac : Option Addr} {cc : Nat} {ag : Option Addr} {cg : Nat} {ao : Option Addr} {co B : Nat} (h : TCells w bt o t ac cc ag cg ao co) (hb : Below B w w') (hB : bt < B) : TCells w' bt o t ac cc ag cg ao co :=
  ⟨(hb.cell (p := ⟨bt, o, none⟩) hB).trans h.c0, (hb.cell (p := ⟨bt, o + 1, none⟩) hB).trans h.c1, (hb.cell (p := ⟨bt, o + 2, none⟩) hB).trans h.c2, (hb.cell (p := ⟨bt, o + 3, none⟩) hB).trans h.c3⟩
theorem TCells.lt {w : World} {bt o : Nat} {t : Tp} {ac : Option Addr} {cc : Nat} {ag : Option Addr} {cg : Nat} {ao : Option Addr} {co : Nat} (h : TCells w bt o t ac cc ag cg ao co) : bt < w.heap.size := cell_lt h.c0

set_option maxRecDepth 100000 in
set_option maxHeartbeats 6400000 in
theorem sTapeP (t : Tp) (bt : Nat) (ac : Option Addr) (cc : Nat) (ag : Option Addr) (cg : Nat) (ao : Option Addr) (co : Nat) (w : World) (hC : TCells w bt 0 t ac cc ag cg ao co) (hP : Tat w 0 w.heap.size t ac ag ao) (hs : tpSize t ≤ 1048576) :
    Calls Try.prog 124 #[.pointer (some ⟨bt, 0, none⟩)] w fun e w' => e = .returned (.bool (tapeB t)) ∧ Below w.heap.size w w' := by
  have hs1 : t.code.length ≤ 1048576 := by unfold tpSize at hs; omega
  have hs2 : t.guards.length ≤ 1048576 := by unfold tpSize at hs; omega
  have hs3 : t.outs.length ≤ 1048576 := by unfold tpSize at hs; omega
  have hbt := hC.lt
  have hC' := Lib.hid hC
  have hP' := Lib.hid hP
  obtain ⟨c0, c1, c2, c3⟩ := hC
  simp only [Nat.zero_add] at c0 c1 c2 c3
  clear hP hs
  by_cases k0 : 0 ≤ t.inputs ∧ t.inputs ≤ 12
  · by_cases k1 : t.code.length ≤ 3200
    · have d1 : ¬ (3200 : Int) < (t.code.length : Int) := by omega
      by_cases k2 : t.guards.length ≤ 3200
      · have d2 : ¬ (3200 : Int) < (t.guards.length : Int) := by omega
        by_cases k3 : 1 ≤ t.outs.length ∧ t.outs.length ≤ 12
        · have HH : Hid (headB t = true) := decide_eq_true ⟨k0.1, k0.2, k1, k2, k3.1, k3.2⟩
          have HI := fun (W : World) => Lib.hid (inT t.inputs 0 12 k0.1 k0.2 W)
          have HO := fun (W : World) => Lib.hid (inT (t.outs.length : Int) 1 12 (by omega) (by omega) W)
          have hb0 : Below w.heap.size w w := Below.refl _ _
          go_enter Try.func124, Try.ntmps124
          go_wp2_with fail
          refine (HI _).out.mono ?_; rintro e w' ⟨rfl, rfl⟩
          go_wp2_with fail
          refine (HO _).out.mono ?_; rintro e w' ⟨rfl, rfl⟩
          go_wp2_with fail
          clear HI HO c0 c1 c2 c3
          go_loopw [4] (fun q wr => ∃ i : Nat, i ≤ t.code.length ∧ q = .int .i64 i ∧ Hid (∀ j, j < i → insB (t.code.getD j no4) j t.inputs = true) ∧ Below w.heap.size w wr) (fun q _ => t.code.length - (intOf q).toNat)
          case atStart => exact ⟨0, Nat.zero_le _, rfl, (fun j hj => by omega), hb0⟩
          case round =>
            obtain ⟨i, hi, rfl, HX, hw⟩ := hrel
            clear hb0
            obtain ⟨c0, c1, c2, c3⟩ := hC'.out.below hw hbt
            simp only [Nat.zero_add] at c0 c1 c2 c3
            by_cases hlt : i < t.code.length
            · have hii : (i : Int) < (t.code.length : Int) := by omega
              obtain ⟨bf, of, rfl, hbB, hall⟩ := ((hP'.out.code.below hw).resolve_left (by intro e; rw [e] at hlt; simp at hlt))
              obtain ⟨hr, f0, f1, f2, f3⟩ := hall i hlt
              have HC := fun (W : World) => Lib.hid (sInstr (t.code.getD i no4) i t.inputs W (by omega) k0)
              clear hall hP' hr
              cases hb : insB (t.code.getD i no4) i t.inputs with
              | true =>
                have HX2 : Hid (∀ j, j < i + 1 → insB (t.code.getD j no4) j t.inputs = true) := by
                  intro j hj
                  by_cases hji : j = i
                  · rw [hji]; exact hb
                  · exact HX.out j (by omega)
                rw [hb] at HC
                clear hb HX
                generalize t.code.getD i no4 = f at f0 f1 f2 f3 HC
                go_wp2_with fail
                go_still_tail 12, (by kernel_rfl)
                change wpList _ _ _ _ _ wr.drew
                have hdw : Below wr.heap.size wr wr.drew := tbdrew (Below.refl _ _)
                generalize wr.drew = w2 at hdw ⊢
                have HC2 := HC w2
                clear HC f0 f1 f2 f3 c0 c1 c2 c3
                go_wp2_with fail
                refine (HC2.out).mono ?_; rintro e w' ⟨rfl, hb2⟩
                have hw2 := hw.trans ((hdw.trans (hb2.mono hdw.size)).mono hw.size)
                clear HC2
                go_wp2_with fail
                go_roundw
                case rel => exact ⟨i + 1, by omega, by go_num, HX2, hw2⟩
                case measure => simp [intOf]; omega
              | false =>
                have HF := Lib.hid (tapeB_code hlt hb)
                rw [hb] at HC
                clear hb HX
                generalize t.code.getD i no4 = f at f0 f1 f2 f3 HC
                go_wp2_with fail
                go_still_tail 12, (by kernel_rfl)
                change wpList _ _ _ _ _ wr.drew
                have hdw : Below wr.heap.size wr wr.drew := tbdrew (Below.refl _ _)
                generalize wr.drew = w2 at hdw ⊢
                have HC2 := HC w2
                clear HC f0 f1 f2 f3 c0 c1 c2 c3
                go_wp2_with fail
                refine (HC2.out).mono ?_; rintro e w' ⟨rfl, hb2⟩
                have hw2 := hw.trans ((hdw.trans (hb2.mono hdw.size)).mono hw.size)
                clear HC2
                go_wp2_with fail
                go_ret
                exact ⟨ret_bool HF.out.symm, hw2⟩
            · have hii : ¬ (i : Int) < (t.code.length : Int) := by omega
              have H1 : Hid (∀ j, j < t.code.length → insB (t.code.getD j no4) j t.inputs = true) := fun j hj => HX.out j (by omega)
              clear HX
              go_wp2_with fail
              clear c0 c1 c2 c3 hii hi hlt
              go_loopw [5] (fun q wr => ∃ i : Nat, i ≤ t.guards.length ∧ q = .int .i64 i ∧ Hid (∀ j, j < i → ixB (t.guards.getD j noG).reg t.code.length = true) ∧ Below w.heap.size w wr) (fun q _ => t.guards.length - (intOf q).toNat)
              case atStart => exact ⟨0, Nat.zero_le _, rfl, (fun j hj => by omega), hw⟩
              case round =>
                clear hw
                obtain ⟨i, hi, rfl, HX, hw⟩ := hrel
                obtain ⟨c0, c1, c2, c3⟩ := hC'.out.below hw hbt
                simp only [Nat.zero_add] at c0 c1 c2 c3
                by_cases hlt : i < t.guards.length
                · have hii : (i : Int) < (t.guards.length : Int) := by omega
                  obtain ⟨bf, of, rfl, hbB, hall⟩ := ((hP'.out.guards.below hw).resolve_left (by intro e; rw [e] at hlt; simp at hlt))
                  obtain ⟨hr, f0, f1⟩ := hall i hlt
                  have HC := fun (W : World) => Lib.hid (sIx (t.guards.getD i noG).reg t.code.length W)
                  clear hall hP' hr
                  cases hb : ixB (t.guards.getD i noG).reg t.code.length with
                  | true =>
                    have HX2 : Hid (∀ j, j < i + 1 → ixB (t.guards.getD j noG).reg t.code.length = true) := by
                      intro j hj
                      by_cases hji : j = i
                      · rw [hji]; exact hb
                      · exact HX.out j (by omega)
                    rw [hb] at HC
                    clear hb HX
                    generalize t.guards.getD i noG = f at f0 f1 HC
                    go_wp2_with fail
                    refine (HC _).out.mono ?_; rintro e w' ⟨rfl, rfl⟩
                    clear HC
                    go_wp2_with fail
                    go_roundw
                    case rel => exact ⟨i + 1, by omega, by go_num, HX2, hw⟩
                    case measure => simp [intOf]; omega
                  | false =>
                    have HF := Lib.hid (tapeB_guard hlt hb)
                    rw [hb] at HC
                    clear hb HX
                    generalize t.guards.getD i noG = f at f0 f1 HC
                    go_wp2_with fail
                    refine (HC _).out.mono ?_; rintro e w' ⟨rfl, rfl⟩
                    clear HC
                    go_wp2_with fail
                    go_ret
                    exact ⟨ret_bool HF.out.symm, hw⟩
                · have hii : ¬ (i : Int) < (t.guards.length : Int) := by omega
                  have H2 : Hid (∀ j, j < t.guards.length → ixB (t.guards.getD j noG).reg t.code.length = true) := fun j hj => HX.out j (by omega)
                  clear HX
                  go_wp2_with fail
                  clear c0 c1 c2 c3 hii hi hlt
                  go_loopw [6] (fun q wr => ∃ i : Nat, i ≤ t.outs.length ∧ q = .int .i64 i ∧ Hid (∀ j, j < i → ixB (t.outs.getD j 0) t.code.length = true) ∧ Below w.heap.size w wr) (fun q _ => t.outs.length - (intOf q).toNat)
                  case atStart => exact ⟨0, Nat.zero_le _, rfl, (fun j hj => by omega), hw⟩
                  case round =>
                    clear hw
                    obtain ⟨i, hi, rfl, HX, hw⟩ := hrel
                    obtain ⟨c0, c1, c2, c3⟩ := hC'.out.below hw hbt
                    simp only [Nat.zero_add] at c0 c1 c2 c3
                    by_cases hlt : i < t.outs.length
                    · have hii : (i : Int) < (t.outs.length : Int) := by omega
                      obtain ⟨bf, of, rfl, hbB, hall⟩ := ((hP'.out.outs.below hw).resolve_left (by intro e; rw [e] at hlt; simp at hlt))
                      have f0 := hall i hlt
                      have HC := fun (W : World) => Lib.hid (sIx (t.outs.getD i 0) t.code.length W)
                      clear hall hP'
                      cases hb : ixB (t.outs.getD i 0) t.code.length with
                      | true =>
                        have HX2 : Hid (∀ j, j < i + 1 → ixB (t.outs.getD j 0) t.code.length = true) := by
                          intro j hj
                          by_cases hji : j = i
                          · rw [hji]; exact hb
                          · exact HX.out j (by omega)
                        rw [hb] at HC
                        clear hb HX
                        generalize t.outs.getD i 0 = f at f0 HC
                        go_wp2_with fail
                        refine (HC _).out.mono ?_; rintro e w' ⟨rfl, rfl⟩
                        clear HC
                        go_wp2_with fail
                        go_roundw
                        case rel => exact ⟨i + 1, by omega, by go_num, HX2, hw⟩
                        case measure => simp [intOf]; omega
                      | false =>
                        have HF := Lib.hid (tapeB_out hlt hb)
                        rw [hb] at HC
                        clear hb HX
                        generalize t.outs.getD i 0 = f at f0 HC
                        go_wp2_with fail
                        refine (HC _).out.mono ?_; rintro e w' ⟨rfl, rfl⟩
                        clear HC
                        go_wp2_with fail
                        go_ret
                        exact ⟨ret_bool HF.out.symm, hw⟩
                    · have hii : ¬ (i : Int) < (t.outs.length : Int) := by omega
                      have HF := Lib.hid (tapeB_all HH.out H1.out H2.out (fun j hj => HX.out j (by omega)))
                      clear HX H1 H2
                      go_wp2_with fail
                      go_ret
                      exact ⟨ret_bool HF.out.symm, hw⟩
        · have HF : Hid (tapeB t = false) := tapeB_head (decide_eq_false (fun h => k3 h.2.2.2.2))
          have HI := fun (W : World) => Lib.hid (inT t.inputs 0 12 k0.1 k0.2 W)
          have HO := fun (W : World) => Lib.hid (inF (t.outs.length : Int) 1 12 (by omega) W)
          go_enter Try.func124, Try.ntmps124
          go_wp2_with fail
          refine (HI _).out.mono ?_; rintro e w' ⟨rfl, rfl⟩
          go_wp2_with fail
          refine (HO _).out.mono ?_; rintro e w' ⟨rfl, rfl⟩
          go_wp2_with fail
          go_ret
          exact ⟨ret_bool HF.out.symm, Below.refl _ _⟩
      · have d2 : (3200 : Int) < (t.guards.length : Int) := by omega
        have HF : Hid (tapeB t = false) := tapeB_head (decide_eq_false (fun h => k2 h.2.2.2.1))
        have HI := fun (W : World) => Lib.hid (inT t.inputs 0 12 k0.1 k0.2 W)
        go_enter Try.func124, Try.ntmps124
        go_wp2_with fail
        refine (HI _).out.mono ?_; rintro e w' ⟨rfl, rfl⟩
        go_wp2_with fail
        go_ret
        exact ⟨ret_bool HF.out.symm, Below.refl _ _⟩
    · have d1 : (3200 : Int) < (t.code.length : Int) := by omega
      have HF : Hid (tapeB t = false) := tapeB_head (decide_eq_false (fun h => k1 h.2.2.1))
      have HI := fun (W : World) => Lib.hid (inT t.inputs 0 12 k0.1 k0.2 W)
      go_enter Try.func124, Try.ntmps124
      go_wp2_with fail
      refine (HI _).out.mono ?_; rintro e w' ⟨rfl, rfl⟩
      go_wp2_with fail
      go_ret
      exact ⟨ret_bool HF.out.symm, Below.refl _ _⟩
  · have HF : Hid (tapeB t = false) := tapeB_head (decide_eq_false (fun h => k0 ⟨h.1, h.2.1⟩))
    have HI := fun (W : World) => Lib.hid (inF t.inputs 0 12 (by omega) W)
    go_enter Try.func124, Try.ntmps124
    go_wp2_with fail
    refine (HI _).out.mono ?_; rintro e w' ⟨rfl, rfl⟩
    go_wp2_with fail
    go_ret
    exact ⟨ret_bool HF.out.symm, Below.refl _ _⟩

end Go.Proofs.Ytiimebiecihpkaa
