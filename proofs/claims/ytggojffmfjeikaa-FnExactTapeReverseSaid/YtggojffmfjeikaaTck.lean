/- Tapes: the program's check of a tape and lists of numbers. -/
import Derived.Test.YtggojffmfjeikaaTpr
namespace Go.Proofs.Ytggojffmfjeikaa
open Go.RowKit
set_option linter.unusedVariables false

/-- lists lie in the cells of a block -/
def Lsa (w : World) (g : Nat) (ls : List (List Int)) : Prop :=
  g < w.heap.size ∧ ∀ i, i < ls.length → ∃ ai ci, w.cell? ⟨g, i, none⟩ = some (.slice ai (ls.getD i []).length ci) ∧ At w ai (ls.getD i []) ∧ (ls.getD i []).length ≤ 1048576
theorem Lsa.next {w w' : World} {g : Nat} {ls : List (List Int)} (h : Lsa w g ls) (hb : Below w.heap.size w w') : Lsa w' g ls :=
  ⟨Nat.lt_of_lt_of_le h.1 hb.size, fun i hi => by
    obtain ⟨ai, ci, h1, h2, h3⟩ := h.2 i hi
    exact ⟨ai, ci, (hb.cell (p := ⟨g, i, none⟩) h.1).trans h1, h2.below hb (Nat.le_refl _), h3⟩⟩
/-- the code of a tape with lists of numbers for its inputs -/
def chkC (t : Tp) (ls : List (List Int)) : Int := if tapeB t = true then (if (ls.all fun l => areB l t.inputs) = true then 0 else 2) else 1
theorem chkC_bad {t : Tp} {ls : List (List Int)} (h : tapeB t = false) : chkC t ls = 1 := by unfold chkC; rw [if_neg (by rw [h]; simp)]
theorem getDr_mem {ls : List (List Int)} {k : Nat} (h : k < ls.length) : ls.getD k [] ∈ ls := by
  rw [List.getD_eq_getElem?_getD, List.getElem?_eq_getElem h]; exact List.getElem_mem h
theorem chkC_range {t : Tp} {ls : List (List Int)} {k : Nat} (h : tapeB t = true) (hk : k < ls.length) (h2 : areB (ls.getD k []) t.inputs = false) : chkC t ls = 2 := by
  unfold chkC
  rw [if_pos h, if_neg]
  intro hall
  have := List.all_eq_true.1 hall _ (getDr_mem hk)
  rw [h2] at this; cases this
theorem chkC_ok {t : Tp} {ls : List (List Int)} (h : tapeB t = true) (h2 : ∀ k, k < ls.length → areB (ls.getD k []) t.inputs = true) : chkC t ls = 0 := by
  unfold chkC
  rw [if_pos h, if_pos]
  rw [List.all_eq_true]
  intro x hx
  obtain ⟨k, hk, rfl⟩ := List.getElem_of_mem hx
  have := h2 k hk
  rwa [List.getD_eq_getElem?_getD, List.getElem?_eq_getElem hk] at this
theorem chkC_one (t : Tp) (l : List Int) : chkC t [l] = askC t l := by
  unfold chkC askC areB
  simp only [List.all_cons, List.all_nil, Bool.and_true, Bool.and_eq_true, decide_eq_true_eq]

set_option maxRecDepth 100000 in
set_option maxHeartbeats 3200000 in
theorem iCheckTape (t : Tp) (ac : Option Addr) (cc : Nat) (ag : Option Addr) (cg : Nat) (ao : Option Addr) (co : Nat) (g cl : Nat) (ls : List (List Int)) (w : World) (hP : Tat w 0 w.heap.size t ac ag ao) (hL : Lsa w g ls) (hll : ls.length ≤ 1048576) (hs : tpSize t ≤ 1048576) :
    Calls Try.prog 102 #[tpv t ac cc ag cg ao co, .slice (some ⟨g, 0, none⟩) ls.length cl] w fun e w' => e = .returned (.int .i64 (chkC t ls)) ∧ Below w.heap.size w w' := by
  unfold tpv
  obtain ⟨w0, hw0⟩ : ∃ w0, w0 = w.alloc (.cells #[.int .i64 t.inputs, .slice ac t.code.length cc, .slice ag t.guards.length cg, .slice ao t.outs.length co] 53) := ⟨_, rfl⟩
  have A0 : Below w.heap.size w w0 := by rw [hw0]; exact (Below.refl _ _).alloc (Nat.le_refl _) _
  have T0 : Tcl w0 w.heap.size t ac cc ag cg ao co := by rw [hw0]; exact tcl_new w t ac cc ag cg ao co 53
  have HV := Lib.hid (iValidTape t ac cc ag cg ao co w0 (hP.next A0) hs)
  obtain ⟨c0, c1, c2, c3⟩ := id T0
  cases hb : tapeB t with
  | false =>
    have HF := Lib.hid (chkC_bad (ls := ls) hb)
    rw [hb] at HV
    go_enter Try.func102, Try.ntmps102
    go_wp2_with fail
    rw [← hw0]
    clear hw0
    refine HV.out.mono ?_; rintro e w1 ⟨rfl, b⟩
    clear c0 c1 c2 c3
    go_wp2_with fail
    go_ret
    exact ⟨ret_int HF.out.symm, A0.trans (b.mono A0.size)⟩
  | true =>
    rw [hb] at HV
    have HB := Lib.hid hb
    go_enter Try.func102, Try.ntmps102
    go_wp2_with fail
    rw [← hw0]
    clear hw0
    refine HV.out.mono ?_; rintro e w1 ⟨rfl, b⟩
    clear c0 c1 c2 c3
    have A1 := A0.trans (b.mono A0.size)
    have T1 := T0.next b
    have L1 := (hL.next A0).next b
    clear HV T0 hL hP hb
    go_wp2_with fail
    go_loopw [12] (fun q wr => ∃ k : Nat, k ≤ ls.length ∧ q = .int .i64 k ∧ Hid (∀ j, j < k → areB (ls.getD j []) t.inputs = true) ∧ wr = w1) (fun q _ => ls.length - (intOf q).toNat)
    case atStart => exact ⟨0, Nat.zero_le _, rfl, (fun j hj => by omega), rfl⟩
    case round =>
      obtain ⟨k, hk, rfl, HX, rfl⟩ := hrel
      by_cases hlt : k < ls.length
      · have hki : (k : Int) < (ls.length : Int) := by omega
        obtain ⟨ai, ci, f0, hA, hl1⟩ := L1.2 k hlt
        have HC := Lib.hid (iAre ai ci (ls.getD k []) t.inputs wr hA hl1)
        obtain ⟨c0, c1, c2, c3⟩ := id T1
        cases hq : areB (ls.getD k []) t.inputs with
        | true =>
          have HX2 : Hid (∀ j, j < k + 1 → areB (ls.getD j []) t.inputs = true) := by
            intro j hj
            by_cases hji : j = k
            · rw [hji]; exact hq
            · exact HX.out j (by omega)
          rw [hq] at HC
          clear HX hq hA hl1
          generalize ls.getD k [] = x at *
          go_wp2_with fail
          refine HC.out.mono ?_; rintro e w1 ⟨rfl, rfl⟩
          go_wp2_with fail
          go_roundw
          case rel => exact ⟨k + 1, by omega, by go_num, HX2, by trivial⟩
          case measure => simp [intOf]; omega
        | false =>
          have HF := Lib.hid (chkC_range HB.out hlt hq)
          rw [hq] at HC
          clear HX hq hA hl1 L1
          generalize ls.getD k [] = x at f0 HC
          go_wp2_with fail
          refine HC.out.mono ?_; rintro e w1 ⟨rfl, rfl⟩
          go_wp2_with fail
          go_ret
          exact ⟨ret_int HF.out.symm, A1⟩
      · have hki : ¬ (k : Int) < (ls.length : Int) := by omega
        have HF := Lib.hid (chkC_ok (ls := ls) HB.out (fun j hj => HX.out j (by omega)))
        clear HX L1
        go_wp2_with fail
        go_ret
        exact ⟨ret_int HF.out.symm, A1⟩

end Go.Proofs.Ytggojffmfjeikaa
