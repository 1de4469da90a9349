/- Tapes: how many instructions have each operation, by the model and by the program. -/
import Derived.Test.YtjopjdhifbbhdaaTal
import Derived.Test.YtjopjdhifbbhdaaTaj
namespace Go.Proofs.Ytjopjdhifbbhdaa
open Go.RowKit
set_option linter.unusedVariables false

theorem ret_sl2 {a : Option Addr} {n m c : Nat} {z z' : Int} (h : n = m) (h2 : z = z') : Ending.returned (.tuple #[.slice a n c, .int .i64 z]) = .returned (.tuple #[.slice a m c, .int .i64 z']) := by rw [h, h2]
/-- the counts behind so many instructions -/
def cnts (t : Tp) : Nat → List Int
  | 0 => List.replicate 7 0
  | k + 1 => (cnts t k).set ((t.code.getD k no4).op - 1).toNat ((cnts t k).getD ((t.code.getD k no4).op - 1).toNat 0 + 1)
theorem cnts_len (t : Tp) : ∀ k, (cnts t k).length = 7
  | 0 => rfl
  | k + 1 => by rw [cnts, List.length_set]; exact cnts_len t k
theorem cnts_bd (t : Tp) : ∀ k j, 0 ≤ (cnts t k).getD j 0 ∧ (cnts t k).getD j 0 ≤ k
  | 0, j => by
    have : (cnts t 0).getD j 0 = 0 := by
      show (List.replicate 7 (0 : Int)).getD j 0 = 0
      rw [List.getD_eq_getElem?_getD, List.getElem?_replicate]; split <;> rfl
    rw [this]; omega
  | k + 1, j => by
    have h1 := cnts_bd t k j
    have h2 := cnts_bd t k ((t.code.getD k no4).op - 1).toNat
    rw [cnts, List.getD_eq_getElem?_getD, List.getElem?_set]
    split
    · split
      · simp only [Option.getD_some]; omega
      · simp only [Option.getD_none]; omega
    · rw [← List.getD_eq_getElem?_getD]; omega
def RCountOps (t : Tp) : List Int := if tapeB t = true then cnts t t.code.length else []
def CCountOps (t : Tp) : Int := if tapeB t = true then 0 else 1
theorem RCountOps_len (t : Tp) (hs : tpSize t ≤ 1048576) : (RCountOps t).length ≤ 1048576 := by
  unfold RCountOps; split
  · rw [cnts_len]; omega
  · exact Nat.zero_le _
theorem insB_op {x : In4} {i : Nat} {n : Int} (h : insB x i n = true) : 1 ≤ x.op ∧ x.op ≤ 7 := by
  apply Decidable.byContradiction
  intro hn
  rw [insB_other (by omega)] at h
  cases h

set_option maxRecDepth 100000 in
set_option maxHeartbeats 3200000 in
theorem sCountOps (t : Tp) (ac : Option Addr) (cc : Nat) (ag : Option Addr) (cg : Nat) (ao : Option Addr) (co : Nat) (w : World) (hP : Tat w 0 w.heap.size t ac ag ao) (hs : tpSize t ≤ 1048576) :
    Calls Try.prog 19 #[tpv t ac cc ag cg ao co] w (Res2 w (RCountOps t) (CCountOps t)) := by
  unfold tpv
  obtain ⟨i0, hi, hz0, hz1, hz2⟩ := info_parts info64
  have hs1 : t.code.length ≤ 1048576 := by unfold tpSize at hs; omega
  obtain ⟨w0, hw0⟩ : ∃ w0, w0 = w.alloc (.cells #[.int .i64 t.inputs, .slice ac t.code.length cc, .slice ag t.guards.length cg, .slice ao t.outs.length co] 32) := ⟨_, rfl⟩
  have A0 : Below w.heap.size w w0 := by rw [hw0]; exact (Below.refl _ _).alloc (Nat.le_refl _) _
  have z0 : w0.heap.size = w.heap.size + 1 := by rw [hw0]; simp
  have C0 : TCells w0 w.heap.size 0 t ac cc ag cg ao co := by rw [hw0]; exact ⟨by simp [go_sem], by simp [go_sem], by simp [go_sem], by simp [go_sem]⟩
  have T0 : Tcl w0 w.heap.size t ac cc ag cg ao co := by rw [hw0]; exact tcl_new w t ac cc ag cg ao co 32
  have HV := Lib.hid (sTapeP t w.heap.size ac cc ag cg ao co w0 C0 (hP.next A0) hs)
  cases hb : tapeB t with
  | false =>
    have HF : Hid (RCountOps t = [] ∧ CCountOps t = 1) := by constructor <;> simp [RCountOps, CCountOps, hb]
    rw [hb] at HV
    go_enter Try.func19, Try.ntmps19
    go_wp2_with fail
    rw [← hw0]
    clear hw0
    refine HV.out.mono ?_; rintro e w1 ⟨rfl, b⟩
    go_wp2_with fail
    go_ret2
    exact ⟨_, _, ret_sl2 (by rw [HF.out.1]; rfl) HF.out.2.symm, .inl HF.out.1, (A0.trans (b.mono A0.size)).alloc (by have := b.size; omega) _⟩
  | true =>
    have HF : Hid (RCountOps t = cnts t t.code.length ∧ CCountOps t = 0) := by constructor <;> simp [RCountOps, CCountOps, hb]
    have HO := tapeB_ok hb
    rw [hb] at HV
    go_enter Try.func19, Try.ntmps19
    go_wp2_with fail
    rw [← hw0]
    clear hw0
    refine HV.out.mono ?_; rintro e w1 ⟨rfl, b⟩
    have A1 := A0.trans (b.mono A0.size)
    have T1 := T0.next b
    have s1 := b.size
    clear T0 C0 HV
    go_wp2_with (refine wpList_make_full _ rfl _ _ 24 rfl w1.heap.size 2 i0 (.int .i64 0) 1 Try.underlying24 hi hz0 hz1 .i64 .i64 _ _ 7 rfl rfl rfl rfl ?c2 ?c3 (Nat.le_refl _) ?_)
    case c2 => rw [hz2]; omega
    case c3 => unfold maxLen; omega
    intro w2 ho2 hg2
    have O2 : Own w1.heap.size w2 w1.heap.size 7 (cnts t 0) := made_own ho2
    have b2 : Below w1.heap.size w1 w2 := (Below.refl _ _).grown hg2 (Nat.le_refl _) (by intro k hk; cases hk)
    have A2 := A1.trans (b2.mono A1.size)
    have T2 := T1.next b2
    clear ho2 hg2 T1 b2 b
    go_wp2_with fail
    go_loopw [5] (fun q wr => ∃ i : Nat, i ≤ t.code.length ∧ q = .int .i64 i ∧ Own w1.heap.size wr w1.heap.size 7 (cnts t i) ∧ Tcl wr w.heap.size t ac cc ag cg ao co ∧ Below w.heap.size w wr) (fun q _ => t.code.length - (intOf q).toNat)
    case atStart => exact ⟨0, Nat.zero_le _, rfl, O2, T2, A2⟩
    case round =>
      obtain ⟨i, hi, rfl, ho, hT, hw⟩ := hrel
      clear O2 T2 A2
      obtain ⟨c0, c1, c2, c3⟩ := id hT
      by_cases hlt : i < t.code.length
      · have hii : (i : Int) < (t.code.length : Int) := by omega
        obtain ⟨bf, of, rfl, hbB, hall⟩ := ((hP.code.below hw).resolve_left (by intro e; rw [e] at hlt; simp at hlt))
        obtain ⟨hr, f0, f1, f2, f3⟩ := hall i hlt
        have hop := insB_op (HO.code i hlt)
        have hst := ho.set ((t.code.getD i no4).op - 1).toNat ((cnts t i).getD ((t.code.getD i no4).op - 1).toNat 0 + 1)
        have hce := ho.cellAt ((t.code.getD i no4).op - 1).toNat (by rw [cnts_len]; omega)
        have hfz := ho.frz ((t.code.getD i no4).op - 1).toNat
        have hbd := cnts_bd t i ((t.code.getD i no4).op - 1).toNat
        have hlw := ho.base
        have hwl := Lib.hid A1.size
        have HS : Hid (∀ W, Own w1.heap.size W w1.heap.size 7 ((cnts t i).set ((t.code.getD i no4).op - 1).toNat ((cnts t i).getD ((t.code.getD i no4).op - 1).toNat 0 + 1)) → Own w1.heap.size W w1.heap.size 7 (cnts t (i + 1))) := fun W h => h
        have hTs := fun (o : Nat) (v : Value) => hT.block (w' := wr.setCell ⟨w1.heap.size, o, none⟩ v) (Below.heap_setCell _ _ _ _ (by show w.heap.size ≠ w1.heap.size; omega))
        clear hall hr ho hT f1 f2 f3
        generalize (cnts t i).getD ((t.code.getD i no4).op - 1).toNat 0 = y at *
        generalize t.code.getD i no4 = f at *
        obtain ⟨o, a4, b4, m4⟩ := f
        simp only at *
        obtain ⟨j, rfl⟩ : ∃ j : Nat, o = (j : Int) + 1 := ⟨(o - 1).toNat, by omega⟩
        have ej : ((j : Int) + 1 - 1).toNat = j := by omega
        rw [ej] at hst hce hfz HS
        have hj : j < 7 := by omega
        clear ej hop
        have e1 : (j : Int) + 1 - 1 = (j : Int) := by omega
        go_wp2_with fail
        go_roundw
        case rel => exact ⟨i + 1, by omega, by go_num, HS.out _ hst, hTs _ _, hw.setCell hwl.out _⟩
        case measure => simp [intOf]; omega
      · have hii : ¬ (i : Int) < (t.code.length : Int) := by omega
        have hki : i = t.code.length := by omega
        subst hki
        clear hT
        go_wp2_with fail
        go_ret2
        exact ⟨_, _, ret_sl2 (by rw [HF.out.1, cnts_len]) HF.out.2.symm, by rw [HF.out.1]; exact (ho.mono (by omega)).a, hw⟩

set_option maxRecDepth 100000 in
set_option maxHeartbeats 3200000 in
theorem iCountOps (t : Tp) (ac : Option Addr) (cc : Nat) (ag : Option Addr) (cg : Nat) (ao : Option Addr) (co : Nat) (w : World) (hP : Tat w 0 w.heap.size t ac ag ao) (hs : tpSize t ≤ 1048576) :
    Calls Try.prog 20 #[tpv t ac cc ag cg ao co] w (Res2 w (RCountOps t) (CCountOps t)) := by
  unfold tpv
  obtain ⟨i0, hi, hz0, hz1, hz2⟩ := info_parts info64
  have hs1 : t.code.length ≤ 1048576 := by unfold tpSize at hs; omega
  obtain ⟨w0, hw0⟩ : ∃ w0, w0 = w.alloc (.cells #[.int .i64 t.inputs, .slice ac t.code.length cc, .slice ag t.guards.length cg, .slice ao t.outs.length co] 32) := ⟨_, rfl⟩
  have A0 : Below w.heap.size w w0 := by rw [hw0]; exact (Below.refl _ _).alloc (Nat.le_refl _) _
  have z0 : w0.heap.size = w.heap.size + 1 := by rw [hw0]; simp
  have C0 : TCells w0 w.heap.size 0 t ac cc ag cg ao co := by rw [hw0]; exact ⟨by simp [go_sem], by simp [go_sem], by simp [go_sem], by simp [go_sem]⟩
  have T0 : Tcl w0 w.heap.size t ac cc ag cg ao co := by rw [hw0]; exact tcl_new w t ac cc ag cg ao co 32
  have HV := Lib.hid (iValidTape t ac cc ag cg ao co w0 (hP.next A0) hs)
  obtain ⟨c0, c1, c2, c3⟩ := id T0
  cases hb : tapeB t with
  | false =>
    have HF : Hid (RCountOps t = [] ∧ CCountOps t = 1) := by constructor <;> simp [RCountOps, CCountOps, hb]
    rw [hb] at HV
    go_enter Try.func20, Try.ntmps20
    go_wp2_with fail
    rw [← hw0]
    clear hw0
    refine HV.out.mono ?_; rintro e w1 ⟨rfl, b⟩
    clear c0 c1 c2 c3
    go_wp2_with fail
    go_ret2
    exact ⟨_, _, ret_sl2 (by rw [HF.out.1]; rfl) HF.out.2.symm, .inl HF.out.1, A0.trans (b.mono A0.size)⟩
  | true =>
    have HF : Hid (RCountOps t = cnts t t.code.length ∧ CCountOps t = 0) := by constructor <;> simp [RCountOps, CCountOps, hb]
    have HO := tapeB_ok hb
    rw [hb] at HV
    go_enter Try.func20, Try.ntmps20
    go_wp2_with fail
    rw [← hw0]
    clear hw0
    refine HV.out.mono ?_; rintro e w1 ⟨rfl, b⟩
    clear c0 c1 c2 c3
    have A1 := A0.trans (b.mono A0.size)
    have T1 := T0.next b
    have s1 := b.size
    clear T0 C0 HV
    go_wp2_with (refine wpList_make_full _ rfl _ _ 24 rfl w1.heap.size 2 i0 (.int .i64 0) 1 Try.underlying24 hi hz0 hz1 .i64 .i64 _ _ 7 rfl rfl rfl rfl ?c2 ?c3 (Nat.le_refl _) ?_)
    case c2 => rw [hz2]; omega
    case c3 => unfold maxLen; omega
    intro w2 ho2 hg2
    have O2 : Own w1.heap.size w2 w1.heap.size 7 (cnts t 0) := made_own ho2
    have b2 : Below w1.heap.size w1 w2 := (Below.refl _ _).grown hg2 (Nat.le_refl _) (by intro k hk; cases hk)
    have A2 := A1.trans (b2.mono A1.size)
    have T2 := T1.next b2
    clear ho2 hg2 T1 b2 b
    obtain ⟨c0, c1, c2, c3⟩ := id T2
    go_wp2_with fail
    clear c0 c1 c2 c3
    go_loopw [14] (fun q wr => ∃ i : Nat, i ≤ t.code.length ∧ q = .int .i64 i ∧ Own w1.heap.size wr w1.heap.size 7 (cnts t i) ∧ Tcl wr w.heap.size t ac cc ag cg ao co ∧ Below w.heap.size w wr) (fun q _ => t.code.length - (intOf q).toNat)
    case atStart => exact ⟨0, Nat.zero_le _, rfl, O2, T2, A2⟩
    case round =>
      obtain ⟨i, hi, rfl, ho, hT, hw⟩ := hrel
      clear O2 T2 A2
      by_cases hlt : i < t.code.length
      · have hii : (i : Int) < (t.code.length : Int) := by omega
        obtain ⟨bf, of, rfl, hbB, hall⟩ := ((hP.code.below hw).resolve_left (by intro e; rw [e] at hlt; simp at hlt))
        obtain ⟨hr, f0, f1, f2, f3⟩ := hall i hlt
        have hop := insB_op (HO.code i hlt)
        have hwb : ∀ (W : World) o, Below W.heap.size W (W.alloc o) := fun W o => (Below.refl _ _).alloc (Nat.le_refl _) o
        have hst0 := ho.set ((t.code.getD i no4).op - 1).toNat ((cnts t i).getD ((t.code.getD i no4).op - 1).toNat 0 + 1)
        have hst := fun (ob : Obj) => hst0.kept (hwb _ ob) hst0.base.2
        clear hst0
        have hce := ho.cellAt ((t.code.getD i no4).op - 1).toNat (by rw [cnts_len]; omega)
        have hfz := ho.frz ((t.code.getD i no4).op - 1).toNat
        have hbd := cnts_bd t i ((t.code.getD i no4).op - 1).toNat
        have hlw := ho.base
        have hwl := Lib.hid A1.size
        have hww := hw.size
        have HS : Hid (∀ W, Own w1.heap.size W w1.heap.size 7 ((cnts t i).set ((t.code.getD i no4).op - 1).toNat ((cnts t i).getD ((t.code.getD i no4).op - 1).toNat 0 + 1)) → Own w1.heap.size W w1.heap.size 7 (cnts t (i + 1))) := fun W h => h
        have hTs := fun (ob : Obj) (o : Nat) (v : Value) => (hT.block (w' := wr.setCell ⟨w1.heap.size, o, none⟩ v) (Below.heap_setCell _ _ _ _ (by show w.heap.size ≠ w1.heap.size; omega))).next (hwb _ ob)
        clear hall hr ho hT hwb
        generalize (cnts t i).getD ((t.code.getD i no4).op - 1).toNat 0 = y at *
        generalize t.code.getD i no4 = f at *
        obtain ⟨o, a4, b4, m4⟩ := f
        simp only at *
        obtain ⟨j, rfl⟩ : ∃ j : Nat, o = (j : Int) + 1 := ⟨(o - 1).toNat, by omega⟩
        have ej : ((j : Int) + 1 - 1).toNat = j := by omega
        simp only [ej] at hst hce hfz HS
        have hj : j < 7 := by omega
        clear ej hop
        have e1 : (j : Int) + 1 - 1 = (j : Int) := by omega
        go_wp2_with fail
        go_roundw
        case rel => exact ⟨i + 1, by omega, by go_num, HS.out _ (hst _), hTs _ _ _, (hw.setCell hwl.out _).alloc (by simp; omega) _⟩
        case measure => simp [intOf]; omega
      · have hii : ¬ (i : Int) < (t.code.length : Int) := by omega
        have hki : i = t.code.length := by omega
        subst hki
        clear hT
        go_wp2_with fail
        go_ret2
        exact ⟨_, _, ret_sl2 (by rw [HF.out.1, cnts_len]) HF.out.2.symm, by rw [HF.out.1]; exact (ho.mono (by omega)).a, hw⟩

end Go.Proofs.Ytjopjdhifbbhdaa
