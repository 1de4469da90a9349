/- Tapes: registers and outputs, by the program. -/
import Derived.Test.YtjopjdhifbbhdaaTrw
import Derived.Test.YtjopjdhifbbhdaaTrm
namespace Go.Proofs.Ytjopjdhifbbhdaa
open Go.RowKit
set_option linter.unusedVariables false

theorem regR_of {t : Tp} {l : List Int} (h : askC t l = 0) : RRegistersOf t l = regR t l ∧ CRegistersOf t l = regC t l := by
  unfold RRegistersOf CRegistersOf regR regC; rw [if_pos h, if_pos h]; exact ⟨rfl, rfl⟩
theorem OwnA.mono {B B' : Nat} {w : World} {a : Option Addr} {cap : Nat} {l : List Int} (h : OwnA B w a cap l) (hB : B' ≤ B) : OwnA B' w a cap l := by
  rcases h with h | ⟨g, e, h⟩
  · exact .inl h
  · exact .inr ⟨g, e, h.mono hB⟩
/-- one list in a block of its own -/
theorem lsa_one {w : World} {a : Option Addr} {ca : Nat} {l : List Int} (hA : At w a l) (hl : l.length ≤ 1048576) (ty : TypeId) : Lsa (w.alloc (.cells #[.slice a l.length ca] ty)) w.heap.size [l] := by
  refine ⟨by simp, fun i hi => ?_⟩
  have : i = 0 := by simp at hi; omega
  subst this
  exact ⟨a, ca, by simp [go_sem], hA.below ((Below.refl _ _).alloc (Nat.le_refl _) _) (Nat.le_refl _), hl⟩

set_option maxRecDepth 100000 in
set_option maxHeartbeats 1600000 in
theorem iRegistersOf (t : Tp) (ac : Option Addr) (cc : Nat) (ag : Option Addr) (cg : Nat) (ao : Option Addr) (co : Nat) (a : Option Addr) (ca : Nat) (l : List Int) (w : World) (hP : Tat w 0 w.heap.size t ac ag ao) (hA : At w a l) (hR : Rng l) (hl : l.length ≤ 1048576) (hs : tpSize t ≤ 1048576) :
    Calls Try.prog 29 #[tpv t ac cc ag cg ao co, .slice a l.length ca] w (Res2 w (RRegistersOf t l) (CRegistersOf t l)) := by
  unfold tpv
  obtain ⟨w0, hw0⟩ : ∃ w0, w0 = w.alloc (.cells #[.int .i64 t.inputs, .slice ac t.code.length cc, .slice ag t.guards.length cg, .slice ao t.outs.length co] 32) := ⟨_, rfl⟩
  have A0 : Below w.heap.size w w0 := by rw [hw0]; exact (Below.refl _ _).alloc (Nat.le_refl _) _
  have T0 : Tcl w0 w.heap.size t ac cc ag cg ao co := by rw [hw0]; exact tcl_new w t ac cc ag cg ao co 32
  have z0 : w0.heap.size = w.heap.size + 1 := by rw [hw0]; simp
  obtain ⟨wb, hwb⟩ : ∃ wb, wb = w0.alloc (.cells #[.slice a l.length ca] 24) := ⟨_, rfl⟩
  have Ab : Below w0.heap.size w0 wb := by rw [hwb]; exact (Below.refl _ _).alloc (Nat.le_refl _) _
  have Lb : Lsa wb w0.heap.size [l] := by rw [hwb]; exact lsa_one (hA.below A0 (Nat.le_refl _)) hl _
  have A1 := A0.trans (Ab.mono A0.size)
  have HV := Lib.hid (iCheckTape t ac cc ag cg ao co w0.heap.size 1 [l] wb (hP.next A1) Lb (by simp) hs)
  rw [chkC_one] at HV
  have Tb := T0.next Ab
  have lb0 := T0.lt
  clear Lb T0
  go_enter Try.func29, Try.ntmps29
  go_wp2_with fail
  rw [← hw0]
  rw [← hwb, ← z0]
  clear hw0 hwb z0
  refine HV.out.mono ?_; rintro e w1 ⟨rfl, b1⟩
  have A2 := A1.trans (b1.mono A1.size)
  have T1 := Tb.next b1
  clear HV Tb b1 Ab lb0
  by_cases h0 : askC t l = 0
  · obtain ⟨h1, h2, h3⟩ := askC_zero h0
    have ht := tapeB_ok h1
    have HE := Lib.hid (regR_of h0)
    have HW := Lib.hid (iRegistersWith t ac cc ag cg ao co a ca l w1 (hP.next A2) ht (hA.below A2 (Nat.le_refl _)) hl (by omega) h3)
    rw [h0]
    obtain ⟨c0, c1, c2, c3⟩ := id T1
    clear h0 h1 h2 h3 ht hP hA A1
    go_wp2_with fail
    refine HW.out.mono ?_; rintro e w2 ⟨g, c, rfl, o2, b2⟩
    clear HW c0 c1 c2 c3
    go_wp2_with fail
    go_ret2
    exact ⟨_, _, sl2_eq (by rw [HE.out.1]) HE.out.2.symm, by rw [HE.out.1]; exact o2.mono A2.size, A2.trans (b2.mono A2.size)⟩
  · have HR : Hid (RRegistersOf t l = [] ∧ CRegistersOf t l = askC t l) := by constructor <;> simp [RRegistersOf, CRegistersOf, h0]
    have hne : (askC t l != 0) = true := by simp [h0]
    clear h0
    generalize askC t l = c at *
    go_wp2_with fail
    go_ret2
    exact ⟨_, _, sl2_eq (by rw [HR.out.1]; rfl) HR.out.2.symm, .inl HR.out.1, A2⟩

def outR (t : Tp) (l : List Int) : List Int := if regC t l = 0 then pick (regR t l) t.outs else []
theorem outR_ok {t : Tp} {l : List Int} (h : regC t l = 0) : outR t l = pick (regR t l) t.outs := if_pos h
theorem outR_no {t : Tp} {l : List Int} (h : regC t l ≠ 0) : outR t l = [] := if_neg h
theorem regC_ok {t : Tp} {l : List Int} (ht : Okt t) (hn : Nums l) (h : regC t l = 0) : (regR t l).length = t.code.length ∧ Nums (regR t l) := by
  unfold regC at h
  cases hv : runV t l t.code.length with
  | none => rw [if_pos hv] at h; omega
  | some rs =>
    have : regR t l = rs := by unfold regR; rw [hv]; rfl
    rw [this]
    exact runV_ok ht hn (Nat.le_refl _) hv

set_option maxRecDepth 100000 in
set_option maxHeartbeats 3200000 in
theorem iOutsWith (t : Tp) (ac : Option Addr) (cc : Nat) (ag : Option Addr) (cg : Nat) (ao : Option Addr) (co : Nat) (a : Option Addr) (ca : Nat) (l : List Int) (w : World) (hP : Tat w 0 w.heap.size t ac ag ao) (ht : Okt t) (hA : At w a l) (hl : l.length ≤ 1048576) (hin : t.inputs ≤ l.length) (hn : Nums l) :
    Calls Try.prog 66 #[ofN, tpv t ac cc ag cg ao co, .slice a l.length ca] w (Res2 w (outR t l) (regC t l)) := by
  unfold tpv
  obtain ⟨i0, hi, hz0, hz1, hz2⟩ := info_parts info64
  have hos := ht.outs
  obtain ⟨w0, hw0⟩ : ∃ w0, w0 = w.alloc (.cells #[.int .i64 t.inputs, .slice ac t.code.length cc, .slice ag t.guards.length cg, .slice ao t.outs.length co] 32) := ⟨_, rfl⟩
  have A0 : Below w.heap.size w w0 := by rw [hw0]; exact (Below.refl _ _).alloc (Nat.le_refl _) _
  have T0 : Tcl w0 w.heap.size t ac cc ag cg ao co := by rw [hw0]; exact tcl_new w t ac cc ag cg ao co 32
  have HW := Lib.hid (iRegistersWith t ac cc ag cg ao co a ca l w0 (hP.next A0) ht (hA.below A0 (Nat.le_refl _)) hl (by omega) hn)
  by_cases h0 : regC t l = 0
  · obtain ⟨hrn, hrr⟩ := regC_ok ht hn h0
    have HE : Hid (outR t l = pick (regR t l) t.outs ∧ regC t l = 0) := ⟨outR_ok h0, h0⟩
    have HI : Hid (∀ i, i < t.outs.length → 0 ≤ t.outs.getD i 0 ∧ t.outs.getD i 0 < (regR t l).length) := fun i hi => by have := ht.out i hi; omega
    have hcs := ht.size
    have hrl : (regR t l).length ≤ 3200 := by omega
    have HP := Lib.hid hP
    rw [h0] at HW
    obtain ⟨c0, c1, c2, c3⟩ := id T0
    clear h0 hrn hrr hP hcs hn hin hA ht
    generalize regR t l = rs at *
    go_enter Try.func66, Try.ntmps66
    go_wp2_with fail
    rw [← hw0]
    clear hw0
    refine HW.out.mono ?_; rintro e w1 ⟨g1, k1, rfl, o1, b1⟩
    have A1 := A0.trans (b1.mono A0.size)
    have T1 := T0.next b1
    clear HW c0 c1 c2 c3 b1 T0 A0
    obtain ⟨c0, c1, c2, c3⟩ := id T1
    go_wp2_with (refine wpList_make_full _ rfl _ _ 24 rfl w1.heap.size 2 i0 (.int .i64 0) 1 Try.underlying24 hi hz0 hz1 .i64 .i64 _ _ t.outs.length rfl rfl rfl rfl ?c2 ?c3 (Nat.le_refl _) ?_)
    case c2 => rw [hz2]; omega
    case c3 => unfold maxLen; omega
    intro w2 ho2 hg2
    have O2 : Own w1.heap.size w2 w1.heap.size t.outs.length (fillz t.outs.length []) := made_own ho2
    have b2 : Below w1.heap.size w1 w2 := (Below.refl _ _).grown hg2 (Nat.le_refl _) (by intro k hk; cases hk)
    have A2 := A1.trans (b2.mono A1.size)
    have T2 := T1.next b2
    have R1 := o1.at
    have hw12 := A1.size
    clear ho2 hg2 T1 c0 c1 c2 c3 o1
    obtain ⟨c0, c1, c2, c3⟩ := id T2
    have hb2 := b2.size
    go_wp2_with fail
    clear c0 c1 c2 c3 T2
    go_loopw [30] (fun q wr => ∃ (k : Nat) (xs : List Int), k ≤ t.outs.length ∧ q = .int .i64 k ∧ Hid (xs.length = k) ∧ Hid (xs = pick rs (t.outs.take k)) ∧ Own w1.heap.size wr w1.heap.size t.outs.length (fillz t.outs.length xs) ∧ Below w1.heap.size w1 wr) (fun q _ => t.outs.length - (intOf q).toNat)
    case atStart => exact ⟨0, [], Nat.zero_le _, rfl, rfl, rfl, O2, b2⟩
    case round =>
      obtain ⟨k, xs, hk, rfl, HL, HX, ho, hw⟩ := hrel
      clear O2 A2 b2
      have A3 := A1.trans (hw.mono hw12)
      by_cases hlt : k < t.outs.length
      · have hii : (k : Int) < (t.outs.length : Int) := by omega
        obtain ⟨b4, o4, rfl, hb4, hall4⟩ := ((HP.out.outs.below A3).resolve_left (by intro e; rw [e] at hlt; simp at hlt))
        have f0 := hall4 k hlt
        obtain ⟨q0, q1⟩ := HI.out k hlt
        obtain ⟨q, hq⟩ : ∃ q : Nat, t.outs.getD k 0 = (q : Int) := ⟨(t.outs.getD k 0).toNat, by omega⟩
        have hql : q < rs.length := by omega
        have hqi : (q : Int) < (rs.length : Int) := by omega
        obtain ⟨b5, o5, rfl, hb5, hall5⟩ := ((R1.below hw (Nat.le_refl _)).resolve_left (by intro e; rw [e] at hql; simp at hql))
        have f1 := hall5 q hql
        have HL2 : Hid ((xs ++ [rs.getD q 0]).length = k + 1) := by show _ = _; simp [HL.out]
        have HX2 : Hid (xs ++ [rs.getD q 0] = pick rs (t.outs.take (k + 1))) := by show _ = _; rw [HX.out, ← pick_take hlt, hq, Int.toNat_natCast]
        have hcs := ho.cellAt k (by rw [fillz_len (by have := HL.out; omega)]; exact hlt)
        have hfr := ho.frz k
        have hset := ho.set k (rs.getD q 0)
        have hs2 : (fillz t.outs.length xs).set k (rs.getD q 0) = fillz t.outs.length (xs ++ [rs.getD q 0]) := by
          have h := fillz_set (n := t.outs.length) (xs := xs) (by have := HL.out; omega) (rs.getD q 0)
          rw [HL.out] at h; exact h
        rw [hs2] at hset
        have hw2 := hw.setCell (p := ⟨w1.heap.size, k, none⟩) (Nat.le_refl _) (.int .i64 (rs.getD q 0))
        rw [hq] at f0
        clear hall4 hall5 q0 q1 hq HX ho hs2 HL R1
        generalize rs.getD q 0 = x at *
        go_wp2_with fail
        go_roundw
        case rel => exact ⟨k + 1, _, by omega, by go_num, HL2, HX2, hset, hw2⟩
        case measure => simp [intOf]; omega
      · have hii : ¬ (k : Int) < (t.outs.length : Int) := by omega
        have hki : k = t.outs.length := by omega
        subst hki
        have HF : Hid (outR t l = xs) := by show _ = _; rw [HE.out.1, HX.out, List.take_length]
        have ho2 : Own w1.heap.size wr w1.heap.size t.outs.length xs := by have h := ho; rwa [fillz_full HL.out] at h
        clear HX ho
        go_wp2_with fail
        go_ret2
        exact ⟨_, _, sl2_eq (by rw [HF.out, HL.out]) HE.out.2.symm, by rw [HF.out]; exact (ho2.mono hw12).a, A3⟩
  · have HE : Hid (outR t l = []) := outR_no h0
    have hne : (regC t l != 0) = true := by simp [h0]
    obtain ⟨c0, c1, c2, c3⟩ := id T0
    clear h0
    generalize regC t l = rc at *
    go_enter Try.func66, Try.ntmps66
    go_wp2_with fail
    rw [← hw0]
    clear hw0
    refine HW.out.mono ?_; rintro e w1 ⟨g1, k1, rfl, o1, b1⟩
    have A1 := A0.trans (b1.mono A0.size)
    clear HW c0 c1 c2 c3
    go_wp2_with fail
    go_ret2
    exact ⟨_, _, sl2_eq (by rw [HE.out]; rfl) rfl, .inl HE.out, A1⟩

theorem outR_of {t : Tp} {l : List Int} (h : askC t l = 0) : RRunTape t l = outR t l ∧ CRunTape t l = regC t l := by
  obtain ⟨h1, h2⟩ := regR_of h
  unfold RRunTape CRunTape outR
  rw [h1, h2]; exact ⟨rfl, rfl⟩

set_option maxRecDepth 100000 in
set_option maxHeartbeats 1600000 in
theorem iRunTape (t : Tp) (ac : Option Addr) (cc : Nat) (ag : Option Addr) (cg : Nat) (ao : Option Addr) (co : Nat) (a : Option Addr) (ca : Nat) (l : List Int) (w : World) (hP : Tat w 0 w.heap.size t ac ag ao) (hA : At w a l) (hR : Rng l) (hl : l.length ≤ 1048576) (hs : tpSize t ≤ 1048576) :
    Calls Try.prog 31 #[tpv t ac cc ag cg ao co, .slice a l.length ca] w (Res2 w (RRunTape t l) (CRunTape t l)) := by
  unfold tpv
  obtain ⟨w0, hw0⟩ : ∃ w0, w0 = w.alloc (.cells #[.int .i64 t.inputs, .slice ac t.code.length cc, .slice ag t.guards.length cg, .slice ao t.outs.length co] 32) := ⟨_, rfl⟩
  have A0 : Below w.heap.size w w0 := by rw [hw0]; exact (Below.refl _ _).alloc (Nat.le_refl _) _
  have T0 : Tcl w0 w.heap.size t ac cc ag cg ao co := by rw [hw0]; exact tcl_new w t ac cc ag cg ao co 32
  have z0 : w0.heap.size = w.heap.size + 1 := by rw [hw0]; simp
  obtain ⟨wb, hwb⟩ : ∃ wb, wb = w0.alloc (.cells #[.slice a l.length ca] 24) := ⟨_, rfl⟩
  have Ab : Below w0.heap.size w0 wb := by rw [hwb]; exact (Below.refl _ _).alloc (Nat.le_refl _) _
  have Lb : Lsa wb w0.heap.size [l] := by rw [hwb]; exact lsa_one (hA.below A0 (Nat.le_refl _)) hl _
  have A1 := A0.trans (Ab.mono A0.size)
  have HV := Lib.hid (iCheckTape t ac cc ag cg ao co w0.heap.size 1 [l] wb (hP.next A1) Lb (by simp) hs)
  rw [chkC_one] at HV
  have Tb := T0.next Ab
  have lb0 := T0.lt
  clear Lb T0
  go_enter Try.func31, Try.ntmps31
  go_wp2_with fail
  rw [← hw0]
  rw [← hwb, ← z0]
  clear hw0 hwb z0
  refine HV.out.mono ?_; rintro e w1 ⟨rfl, b1⟩
  have A2 := A1.trans (b1.mono A1.size)
  have T1 := Tb.next b1
  clear HV Tb b1 Ab lb0
  by_cases h0 : askC t l = 0
  · obtain ⟨h1, h2, h3⟩ := askC_zero h0
    have ht := tapeB_ok h1
    have HE := Lib.hid (outR_of h0)
    have HW := Lib.hid (iOutsWith t ac cc ag cg ao co a ca l w1 (hP.next A2) ht (hA.below A2 (Nat.le_refl _)) hl (by omega) h3)
    rw [h0]
    obtain ⟨c0, c1, c2, c3⟩ := id T1
    clear h0 h1 h2 h3 ht hP hA A1
    go_wp2_with fail
    refine HW.out.mono ?_; rintro e w2 ⟨g, c, rfl, o2, b2⟩
    clear HW c0 c1 c2 c3
    go_wp2_with fail
    go_ret2
    exact ⟨_, _, sl2_eq (by rw [HE.out.1]) HE.out.2.symm, by rw [HE.out.1]; exact o2.mono A2.size, A2.trans (b2.mono A2.size)⟩
  · have HR : Hid (RRunTape t l = [] ∧ CRunTape t l = askC t l) := by constructor <;> simp [RRunTape, CRunTape, CRegistersOf, h0]
    have hne : (askC t l != 0) = true := by simp [h0]
    clear h0
    generalize askC t l = c at *
    go_wp2_with fail
    go_ret2
    exact ⟨_, _, sl2_eq (by rw [HR.out.1]; rfl) HR.out.2.symm, .inl HR.out.1, A2⟩

end Go.Proofs.Ytjopjdhifbbhdaa
