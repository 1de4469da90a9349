/- Tapes: the registers for numbers, by the program. -/
import Derived.Test.YtggojffmfjeikaaTnu
import Derived.Test.YtggojffmfjeikaaTck
namespace Go.Proofs.Ytggojffmfjeikaa
open Go.RowKit
set_option linter.unusedVariables false

/-- all registers, and the code -/
def regR (t : Tp) (l : List Int) : List Int := (runV t l t.code.length).getD []
def regC (t : Tp) (l : List Int) : Int := if runV t l t.code.length = none then 6 else 0
theorem reg_none {t : Tp} {l : List Int} (h : runV t l t.code.length = none) : regR t l = [] ∧ regC t l = 6 := by
  unfold regR regC; rw [h]; exact ⟨rfl, if_pos rfl⟩
theorem reg_some {t : Tp} {l rs : List Int} (h : runV t l t.code.length = some rs) : regR t l = rs ∧ regC t l = 0 := by
  unfold regR regC; rw [h]; exact ⟨rfl, if_neg (by simp)⟩
theorem run_next {t : Tp} {l rs : List Int} {k : Nat} (h : runV t l k = some rs) : runV t l (k + 1) = (valV (t.code.getD k no4) l rs).map fun r => rs ++ [r] := by
  rw [runV, h]; rfl

set_option maxRecDepth 100000 in
set_option maxHeartbeats 1600000 in
theorem iRegistersWith (t : Tp) (ac : Option Addr) (cc : Nat) (ag : Option Addr) (cg : Nat) (ao : Option Addr) (co : Nat) (a : Option Addr) (ca : Nat) (l : List Int) (w : World) (hP : Tat w 0 w.heap.size t ac ag ao) (ht : Okt t) (hA : At w a l) (hl : l.length ≤ 1048576) (hin : t.inputs ≤ l.length) (hn : Nums l) :
    Calls Try.prog 103 #[ofN, tpv t ac cc ag cg ao co, .slice a l.length ca] w (Res2 w (regR t l) (regC t l)) := by
  unfold tpv
  obtain ⟨i0, hi, hz0, hz1, hz2⟩ := info_parts info64
  have hcs := ht.size
  obtain ⟨w0, hw0⟩ : ∃ w0, w0 = w.alloc (.cells #[.int .i64 t.inputs, .slice ac t.code.length cc, .slice ag t.guards.length cg, .slice ao t.outs.length co] 53) := ⟨_, rfl⟩
  have A0 : Below w.heap.size w w0 := by rw [hw0]; exact (Below.refl _ _).alloc (Nat.le_refl _) _
  have T0 : Tcl w0 w.heap.size t ac cc ag cg ao co := by rw [hw0]; exact tcl_new w t ac cc ag cg ao co 53
  have z0 : w0.heap.size = w.heap.size + 1 := by rw [hw0]; simp
  obtain ⟨c0, c1, c2, c3⟩ := id T0
  go_enter Try.func103, Try.ntmps103
  go_wp2_with (refine wpList_make_own _ rfl _ _ 37 rfl (w.heap.size + 1) 2 i0 (.int .i64 0) 1 Try.underlying37 hi hz0 hz1 .i64 .i64 _ t.code.length rfl rfl rfl ?c2 ?c3 (by simp) ?_)
  case c2 => rw [hz2]; omega
  case c3 => unfold maxLen; omega
  intro w2 ho2 hg2
  rw [← hw0] at hg2
  clear hw0
  rw [← z0] at ho2 ⊢
  clear z0
  have z0 := A0.size
  have O2 : Own w0.heap.size w2 w0.heap.size t.code.length ([] : List Int) := ho2
  have b2 : Below w0.heap.size w0 w2 := (Below.refl _ _).grown hg2 (Nat.le_refl _) (by intro k hk; cases hk)
  have A2 := A0.trans (b2.mono A0.size)
  have T2 := T0.next b2
  clear ho2 hg2 T0 c0 c1 c2 c3 b2
  obtain ⟨c0, c1, c2, c3⟩ := id T2
  go_wp2_with fail
  clear c0 c1 c2 c3
  have HP := Lib.hid hP
  have HA := Lib.hid hA
  clear hP hA
  go_loopw [8, 20] (fun v q wr => ∃ (k : Nat) (rs : List Int), k ≤ t.code.length ∧ q = .int .i64 k ∧ rs.length = k ∧ v = .slice (some ⟨w0.heap.size, 0, none⟩) rs.length t.code.length ∧ Hid (runV t l k = some rs) ∧ Own w0.heap.size wr w0.heap.size t.code.length rs ∧ Below w.heap.size w wr) (fun _ q _ => t.code.length - (intOf q).toNat)
  case atStart => exact ⟨0, [], Nat.zero_le _, rfl, rfl, rfl, rfl, O2, A2⟩
  case round =>
    obtain ⟨k, rs, hk, rfl, hrl, rfl, HX, ho, hw⟩ := hrel
    subst hrl
    clear O2 A2 T2
    by_cases hlt : rs.length < t.code.length
    · have hii : (rs.length : Int) < (t.code.length : Int) := by omega
      obtain ⟨bf, of, rfl, hbB, hall⟩ := ((HP.out.code.below hw).resolve_left (by intro e; rw [e] at hlt; simp at hlt))
      obtain ⟨hr, f0, f1, f2, f3⟩ := hall rs.length hlt
      have hx := ht.code rs.length hlt
      have hnr := (runV_ok ht hn (by omega) HX.out).2
      have HN := Lib.hid (run_next HX.out)
      have hwz := hw.size
      have hlw := ho.base
      have HC := fun (W : World) (hW : Below wr.heap.size wr W) => Lib.hid (iOutcome (t.code.getD rs.length no4) rs.length t.inputs a ca l (some ⟨w0.heap.size, 0, none⟩) t.code.length rs W hx rfl (by omega) hin hl hn hnr ((HA.out.below hw (Nat.le_refl _)).below hW (Nat.le_refl _)) (ho.at.below hW (Nat.le_refl _)))
      clear hall hr
      cases hv : valV (t.code.getD rs.length no4) l rs with
      | none =>
        have HR := Lib.hid (reg_none (runV_none (show runV t l (rs.length + 1) = none by rw [HN.out, hv]; rfl) t.code.length (by omega)))
        obtain ⟨e1, e2⟩ := out_none hv
        rw [e1, e2] at HC
        clear e1 e2 hv HN HX hx
        generalize t.code.getD rs.length no4 = f at *
        go_wp2_with fail
        refine (HC _ ((Below.refl _ _).alloc (Nat.le_refl _) _)).out.mono ?_; rintro e w1 ⟨rfl, b1⟩
        have hw2 := (hw.alloc hw.size (.cells #[.int .i64 f.op, .int .i64 f.a, .int .i64 f.b, .int .i64 f.num] 85)).trans (b1.mono (by simp; omega))
        clear HC f0 f1 f2 f3
        go_wp2_with fail
        go_ret2
        exact ⟨_, _, ret_sl2 (by rw [HR.out.1]; rfl) HR.out.2.symm, .inl HR.out.1, hw2⟩
      | some v =>
        obtain ⟨e1, e2⟩ := out_some hv
        rw [e1, e2] at HC
        have HX2 : Hid (runV t l (rs.length + 1) = some (rs ++ [v])) := by show _ = _; rw [HN.out, hv]; rfl
        clear e1 e2 hv HN HX hx
        generalize t.code.getD rs.length no4 = f at *
        go_wp2_with fail
        refine (HC _ ((Below.refl _ _).alloc (Nat.le_refl _) _)).out.mono ?_; rintro e w1 ⟨rfl, b1⟩
        have hw2 := (hw.alloc hw.size (.cells #[.int .i64 f.op, .int .i64 f.a, .int .i64 f.b, .int .i64 f.num] 85)).trans (b1.mono (by simp; omega))
        have ho2 := (ho.kept ((Below.refl _ _).alloc (Nat.le_refl _) (.cells #[.int .i64 f.op, .int .i64 f.a, .int .i64 f.b, .int .i64 f.num] 85)) hlw.2).kept b1 (by simp; omega)
        have hzw := b1.size
        have hzz := hw2.size
        have hob := Lib.hid (fun q hq => (World.ownsRow.lt ho2 q hq).1)
        clear HC f0 f1 f2 f3 ho hw b1 hlw
        go_wp2_with (at_builtin; go_loud (refine wpList_append_fits _ rfl _ _ _ rfl w0.heap.size 2 i0 1 Try.underlying37 hi hz1 w0.heap.size rs.length t.code.length (rs.map (Value.int .i64)) rfl (ho2.alloc _) ⟨w1.heap.size, 0, none⟩ 1 1 [.int .i64 v] rfl rfl (World.news_of_block (cs := #[.int .i64 v]) (t := 2) (fr := (0, 0)) (heap_alloc_new w1 _)) (by simp [Value.oneCell']) (by omega) ?_); intro w3 hown3 hgrow)
        have hw3 := (hw2.alloc hw2.size (.cells #[.int .i64 v] 2)).grown hgrow (by simp; omega) (by intro q hq; cases hq; omega)
        have ho3 := own_appended hown3
        go_roundw
        case rel => exact ⟨rs.length + 1, rs ++ [v], by omega, by go_num, by simp, by simp, HX2, ho3, hw3⟩
        case measure => simp [intOf]; omega
    · have hii : ¬ (rs.length : Int) < (t.code.length : Int) := by omega
      have hki : rs.length = t.code.length := by omega
      have HR := Lib.hid (reg_some (by rw [← hki]; exact HX.out))
      clear hki
      clear HX
      go_wp2_with fail
      go_ret2
      exact ⟨_, _, ret_sl2 (by rw [HR.out.1]) HR.out.2.symm, by rw [HR.out.1]; exact (ho.mono (by omega)).a, hw⟩

end Go.Proofs.Ytggojffmfjeikaa
