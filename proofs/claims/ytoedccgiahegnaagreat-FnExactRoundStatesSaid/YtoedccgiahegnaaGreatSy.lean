/- The model: which programs are valid. The model: which expressions and functions are valid. The model: which programs are valid. -/
import Derived.Test.YtoedccgiahegnaaGreatSv
namespace Go.Proofs.YtoedccgiahegnaaGreat
open Go.RowKit
set_option linter.unusedVariables false

theorem treeB_cons {fs : List Fn} {funcs : Int} {ks : Fo} {i : Nat} {k n p c : Int} {kk : Fo} (h : Fo.drop i ks = .cons k n p c kk (Fo.drop (i + 1) ks)) (vars q : Int) (j : Nat) :
    treeB fs funcs (Fo.drop i ks) vars q j = ((nodeB fs (vars + more q j) funcs k n p c kk.len && treeB fs funcs kk (vars + more q j) k 0) && treeB fs funcs (Fo.drop (i + 1) ks) vars q (j + 1)) := by
  rw [h]; rfl

set_option maxRecDepth 100000 in
set_option maxHeartbeats 3200000 in
theorem sTree_all (fs : List Fn) (bp op : Nat) (ap : Option Addr) (capp : Nat) (funcs : Int) (hf : 0 ≤ funcs ∧ funcs ≤ (fs.length : Int)) (hl : fs.length ≤ 1048576) :
    ∀ (m : Nat) (ks : Fo), ks.size < m → ∀ (b off : Nat) (k n p c : Int) (a : Option Addr) (cap : Nat) (vars : Int) (w : World),
    w.cell? ⟨bp, op, none⟩ = some (.slice ap fs.length capp) → Pat w 0 w.heap.size fs ap → NodeAt w b off k n p c ks.len a cap → R4 k n p c → Fat w 0 w.heap.size ks a → (0 ≤ vars ∧ vars + (ks.size : Int) ≤ 2097152 ∧ ks.size ≤ 1048576) →
    Calls Tryz.prog 142 #[.pointer (some ⟨bp, op, none⟩), .pointer (some ⟨b, off, none⟩), .int .i64 vars, .int .i64 funcs] w (Quiet (.bool (nodeB fs vars funcs k n p c ks.len && treeB fs funcs ks vars k 0)) w) := by
  intro m
  induction m with
  | zero => intro f hf; omega
  | succ m ih =>
    intro ks hks b off k n p c a cap vars w hp hP hN hR hF hv
    have hll := Fo.len_le ks
    have hlen2 : ks.len ≤ 1048576 := by omega
    have HC := Lib.hid (sNode fs bp op ap capp b off k n p c ks.len a cap vars funcs w hp hP hN hR (by omega) hf hl hlen2)
    cases hnb : nodeB fs vars funcs k n p c ks.len with
    | false =>
      have HF : Hid ((false && treeB fs funcs ks vars k 0) = false) := rfl
      rw [hnb] at HC
      clear hnb hN hF hP hp
      generalize (false && treeB fs funcs ks vars k 0) = T at HF
      go_enter Tryz.func142, Tryz.ntmps142
      go_wp2_with fail
      refine (HC.out).mono ?_; rintro e w' ⟨rfl, hq⟩
      obtain ⟨q, rfl⟩ := hq
      go_wp2_with fail
      go_ret
      exact ⟨ret_bool HF.out.symm, q, rfl⟩
    | true =>
      have H0 : Hid ((true && treeB fs funcs ks vars k 0) = treeB fs funcs (Fo.drop 0 ks) vars k 0) := by
        show _ = _
        rw [Fo.drop_zero, Bool.true_and]
      rw [hnb] at HC
      clear hnb
      generalize (true && treeB fs funcs ks vars k 0) = T at H0
      have hN' := Lib.hid hN
      have hPp := Lib.hid (And.intro hp hP)
      obtain ⟨c0, c1, c2, c3, c4⟩ := hN
      clear hp hP
      go_enter Tryz.func142, Tryz.ntmps142
      go_wp2_with fail
      refine (HC.out).mono ?_; rintro e w' ⟨rfl, hq⟩
      obtain ⟨q, rfl⟩ := hq
      have HQ0 : Hid (∃ q', w.drewN q = w.drewN q') := ⟨q, rfl⟩
      clear HC
      go_wp2_with fail
      go_loopw [9] (fun j wr => ∃ i : Nat, i ≤ ks.len ∧ j = .int .i64 i ∧ Hid (T = treeB fs funcs (Fo.drop i ks) vars k i) ∧ Hid (∃ q', wr = w.drewN q')) (fun j _ => ks.len - (intOf j).toNat)
      case atStart => exact ⟨0, Nat.zero_le _, rfl, H0, HQ0⟩
      case round =>
        obtain ⟨i, hi0, rfl, HX, HQ⟩ := hrel
        obtain ⟨hp, hP⟩ := hPp.out
        have wr_cell : ∀ {x v}, w.cell? x = some v → wr.cell? x = some v := fun {x v} h => by obtain ⟨q', hq'⟩ := HQ.out; rw [hq']; exact h
        have wr_pat : Pat w 0 w.heap.size fs ap → Pat wr 0 wr.heap.size fs ap := fun h => by obtain ⟨q', hq'⟩ := HQ.out; rw [hq']; exact h.agree (fun _ _ _ => rfl)
        have g0 := wr_cell c0
        have g4 := wr_cell c4
        clear H0 HQ0 hPp
        by_cases hlt : i < ks.len
        · have hi : (i : Int) < (ks.len : Int) := by omega
          obtain ⟨b1, o1, rfl, hbB⟩ := hF.blk (by omega)
          have hFr : Fat wr 0 wr.heap.size ks (some ⟨b1, o1, none⟩) := by obtain ⟨q', hq'⟩ := HQ.out; rw [hq']; exact Fat.agree (w := w) (w' := w.drewN q') (fun _ _ _ => rfl) hF
          obtain ⟨k1, n1, p1, c1', kk, a2, cap2, hdr, hr, hkl, d0, d1, d2, d3, d4, hk'⟩ := hFr.node hlt
          have hlt' := Fo.kid_lt hdr
          have HU := Lib.hid (treeB_cons (fs := fs) (funcs := funcs) hdr vars k i)
          clear hdr hFr hbB c0 c1 c2 c3 c4
          rcases (by omega : k ≠ 9 ∨ (k = 9 ∧ i ≠ 1) ∨ (k = 9 ∧ i = 1)) with h9 | ⟨h9, h1⟩ | ⟨h9, h1⟩
          ·
            have HV : Hid (vars + more k i = vars) := by
              show _ = _
              unfold more
              rw [if_neg (by omega)]; omega
            have HC := Lib.hid (ih kk (by omega) b1 (o1 + i * 5) k1 n1 p1 c1' a2 cap2 (vars) wr (wr_cell hp) (wr_pat hP) ⟨d0, d1, d2, d3, d4⟩ hr hk' (by omega))
            rw [HV.out] at HU
            clear HV hk' hF hr hkl hlt' ih hP hp
            have DD : (k == 9) = false := ne_beq h9
            clear h9 wr_cell wr_pat
            go_wp2_with fail
            refine (HC.out).mono ?_; rintro e w' ⟨rfl, hq2⟩
            obtain ⟨q2, rfl⟩ := hq2
            clear HC d0 d1 d2 d3 d4 g0 g4 DD
            cases hz : (nodeB fs vars funcs k1 n1 p1 c1' kk.len && treeB fs funcs kk vars k1 0) with
            | true =>
              have HX2 : Hid (T = treeB fs funcs (Fo.drop (i + 1) ks) vars k (i + 1)) := by
                show _ = _
                rw [HX.out, HU.out, hz, Bool.true_and]
              have HQ2 : Hid (∃ q, wr.drewN q2 = w.drewN q) := by
                obtain ⟨q, hq⟩ := HQ.out
                exact ⟨q + q2, by rw [hq, World.drewN_drewN]⟩
              clear hz HX HU HQ
              go_wp2_with fail
              go_roundw
              case rel => exact ⟨i + 1, by omega, by go_num, HX2, HQ2⟩
              case measure => simp [intOf]; omega
            | false =>
              have HX2 : Hid (T = false) := by
                show _ = _
                rw [HX.out, HU.out, hz, Bool.false_and]
              have HQ2 : Hid (∃ q, wr.drewN q2 = w.drewN q) := by
                obtain ⟨q, hq⟩ := HQ.out
                exact ⟨q + q2, by rw [hq, World.drewN_drewN]⟩
              clear hz HX HU HQ
              go_wp2_with fail
              go_ret
              exact ⟨ret_bool HX2.out.symm, HQ2.out⟩
          ·
            have HV : Hid (vars + more k i = vars) := by
              show _ = _
              unfold more
              rw [if_neg (by omega)]; omega
            have HC := Lib.hid (ih kk (by omega) b1 (o1 + i * 5) k1 n1 p1 c1' a2 cap2 (vars) wr (wr_cell hp) (wr_pat hP) ⟨d0, d1, d2, d3, d4⟩ hr hk' (by omega))
            rw [HV.out] at HU
            clear HV hk' hF hr hkl hlt' ih hP hp
            have DD : ((i : Int) == 1) = false := ne_beq (by omega)
            subst h9
            clear h1 wr_cell wr_pat
            go_wp2_with fail
            refine (HC.out).mono ?_; rintro e w' ⟨rfl, hq2⟩
            obtain ⟨q2, rfl⟩ := hq2
            clear HC d0 d1 d2 d3 d4 g0 g4 DD
            cases hz : (nodeB fs vars funcs k1 n1 p1 c1' kk.len && treeB fs funcs kk vars k1 0) with
            | true =>
              have HX2 : Hid (T = treeB fs funcs (Fo.drop (i + 1) ks) vars 9 (i + 1)) := by
                show _ = _
                rw [HX.out, HU.out, hz, Bool.true_and]
              have HQ2 : Hid (∃ q, wr.drewN q2 = w.drewN q) := by
                obtain ⟨q, hq⟩ := HQ.out
                exact ⟨q + q2, by rw [hq, World.drewN_drewN]⟩
              clear hz HX HU HQ
              go_wp2_with fail
              go_roundw
              case rel => exact ⟨i + 1, by omega, by go_num, HX2, HQ2⟩
              case measure => simp [intOf]; omega
            | false =>
              have HX2 : Hid (T = false) := by
                show _ = _
                rw [HX.out, HU.out, hz, Bool.false_and]
              have HQ2 : Hid (∃ q, wr.drewN q2 = w.drewN q) := by
                obtain ⟨q, hq⟩ := HQ.out
                exact ⟨q + q2, by rw [hq, World.drewN_drewN]⟩
              clear hz HX HU HQ
              go_wp2_with fail
              go_ret
              exact ⟨ret_bool HX2.out.symm, HQ2.out⟩
          ·
            have HV : Hid (vars + more k i = vars + 1) := by
              show _ = _
              unfold more
              rw [if_pos ⟨h9, h1⟩]
            have HC := Lib.hid (ih kk (by omega) b1 (o1 + i * 5) k1 n1 p1 c1' a2 cap2 (vars + 1) wr (wr_cell hp) (wr_pat hP) ⟨d0, d1, d2, d3, d4⟩ hr hk' (by omega))
            rw [HV.out] at HU
            clear HV hk' hF hr hkl hlt' ih hP hp
            have DD : ((i : Int) == 1) = true := by simp [h1]
            subst h9
            clear h1 wr_cell wr_pat
            go_wp2_with fail
            refine (HC.out).mono ?_; rintro e w' ⟨rfl, hq2⟩
            obtain ⟨q2, rfl⟩ := hq2
            clear HC d0 d1 d2 d3 d4 g0 g4 DD
            cases hz : (nodeB fs (vars + 1) funcs k1 n1 p1 c1' kk.len && treeB fs funcs kk (vars + 1) k1 0) with
            | true =>
              have HX2 : Hid (T = treeB fs funcs (Fo.drop (i + 1) ks) vars 9 (i + 1)) := by
                show _ = _
                rw [HX.out, HU.out, hz, Bool.true_and]
              have HQ2 : Hid (∃ q, wr.drewN q2 = w.drewN q) := by
                obtain ⟨q, hq⟩ := HQ.out
                exact ⟨q + q2, by rw [hq, World.drewN_drewN]⟩
              clear hz HX HU HQ
              go_wp2_with fail
              go_roundw
              case rel => exact ⟨i + 1, by omega, by go_num, HX2, HQ2⟩
              case measure => simp [intOf]; omega
            | false =>
              have HX2 : Hid (T = false) := by
                show _ = _
                rw [HX.out, HU.out, hz, Bool.false_and]
              have HQ2 : Hid (∃ q, wr.drewN q2 = w.drewN q) := by
                obtain ⟨q, hq⟩ := HQ.out
                exact ⟨q + q2, by rw [hq, World.drewN_drewN]⟩
              clear hz HX HU HQ
              go_wp2_with fail
              go_ret
              exact ⟨ret_bool HX2.out.symm, HQ2.out⟩
        · have hi : ¬ (i : Int) < (ks.len : Int) := by omega
          have HX2 : Hid (T = true) := by
            show _ = _
            rw [HX.out, Fo.drop_end (by omega)]; rfl
          clear HX c0 c1 c2 c3 c4 wr_cell wr_pat hp hP
          go_wp2_with fail
          go_ret
          exact ⟨ret_bool HX2.out.symm, HQ.out⟩

end Go.Proofs.YtoedccgiahegnaaGreat

namespace Go.Proofs.YtoedccgiahegnaaGreat
open Go.RowKit
set_option linter.unusedVariables false

theorem sVarsT (v : Int) (h : 0 ≤ v ∧ v ≤ 412) (w : World) : Calls Tryz.prog 140 #[.int .i64 v] w fun e w' => e = .returned (.bool true) ∧ w = w' := by
  go_enter Tryz.func140, Tryz.ntmps140
  go_wp2_with fail
  refine (inT v 0 412 h.1 h.2 _).mono ?_; rintro e w' ⟨rfl, rfl⟩
  go_wp2_with fail
  go_ret
  exact ⟨rfl, rfl⟩
theorem sVarsF (v : Int) (h : ¬ (0 ≤ v ∧ v ≤ 412)) (w : World) : Calls Tryz.prog 140 #[.int .i64 v] w fun e w' => e = .returned (.bool false) ∧ w = w' := by
  go_enter Tryz.func140, Tryz.ntmps140
  go_wp2_with fail
  refine (inF v 0 412 (by omega) _).mono ?_; rintro e w' ⟨rfl, rfl⟩
  go_wp2_with fail
  go_ret
  exact ⟨rfl, rfl⟩

/-- a node and its kids are valid -/
def exprE (fs : List Fn) (vars funcs : Int) (k n p c : Int) (ks : Fo) : Bool :=
  decide (0 ≤ vars ∧ vars ≤ 412) && (decide (0 ≤ funcs ∧ funcs ≤ (fs.length : Int)) && (decide (ks.size + 1 ≤ 400) && (decide (ks.depth + 1 ≤ 60) && (nodeB fs vars funcs k n p c ks.len && treeB fs funcs ks vars k 0))))

set_option maxRecDepth 100000 in
set_option maxHeartbeats 3200000 in
theorem sExpr (fs : List Fn) (bp op : Nat) (ap : Option Addr) (capp : Nat) (b off : Nat) (k n p c : Int) (ks : Fo) (a : Option Addr) (cap : Nat) (vars funcs : Int) (w : World)
    (hp : w.cell? ⟨bp, op, none⟩ = some (.slice ap fs.length capp)) (hP : Pat w 0 w.heap.size fs ap) (hN : NodeAt w b off k n p c ks.len a cap) (hR : R4 k n p c) (hF : Fat w 0 w.heap.size ks a)
    (hl : fs.length ≤ 1048576) (hs : ks.size ≤ 1048576) :
    Calls Tryz.prog 125 #[.pointer (some ⟨bp, op, none⟩), .pointer (some ⟨b, off, none⟩), .int .i64 vars, .int .i64 funcs] w (Quiet (.bool (exprE fs vars funcs k n p c ks)) w) := by
  have HE : Hid (exprE fs vars funcs k n p c ks = (decide (0 ≤ vars ∧ vars ≤ 412) && (decide (0 ≤ funcs ∧ funcs ≤ (fs.length : Int)) && (decide (ks.size + 1 ≤ 400) && (decide (ks.depth + 1 ≤ 60) && (nodeB fs vars funcs k n p c ks.len && treeB fs funcs ks vars k 0)))))) := rfl
  generalize exprE fs vars funcs k n p c ks = T at HE
  by_cases h1 : 0 ≤ vars ∧ vars ≤ 412
  · by_cases h2 : 0 ≤ funcs ∧ funcs ≤ (fs.length : Int)
    · have hll := Fo.len_le ks
      have hkl : ks.len ≤ maxLen := by unfold maxLen; omega
      have HL := Lib.hid (sLeft_all (ks.size + 1) ks (by omega) b off a cap 400 w hN.c4 hF hkl (by omega) (by omega))
      have HD := Lib.hid (sDepth_all (ks.size + 1) ks (by omega) b off a cap w hN.c4 hF (by omega))
      have HT := Lib.hid (sTree_all fs bp op ap capp funcs h2 hl (ks.size + 1) ks (by omega) b off k n p c a cap vars w hp hP hN hR hF (by omega))
      have hln : (fs.length : Int) ≤ 1048576 := by omega
      clear hN hF hP hkl hll
      by_cases h3 : ks.size + 1 ≤ 400
      · have e3 : Hid (szv (ks.size + 1) 400 = 400 - ((ks.size + 1 : Nat) : Int)) := szv_t (by omega)
        rw [e3.out] at HL
        have hg : decide (0 ≤ 400 - ((ks.size + 1 : Nat) : Int)) = true := decide_eq_true (by omega)
        generalize 400 - ((ks.size + 1 : Nat) : Int) = lv at HL hg
        by_cases h4 : ks.depth + 1 ≤ 60
        · have HF : Hid (T = (nodeB fs vars funcs k n p c ks.len && treeB fs funcs ks vars k 0)) := by
            show _ = _
            rw [HE.out]; simp [h1, h2, h3, h4]
          have hg4 : decide (((ks.depth + 1 : Nat) : Int) ≤ 60) = true := decide_eq_true (by omega)
          generalize ks.depth + 1 = dv at HD hg4
          generalize (nodeB fs vars funcs k n p c ks.len && treeB fs funcs ks vars k 0) = tv at HT HF
          clear HE h3 h4
          go_enter Tryz.func125, Tryz.ntmps125
          go_wp2_with fail
          refine (sVarsT vars h1 _).mono ?_; rintro e w' ⟨rfl, rfl⟩
          go_wp2_with fail
          refine (inT funcs 0 (fs.length : Int) h2.1 h2.2 _).mono ?_; rintro e w' ⟨rfl, rfl⟩
          go_wp2_with fail
          refine (HL.out).mono ?_; rintro e w' ⟨rfl, rfl⟩
          go_wp2_with fail
          refine (HD.out).mono ?_; rintro e w' ⟨rfl, rfl⟩
          go_wp2_with fail
          refine (HT.out).mono ?_; rintro e w' ⟨rfl, hq⟩
          obtain ⟨q, rfl⟩ := hq
          go_wp2_with fail
          go_ret
          exact ⟨ret_bool HF.out.symm, q, rfl⟩
        · have HF : Hid (T = false) := by
            show _ = _
            rw [HE.out]; simp [h4]
          have hg4 : decide (((ks.depth + 1 : Nat) : Int) ≤ 60) = false := decide_eq_false (by omega)
          generalize ks.depth + 1 = dv at HD hg4
          clear HE h3 h4 HT
          go_enter Tryz.func125, Tryz.ntmps125
          go_wp2_with fail
          refine (sVarsT vars h1 _).mono ?_; rintro e w' ⟨rfl, rfl⟩
          go_wp2_with fail
          refine (inT funcs 0 (fs.length : Int) h2.1 h2.2 _).mono ?_; rintro e w' ⟨rfl, rfl⟩
          go_wp2_with fail
          refine (HL.out).mono ?_; rintro e w' ⟨rfl, rfl⟩
          go_wp2_with fail
          refine (HD.out).mono ?_; rintro e w' ⟨rfl, rfl⟩
          go_wp2_with fail
          go_ret
          exact ⟨ret_bool HF.out.symm, 0, rfl⟩
      · have HF : Hid (T = false) := by
          show _ = _
          rw [HE.out]; simp [h3]
        have e3 : Hid (szv (ks.size + 1) 400 = -1) := szv_neg (by omega)
        rw [e3.out] at HL
        clear HE h3 HT HD
        go_enter Tryz.func125, Tryz.ntmps125
        go_wp2_with fail
        refine (sVarsT vars h1 _).mono ?_; rintro e w' ⟨rfl, rfl⟩
        go_wp2_with fail
        refine (inT funcs 0 (fs.length : Int) h2.1 h2.2 _).mono ?_; rintro e w' ⟨rfl, rfl⟩
        go_wp2_with fail
        refine (HL.out).mono ?_; rintro e w' ⟨rfl, rfl⟩
        go_wp2_with fail
        go_ret
        exact ⟨ret_bool HF.out.symm, 0, rfl⟩
    · have HF : Hid (T = false) := by
        show _ = _
        rw [HE.out]; simp [h2]
      have hln : (fs.length : Int) ≤ 1048576 := by omega
      clear HE hN hF hP
      go_enter Tryz.func125, Tryz.ntmps125
      go_wp2_with fail
      refine (sVarsT vars h1 _).mono ?_; rintro e w' ⟨rfl, rfl⟩
      go_wp2_with fail
      refine (inF funcs 0 (fs.length : Int) (by omega) _).mono ?_; rintro e w' ⟨rfl, rfl⟩
      go_wp2_with fail
      go_ret
      exact ⟨ret_bool HF.out.symm, 0, rfl⟩
  · have HF : Hid (T = false) := by
      show _ = _
      rw [HE.out]; simp [h1]
    clear HE hN hF hP
    go_enter Tryz.func125, Tryz.ntmps125
    go_wp2_with fail
    refine (sVarsF vars h1 _).mono ?_; rintro e w' ⟨rfl, rfl⟩
    go_wp2_with fail
    go_ret
    exact ⟨ret_bool HF.out.symm, 0, rfl⟩

theorem quiet_q {P : Program} {f : FuncId} {args : Array Value} {w : World} {n : Nat} {v : Value}
    (h : Calls P f args (w.drewN n) (Quiet v (w.drewN n))) : Calls P f args (w.drewN n) fun e w'' => e = .returned v ∧ ∃ m, w'' = w.drewN m :=
  h.mono fun _ _ ⟨he, m, hm⟩ => ⟨he, n + m, by rw [hm, World.drewN_drewN]⟩
theorem quiet_q2 {P : Program} {f : FuncId} {args : Array Value} {w : World} {a n : Nat} {v : Value}
    (h : Calls P f args (w.drewN (a + n)) (Quiet v (w.drewN (a + n)))) : Calls P f args (w.drewN (a + n)) fun e w'' => e = .returned v ∧ ∃ m, w'' = w.drewN (a + m) :=
  h.mono fun _ _ ⟨he, m, hm⟩ => ⟨he, n + m, by rw [hm, World.drewN_drewN, Nat.add_assoc]⟩

theorem str_ne {a b : ByteArray} (h : ¬ a = b) : (a.toList == b.toList) = false := by
  rw [ByteArray.toList_eq, ByteArray.toList_eq, beq_eq_false_iff_ne]
  intro e
  apply h
  cases a with
  | mk x =>
    cases b with
    | mk y => congr 1; exact Array.toList_inj.1 e

theorem getD_take {l : List Fn} {i j : Nat} (h : j < i) : (l.take i).getD j noFn = l.getD j noFn := by
  simp [List.getD_eq_getElem?_getD, h]
theorem freshB_t {fs : List Fn} {s : ByteArray} {i : Nat} (h : ∀ j, j < i → (fs.getD j noFn).name ≠ s) : freshB fs s i = true := by
  unfold freshB
  rw [List.all_eq_true]
  intro f hf
  obtain ⟨j, hj, rfl⟩ := List.getElem_of_mem hf
  have hj2 : j < i := by simp at hj; omega
  have := h j hj2
  rw [← getD_take hj2, List.getD_eq_getElem?_getD, List.getElem?_eq_getElem hj] at this
  simpa using this
theorem freshB_f {fs : List Fn} {s : ByteArray} {i j : Nat} (h : j < i) (hl : j < fs.length) (he : (fs.getD j noFn).name = s) : freshB fs s i = false := by
  unfold freshB
  rw [List.all_eq_false]
  refine ⟨fs.getD j noFn, ?_, by rw [he]; simp⟩
  rw [← getD_take h, List.getD_eq_getElem?_getD, List.getElem?_eq_getElem (by simp; omega)]
  exact List.getElem_mem _
theorem accB_exprE {fs : List Fn} {vars funcs y : Int} {k n p c : Int} {kk : Fo} (h1 : 0 ≤ vars ∧ vars ≤ 412) (h2 : 0 ≤ funcs ∧ funcs ≤ (fs.length : Int)) (h3 : (kk.size : Int) + 1 ≤ y) (h4 : y ≤ 400) :
    accB fs funcs vars 60 y k n p c kk = exprE fs vars funcs k n p c kk := by
  have e1 : decide ((kk.size : Int) + 1 ≤ y) = true := decide_eq_true h3
  have e2 : decide (kk.size + 1 ≤ 400) = true := decide_eq_true (by omega)
  have e3 : decide ((kk.depth : Int) + 1 ≤ 60) = decide (kk.depth + 1 ≤ 60) := by congr 1; exact propext (by omega)
  unfold accB exprE
  rw [e1, e2, e3, decide_eq_true h1, decide_eq_true h2, Bool.true_and, Bool.true_and, Bool.true_and]
theorem fnsSize_name {l : List Fn} {k : Nat} (h : k < l.length) : (l.getD k noFn).name.size ≤ pgSize l ∧ (l.getD k noFn).outs.size ≤ pgSize l := by
  have := fnsSize_le h
  unfold pgSize
  unfold Fn.size at this
  omega

def fnTail (fs : List Fn) (i : Nat) : Bool := accF fs (i : Int) (fs.getD i noFn).params 0 0 60 400 (fs.getD i noFn).outs
theorem fnB_eq (fs : List Fn) (i : Nat) : fnB fs i = (isNm (fs.getD i noFn).name && (decide (0 ≤ (fs.getD i noFn).params ∧ (fs.getD i noFn).params ≤ 12) && (decide (1 ≤ (fs.getD i noFn).outs.len ∧ (fs.getD i noFn).outs.len ≤ 12) &&
    (freshB fs (fs.getD i noFn).name i && fnTail fs i)))) := by
  have e1 : decide ((((fs.getD i noFn).outs.size : Nat) : Int) ≤ 400) = decide ((fs.getD i noFn).outs.size ≤ 400) := by congr 1; exact propext (by omega)
  have e2 : decide ((((fs.getD i noFn).outs.depth : Nat) : Int) ≤ 60) = decide ((fs.getD i noFn).outs.depth ≤ 60) := by congr 1; exact propext (by omega)
  unfold fnB fnTail accF
  rw [e1, e2]

set_option maxRecDepth 100000 in
set_option maxHeartbeats 3200000 in
theorem sFunc (fs : List Fn) (bp op : Nat) (ap : Option Addr) (capp : Nat) (i : Nat) (w : World)
    (hp : w.cell? ⟨bp, op, none⟩ = some (.slice ap fs.length capp)) (hP : Pat w 0 w.heap.size fs ap) (hi : i < fs.length) (hsz : pgSize fs ≤ 1048576) :
    Calls Tryz.prog 101 #[.pointer (some ⟨bp, op, none⟩), .int .i64 i] w (Quiet (.bool (fnB fs i)) w) := by
  have hl : fs.length ≤ 1048576 := by unfold pgSize at hsz; omega
  have HE := Lib.hid (fnB_eq fs i)
  obtain ⟨hns, hos⟩ := fnsSize_name hi
  obtain ⟨bf, of, rfl, hbB, hall⟩ := (hP.resolve_left (by intro e; rw [e] at hi; simp at hi))
  have HA := Lib.hid hall
  obtain ⟨hr, af, cf, f0, f1, f2, hF⟩ := hall i hi
  have HT : Hid (fnTail fs i = accF fs (i : Int) (fs.getD i noFn).params 0 0 60 400 (fs.getD i noFn).outs) := rfl
  generalize hfi : fs.getD i noFn = fi at HE hns hos hr f0 f1 f2 hF HT
  clear hfi hall
  obtain ⟨nm, pa, ou⟩ := fi
  dsimp only at HE hns hos f0 f1 f2 hF HT
  have hpr := hr.2.1
  dsimp only at hpr
  have hpo : ou.len ≤ 1048576 := by have := Fo.len_le ou; omega
  have hns2 : nm.size ≤ 9223372036854775806 := by omega
  have hii : (i : Int) < (fs.length : Int) := by omega
  have hln : (fs.length : Int) ≤ 1048576 := by omega
  generalize fnB fs i = T at HE
  have HNm := fun W => Lib.hid (sName nm W hns2)
  clear hns hns2 hr
  cases h1 : isNm nm with
  | false =>
    have HF : Hid (T = false) := by
      show _ = _
      rw [HE.out, h1]; rfl
    rw [h1] at HNm
    clear HE h1 hF hP HA
    go_enter Tryz.func101, Tryz.ntmps101
    go_wp2_with fail
    refine (HNm _).out.mono ?_; rintro e w' ⟨rfl, rfl⟩
    go_wp2_with fail
    go_ret
    exact ⟨ret_bool HF.out.symm, 0, rfl⟩
  | true =>
    rw [h1] at HNm
    by_cases h2 : 0 ≤ pa ∧ pa ≤ 12
    · by_cases h3 : 1 ≤ ou.len ∧ ou.len ≤ 12
      · have HE2 : Hid (T = (freshB fs nm i && fnTail fs i)) := by
          show _ = _
          rw [HE.out, h1, decide_eq_true h2, decide_eq_true h3, Bool.true_and, Bool.true_and, Bool.true_and]
        clear HE h1
        go_enter Tryz.func101, Tryz.ntmps101
        go_wp2_with fail
        refine (HNm _).out.mono ?_; rintro e w' ⟨rfl, rfl⟩
        go_wp2_with fail
        refine (inT pa 0 12 h2.1 h2.2 _).mono ?_; rintro e w' ⟨rfl, rfl⟩
        go_wp2_with fail
        refine (inT (ou.len : Int) 1 12 (by omega) (by omega) _).mono ?_; rintro e w' ⟨rfl, rfl⟩
        go_wp2_with fail
        go_loopw [6] (fun q wr => ∃ j : Nat, j ≤ i ∧ q = .int .i64 j ∧ Hid (∀ t, t < j → (fs.getD t noFn).name ≠ nm) ∧ Hid (∃ m, wr = w.drewN m)) (fun q _ => i - (intOf q).toNat)
        case atStart => exact ⟨0, Nat.zero_le _, rfl, (fun t ht => by omega), ⟨0, rfl⟩⟩
        case round =>
          obtain ⟨j, hj, rfl, HX, HQ⟩ := hrel
          have wr_cell : ∀ {x v}, w.cell? x = some v → wr.cell? x = some v := fun {x v} h => by obtain ⟨q', hq'⟩ := HQ.out; rw [hq']; exact h
          have g0 := wr_cell f0
          have g1 := wr_cell f1
          have g2 := wr_cell f2
          have gp := wr_cell hp
          by_cases hlt : j < i
          · obtain ⟨hrj, aj, cj, k0, k1, k2, _⟩ := HA.out j (by omega)
            have l0 := wr_cell k0
            have hji : (j : Int) < (i : Int) := by omega
            have hjl : (j : Int) < (fs.length : Int) := by omega
            clear k0 k1 k2 hrj
            by_cases heq : (fs.getD j noFn).name = nm
            · have HF : Hid (T = false) := by
                show _ = _
                rw [HE2.out, freshB_f hlt (by omega) heq]; rfl
              clear HE2 HX HA HNm hF hP f0 f1 f2 hp wr_cell
              rw [heq] at l0
              clear heq
              go_wp2_with fail
              go_quiet (fail)
              go_wp2_with fail
              go_ret
              obtain ⟨q', hq'⟩ := HQ.out
              exact ⟨ret_bool HF.out.symm, q' + _, by rw [hq', World.drewN_drewN]⟩
            · have HX2 : Hid (∀ t, t < j + 1 → (fs.getD t noFn).name ≠ nm) := by
                intro t ht
                by_cases htj : t = j
                · rw [htj]; exact heq
                · exact HX.out t (by omega)
              clear HX HA
              generalize (fs.getD j noFn).name = nj at heq l0
              have hq := str_ne heq
              clear heq hF hP f0 f1 f2 hp wr_cell
              go_wp2_with fail
              go_quiet (fail)
              have HQ2 : ∀ r, Hid (∃ m, wr.drewN r = w.drewN m) := fun r => by
                obtain ⟨q', hq'⟩ := HQ.out
                exact ⟨q' + r, by rw [hq', World.drewN_drewN]⟩
              go_wp2_with fail
              go_roundw
              case rel => exact ⟨j + 1, by omega, by go_num, HX2, HQ2 _⟩
              case measure => simp [intOf]; omega
          · have hji : ¬ (j : Int) < (i : Int) := by omega
            obtain rfl : j = i := by omega
            have HE3 : Hid (T = accF fs (j : Int) pa 0 0 60 400 (Fo.drop 0 ou)) := by
              show _ = _
              rw [HE2.out, freshB_t HX.out, Bool.true_and, HT.out, Fo.drop_zero]
            have HQ0 := HQ
            clear HX HA HE2 HT HNm
            go_wp2_with fail
            go_loopw [7, 8] (fun l q wr => ∃ (t : Nat) (y : Int), t ≤ ou.len ∧ q = .int .i64 t ∧ l = .int .i64 y ∧ 0 ≤ y ∧ y ≤ 400 ∧ Hid (T = accF fs (j : Int) pa 0 t 60 y (Fo.drop t ou)) ∧ Hid (∃ m, wr = w.drewN m)) (fun _ q _ => ou.len - (intOf q).toNat)
            case atStart => exact ⟨0, 400, Nat.zero_le _, rfl, rfl, by omega, by omega, HE3, HQ0⟩
            case round =>
              obtain ⟨t, y, ht, rfl, rfl, hy0, hy1, HX, HQ⟩ := hrel
              clear HE3 HQ0 g0 g1 g2 gp wr_cell
              have wr_cell : ∀ {x v}, w.cell? x = some v → wr.cell? x = some v := fun {x v} h => by obtain ⟨q', hq'⟩ := HQ.out; rw [hq']; exact h
              have g1 := wr_cell f1
              have g2 := wr_cell f2
              by_cases hlt : t < ou.len
              · have hti : (t : Int) < (ou.len : Int) := by omega
                obtain ⟨b1, o1, rfl, _⟩ := hF.blk (by omega)
                obtain ⟨k1, n1, p1, c1, kk, a2, cap2, hdr, hr, hkl, d0, d1, d2, d3, d4, hk'⟩ := hF.node hlt
                have hlt' := Fo.kid_lt hdr
                have hsv := Fo.len_le kk
                have hFw : ∀ {f : Fo} {x : Option Addr}, Fat w 0 w.heap.size f x → Fat wr 0 wr.heap.size f x := fun {f x} h => by obtain ⟨q', hq'⟩ := HQ.out; rw [hq']; exact Fat.agree (w := w) (w' := w.drewN q') (fun _ _ _ => rfl) h
                have hPw : Pat wr 0 wr.heap.size fs (some ⟨bf, of, none⟩) := by obtain ⟨q', hq'⟩ := HQ.out; rw [hq']; exact hP.agree (w' := w.drewN q') (fun _ _ _ => rfl)
                have gp := wr_cell hp
                have HL := Lib.hid (sLeft_all (kk.size + 1) kk (by omega) b1 (o1 + t * 5) a2 cap2 y wr (wr_cell d4) (hFw hk') hkl (by omega) (by omega))
                have HEx := fun q => Lib.hid (sExpr fs bp op (some ⟨bf, of, none⟩) capp b1 (o1 + t * 5) k1 n1 p1 c1 kk a2 cap2 pa (j : Int) (wr.drewN q) gp (hPw.agree (w' := wr.drewN q) (fun _ _ _ => rfl)) ⟨wr_cell d0, wr_cell d1, wr_cell d2, wr_cell d3, wr_cell d4⟩ hr (Fat.agree (w := wr) (w' := wr.drewN q) (fun _ _ _ => rfl) (hFw hk')) (by omega) (by omega))
                have HU : Hid (T = (accB fs (j : Int) pa 60 y k1 n1 p1 c1 kk && accF fs (j : Int) pa 0 (t + 1) 60 (y - kk.size - 1) (Fo.drop (t + 1) ou))) := by
                  show _ = _
                  rw [HX.out, hdr, accF_cons]
                  show (accB fs (j : Int) (pa + 0) 60 y k1 n1 p1 c1 kk && _) = _
                  rw [Int.add_zero]
                have HQ2 : ∀ r, Hid (∃ m, wr.drewN r = w.drewN m) := fun r => by
                  obtain ⟨q', hq'⟩ := HQ.out
                  exact ⟨q' + r, by rw [hq', World.drewN_drewN]⟩
                clear hdr hr hkl d0 d1 d2 d3 d4 hk' hF hFw hPw hlt' wr_cell HX HQ hP f0 f1 f2 hp
                by_cases hs : (kk.size : Int) + 1 ≤ y
                · have e1 : Hid (szv (kk.size + 1) y = y - ((kk.size + 1 : Nat) : Int)) := szv_t (by omega)
                  have e2 : Hid (y - (kk.size : Int) - 1 = y - ((kk.size + 1 : Nat) : Int)) := by show _ = _; omega
                  rw [accB_exprE ⟨h2.1, by omega⟩ (by omega) hs hy1, e2.out] at HU
                  rw [e1.out] at HL
                  have hz0 : 0 ≤ y - ((kk.size + 1 : Nat) : Int) := by omega
                  have hz1 : y - ((kk.size + 1 : Nat) : Int) ≤ 400 := by omega
                  have hz2 : decide (y - ((kk.size + 1 : Nat) : Int) < 0) = false := decide_eq_false (by omega)
                  clear e1 e2 hs
                  generalize y - ((kk.size + 1 : Nat) : Int) = z at HU HL hz0 hz1 hz2
                  cases hex : exprE fs pa (j : Int) k1 n1 p1 c1 kk with
                  | true =>
                    rw [hex] at HEx HU
                    have HU2 : Hid (T = accF fs (j : Int) pa 0 (t + 1) 60 z (Fo.drop (t + 1) ou)) := by show _ = _; rw [HU.out, Bool.true_and]
                    clear hex HU
                    go_wp2_with fail
                    refine (HL.out).mono ?_; rintro e w' ⟨rfl, rfl⟩
                    go_wp2_with fail
                    go_quiet ((go_at_call 125; exact quiet_q (HEx _).out))
                    go_wp2_with fail
                    go_roundw
                    case rel => exact ⟨t + 1, z, by omega, by go_num, rfl, hz0, hz1, HU2, HQ2 _⟩
                    case measure => simp [intOf]; omega
                  | false =>
                    rw [hex] at HEx HU
                    have HU2 : Hid (T = false) := by show _ = _; rw [HU.out, Bool.false_and]
                    clear hex HU
                    go_wp2_with fail
                    refine (HL.out).mono ?_; rintro e w' ⟨rfl, rfl⟩
                    go_wp2_with fail
                    go_quiet ((go_at_call 125; exact quiet_q (HEx _).out))
                    go_wp2_with fail
                    go_ret
                    exact ⟨ret_bool HU2.out.symm, (HQ2 _).out⟩
                · have e1 : Hid (szv (kk.size + 1) y = -1) := szv_f (by omega)
                  rw [e1.out] at HL
                  have HU2 : Hid (T = false) := by
                    show _ = _
                    have : accB fs (j : Int) pa 60 y k1 n1 p1 c1 kk = false := by
                      cases hb : accB fs (j : Int) pa 60 y k1 n1 p1 c1 kk with
                      | false => rfl
                      | true => exact absurd (accB_size hb) hs
                    rw [HU.out, this, Bool.false_and]
                  clear HU HEx e1 hs
                  go_wp2_with fail
                  refine (HL.out).mono ?_; rintro e w' ⟨rfl, rfl⟩
                  go_wp2_with fail
                  go_quiet (fail)
                  go_wp2_with fail
                  go_ret
                  exact ⟨ret_bool HU2.out.symm, (HQ2 _).out⟩
              · have hti : ¬ (t : Int) < (ou.len : Int) := by omega
                have HU2 : Hid (T = true) := by
                  show _ = _
                  rw [HX.out, Fo.drop_end (by omega)]; exact accF_nil _ _ _ _ _ _ _ (by omega) hy0
                clear HX wr_cell hP f0 f1 f2 hp hF
                go_wp2_with fail
                go_ret
                exact ⟨ret_bool HU2.out.symm, HQ.out⟩
      · have HF : Hid (T = false) := by
          show _ = _
          rw [HE.out, decide_eq_false h3]; simp
        clear HE h1 HA
        go_enter Tryz.func101, Tryz.ntmps101
        go_wp2_with fail
        refine (HNm _).out.mono ?_; rintro e w' ⟨rfl, rfl⟩
        go_wp2_with fail
        refine (inT pa 0 12 h2.1 h2.2 _).mono ?_; rintro e w' ⟨rfl, rfl⟩
        go_wp2_with fail
        refine (inF (ou.len : Int) 1 12 (by omega) _).mono ?_; rintro e w' ⟨rfl, rfl⟩
        go_wp2_with fail
        go_ret
        exact ⟨ret_bool HF.out.symm, 0, rfl⟩
    · have HF : Hid (T = false) := by
        show _ = _
        rw [HE.out, decide_eq_false h2]; simp
      clear HE h1 HA
      go_enter Tryz.func101, Tryz.ntmps101
      go_wp2_with fail
      refine (HNm _).out.mono ?_; rintro e w' ⟨rfl, rfl⟩
      go_wp2_with fail
      refine (inF pa 0 12 (by omega) _).mono ?_; rintro e w' ⟨rfl, rfl⟩
      go_wp2_with fail
      go_ret
      exact ⟨ret_bool HF.out.symm, 0, rfl⟩

end Go.Proofs.YtoedccgiahegnaaGreat

namespace Go.Proofs.YtoedccgiahegnaaGreat
open Go.RowKit
set_option linter.unusedVariables false

theorem progB_t {fs : List Fn} (h : fs.length ≤ 16) (h2 : ∀ t, t < fs.length → fnB fs t = true) : progB fs = true := by
  unfold progB
  rw [decide_eq_true h, Bool.true_and, List.all_eq_true]
  intro x hx
  exact h2 x (by simpa using hx)
theorem progB_f {fs : List Fn} {t : Nat} (h : t < fs.length) (h2 : fnB fs t = false) : progB fs = false := by
  unfold progB
  have : (List.range fs.length).all (fnB fs) = false := by
    rw [List.all_eq_false]
    exact ⟨t, by simpa using h, by rw [h2]; simp⟩
  rw [this, Bool.and_false]
theorem progB_long {fs : List Fn} (h : ¬ fs.length ≤ 16) : progB fs = false := by
  unfold progB
  rw [decide_eq_false h, Bool.false_and]

set_option maxRecDepth 100000 in
set_option maxHeartbeats 3200000 in
theorem sOkP (fs : List Fn) (bp op : Nat) (ap : Option Addr) (capp : Nat) (w : World)
    (hp : w.cell? ⟨bp, op, none⟩ = some (.slice ap fs.length capp)) (hP : Pat w 0 w.heap.size fs ap) (hsz : pgSize fs ≤ 1048576) :
    Calls Tryz.prog 84 #[.pointer (some ⟨bp, op, none⟩)] w (Quiet (.bool (progB fs)) w) := by
  have hl : fs.length ≤ 1048576 := by unfold pgSize at hsz; omega
  by_cases h16 : fs.length ≤ 16
  · have hd : decide (16 < fs.length) = false := decide_eq_false (by omega)
    have hd2 : ¬ (16 : Int) < (fs.length : Int) := by omega
    go_enter Tryz.func84, Tryz.ntmps84
    go_wp2_with fail
    go_loopw [3] (fun q wr => ∃ i : Nat, i ≤ fs.length ∧ q = .int .i64 i ∧ Hid (∀ t, t < i → fnB fs t = true) ∧ Hid (∃ m, wr = w.drewN m)) (fun q _ => fs.length - (intOf q).toNat)
    case atStart => exact ⟨0, Nat.zero_le _, rfl, (fun t ht => by omega), ⟨0, rfl⟩⟩
    case round =>
      obtain ⟨i, hi, rfl, HX, HQ⟩ := hrel
      have gp : wr.cell? ⟨bp, op, none⟩ = some (.slice ap fs.length capp) := by obtain ⟨q', hq'⟩ := HQ.out; rw [hq']; exact hp
      by_cases hlt : i < fs.length
      · have hii : (i : Int) < (fs.length : Int) := by omega
        have hPw : Pat wr 0 wr.heap.size fs ap := by obtain ⟨q', hq'⟩ := HQ.out; rw [hq']; exact hP.agree (w' := w.drewN q') (fun _ _ _ => rfl)
        have HC := Lib.hid (sFunc fs bp op ap capp i wr gp hPw hlt hsz)
        have HQ2 : ∀ r, Hid (∃ m, wr.drewN r = w.drewN m) := fun r => by
          obtain ⟨q', hq'⟩ := HQ.out
          exact ⟨q' + r, by rw [hq', World.drewN_drewN]⟩
        clear hPw hP hp HQ
        cases hb : fnB fs i with
        | true =>
          have HX2 : Hid (∀ t, t < i + 1 → fnB fs t = true) := by
            intro t ht
            by_cases hti : t = i
            · rw [hti]; exact hb
            · exact HX.out t (by omega)
          rw [hb] at HC
          clear hb HX
          go_wp2_with fail
          refine (HC.out).mono ?_; rintro e w' ⟨rfl, hq⟩
          obtain ⟨q, rfl⟩ := hq
          go_wp2_with fail
          go_roundw
          case rel => exact ⟨i + 1, by omega, by go_num, HX2, HQ2 _⟩
          case measure => simp [intOf]; omega
        | false =>
          have HF := Lib.hid (progB_f hlt hb)
          rw [hb] at HC
          clear hb HX
          go_wp2_with fail
          refine (HC.out).mono ?_; rintro e w' ⟨rfl, hq⟩
          obtain ⟨q, rfl⟩ := hq
          go_wp2_with fail
          go_ret
          exact ⟨ret_bool HF.out.symm, (HQ2 _).out⟩
      · have hii : ¬ (i : Int) < (fs.length : Int) := by omega
        have HF := Lib.hid (progB_t h16 (fun t ht => HX.out t (by omega)))
        clear HX hP hp
        go_wp2_with fail
        go_ret
        exact ⟨ret_bool HF.out.symm, HQ.out⟩
  · have hd : decide (16 < fs.length) = true := decide_eq_true (by omega)
    have hd2 : (16 : Int) < (fs.length : Int) := by omega
    have HF := Lib.hid (progB_long h16)
    clear hP
    go_enter Tryz.func84, Tryz.ntmps84
    go_wp2_with fail
    go_ret
    exact ⟨ret_bool HF.out.symm, 0, rfl⟩

end Go.Proofs.YtoedccgiahegnaaGreat
