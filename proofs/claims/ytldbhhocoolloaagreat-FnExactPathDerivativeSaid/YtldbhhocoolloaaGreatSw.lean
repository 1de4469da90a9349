/- The model: which programs are valid. -/
import Derived.Test.YtldbhhocoolloaaGreatSv
namespace Go.Proofs.YtldbhhocoolloaaGreat
open Go.RowKit
set_option linter.unusedVariables false

theorem treeB_cons {fs : List Fn} {funcs : Int} {ks : Fo} {i : Nat} {k n p c : Int} {kk : Fo} (h : Fo.drop i ks = .cons k n p c kk (Fo.drop (i + 1) ks)) (vars q : Int) (j : Nat) :
    treeB fs funcs (Fo.drop i ks) vars q j = ((nodeB fs (vars + more q j) funcs k n p c kk.len && treeB fs funcs kk (vars + more q j) k 0) && treeB fs funcs (Fo.drop (i + 1) ks) vars q (j + 1)) := by
  rw [h]; rfl

set_option maxRecDepth 100000 in
set_option maxHeartbeats 3200000 in
theorem sTree_all (fs : List Fn) (bp op : Nat) (ap : Option Addr) (capp : Nat) (funcs : Int) (hf : 0 ≤ funcs ∧ funcs ≤ (fs.length : Int)) (hl : fs.length ≤ 1048576) :
    ∀ (m : Nat) (ks : Fo), ks.size < m → ∀ (b off : Nat) (k n p c : Int) (a : Option Addr) (cap : Nat) (vars : Int) (w : World),
    w.cell? ⟨bp, op, none⟩ = some (.slice ap fs.length capp) → Pat w 0 w.heap.size fs ap → NodeAt w b off k n p c ks.len a cap → R4 k n p c → Fat w 0 w.heap.size ks a → (0 ≤ vars ∧ vars + (ks.size : Int) ≤ 2097152 ∧ ks.size ≤ 1048576) →
    Calls Tryz.prog 180 #[.pointer (some ⟨bp, op, none⟩), .pointer (some ⟨b, off, none⟩), .int .i64 vars, .int .i64 funcs] w (Quiet (.bool (nodeB fs vars funcs k n p c ks.len && treeB fs funcs ks vars k 0)) w) := by
  intro m
  induction m with
  | zero => intro f hf; omega
  | succ m ih =>
    intro ks hks b off k n p c a cap vars w hp hP hN hR hF hv
    have hll := Fo.len_le ks
    have hlen2 : ks.len ≤ 1048576 := by omega
    have HC := Lib.hid (sNode fs bp op ap capp b off k n p c ks.len a cap vars funcs w hp hP hN hR (by omega) hf hl hlen2)
    cases hnb : nodeB fs vars funcs k n p c ks.len with
    | false =>
      have HF : Hid ((false && treeB fs funcs ks vars k 0) = false) := rfl
      rw [hnb] at HC
      clear hnb hN hF hP hp
      generalize (false && treeB fs funcs ks vars k 0) = T at HF
      go_enter Tryz.func180, Tryz.ntmps180
      go_wp2_with fail
      refine (HC.out).mono ?_; rintro e w' ⟨rfl, hq⟩
      obtain ⟨q, rfl⟩ := hq
      go_wp2_with fail
      go_ret
      exact ⟨ret_bool HF.out.symm, q, rfl⟩
    | true =>
      have H0 : Hid ((true && treeB fs funcs ks vars k 0) = treeB fs funcs (Fo.drop 0 ks) vars k 0) := by
        show _ = _
        rw [Fo.drop_zero, Bool.true_and]
      rw [hnb] at HC
      clear hnb
      generalize (true && treeB fs funcs ks vars k 0) = T at H0
      have hN' := Lib.hid hN
      have hPp := Lib.hid (And.intro hp hP)
      obtain ⟨c0, c1, c2, c3, c4⟩ := hN
      clear hp hP
      go_enter Tryz.func180, Tryz.ntmps180
      go_wp2_with fail
      refine (HC.out).mono ?_; rintro e w' ⟨rfl, hq⟩
      obtain ⟨q, rfl⟩ := hq
      have HQ0 : Hid (∃ q', w.drewN q = w.drewN q') := ⟨q, rfl⟩
      clear HC
      go_wp2_with fail
      go_loopw [9] (fun j wr => ∃ i : Nat, i ≤ ks.len ∧ j = .int .i64 i ∧ Hid (T = treeB fs funcs (Fo.drop i ks) vars k i) ∧ Hid (∃ q', wr = w.drewN q')) (fun j _ => ks.len - (intOf j).toNat)
      case atStart => exact ⟨0, Nat.zero_le _, rfl, H0, HQ0⟩
      case round =>
        obtain ⟨i, hi0, rfl, HX, HQ⟩ := hrel
        obtain ⟨hp, hP⟩ := hPp.out
        have wr_cell : ∀ {x v}, w.cell? x = some v → wr.cell? x = some v := fun {x v} h => by obtain ⟨q', hq'⟩ := HQ.out; rw [hq']; exact h
        have wr_pat : Pat w 0 w.heap.size fs ap → Pat wr 0 wr.heap.size fs ap := fun h => by obtain ⟨q', hq'⟩ := HQ.out; rw [hq']; exact h.agree (fun _ _ _ => rfl)
        have g0 := wr_cell c0
        have g4 := wr_cell c4
        clear H0 HQ0 hPp
        by_cases hlt : i < ks.len
        · have hi : (i : Int) < (ks.len : Int) := by omega
          obtain ⟨b1, o1, rfl, hbB⟩ := hF.blk (by omega)
          have hFr : Fat wr 0 wr.heap.size ks (some ⟨b1, o1, none⟩) := by obtain ⟨q', hq'⟩ := HQ.out; rw [hq']; exact Fat.agree (w := w) (w' := w.drewN q') (fun _ _ _ => rfl) hF
          obtain ⟨k1, n1, p1, c1', kk, a2, cap2, hdr, hr, hkl, d0, d1, d2, d3, d4, hk'⟩ := hFr.node hlt
          have hlt' := Fo.kid_lt hdr
          have HU := Lib.hid (treeB_cons (fs := fs) (funcs := funcs) hdr vars k i)
          clear hdr hFr hbB c0 c1 c2 c3 c4
          rcases (by omega : k ≠ 9 ∨ (k = 9 ∧ i ≠ 1) ∨ (k = 9 ∧ i = 1)) with h9 | ⟨h9, h1⟩ | ⟨h9, h1⟩
          ·
            have HV : Hid (vars + more k i = vars) := by
              show _ = _
              unfold more
              rw [if_neg (by omega)]; omega
            have HC := Lib.hid (ih kk (by omega) b1 (o1 + i * 5) k1 n1 p1 c1' a2 cap2 (vars) wr (wr_cell hp) (wr_pat hP) ⟨d0, d1, d2, d3, d4⟩ hr hk' (by omega))
            rw [HV.out] at HU
            clear HV hk' hF hr hkl hlt' ih hP hp
            have DD : (k == 9) = false := ne_beq h9
            clear h9 wr_cell wr_pat
            go_wp2_with fail
            refine (HC.out).mono ?_; rintro e w' ⟨rfl, hq2⟩
            obtain ⟨q2, rfl⟩ := hq2
            clear HC d0 d1 d2 d3 d4 g0 g4 DD
            cases hz : (nodeB fs vars funcs k1 n1 p1 c1' kk.len && treeB fs funcs kk vars k1 0) with
            | true =>
              have HX2 : Hid (T = treeB fs funcs (Fo.drop (i + 1) ks) vars k (i + 1)) := by
                show _ = _
                rw [HX.out, HU.out, hz, Bool.true_and]
              have HQ2 : Hid (∃ q, wr.drewN q2 = w.drewN q) := by
                obtain ⟨q, hq⟩ := HQ.out
                exact ⟨q + q2, by rw [hq, World.drewN_drewN]⟩
              clear hz HX HU HQ
              go_wp2_with fail
              go_roundw
              case rel => exact ⟨i + 1, by omega, by go_num, HX2, HQ2⟩
              case measure => simp [intOf]; omega
            | false =>
              have HX2 : Hid (T = false) := by
                show _ = _
                rw [HX.out, HU.out, hz, Bool.false_and]
              have HQ2 : Hid (∃ q, wr.drewN q2 = w.drewN q) := by
                obtain ⟨q, hq⟩ := HQ.out
                exact ⟨q + q2, by rw [hq, World.drewN_drewN]⟩
              clear hz HX HU HQ
              go_wp2_with fail
              go_ret
              exact ⟨ret_bool HX2.out.symm, HQ2.out⟩
          ·
            have HV : Hid (vars + more k i = vars) := by
              show _ = _
              unfold more
              rw [if_neg (by omega)]; omega
            have HC := Lib.hid (ih kk (by omega) b1 (o1 + i * 5) k1 n1 p1 c1' a2 cap2 (vars) wr (wr_cell hp) (wr_pat hP) ⟨d0, d1, d2, d3, d4⟩ hr hk' (by omega))
            rw [HV.out] at HU
            clear HV hk' hF hr hkl hlt' ih hP hp
            have DD : ((i : Int) == 1) = false := ne_beq (by omega)
            subst h9
            clear h1 wr_cell wr_pat
            go_wp2_with fail
            refine (HC.out).mono ?_; rintro e w' ⟨rfl, hq2⟩
            obtain ⟨q2, rfl⟩ := hq2
            clear HC d0 d1 d2 d3 d4 g0 g4 DD
            cases hz : (nodeB fs vars funcs k1 n1 p1 c1' kk.len && treeB fs funcs kk vars k1 0) with
            | true =>
              have HX2 : Hid (T = treeB fs funcs (Fo.drop (i + 1) ks) vars 9 (i + 1)) := by
                show _ = _
                rw [HX.out, HU.out, hz, Bool.true_and]
              have HQ2 : Hid (∃ q, wr.drewN q2 = w.drewN q) := by
                obtain ⟨q, hq⟩ := HQ.out
                exact ⟨q + q2, by rw [hq, World.drewN_drewN]⟩
              clear hz HX HU HQ
              go_wp2_with fail
              go_roundw
              case rel => exact ⟨i + 1, by omega, by go_num, HX2, HQ2⟩
              case measure => simp [intOf]; omega
            | false =>
              have HX2 : Hid (T = false) := by
                show _ = _
                rw [HX.out, HU.out, hz, Bool.false_and]
              have HQ2 : Hid (∃ q, wr.drewN q2 = w.drewN q) := by
                obtain ⟨q, hq⟩ := HQ.out
                exact ⟨q + q2, by rw [hq, World.drewN_drewN]⟩
              clear hz HX HU HQ
              go_wp2_with fail
              go_ret
              exact ⟨ret_bool HX2.out.symm, HQ2.out⟩
          ·
            have HV : Hid (vars + more k i = vars + 1) := by
              show _ = _
              unfold more
              rw [if_pos ⟨h9, h1⟩]
            have HC := Lib.hid (ih kk (by omega) b1 (o1 + i * 5) k1 n1 p1 c1' a2 cap2 (vars + 1) wr (wr_cell hp) (wr_pat hP) ⟨d0, d1, d2, d3, d4⟩ hr hk' (by omega))
            rw [HV.out] at HU
            clear HV hk' hF hr hkl hlt' ih hP hp
            have DD : ((i : Int) == 1) = true := by simp [h1]
            subst h9
            clear h1 wr_cell wr_pat
            go_wp2_with fail
            refine (HC.out).mono ?_; rintro e w' ⟨rfl, hq2⟩
            obtain ⟨q2, rfl⟩ := hq2
            clear HC d0 d1 d2 d3 d4 g0 g4 DD
            cases hz : (nodeB fs (vars + 1) funcs k1 n1 p1 c1' kk.len && treeB fs funcs kk (vars + 1) k1 0) with
            | true =>
              have HX2 : Hid (T = treeB fs funcs (Fo.drop (i + 1) ks) vars 9 (i + 1)) := by
                show _ = _
                rw [HX.out, HU.out, hz, Bool.true_and]
              have HQ2 : Hid (∃ q, wr.drewN q2 = w.drewN q) := by
                obtain ⟨q, hq⟩ := HQ.out
                exact ⟨q + q2, by rw [hq, World.drewN_drewN]⟩
              clear hz HX HU HQ
              go_wp2_with fail
              go_roundw
              case rel => exact ⟨i + 1, by omega, by go_num, HX2, HQ2⟩
              case measure => simp [intOf]; omega
            | false =>
              have HX2 : Hid (T = false) := by
                show _ = _
                rw [HX.out, HU.out, hz, Bool.false_and]
              have HQ2 : Hid (∃ q, wr.drewN q2 = w.drewN q) := by
                obtain ⟨q, hq⟩ := HQ.out
                exact ⟨q + q2, by rw [hq, World.drewN_drewN]⟩
              clear hz HX HU HQ
              go_wp2_with fail
              go_ret
              exact ⟨ret_bool HX2.out.symm, HQ2.out⟩
        · have hi : ¬ (i : Int) < (ks.len : Int) := by omega
          have HX2 : Hid (T = true) := by
            show _ = _
            rw [HX.out, Fo.drop_end (by omega)]; rfl
          clear HX c0 c1 c2 c3 c4 wr_cell wr_pat hp hP
          go_wp2_with fail
          go_ret
          exact ⟨ret_bool HX2.out.symm, HQ.out⟩

end Go.Proofs.YtldbhhocoolloaaGreat
