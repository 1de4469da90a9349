/- Functions that are called for a function: the program. -/
import Derived.Test.YtiimebiecihpkaaIm
import Derived.Test.YtiimebiecihpkaaCaq
import Derived.Test.YtiimebiecihpkaaCao
namespace Go.Proofs.Ytiimebiecihpkaa
open Go.RowKit
set_option linter.unusedVariables false

theorem row_list {B B' : Nat} {w : World} {v : Value} {l : List Int} (h : w.ownsRow B 2 1 v l.length (l.map (Value.int .i64))) (hB : B' ≤ B) : ∃ a cap, v = .slice a l.length cap ∧ OwnA B' w a cap l := by
  obtain ⟨h1, h2⟩ := h
  rcases h2 with ⟨hv, hl⟩ | ⟨g, cap, cur, hv, hg, h3⟩
  · have e : l = [] := List.eq_nil_of_length_eq_zero hl
    subst e
    exact ⟨none, 0, hv, .inl rfl⟩
  · exact ⟨some ⟨g, 0, none⟩, cap, hv, .inr ⟨g, rfl, h1, .inr ⟨g, cap, cur, rfl, Nat.le_trans hB hg, h3⟩⟩⟩
theorem made_ownM {B : Nat} {w : World} {g n : Nat} (h : w.ownsRow B 4 1 (.slice (some ⟨g, 0, none⟩) n n) n (madeCells #[Value.bool false] n).toList) : OwnM B w g (List.replicate n false) := by
  unfold OwnM
  rw [List.length_replicate, List.map_replicate, ← toList_madeCells_one]; exact h
theorem okC_prog {fs : List Fn} (h : progB fs = true) {g : Nat} (hg : g < fs.length) : okC (g : Int) (fs.getD g noFn).outs := by
  unfold progB at h
  rw [Bool.and_eq_true, List.all_eq_true] at h
  have h1 := h.2 g (List.mem_range.2 hg)
  unfold fnB at h1
  simp only [Bool.and_eq_true] at h1
  exact okC_tree h1.2.2.2.2.2.2
theorem outs_size {fs : List Fn} {j : Nat} (hj : j < fs.length) (hsz : pgSize fs ≤ 1048576) : (fs.getD j noFn).outs.size ≤ 1048576 := by
  have h3 := fnsSize_take hj
  have h4 := fnsSize_take_le fs (j + 1)
  unfold Fn.size at h3
  unfold pgSize at hsz
  omega

def ListOwn (w : World) (l : List Int) (c : Int) (e : Ending) (w' : World) : Prop := ∃ a cap, e = .returned (.tuple #[.slice a l.length cap, .int .i64 c]) ∧ OwnA w.heap.size w' a cap l ∧ Below w.heap.size w w'

theorem infoBool : (Try.prog.info? 4).map (fun i => (i.zero, i.size, i.bytes)) = some (some (.bool false), 1, 1) := by kernel_rfl

set_option maxRecDepth 100000 in
set_option maxHeartbeats 6400000 in
theorem iCallsOf (fs : List Fn) (ap : Option Addr) (capp : Nat) (f : Int) (w : World) (hP : Pat w 0 w.heap.size fs ap) (hsz : pgSize fs ≤ 1048576) (hcap : fs.length ≤ capp) (hcm : capp ≤ 1048576) :
    Calls Try.prog 43 #[.agg #[.slice ap fs.length capp], .int .i64 f] w (ListOwn w (cList fs f) (cCode fs f)) := by
  have hl : fs.length ≤ 1048576 := by unfold pgSize at hsz; omega
  obtain ⟨w0, hw0⟩ : ∃ w0, w0 = w.alloc (.cells #[.slice ap fs.length capp] 49) := ⟨_, rfl⟩
  have hb0 : Below w.heap.size w w0 := by rw [hw0]; exact (Below.refl _ _).alloc (Nat.le_refl _) _
  have z0 : w0.heap.size = w.heap.size + 1 := by rw [hw0]; simp
  have c0 : w0.cell? ⟨w.heap.size, 0, none⟩ = some (.slice ap fs.length capp) := by rw [hw0]; simp [go_sem]
  have hP0 : Pat w0 0 w0.heap.size fs ap := (hP.below hb0).mono (Nat.le_refl _) hb0.size
  have HV := Lib.hid (iValidProgram fs ap capp w0 hP0 hsz hcap hcm)
  cases hpb : progB fs with
  | false =>
    have HC : Hid (cCode fs f = 1) := if_neg (by rw [hpb]; simp)
    have HL : Hid (cList fs f = []) := if_neg (by rw [hpb]; simp)
    rw [hpb] at HV
    clear hpb hP hP0
    go_enter Try.func43, Try.ntmps43
    go_wp2_with fail
    rw [← hw0]
    clear hw0
    refine (HV.out).mono ?_; rintro e w1 ⟨rfl, hb1⟩
    go_wp2_with fail
    go_ret2
    exact ⟨_, _, ret_sc (by rw [HL.out]; rfl) HC.out.symm, by rw [HL.out]; exact .inl rfl, hb0.trans (hb1.mono (by omega))⟩
  | true =>
    by_cases hf : 0 ≤ f ∧ f < (fs.length : Int)
    · have HC : Hid (cCode fs f = 0) := by show _ = _; unfold cCode; rw [if_pos hpb, if_pos hf]
      have HL : Hid (cList fs f = allOf fs f.toNat) := if_pos ⟨hpb, hf⟩
      have HK : ∀ g, g < fs.length → okC (g : Int) (fs.getD g noFn).outs := fun g hg => okC_prog hpb hg
      rw [hpb] at HV
      obtain ⟨j, rfl⟩ := Int.eq_ofNat_of_zero_le hf.1
      have hj : j < fs.length := by omega
      have hji : (j : Int) < (fs.length : Int) := hf.2
      have hdc : decide (0 ≤ (j : Int) ∧ (j : Int) < (fs.length : Int)) = true := decide_eq_true hf
      have HLI : Hid (cList fs (j : Int) = toL (allI fs j (markB (fs.getD j noFn).outs (List.replicate j false))) 0) := by
        show _ = _
        rw [HL.out]
        show allS fs j (callsF (fs.getD j noFn).outs []) = _
        rw [← toL_none j 0, callsF_markB (by rw [List.length_replicate]; exact HK j hj), allS_allI (fun g hg => by rw [markB_len, List.length_replicate]; exact okC_mono (by omega) (HK g (by omega)))]
      obtain ⟨i0, hi, hz0, hz1, hz2⟩ := info_parts infoBool
      clear HL hpb hP
      go_enter Try.func43, Try.ntmps43
      go_wp2_with fail
      rw [← hw0]
      clear hw0
      refine (HV.out).mono ?_; rintro e w1 ⟨rfl, hb1⟩
      have c1 := (hb1.cell (p := ⟨w.heap.size, 0, none⟩) (by show w.heap.size < _; omega)).trans c0
      have z1 := hb1.size
      have hP1 := (hP0.below hb1).mono (Nat.le_refl _) hb1.size
      have hB1 := hb0.trans (hb1.mono (by omega))
      clear c0 hP0 HV
      go_wp2_with fail
      refine (iIndex (j : Int) (fs.length : Int) _).mono ?_; rintro e w2 ⟨rfl, rfl⟩
      rw [hdc]
      go_wp2_with (refine wpList_make_full _ rfl _ _ 156 rfl w1.heap.size 4 i0 (.bool false) 1 Try.underlying156 hi hz0 hz1 .i64 .i64 _ _ j rfl rfl rfl rfl ?c2 ?c3 (Nat.le_refl _) ?_)
      case c2 => rw [hz2]; omega
      case c3 => unfold maxLen; omega
      intro w2 ho1 hg1
      have hM2 := made_ownM ho1
      have hb2 : Below w1.heap.size w1 w2 := ⟨hg1.os, hg1.tape, hg1.output, hg1.size, fun k hk => hg1.block k hk (by intro e; cases e)⟩
      obtain ⟨bf, of, rfl, hbB, hall⟩ := (hP1.resolve_left (by intro e; rw [e] at hj; simp at hj))
      have HMC : ∀ (s : Nat) (W : World) (cs : List Bool), s ≤ j → cs.length = j → Below w1.heap.size w1 W → OwnM w1.heap.size W w1.heap.size cs → ∀ (af : Option Addr) (cf : Nat), Fat w1 0 w1.heap.size (fs.getD s noFn).outs af →
          Calls Try.prog 113 #[.slice af (fs.getD s noFn).outs.len cf, .slice (some ⟨w1.heap.size, 0, none⟩) j j] W (MarksRes w1.heap.size w1.heap.size (markB (fs.getD s noFn).outs cs) W) := by
        intro s W cs hs hl hW hM af cf hF
        have h := iMarkCalls_all w1.heap.size w1.heap.size ((fs.getD s noFn).outs.size + 1) (fs.getD s noFn).outs (by omega) af cf cs W (Fat.agree (fun k _ hk => hW.block k hk) hF) (outs_size (by omega) hsz) hM (by rw [hl]; exact okC_mono (by omega) (HK s (by omega))) (by omega)
        rw [hl] at h; exact h
      have hx2 := (hb2.cell (p := ⟨w.heap.size, 0, none⟩) (by show w.heap.size < _; omega)).trans c1
      have hmono : ∀ (W W' : World), Below w1.heap.size w1 W → W.grownBy W' (some w1.heap.size) → Below w1.heap.size w1 W' := fun W W' h1 h2 => h1.trans ⟨h2.os, h2.tape, h2.output, h2.size, fun k hk => h2.block k (by have := h1.size; omega) (by simp; omega)⟩
      obtain ⟨hr, af, cf, f0, f1, f2, hFk⟩ := hall j hj
      have H1 := Lib.hid (HMC j w2 (List.replicate j false) (Nat.le_refl _) (by simp) hb2 hM2 af cf hFk)
      have f2' := (hb2.cell (p := ⟨bf, of + j * 3 + 2, none⟩) (by show bf < _; omega)).trans f2
      have HLn : Hid ((markB (fs.getD j noFn).outs (List.replicate j false)).length = j) := by show _ = _; rw [markB_len]; simp
      clear f0 f1 f2 hFk hr ho1 hi hz0 hz1 hz2 hM2 hP1
      generalize (fs.getD j noFn).outs = oj at H1 f2' HLI HLn
      go_wp2_with fail
      refine (H1.out).mono ?_; rintro e w3 ⟨rfl, hM3, hg3⟩
      have hb3 := hmono _ _ hb2 hg3
      have HL0 : Hid (cList fs (j : Int) = toL (allI fs j (markB oj (List.replicate j false))) 0) := HLI
      generalize markB oj (List.replicate j false) = cs0 at hM3 HL0 HLn
      clear H1 f2' HLI hx2 hg3 hg1
      go_wp2_with fail
      go_loopw [7] (fun q wr => ∃ (t : Nat) (cs : List Bool), t ≤ j ∧ q = .int .i64 ((t : Int) - 1) ∧ Hid (cList fs (j : Int) = toL (allI fs t cs) 0) ∧ Hid (cs.length = j) ∧ OwnM w1.heap.size wr w1.heap.size cs ∧ Below w1.heap.size w1 wr) (fun q _ => (intOf q + 1).toNat)
      case atStart => exact ⟨j, cs0, Nat.le_refl _, rfl, HL0, HLn, hM3, hb3⟩
      case round =>
        obtain ⟨t, cs, ht, rfl, HX, HN, hM, hB⟩ := hrel
        clear HL0 HLn hM3 hb3
        have hz := hB.size
        have x1 := (hB.cell (p := ⟨w.heap.size, 0, none⟩) (by show w.heap.size < _; omega)).trans c1
        cases t with
        | zero =>
          have hge : ¬ (0 : Int) ≤ ((0 : Nat) : Int) - 1 := by omega
          have HX2 : Hid (cList fs (j : Int) = toL cs 0) := HX.out
          have HR := Lib.hid (iMarked w1.heap.size w1.heap.size cs wr hM (by rw [HN.out]; omega))
          rw [HN.out] at HR
          clear HX hall HMC
          go_wp2_with fail
          refine (HR.out).mono ?_; rintro e w4 ⟨v, rfl, hrow, hb4⟩
          obtain ⟨a, cap, rfl, hA⟩ := row_list (B' := w.heap.size) hrow (by omega)
          clear HR hrow
          go_wp2_with fail
          go_ret2
          exact ⟨a, cap, ret_sc (by rw [HX2.out]) HC.out.symm, by rw [HX2.out]; exact hA, hB1.trans ((hB.trans (hb4.mono hz)).mono hB1.size)⟩
        | succ s =>
          have e1 : ((s + 1 : Nat) : Int) - 1 = (s : Int) := by omega
          rw [e1]
          have hsj : (s : Int) < (j : Int) := by omega
          have hsj2 : s < j := by omega
          have hsl : s < fs.length := by omega
          have hsi : (s : Int) < (fs.length : Int) := by omega
          have cj := hM.cellAt s (by rw [HN.out]; omega)
          obtain ⟨hr, ax, cf2, f0, f1, f2, hFk⟩ := hall s hsl
          have f2' := (hB.cell (p := ⟨bf, of + s * 3 + 2, none⟩) (by show bf < _; omega)).trans f2
          have H1 := Lib.hid (HMC s wr cs (by omega) HN.out hB hM ax cf2 hFk)
          have HX2 : Hid (cList fs (j : Int) = toL (allI fs s (if cs.getD s false = true then markB (fs.getD s noFn).outs cs else cs)) 0) := HX.out
          have HN2 : Hid ((markB (fs.getD s noFn).outs cs).length = j) := by show _ = _; rw [markB_len, HN.out]
          clear f0 f1 f2 hFk hr HX hall HMC
          generalize (fs.getD s noFn).outs = os at H1 f2' HX2 HN2
          generalize cs.getD s false = cv at cj HX2
          cases cv with
          | false =>
            have HX3 : Hid (cList fs (j : Int) = toL (allI fs s cs) 0) := by show _ = _; rw [HX2.out, if_neg (by simp)]
            clear HX2 H1 HN2
            go_wp2_with fail
            go_roundw
            case rel => exact ⟨s, cs, by omega, by go_num, HX3, HN, hM, hB⟩
            case measure => simp [intOf]
          | true =>
            have HX3 : Hid (cList fs (j : Int) = toL (allI fs s (markB os cs)) 0) := by show _ = _; rw [HX2.out, if_pos rfl]
            clear HX2
            go_wp2_with fail
            refine (H1.out).mono ?_; rintro e w4 ⟨rfl, hM4, hg4⟩
            have hb4 := hmono _ _ hB hg4
            clear H1 f2' x1 hg4 hM cj
            go_wp2_with fail
            go_roundw
            case rel => exact ⟨s, _, by omega, by go_num, HX3, HN2, hM4, hb4⟩
            case measure => simp [intOf]
    · have HC : Hid (cCode fs f = 2) := by show _ = _; unfold cCode; rw [if_pos hpb, if_neg hf]
      have HL : Hid (cList fs f = []) := if_neg (fun h => hf h.2)
      have hdc : decide (0 ≤ f ∧ f < (fs.length : Int)) = false := decide_eq_false hf
      rw [hpb] at HV
      clear hpb hP
      go_enter Try.func43, Try.ntmps43
      go_wp2_with fail
      rw [← hw0]
      clear hw0
      refine (HV.out).mono ?_; rintro e w1 ⟨rfl, hb1⟩
      have c1 := (hb1.cell (p := ⟨w.heap.size, 0, none⟩) (by show w.heap.size < _; omega)).trans c0
      clear c0 hP0 HV
      go_wp2_with fail
      refine (iIndex f (fs.length : Int) _).mono ?_; rintro e w2 ⟨rfl, rfl⟩
      rw [hdc]
      go_wp2_with fail
      go_ret2
      exact ⟨_, _, ret_sc (by rw [HL.out]; rfl) HC.out.symm, by rw [HL.out]; exact .inl rfl, hb0.trans (hb1.mono (by omega))⟩

end Go.Proofs.Ytiimebiecihpkaa
