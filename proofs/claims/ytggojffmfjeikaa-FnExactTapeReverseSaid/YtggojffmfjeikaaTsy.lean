/- Tapes: adjoints, by the model. -/
import Derived.Test.YtggojffmfjeikaaTsv
import Derived.Test.YtggojffmfjeikaaTsx
namespace Go.Proofs.Ytggojffmfjeikaa
open Go.RowKit
set_option linter.unusedVariables false

set_option maxRecDepth 100000 in
set_option maxHeartbeats 3200000 in
theorem sWeighed (t : Tp) (bt : Nat) (ac : Option Addr) (cc : Nat) (ag : Option Addr) (cg : Nat) (ao : Option Addr) (co : Nat) (a : Option Addr) (ca : Nat) (l : List Int) (aw : Option Addr) (cw : Nat) (ws : List Int) (ad : Option Addr) (cd : Nat) (d : List Int) (w : World) (hC : TCells w bt 0 t ac cc ag cg ao co) (hP : Tat w 0 w.heap.size t ac ag ao) (hA : At w a l) (hW : At w aw ws) (hD : At w ad d) (hl : l.length ≤ 1048576) (hwl : ws.length ≤ 1048576) (hdl : d.length ≤ 1048576) (hs : tpSize t ≤ 1048576) :
    Calls Try.prog 97 #[.pointer (some ⟨bt, 0, none⟩), .slice a l.length ca, .slice aw ws.length cw, .slice ad d.length cd] w fun e w' => e = .returned (.int .i64 (wgC t l ws d)) ∧ Below w.heap.size w w' := by
  have HV := Lib.hid (sAsked t bt ac cc ag cg ao co a ca l w hC hP hA hl hs)
  have hbt := hC.lt
  by_cases h0 : askC t l = 0
  rotate_left
  · have HF := Lib.hid (wgC_bad (ws := ws) (d := d) h0)
    have hne : (askC t l == 0) = false := beq_eq_false_iff_ne.2 h0
    clear h0
    generalize askC t l = c at *
    go_enter Try.func97, Try.ntmps97
    go_wp2_with fail
    refine HV.out.mono ?_; rintro e w1 ⟨rfl, b⟩
    go_wp2_with fail
    go_ret
    exact ⟨ret_int HF.out.symm, b⟩
  have HN := fun (W : World) (hb : Below w.heap.size w W) => Lib.hid (sNumbers aw cw ws W (hW.below hb (Nat.le_refl _)) (by omega))
  have HM := fun (W : World) (hb : Below w.heap.size w W) => Lib.hid (sNumbers ad cd d W (hD.below hb (Nat.le_refl _)) (by omega))
  have H0 := Lib.hid h0
  rw [h0] at HV
  clear h0
  by_cases h1 : (ws.length : Int) = t.outs.length
  · have he1 : ((ws.length : Int) != (t.outs.length : Int)) = false := by simp [h1]
    cases h2 : okNums ws with
    | true =>
      rw [h2] at HN
      by_cases h3 : (d.length : Int) = t.inputs
      · have he3 : ((d.length : Int) != t.inputs) = false := by simp [h3]
        cases h4 : okNums d with
        | true =>
          have HF := Lib.hid (wgC_yes H0.out ⟨⟨h1, h2⟩, h3, h4⟩)
          rw [h4] at HM
          clear h1 h2 h3 h4
          go_enter Try.func97, Try.ntmps97
          go_wp2_with fail
          refine HV.out.mono ?_; rintro e w1 ⟨rfl, b⟩
          have C1 := hC.below b hbt
          obtain ⟨c0, c1, c2, c3⟩ := id C1
          clear C1
          go_wp2_with fail
          refine (HN _ b).out.mono ?_; rintro e w' ⟨rfl, rfl⟩
          go_wp2_with fail
          refine (HM _ b).out.mono ?_; rintro e w' ⟨rfl, rfl⟩
          go_wp2_with fail
          go_ret
          exact ⟨ret_int HF.out.symm, b⟩
        | false =>
          have HF := Lib.hid (wgC_no (l := l) (ws := ws) (d := d) H0.out (fun h => by rw [h4] at h; cases h.2.2))
          rw [h4] at HM
          clear h1 h2 h3 h4
          go_enter Try.func97, Try.ntmps97
          go_wp2_with fail
          refine HV.out.mono ?_; rintro e w1 ⟨rfl, b⟩
          have C1 := hC.below b hbt
          obtain ⟨c0, c1, c2, c3⟩ := id C1
          clear C1
          go_wp2_with fail
          refine (HN _ b).out.mono ?_; rintro e w' ⟨rfl, rfl⟩
          go_wp2_with fail
          refine (HM _ b).out.mono ?_; rintro e w' ⟨rfl, rfl⟩
          go_wp2_with fail
          go_ret
          exact ⟨ret_int HF.out.symm, b⟩
      · have he3 : ((d.length : Int) != t.inputs) = true := by simp [bne]; exact h3
        have HF := Lib.hid (wgC_no (l := l) (ws := ws) (d := d) H0.out (fun h => h3 h.2.1))
        clear h1 h2 h3
        go_enter Try.func97, Try.ntmps97
        go_wp2_with fail
        refine HV.out.mono ?_; rintro e w1 ⟨rfl, b⟩
        have C1 := hC.below b hbt
        obtain ⟨c0, c1, c2, c3⟩ := id C1
        clear C1
        go_wp2_with fail
        refine (HN _ b).out.mono ?_; rintro e w' ⟨rfl, rfl⟩
        go_wp2_with fail
        go_ret
        exact ⟨ret_int HF.out.symm, b⟩
    | false =>
      rw [h2] at HN
      have HF := Lib.hid (wgC_no (l := l) (ws := ws) (d := d) H0.out (fun h => by rw [h2] at h; cases h.1.2))
      clear h1 h2
      go_enter Try.func97, Try.ntmps97
      go_wp2_with fail
      refine HV.out.mono ?_; rintro e w1 ⟨rfl, b⟩
      have C1 := hC.below b hbt
      obtain ⟨c0, c1, c2, c3⟩ := id C1
      clear C1
      go_wp2_with fail
      refine (HN _ b).out.mono ?_; rintro e w' ⟨rfl, rfl⟩
      go_wp2_with fail
      go_ret
      exact ⟨ret_int HF.out.symm, b⟩
  · have he1 : ((ws.length : Int) != (t.outs.length : Int)) = true := by simp [bne]; omega
    have HF := Lib.hid (wgC_no (l := l) (ws := ws) (d := d) H0.out (fun h => h1 h.1.1))
    clear h1
    go_enter Try.func97, Try.ntmps97
    go_wp2_with fail
    refine HV.out.mono ?_; rintro e w1 ⟨rfl, b⟩
    have C1 := hC.below b hbt
    obtain ⟨c0, c1, c2, c3⟩ := id C1
    clear C1
    go_wp2_with fail
    go_ret
    exact ⟨ret_int HF.out.symm, b⟩

/-- the model's answer: rows of one number each, and a code -/
def AdjRes (w : World) (R : List Int) (C : Int) (e : Ending) (w' : World) : Prop :=
  ∃ g cap, e = .returned (.tuple #[.slice (some ⟨g, 0, none⟩) (ones R).length cap, .int .i64 C]) ∧ Rws w' w.heap.size g cap (ones R) ∧ Below w.heap.size w w'
theorem adj_cases {t : Tp} {l ws : List Int} (h : wgC t l ws l = 0) : (runV t l t.code.length = none ∧ RAdjointsOf t l ws = [] ∧ CAdjointsOf t l ws = 6) ∨ ∃ rs, runV t l t.code.length = some rs ∧ RAdjointsOf t l ws = adjV t ws rs ∧ CAdjointsOf t l ws = 0 := by
  unfold RAdjointsOf CAdjointsOf
  rw [if_pos h, if_pos h]
  cases hv : runV t l t.code.length with
  | none => exact .inl ⟨rfl, rfl, if_pos rfl⟩
  | some rs => exact .inr ⟨rs, rfl, rfl, if_neg (by simp)⟩
theorem adj_bad {t : Tp} {l ws : List Int} (h : wgC t l ws l ≠ 0) : RAdjointsOf t l ws = [] ∧ CAdjointsOf t l ws = wgC t l ws l := by
  unfold RAdjointsOf CAdjointsOf; rw [if_neg h, if_neg h]; exact ⟨rfl, rfl⟩

set_option maxRecDepth 100000 in
set_option maxHeartbeats 3200000 in
theorem sAdjoints (t : Tp) (bt : Nat) (ac : Option Addr) (cc : Nat) (ag : Option Addr) (cg : Nat) (ao : Option Addr) (co : Nat) (a : Option Addr) (ca : Nat) (l : List Int) (aw : Option Addr) (cw : Nat) (ws : List Int) (w : World) (hC : TCells w bt 0 t ac cc ag cg ao co) (hP : Tat w 0 w.heap.size t ac ag ao) (hA : At w a l) (hW : At w aw ws) (hl : l.length ≤ 1048576) (hwl : ws.length ≤ 1048576) (hs : tpSize t ≤ 1048576) :
    Calls Try.prog 68 #[.pointer (some ⟨bt, 0, none⟩), .slice a l.length ca, .slice aw ws.length cw, .slice a l.length ca, .int .i64 1] w (AdjRes w (RAdjointsOf t l ws) (CAdjointsOf t l ws)) := by
  have HV := Lib.hid (sWeighed t bt ac cc ag cg ao co a ca l aw cw ws a ca l w hC hP hA hW hA hl hwl hl hs)
  have hbt := hC.lt
  by_cases h0 : wgC t l ws l = 0
  rotate_left
  · have HR := Lib.hid (adj_bad h0)
    have hne : (wgC t l ws l != 0) = true := by simp [h0]
    clear h0
    generalize wgC t l ws l = c at *
    go_enter Try.func68, Try.ntmps68
    go_wp2_with fail
    refine HV.out.mono ?_; rintro e w1 ⟨rfl, b⟩
    go_wp2_with fail
    go_ret2
    exact ⟨w1.heap.size, 0, sl2_eq (by rw [HR.out.1]; rfl) HR.out.2.symm, by rw [HR.out.1]; exact rws_none w1 w.heap.size b.size, b.alloc b.size _⟩
  obtain ⟨h1, h2, h3, h4, h5⟩ := wgC_zero h0
  obtain ⟨k1, k2, k3⟩ := askC_zero h1
  have ht := tapeB_ok k1
  have hcs := ht.size
  have HWL := Lib.hid h2
  have HRS := Lib.hid (runS_ones ht k3 (by omega) _ (Nat.le_refl _))
  have HOK := Lib.hid (fun rs => runV_ok ht k3 (rs := rs) (Nat.le_refl _))
  have HC := Lib.hid (adj_cases h0)
  rw [h0] at HV
  clear h0 h1 h2 k1 h4 h5
  go_enter Try.func68, Try.ntmps68
  go_wp2_with fail
  refine HV.out.mono ?_; rintro e w1 ⟨rfl, b1⟩
  clear HV
  go_wp2_with fail
  refine (sLine0 a a ca _ ca l _ (hA.below b1 (Nat.le_refl _)) hl).mono ?_; rintro e w2 ⟨g2, c2, rfl, hR2, b2⟩
  have A2 := b1.trans (b2.mono b1.size)
  have C2 := hC.below A2 hbt
  have T2 : Tcl w2 bt t ac cc ag cg ao co := ⟨C2.c0, C2.c1, C2.c2, C2.c3⟩
  have P2 := hP.next A2
  have W2 := hW.below A2 (Nat.le_refl _)
  clear C2 hC hP b1 b2
  go_wp2_with fail
  refine (sSeries t bt ac cc ag cg ao co _ g2 c2 1 (ones l) w2 T2 P2 ht hR2 (ones_ok k3) (by rw [ones_len]; omega) (by rw [ones_len]; omega) (Nat.le_refl _) (by omega)).mono ?_
  rintro e w3 h
  rw [HRS.out] at h
  rcases h with ⟨hn, ⟨g3, rfl⟩, b3⟩ | ⟨rs, g3, c3, hsome, rfl, hR3, b3⟩
  · have hnone : runV t l t.code.length = none := by
      cases hv : runV t l t.code.length with
      | none => rfl
      | some rs => rw [hv] at hn; cases hn
    have HE : Hid (RAdjointsOf t l ws = [] ∧ CAdjointsOf t l ws = 6) := by
      rcases HC.out with h | ⟨rs, h, -⟩
      · exact h.2
      · rw [hnone] at h; cases h
    have A3 := A2.trans (b3.mono A2.size)
    clear hn hnone HRS HOK HC T2 P2 hR2
    go_wp2_with fail
    go_ret2
    exact ⟨w3.heap.size, 0, sl2_eq (by rw [HE.out.1]; rfl) HE.out.2.symm, by rw [HE.out.1]; exact rws_none w3 w.heap.size A3.size, A3.alloc A3.size _⟩
  · obtain ⟨xs, hxs, rfl⟩ : ∃ xs, runV t l t.code.length = some xs ∧ rs = ones xs := by
      cases hv : runV t l t.code.length with
      | none => rw [hv] at hsome; cases hsome
      | some xs => rw [hv] at hsome; cases hsome; exact ⟨xs, rfl, rfl⟩
    obtain ⟨hxl, hxn⟩ := HOK.out xs hxs
    have HE : Hid (RAdjointsOf t l ws = adjV t ws xs ∧ CAdjointsOf t l ws = 0) := by
      rcases HC.out with h | ⟨rs, h, h2⟩
      · rw [hxs] at h; cases h.1
      · rw [hxs] at h; cases h; exact h2
    have A3 := A2.trans (b3.mono A2.size)
    have HS := Lib.hid (sSweep t bt ac cc ag cg ao co _ g3 c3 1 (ones xs) aw cw ws w3 (T2.next b3) (P2.next b3) ht hR3 (ones_ok hxn) (by show _ = _; rw [ones_len]; exact hxl) (W2.below b3 (Nat.le_refl _)) HWL.out h3 (Nat.le_refl _) (by omega))
    rw [adjV_ones ht hxl] at HS
    clear hsome hxs HRS HOK hR3 hxl T2 P2 hR2 HC hxn
    generalize ones xs = rs at *
    go_wp2_with fail
    refine HS.out.mono ?_; rintro e w4 ⟨g4, c4, rfl, o4, b4⟩
    clear HS
    go_wp2_with fail
    go_ret2
    exact ⟨g4, c4, sl2_eq (by rw [HE.out.1]) HE.out.2.symm, by rw [HE.out.1]; exact o4.mono A3.size, A3.trans (b4.mono A3.size)⟩

set_option maxRecDepth 100000 in
set_option maxHeartbeats 1600000 in
theorem sAdjointsOf (t : Tp) (ac : Option Addr) (cc : Nat) (ag : Option Addr) (cg : Nat) (ao : Option Addr) (co : Nat) (a : Option Addr) (ca : Nat) (l : List Int) (aw : Option Addr) (cw : Nat) (ws : List Int) (w : World) (hP : Tat w 0 w.heap.size t ac ag ao) (hA : At w a l) (hR : Rng l) (hl : l.length ≤ 1048576) (hW : At w aw ws) (hRw : Rng ws) (hwl : ws.length ≤ 1048576) (hs : tpSize t ≤ 1048576) :
    Calls Try.prog 32 #[tpv t ac cc ag cg ao co, .slice a l.length ca, .slice aw ws.length cw] w (Res2 w (RAdjointsOf t l ws) (CAdjointsOf t l ws)) := by
  unfold tpv
  obtain ⟨w0, hw0⟩ : ∃ w0, w0 = w.alloc (.cells #[.int .i64 t.inputs, .slice ac t.code.length cc, .slice ag t.guards.length cg, .slice ao t.outs.length co] 53) := ⟨_, rfl⟩
  have A0 : Below w.heap.size w w0 := by rw [hw0]; exact (Below.refl _ _).alloc (Nat.le_refl _) _
  have C0 : TCells w0 w.heap.size 0 t ac cc ag cg ao co := by rw [hw0]; exact ⟨by simp [go_sem], by simp [go_sem], by simp [go_sem], by simp [go_sem]⟩
  have HA := Lib.hid (sAdjoints t w.heap.size ac cc ag cg ao co a ca l aw cw ws w0 C0 (hP.next A0) (hA.below A0 (Nat.le_refl _)) (hW.below A0 (Nat.le_refl _)) hl hwl hs)
  have hle := RAdjointsOf_le t l ws
  by_cases h0 : CAdjointsOf t l ws = 0
  · have HE := Lib.hid h0
    rw [h0] at HA
    clear h0
    go_enter Try.func32, Try.ntmps32
    go_wp2_with fail
    rw [← hw0]
    clear hw0
    refine HA.out.mono ?_; rintro e w1 ⟨g1, c1, rfl, o1, b1⟩
    have A1 := A0.trans (b1.mono A0.size)
    have HCL := Lib.hid (sColumn _ g1 c1 (ones (RAdjointsOf t l ws)) 0 w1 o1 (fun i hi => by rw [ones_at (by rwa [ones_len] at hi)]; simp) (fun i hi => by rw [ones_at (by rwa [ones_len] at hi)]; simp) (by rw [ones_len]; omega) (by omega))
    rw [coln_ones] at HCL
    clear HA o1 C0
    generalize (ones (RAdjointsOf t l ws)).length = nn at *
    go_wp2_with fail
    refine HCL.out.mono ?_; rintro e w2 ⟨g2, c2, rfl, o2, b2⟩
    clear HCL
    go_wp2_with fail
    go_ret2
    exact ⟨_, _, sl2_eq rfl HE.out.symm, (o2.mono A1.size).a, A1.trans (b2.mono A1.size)⟩
  · have hne : (CAdjointsOf t l ws != 0) = true := by simp [h0]
    have HE : Hid (RAdjointsOf t l ws = []) := by
      show _ = _
      by_cases h1 : wgC t l ws l = 0
      · rcases adj_cases h1 with h | ⟨rs, -, -, h⟩
        · exact h.2.1
        · exact absurd h h0
      · exact (adj_bad h1).1
    clear h0
    generalize CAdjointsOf t l ws = c at *
    go_enter Try.func32, Try.ntmps32
    go_wp2_with fail
    rw [← hw0]
    clear hw0
    refine HA.out.mono ?_; rintro e w1 ⟨g1, c1, rfl, o1, b1⟩
    have A1 := A0.trans (b1.mono A0.size)
    clear HA o1 C0
    go_wp2_with fail
    go_ret2
    exact ⟨_, _, sl2_eq (by rw [HE.out]; rfl) rfl, .inl HE.out, A1.alloc A1.size _⟩

end Go.Proofs.Ytggojffmfjeikaa
