/- Tapes: the sums of the adjoints of the inputs, and TapeReverse, by the program. -/
import Derived.Test.YtggojffmfjeikaaTsg
namespace Go.Proofs.Ytggojffmfjeikaa
open Go.RowKit
set_option linter.unusedVariables false

def sumsV (t : Tp) (adj : List Int) : Nat → List Int
  | 0 => List.replicate t.inputs.toNat 0
  | k + 1 => if (t.code.getD k no4).op = 1 then vAdd (sumsV t adj k) (t.code.getD k no4).num.toNat (adj.getD k 0) else sumsV t adj k
theorem sumsV_len (t : Tp) (adj : List Int) : ∀ k, (sumsV t adj k).length = t.inputs.toNat
  | 0 => by simp [sumsV]
  | k + 1 => by
    rw [sumsV]; split
    · rw [vAdd_len]; exact sumsV_len t adj k
    · exact sumsV_len t adj k
theorem sumsV_nums (t : Tp) (adj : List Int) : ∀ k, Nums (sumsV t adj k)
  | 0 => fun y hy => by rw [(List.mem_replicate.1 hy).2]; omega
  | k + 1 => by
    rw [sumsV]; split
    · exact nums_add (sumsV_nums t adj k)
    · exact sumsV_nums t adj k
theorem ins_num {x : In4} {i : Nat} {n : Int} (h : insB x i n = true) (h1 : x.op = 1) : 0 ≤ x.num ∧ x.num < n := by
  rw [insB_in h1, Bool.and_eq_true] at h
  exact ixB_t h.2

set_option maxRecDepth 100000 in
set_option maxHeartbeats 3200000 in
theorem iInputSums (t : Tp) (ac : Option Addr) (cc : Nat) (ag : Option Addr) (cg : Nat) (ao : Option Addr) (co : Nat) (aj : Option Addr) (cj : Nat) (adj : List Int) (w : World)
    (hP : Tat w 0 w.heap.size t ac ag ao) (ht : Okt t) (hA : At w aj adj) (hal : Hid (adj.length = t.code.length)) (hn : Nums adj) :
    Calls Try.prog 70 #[ofN, tpv t ac cc ag cg ao co, .slice aj adj.length cj] w (Fresh w (sumsV t adj t.code.length)) := by
  unfold tpv
  obtain ⟨w0, hw0⟩ : ∃ w0, w0 = w.alloc (.cells #[.int .i64 t.inputs, .slice ac t.code.length cc, .slice ag t.guards.length cg, .slice ao t.outs.length co] 53) := ⟨_, rfl⟩
  have A0 : Below w.heap.size w w0 := by rw [hw0]; exact (Below.refl _ _).alloc (Nat.le_refl _) _
  have T0 : Tcl w0 w.heap.size t ac cc ag cg ao co := by rw [hw0]; exact tcl_new w t ac cc ag cg ao co 53
  have hcs := ht.size
  have hin := ht.inputs
  obtain ⟨ni, hni⟩ : ∃ ni : Nat, t.inputs = (ni : Int) := ⟨t.inputs.toNat, by omega⟩
  have HNI := Lib.hid hni
  have HNT := Lib.hid (show t.inputs.toNat = ni by rw [hni]; rfl)
  obtain ⟨c0, c1, c2, c3⟩ := id T0
  rw [hni] at c0 hin hw0
  clear hni
  rw [HNI.out]
  go_enter Try.func70, Try.ntmps70
  go_wp2_with fail
  rw [← hw0]
  clear hw0
  refine (iZeros ni _ (by omega)).mono ?_; rintro e w2 ⟨g, rfl, og, b⟩
  have HB2 := A0.trans (b.mono A0.size)
  have lt0 := Lib.hid T0.lt
  replace T0 := T0.next b
  have gb := og.base
  have hgw := Lib.hid (show w.heap.size ≤ g by have := lt0.out; omega)
  have HP := Lib.hid hP
  have HA := Lib.hid (rw_row hA HB2 hgw.out)
  have H2 := Lib.hid HB2
  clear c0 c1 c2 c3 A0 b hP hA HB2
  obtain ⟨c0, c1, c2, c3⟩ := id T0
  have O2 : Hid (Own w.heap.size w2 g ni (sumsV t adj 0)) := by
    show Own _ _ _ _ _
    rw [sumsV, HNT.out]; exact og.mono (by have := lt0.out; omega)
  clear og
  go_wp2_with fail
  clear c0 c1 c2 c3
  go_loopw [17] (fun q wr => ∃ k : Nat, k ≤ t.code.length ∧ q = .int .i64 k ∧ Hid (Own w.heap.size wr g ni (sumsV t adj k)) ∧ Hid (w2.grownBy wr (some g))) (fun q _ => t.code.length - (intOf q).toNat)
  case atStart => exact ⟨0, Nat.zero_le _, rfl, O2, World.grownBy.refl _ _⟩
  case round =>
    obtain ⟨k, hk, rfl, hO, hG⟩ := hrel
    clear O2
    by_cases hlt : k < t.code.length
    · have hi : (k : Int) < (t.code.length : Int) := by omega
      have hla : k < adj.length := by have := hal.out; omega
      have hia : (k : Int) < (adj.length : Int) := by omega
      obtain ⟨bc, oc, rfl, hbc, hcc⟩ := ((HP.out.code.agree (w' := wr) (fun j _ hj => (hG.out.block j (by have := H2.out.size; omega) (by intro e; cases e; have := hgw.out; omega)).trans (H2.out.block j hj))).resolve_left (by intro e; rw [e] at hlt; simp at hlt))
      obtain ⟨hri, i0, i1, i2, i3⟩ := hcc k hlt
      obtain ⟨bj, oj, rfl, hbj, nbj, hcj⟩ := ((HA.out.grow hG.out (.inl rfl)).resolve_left (by intro e; rw [e] at hla; simp at hla))
      have a0 := hcj k hla
      have hav := hn.at k
      obtain ⟨wo, hwo⟩ : ∃ wo, wo = wr.alloc (.cells #[.int .i64 (t.code.getD k no4).op, .int .i64 (t.code.getD k no4).a, .int .i64 (t.code.getD k no4).b, .int .i64 (t.code.getD k no4).num] 85) := ⟨_, rfl⟩
      have bo : Below wr.heap.size wr wo := by rw [hwo]; exact (Below.refl _ _).alloc (Nat.le_refl _) _
      by_cases hop : (t.code.getD k no4).op = 1
      · have hnum := ins_num (ht.code k hlt) hop
        have hsl := sumsV_len t adj k
        rw [HNT.out] at hsl
        obtain ⟨q, hq⟩ : ∃ q : Nat, (t.code.getD k no4).num = (q : Int) := ⟨(t.code.getD k no4).num.toNat, by omega⟩
        have hqn : q < ni := by have := HNI.out; omega
        have hqi : (q : Int) < (ni : Int) := by omega
        have HS : Hid (∀ W, Own w.heap.size W g ni ((sumsV t adj k).set q (pls ((sumsV t adj k).getD q 0) (adj.getD k 0))) → Own w.heap.size W g ni (sumsV t adj (k + 1))) := fun W h => by
          rw [sumsV, if_pos hop, hq, Int.toNat_natCast]; exact h
        have hyv := (sumsV_nums t adj k).at q
        have x3 : wo.cell? ⟨wr.heap.size, 3, none⟩ = some (.int .i64 (q : Int)) := by rw [hwo, ← hq]; simp [go_sem]
        have oo := hO.out.kept bo hO.out.base.2
        have fa := oo.cellAt q (by omega)
        have ff := oo.frz q
        have fj : wo.cell? ⟨bj, oj + k, none⟩ = some (.int .i64 (adj.getD k 0)) := (bo.cell (p := ⟨bj, oj + k, none⟩) hbj).trans a0
        have lx : wr.heap.size < wo.heap.size := by rw [hwo]; simp
        have lg := oo.base.2
        have lj : bj < wo.heap.size := by omega
        have HO := Lib.hid oo
        have HBO := Lib.hid bo
        have m1 := plusMeth
        have m2 := plusAhead
        rw [hop, hq] at hwo
        rw [hop] at i0
        rw [hq] at i3
        have HWO := Lib.hid hwo
        clear hcc hcj hri hO hop hq hnum hsl oo bo hwo
        generalize (sumsV t adj k).getD q 0 = y at fa hyv HS
        generalize adj.getD k 0 = v at a0 fj hav HS
        generalize (t.code.getD k no4).a = xa at i1 HWO
        generalize (t.code.getD k no4).b = xb at i2 HWO
        have X3 := Lib.hid x3
        clear x3 fj
        go_wp2_with fail
        rw [← HWO.out]
        have x3 := X3.out
        have fj : wo.cell? ⟨bj, oj + k, none⟩ = some (.int .i64 v) := (HBO.out.cell (p := ⟨bj, oj + k, none⟩) hbj).trans a0
        clear HWO X3 i0 i1 i2 i3
        refine region_T 18 (fun w' => w'.cell? ⟨wr.heap.size, 3, none⟩ = some (.int .i64 (q : Int)) ∧ w'.cell? ⟨g, q, none⟩ = some (.int .i64 y) ∧ w'.cell? ⟨bj, oj + k, none⟩ = some (.int .i64 v) ∧ w'.frozen? ⟨g, q, none⟩ = false) (by kernel_rfl) (⟨x3, fa, fj, ff⟩) (fun hHeld => ?_)
        refine anyT_take (i := 0) (v := ?vT0_1) rfl (by kernel_rfl) (fun _ _ _ h => h) (Or.inl ⟨by rfl, ?hT0_1⟩) hHeld ?rT0_1
        case hT0_1 => (intro wS hSw; (try dsimp only at hSw); go_simp; try with_reducible rfl)
        simp only [Act.put]
        refine anyT_take (i := 1) (v := ?vT1_1) rfl (by kernel_rfl) (fun _ _ _ h => h) (Or.inl ⟨by rfl, ?hT1_1⟩) hHeld ?rT1_1
        case hT1_1 => (intro wS hSw; (try dsimp only at hSw); go_simp; try with_reducible rfl)
        simp only [Act.put]
        refine anyT_take (i := 2) (v := ?vT2_1) rfl (by kernel_rfl) (fun _ _ _ h => h) (Or.inl ⟨by rfl, ?hT2_1⟩) hHeld ?rT2_1
        case hT2_1 => (intro wS hSw; (try dsimp only at hSw); go_simp; try with_reducible rfl)
        simp only [Act.put]
        refine anyT_take (i := 3) (v := ?vT3_1) rfl (by kernel_rfl) (fun _ _ _ h => h) (Or.inl ⟨by rfl, ?hT3_1⟩) hHeld ?rT3_1
        case hT3_1 => (intro wS hSw; (try dsimp only at hSw); go_simp; try with_reducible rfl)
        simp only [Act.put]
        refine anyT_take (i := 4) (v := ?vT4_1) rfl (by kernel_rfl) (fun _ _ _ h => h) (Or.inl ⟨by rfl, ?hT4_1⟩) hHeld ?rT4_1
        case hT4_1 => (intro wS hSw; (try dsimp only at hSw); go_simp; try with_reducible rfl)
        simp only [Act.put]
        refine anyT_take (i := 5) (v := ?vT5_1) rfl (by kernel_rfl) (fun _ _ _ h => h) (Or.inl ⟨by rfl, ?hT5_1⟩) hHeld ?rT5_1
        case hT5_1 => (intro wS hSw; (try dsimp only at hSw); go_simp; try with_reducible rfl)
        simp only [Act.put]
        refine anyT_take (i := 6) (v := ?vT6_1) rfl (by kernel_rfl) (fun _ _ _ h => h) (Or.inl ⟨by rfl, ?hT6_1⟩) hHeld ?rT6_1
        case hT6_1 => (intro wS hSw; (try dsimp only at hSw); go_simp; try with_reducible rfl)
        simp only [Act.put]
        refine anyT_take (i := 7) (v := ?vT7_1) rfl (by kernel_rfl) (fun _ _ _ h => h) (Or.inl ⟨by rfl, ?hT7_1⟩) hHeld ?rT7_1
        case hT7_1 => (intro wS hSw; (try dsimp only at hSw); go_simp; try with_reducible rfl)
        simp only [Act.put]
        refine anyT_take (i := 8) (v := ?vT8_1) rfl (by kernel_rfl) (fun _ _ _ h => h) (Or.inl ⟨by rfl, ?hT8_1⟩) hHeld ?rT8_1
        case hT8_1 => (intro wS hSw; (try dsimp only at hSw); go_simp; try with_reducible rfl)
        simp only [Act.put]
        refine anyT_take (i := 9) (v := ?vT9_1) rfl (by kernel_rfl) (fun _ _ _ h => h) (Or.inl ⟨by rfl, ?hT9_1⟩) hHeld ?rT9_1
        case hT9_1 => (intro wS hSw; (try dsimp only at hSw); go_simp; try with_reducible rfl)
        simp only [Act.put]
        refine anyT_take (i := 10) (v := ?vT10_1) rfl (by kernel_rfl) (fun _ _ _ h => h) (Or.inl ⟨by rfl, ?hT10_1⟩) hHeld ?rT10_1
        case hT10_1 => (intro wS hSw; (try dsimp only at hSw); go_simp; try with_reducible rfl)
        simp only [Act.put]
        refine anyT_take (i := 11) (v := ?vT11_1) rfl (by kernel_rfl) (fun _ _ _ h => h) (Or.inl ⟨by rfl, ?hT11_1⟩) hHeld ?rT11_1
        case hT11_1 => (intro wS hSw; (try dsimp only at hSw); go_simp; try with_reducible rfl)
        simp only [Act.put]
        refine anyT_take (i := 12) (v := ?vT12_1) rfl (by kernel_rfl) (fun _ _ _ h => h) (Or.inl ⟨by rfl, ?hT12_1⟩) hHeld ?rT12_1
        case hT12_1 => (intro wS hSw; (try dsimp only at hSw); go_simp; try with_reducible rfl)
        simp only [Act.put]
        refine anyT_take (i := 13) (v := ?vT13_1) rfl (by kernel_rfl) (fun _ _ _ h => h) (Or.inl ⟨by rfl, ?hT13_1⟩) hHeld ?rT13_1
        case hT13_1 => (intro wS hSw; (try dsimp only at hSw); go_simp; try with_reducible rfl)
        simp only [Act.put]
        refine anyT_take (i := 14) (v := ?vT14_1) rfl (by kernel_rfl) (fun _ _ _ h => h) (Or.inl ⟨by rfl, ?hT14_1⟩) hHeld ?rT14_1
        case hT14_1 => (intro wS hSw; (try dsimp only at hSw); go_simp; try with_reducible rfl)
        simp only [Act.put]
        refine anyT_take (i := 15) (v := ?vT15_1) rfl (by kernel_rfl) (fun _ _ _ h => h) (Or.inl ⟨by rfl, ?hT15_1⟩) hHeld ?rT15_1
        case hT15_1 => (intro wS hSw; (try dsimp only at hSw); go_simp; try with_reducible rfl)
        simp only [Act.put]
        refine anyT_step (i := 16) rfl (by kernel_rfl) (fun K hK => ?_)
        clear hHeld
        go_simp
        refine (nPlus y v hyv hav _).mono ?_; rintro e w9 ⟨rfl, hb9'⟩
        have hb9 : Below wo.heap.size wo w9 := ⟨hb9'.os, hb9'.tape, hb9'.output, hb9'.size, hb9'.block⟩
        go_wp2_with fail
        refine hK.out _ _ (⟨(hb9.cell (p := ⟨wr.heap.size, 3, none⟩) lx).trans x3, (hb9.cell (p := ⟨g, q, none⟩) lg).trans fa, (hb9.cell (p := ⟨bj, oj + k, none⟩) lj).trans fj, (hb9.frozen (p := ⟨g, q, none⟩) lg).trans ff⟩) (fun hHeld => ?_)
        clear hK K
        try simp only [Act.put]
        refine anyT_take (i := 17) (v := ?vT17_1) rfl (by kernel_rfl) (fun _ _ _ h => h) (Or.inl ⟨by rfl, ?hT17_1⟩) hHeld ?rT17_1
        case hT17_1 => (intro wS hSw; (try dsimp only at hSw); go_simp; try with_reducible rfl)
        simp only [Act.put]
        refine anyT_last rfl (by kernel_rfl) (by kernel_rfl) (fun K hK => ?_)
        try dsimp only at hHeld
        go_simp
        refine hK.out _ _ ?_
        clear hK K hHeld
        have hO2 : Hid (Own w.heap.size (w9.setCell ⟨g, q, none⟩ (.int .i64 (pls y v))) g ni (sumsV t adj (k + 1))) := HS.out _ ((HO.out.kept hb9 lg).set q (pls y v))
        have hG2 : Hid (w2.grownBy (w9.setCell ⟨g, q, none⟩ (.int .i64 (pls y v))) (some g)) := grownBy_trans hG.out (grownBy_trans (below_grown_some (HBO.out.trans (hb9.mono HBO.out.size))) (grownBy_set _ _ _ _))
        clear x3 fa fj ff hb9 hb9'
        go_wp2_with fail
        go_roundw
        case rel => exact ⟨k + 1, by omega, by go_num, hO2, hG2⟩
        case measure => simp [intOf]; omega
      · have hd : ((t.code.getD k no4).op == 1) = false := by simpa using hop
        have hO2 : Hid (Own w.heap.size wo g ni (sumsV t adj (k + 1))) := by
          show Own _ _ _ _ _
          rw [sumsV, if_neg hop]; exact hO.out.kept bo hO.out.base.2
        have hG2 : Hid (w2.grownBy wo (some g)) := grownBy_trans hG.out (below_grown_some bo)
        have HWO := Lib.hid hwo
        clear hcc hcj hri hO hop bo hwo a0
        generalize t.code.getD k no4 = x at i0 i1 i2 i3 hd HWO
        go_wp2_with fail
        rw [← HWO.out]
        clear HWO i0 i1 i2 i3
        go_roundw
        case rel => exact ⟨k + 1, by omega, by go_num, hO2, hG2⟩
        case measure => simp [intOf]; omega
    · have hi : ¬ (k : Int) < (t.code.length : Int) := by omega
      have hkk : k = t.code.length := by omega
      subst hkk
      have HL := Lib.hid ((sumsV_len t adj t.code.length).trans HNT.out)
      go_wp2_with fail
      go_ret
      exact ⟨g, ni, ret_slice HL.out.symm, hO.out, H2.out.grown hG.out H2.out.size (fun q hq => by cases hq; exact hgw.out)⟩

    end Go.Proofs.Ytggojffmfjeikaa
