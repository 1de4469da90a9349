/- Tapes: the sums of the adjoints of the inputs, and TapeReverse, by the model. -/
import Derived.Test.YtggojffmfjeikaaTsj
import Derived.Test.YtggojffmfjeikaaTsy
namespace Go.Proofs.Ytggojffmfjeikaa
open Go.RowKit
set_option linter.unusedVariables false

theorem cell_grown {w w' : World} {g b o : Nat} {v : Value} (h : w.grownBy w' (some g)) (hc : w.cell? ⟨b, o, none⟩ = some v) (hne : b ≠ g) : w'.cell? ⟨b, o, none⟩ = some v :=
  (grown_cell h (cell_lt hc) hne).trans hc

set_option maxRecDepth 100000 in
set_option maxHeartbeats 3200000 in
theorem sInputs (t : Tp) (bt : Nat) (ac : Option Addr) (cc : Nat) (ag : Option Addr) (cg : Nat) (ao : Option Addr) (co : Nat) (Lr gr capr : Nat) (adj : List Int) (w : World) (hC : Tcl w bt t ac cc ag cg ao co)
    (hP : Tat w 0 w.heap.size t ac ag ao) (ht : Okt t) (hR : Rws w Lr gr capr (ones adj)) (hal : Hid (adj.length = t.code.length)) (hn : Nums adj) :
    Calls Try.prog 69 #[.pointer (some ⟨bt, 0, none⟩), .slice (some ⟨gr, 0, none⟩) (ones adj).length capr, .int .i64 0] w (Fresh w (sumsV t adj t.code.length)) := by
  obtain ⟨i9, hi, hz0, hz1, hz2⟩ := info_parts info64
  have hcs := ht.size
  have hin := ht.inputs
  obtain ⟨ni, hni⟩ : ∃ ni : Nat, t.inputs = (ni : Int) := ⟨t.inputs.toNat, by omega⟩
  have HNI := Lib.hid hni
  have HNT := Lib.hid (show t.inputs.toNat = ni by rw [hni]; rfl)
  have HOL := Lib.hid (ones_len adj)
  have HPC := Lib.hid hP.code
  have HC := Lib.hid hC
  have HR := Lib.hid hR
  have lgr := Lib.hid hR.base.2
  have lbt := Lib.hid hC.lt
  obtain ⟨c0, c1, c2, c3⟩ := id hC
  rw [hni] at c0 hin
  clear hni hP hC hR
  generalize (ones adj).length = no at HOL ⊢
  go_enter Try.func69, Try.ntmps69
  go_wp2_with (refine wpList_make_full _ rfl _ _ 37 rfl w.heap.size 2 i9 (.int .i64 0) 1 Try.underlying37 hi hz0 hz1 .i64 .i64 _ _ ni rfl rfl rfl rfl ?k2 ?k3 (Nat.le_refl _) ?_)
  case k2 => rw [hz2]; omega
  case k3 => unfold maxLen; omega
  intro w2 ho1 hg1
  have hb1 := (Below.refl w.heap.size w).grown hg1 (Nat.le_refl _) (by intro k hk; cases hk)
  have ho2 := made_own ho1
  rw [fillz_zero] at ho2
  have O2 : Hid (Own w.heap.size w2 w.heap.size ni (sumsV t adj 0)) := by
    show Own _ _ _ _ _
    rw [sumsV, HNT.out]; exact ho2
  have H2 := Lib.hid hb1
  clear ho1 hg1 hi hz0 hz1 hz2 c0 c1 c2 c3 ho2 hb1
  go_wp2_with fail
  go_loopw [8] (fun q wr => ∃ k : Nat, k ≤ t.code.length ∧ q = .int .i64 k ∧ Hid (Own w.heap.size wr w.heap.size ni (sumsV t adj k)) ∧ Hid (w2.grownBy wr (some w.heap.size))) (fun q _ => t.code.length - (intOf q).toNat)
  case atStart => exact ⟨0, Nat.zero_le _, rfl, O2, World.grownBy.refl _ _⟩
  case round =>
    obtain ⟨k, hk, rfl, hO, hG⟩ := hrel
    clear O2
    have T2 := HC.out.next H2.out
    obtain ⟨c0, c1, c2, c3⟩ : Tcl wr bt t ac cc ag cg ao co := T2.grown hG.out (by intro e; cases e; have := lbt.out; omega)
    clear T2
    by_cases hlt : k < t.code.length
    · have hi : (k : Int) < (t.code.length : Int) := by omega
      obtain ⟨bc, oc, rfl, hbc, hcc⟩ := ((HPC.out.agree (w' := wr) (fun j _ hj => (hG.out.block j (Nat.lt_of_lt_of_le hj H2.out.size) (by intro e; cases e; omega)).trans (H2.out.block j hj))).resolve_left (by intro e; rw [e] at hlt; simp at hlt))
      obtain ⟨hri, i0, i1, i2, i3⟩ := hcc k hlt
      have lb : bt < wr.heap.size := cell_lt c0
      have lc : bc < wr.heap.size := cell_lt i0
      by_cases hop : (t.code.getD k no4).op = 1
      · have hla : k < adj.length := by have := hal.out; omega
        have hio : (k : Int) < (no : Int) := by have := HOL.out; omega
        obtain ⟨ai, ci, gi, hrw⟩ := HR.out.get (i := k) (by rw [ones_len]; exact hla)
        rw [ones_at hla] at gi hrw
        obtain ⟨bi, oi, rfl, hbi, nbi, hci⟩ := hrw.resolve_left (by simp)
        have hin1 := hci 0 (by simp)
        have g0 : wr.cell? ⟨gr, k, none⟩ = some (.slice (some ⟨bi, oi, none⟩) 1 ci) := cell_grown hG.out ((H2.out.cell (p := ⟨gr, k, none⟩) lgr.out).trans gi) (by have := lgr.out; omega)
        have r0 : wr.cell? ⟨bi, oi, none⟩ = some (.int .i64 (adj.getD k 0)) := cell_grown hG.out ((H2.out.cell (p := ⟨bi, oi, none⟩) hbi).trans (by simpa using hin1)) (by omega)
        have hav := hn.at k
        have hnum := ins_num (ht.code k hlt) hop
        have hsl := sumsV_len t adj k
        rw [HNT.out] at hsl
        obtain ⟨q, hq⟩ : ∃ q : Nat, (t.code.getD k no4).num = (q : Int) := ⟨(t.code.getD k no4).num.toNat, by omega⟩
        have hqn : q < ni := by have := HNI.out; omega
        have hqi : (q : Int) < (ni : Int) := by omega
        have HS : Hid (∀ W, Own w.heap.size W w.heap.size ni ((sumsV t adj k).set q (pls ((sumsV t adj k).getD q 0) (adj.getD k 0))) → Own w.heap.size W w.heap.size ni (sumsV t adj (k + 1))) := fun W h => by
          rw [sumsV, if_pos hop, hq, Int.toNat_natCast]; exact h
        have hyv := (sumsV_nums t adj k).at q
        have fa := hO.out.cellAt q (by omega)
        have ff := hO.out.frz q
        have lgx := cell_lt g0
        have lix := cell_lt r0
        have lsx := cell_lt fa
        rw [hop] at i0
        rw [hq] at i3
        clear hcc hri hop hq hnum hsl gi hrw hci hin1
        generalize (sumsV t adj k).getD q 0 = y at fa hyv HS
        generalize adj.getD k 0 = v at r0 hav HS
        go_wp2_with fail
        refine region_T 29 (fun w' => w'.cell? ⟨bt, 1, none⟩ = some (.slice (some ⟨bc, oc, none⟩) t.code.length cc) ∧ w'.cell? ⟨bc, oc + k * 4 + 3, none⟩ = some (.int .i64 (q : Int)) ∧ w'.cell? ⟨w.heap.size, q, none⟩ = some (.int .i64 y) ∧ w'.cell? ⟨gr, k, none⟩ = some (.slice (some ⟨bi, oi, none⟩) 1 ci) ∧ w'.cell? ⟨bi, oi, none⟩ = some (.int .i64 v) ∧ w'.frozen? ⟨w.heap.size, q, none⟩ = false) (by kernel_rfl) (⟨c1, i3, fa, g0, r0, ff⟩) (fun hHeld => ?_)
        refine anyT_take (i := 0) (v := ?vT0_1) rfl (by kernel_rfl) (fun _ _ _ h => h) (Or.inl ⟨by rfl, ?hT0_1⟩) hHeld ?rT0_1
        case hT0_1 => (intro wS hSw; (try dsimp only at hSw); go_simp; try with_reducible rfl)
        simp only [Act.put]
        refine anyT_take (i := 1) (v := ?vT1_1) rfl (by kernel_rfl) (fun _ _ _ h => h) (Or.inl ⟨by rfl, ?hT1_1⟩) hHeld ?rT1_1
        case hT1_1 => (intro wS hSw; (try dsimp only at hSw); go_simp; try with_reducible rfl)
        simp only [Act.put]
        refine anyT_take (i := 2) (v := ?vT2_1) rfl (by kernel_rfl) (fun _ _ _ h => h) (Or.inl ⟨by rfl, ?hT2_1⟩) hHeld ?rT2_1
        case hT2_1 => (intro wS hSw; (try dsimp only at hSw); go_simp; try with_reducible rfl)
        simp only [Act.put]
        refine anyT_take (i := 3) (v := ?vT3_1) rfl (by kernel_rfl) (fun _ _ _ h => h) (Or.inl ⟨by rfl, ?hT3_1⟩) hHeld ?rT3_1
        case hT3_1 => (intro wS hSw; (try dsimp only at hSw); go_simp; try with_reducible rfl)
        simp only [Act.put]
        refine anyT_take (i := 4) (v := ?vT4_1) rfl (by kernel_rfl) (fun _ _ _ h => h) (Or.inl ⟨by rfl, ?hT4_1⟩) hHeld ?rT4_1
        case hT4_1 => (intro wS hSw; (try dsimp only at hSw); go_simp; try with_reducible rfl)
        simp only [Act.put]
        refine anyT_take (i := 5) (v := ?vT5_1) rfl (by kernel_rfl) (fun _ _ _ h => h) (Or.inl ⟨by rfl, ?hT5_1⟩) hHeld ?rT5_1
        case hT5_1 => (intro wS hSw; (try dsimp only at hSw); go_simp; try with_reducible rfl)
        simp only [Act.put]
        refine anyT_take (i := 6) (v := ?vT6_1) rfl (by kernel_rfl) (fun _ _ _ h => h) (Or.inl ⟨by rfl, ?hT6_1⟩) hHeld ?rT6_1
        case hT6_1 => (intro wS hSw; (try dsimp only at hSw); go_simp; try with_reducible rfl)
        simp only [Act.put]
        refine anyT_take (i := 7) (v := ?vT7_1) rfl (by kernel_rfl) (fun _ _ _ h => h) (Or.inl ⟨by rfl, ?hT7_1⟩) hHeld ?rT7_1
        case hT7_1 => (intro wS hSw; (try dsimp only at hSw); go_simp; try with_reducible rfl)
        simp only [Act.put]
        refine anyT_take (i := 8) (v := ?vT8_1) rfl (by kernel_rfl) (fun _ _ _ h => h) (Or.inl ⟨by rfl, ?hT8_1⟩) hHeld ?rT8_1
        case hT8_1 => (intro wS hSw; (try dsimp only at hSw); go_simp; try with_reducible rfl)
        simp only [Act.put]
        refine anyT_take (i := 9) (v := ?vT9_1) rfl (by kernel_rfl) (fun _ _ _ h => h) (Or.inl ⟨by rfl, ?hT9_1⟩) hHeld ?rT9_1
        case hT9_1 => (intro wS hSw; (try dsimp only at hSw); go_simp; try with_reducible rfl)
        simp only [Act.put]
        refine anyT_take (i := 10) (v := ?vT10_1) rfl (by kernel_rfl) (fun _ _ _ h => h) (Or.inl ⟨by rfl, ?hT10_1⟩) hHeld ?rT10_1
        case hT10_1 => (intro wS hSw; (try dsimp only at hSw); go_simp; try with_reducible rfl)
        simp only [Act.put]
        refine anyT_take (i := 11) (v := ?vT11_1) rfl (by kernel_rfl) (fun _ _ _ h => h) (Or.inl ⟨by rfl, ?hT11_1⟩) hHeld ?rT11_1
        case hT11_1 => (intro wS hSw; (try dsimp only at hSw); go_simp; try with_reducible rfl)
        simp only [Act.put]
        refine anyT_take (i := 12) (v := ?vT12_1) rfl (by kernel_rfl) (fun _ _ _ h => h) (Or.inl ⟨by rfl, ?hT12_1⟩) hHeld ?rT12_1
        case hT12_1 => (intro wS hSw; (try dsimp only at hSw); go_simp; try with_reducible rfl)
        simp only [Act.put]
        refine anyT_take (i := 13) (v := ?vT13_1) rfl (by kernel_rfl) (fun _ _ _ h => h) (Or.inl ⟨by rfl, ?hT13_1⟩) hHeld ?rT13_1
        case hT13_1 => (intro wS hSw; (try dsimp only at hSw); go_simp; try with_reducible rfl)
        simp only [Act.put]
        refine anyT_take (i := 14) (v := ?vT14_1) rfl (by kernel_rfl) (fun _ _ _ h => h) (Or.inl ⟨by rfl, ?hT14_1⟩) hHeld ?rT14_1
        case hT14_1 => (intro wS hSw; (try dsimp only at hSw); go_simp; try with_reducible rfl)
        simp only [Act.put]
        refine anyT_take (i := 15) (v := ?vT15_1) rfl (by kernel_rfl) (fun _ _ _ h => h) (Or.inl ⟨by rfl, ?hT15_1⟩) hHeld ?rT15_1
        case hT15_1 => (intro wS hSw; (try dsimp only at hSw); go_simp; try with_reducible rfl)
        simp only [Act.put]
        refine anyT_take (i := 16) (v := ?vT16_1) rfl (by kernel_rfl) (fun _ _ _ h => h) (Or.inl ⟨by rfl, ?hT16_1⟩) hHeld ?rT16_1
        case hT16_1 => (intro wS hSw; (try dsimp only at hSw); go_simp; try with_reducible rfl)
        simp only [Act.put]
        refine anyT_take (i := 17) (v := ?vT17_1) rfl (by kernel_rfl) (fun _ _ _ h => h) (Or.inl ⟨by rfl, ?hT17_1⟩) hHeld ?rT17_1
        case hT17_1 => (intro wS hSw; (try dsimp only at hSw); go_simp; try with_reducible rfl)
        simp only [Act.put]
        refine anyT_take (i := 18) (v := ?vT18_1) rfl (by kernel_rfl) (fun _ _ _ h => h) (Or.inl ⟨by rfl, ?hT18_1⟩) hHeld ?rT18_1
        case hT18_1 => (intro wS hSw; (try dsimp only at hSw); go_simp; try with_reducible rfl)
        simp only [Act.put]
        refine anyT_take (i := 19) (v := ?vT19_1) rfl (by kernel_rfl) (fun _ _ _ h => h) (Or.inl ⟨by rfl, ?hT19_1⟩) hHeld ?rT19_1
        case hT19_1 => (intro wS hSw; (try dsimp only at hSw); go_simp; try with_reducible rfl)
        simp only [Act.put]
        refine anyT_take (i := 20) (v := ?vT20_1) rfl (by kernel_rfl) (fun _ _ _ h => h) (Or.inl ⟨by rfl, ?hT20_1⟩) hHeld ?rT20_1
        case hT20_1 => (intro wS hSw; (try dsimp only at hSw); go_simp; try with_reducible rfl)
        simp only [Act.put]
        refine anyT_take (i := 21) (v := ?vT21_1) rfl (by kernel_rfl) (fun _ _ _ h => h) (Or.inl ⟨by rfl, ?hT21_1⟩) hHeld ?rT21_1
        case hT21_1 => (intro wS hSw; (try dsimp only at hSw); go_simp; try with_reducible rfl)
        simp only [Act.put]
        refine anyT_take (i := 22) (v := ?vT22_1) rfl (by kernel_rfl) (fun _ _ _ h => h) (Or.inl ⟨by rfl, ?hT22_1⟩) hHeld ?rT22_1
        case hT22_1 => (intro wS hSw; (try dsimp only at hSw); go_simp; try with_reducible rfl)
        simp only [Act.put]
        refine anyT_take (i := 23) (v := ?vT23_1) rfl (by kernel_rfl) (fun _ _ _ h => h) (Or.inl ⟨by rfl, ?hT23_1⟩) hHeld ?rT23_1
        case hT23_1 => (intro wS hSw; (try dsimp only at hSw); go_simp; try with_reducible rfl)
        simp only [Act.put]
        refine anyT_take (i := 24) (v := ?vT24_1) rfl (by kernel_rfl) (fun _ _ _ h => h) (Or.inl ⟨by rfl, ?hT24_1⟩) hHeld ?rT24_1
        case hT24_1 => (intro wS hSw; (try dsimp only at hSw); go_simp; try with_reducible rfl)
        simp only [Act.put]
        refine anyT_take (i := 25) (v := ?vT25_1) rfl (by kernel_rfl) (fun _ _ _ h => h) (Or.inl ⟨by rfl, ?hT25_1⟩) hHeld ?rT25_1
        case hT25_1 => (intro wS hSw; (try dsimp only at hSw); go_simp; try with_reducible rfl)
        simp only [Act.put]
        refine anyT_take (i := 26) (v := ?vT26_1) rfl (by kernel_rfl) (fun _ _ _ h => h) (Or.inl ⟨by rfl, ?hT26_1⟩) hHeld ?rT26_1
        case hT26_1 => (intro wS hSw; (try dsimp only at hSw); go_simp; try with_reducible rfl)
        simp only [Act.put]
        refine anyT_step (i := 27) rfl (by kernel_rfl) (fun K hK => ?_)
        clear hHeld
        go_simp
        refine (sPlus y v (by omega) (by omega) _).mono ?_; rintro e w9 ⟨rfl, rfl⟩
        have hb9 : Below wr.heap.size wr wr.drew := drew_below wr
        go_wp2_with fail
        refine hK.out _ _ (⟨(hb9.cell (p := ⟨bt, 1, none⟩) lb).trans c1, (hb9.cell (p := ⟨bc, oc + k * 4 + 3, none⟩) lc).trans i3, (hb9.cell (p := ⟨w.heap.size, q, none⟩) lsx).trans fa, (hb9.cell (p := ⟨gr, k, none⟩) lgx).trans g0, (hb9.cell (p := ⟨bi, oi, none⟩) lix).trans r0, (hb9.frozen (p := ⟨w.heap.size, q, none⟩) lsx).trans ff⟩) (fun hHeld => ?_)
        clear hK K
        try simp only [Act.put]
        refine anyT_take (i := 28) (v := ?vT28_1) rfl (by kernel_rfl) (fun _ _ _ h => h) (Or.inl ⟨by rfl, ?hT28_1⟩) hHeld ?rT28_1
        case hT28_1 => (intro wS hSw; (try dsimp only at hSw); go_simp; try with_reducible rfl)
        simp only [Act.put]
        refine anyT_last rfl (by kernel_rfl) (by kernel_rfl) (fun K hK => ?_)
        try dsimp only at hHeld
        go_simp
        refine hK.out _ _ ?_
        clear hK K hHeld
        have hO2 : Hid (Own w.heap.size (wr.drew.setCell ⟨w.heap.size, q, none⟩ (.int .i64 (pls y v))) w.heap.size ni (sumsV t adj (k + 1))) := HS.out _ ((hO.out.kept hb9 lsx).set q (pls y v))
        have hG2 : Hid (w2.grownBy (wr.drew.setCell ⟨w.heap.size, q, none⟩ (.int .i64 (pls y v))) (some w.heap.size)) := grownBy_trans hG.out (grownBy_trans (below_grown_some hb9) (grownBy_set _ _ _ _))
        clear c0 c1 c2 c3 i0 i1 i2 i3 fa g0 r0 ff hb9
        go_wp2_with fail
        go_roundw
        case rel => exact ⟨k + 1, by omega, by go_num, hO2, hG2⟩
        case measure => simp [intOf]; omega
      · have hd : ((t.code.getD k no4).op == 1) = false := by simpa using hop
        have hO2 : Hid (Own w.heap.size wr w.heap.size ni (sumsV t adj (k + 1))) := by
          show Own _ _ _ _ _
          rw [sumsV, if_neg hop]; exact hO.out
        clear hcc hri hO hop
        generalize t.code.getD k no4 = x at i0 i1 i2 i3 hd
        go_wp2_with fail
        clear i0 i1 i2 i3
        go_roundw
        case rel => exact ⟨k + 1, by omega, by go_num, hO2, hG⟩
        case measure => simp [intOf]; omega
    · have hi : ¬ (k : Int) < (t.code.length : Int) := by omega
      have hkk : k = t.code.length := by omega
      subst hkk
      have HL := Lib.hid ((sumsV_len t adj t.code.length).trans HNT.out)
      go_wp2_with fail
      go_ret
      exact ⟨w.heap.size, ni, ret_slice HL.out.symm, hO.out, H2.out.grown hG.out H2.out.size (fun q hq => by cases hq; exact Nat.le_refl _)⟩

    end Go.Proofs.Ytggojffmfjeikaa
