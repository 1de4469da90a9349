/- The methods of the arithmetic of pairs. -/
import Derived.Deep.RegionHeld3
import Derived.Deep.RegionWith
import Derived.Test.YtoedccgiahegnaaGreatDa
import Derived.Test.YtoedccgiahegnaaGreatNfn
import Derived.Test.YtoedccgiahegnaaGreatCkr
import Derived.Test.YtoedccgiahegnaaGreatHdq
namespace Go.Proofs.YtoedccgiahegnaaGreat
open Go.RowKit
set_option linter.unusedVariables false

set_option maxRecDepth 100000 in
set_option maxHeartbeats 1600000 in
theorem pZero (a b : Int) (w : World) : Calls Tryz.prog 184 #[.agg #[ofN], .agg #[.int .i64 a, .int .i64 b]] w fun e w' => e = .returned (.bool (a == 0)) ∧ Below w.heap.size w w' := by
  obtain ⟨w1, hw1⟩ : ∃ w1, w1 = (w.alloc (.cells #[ofN] 123)).alloc (.cells #[.int .i64 a, .int .i64 b] 121) := ⟨_, rfl⟩
  have b1 : Below w.heap.size w w1 := by rw [hw1]; exact ((Below.refl _ _).alloc (Nat.le_refl _) _).alloc (by simp) _
  have z1 := b1.size
  have x0 : w1.cell? ⟨w.heap.size, 0, none⟩ = some ofN := by rw [hw1]; simp [go_sem]
  have y0 : w1.cell? ⟨w.heap.size + 1, 0, none⟩ = some (.int .i64 a) := by rw [hw1]; simp [go_sem]
  have nA1 := zerAhead
  have nA2 := zerMeth
  have HZ := Lib.hid (nZero a w1)
  go_enter Tryz.func184, Tryz.ntmps184
  go_wp2_with fail
  rw [← hw1]
  clear hw1
  refine HZ.out.mono ?_; rintro e w2 ⟨rfl, b2⟩
  go_wp2_with fail
  go_ret
  exact ⟨rfl, b1.trans (b2.mono z1)⟩

set_option maxRecDepth 100000 in
set_option maxHeartbeats 3200000 in
theorem pConst (n : Int) (w : World) : Calls Tryz.prog 182 #[.agg #[ofN], .int .i64 n] w fun e w' => e = .returned (.agg #[.int .i64 n, .int .i64 0]) ∧ Below w.heap.size w w' := by
  obtain ⟨w1, hw1⟩ : ∃ w1, (w.alloc (.cells #[ofN] 123)).alloc (.cells #[.int .i64 0, .int .i64 0] 121) = w1 := ⟨_, rfl⟩
  have z1 : w1.heap.size = w.heap.size + 1 + 1 := by rw [← hw1]; simp
  have b1 : Below w.heap.size w w1 := by rw [← hw1]; exact ((Below.refl _ _).alloc (Nat.le_refl _) _).alloc (by simp; try omega) _
  have x0 : w1.cell? ⟨w.heap.size, 0, none⟩ = some (ofN) := by rw [← hw1]; simp [go_sem]
  have r0 : w1.cell? ⟨w.heap.size + 1, 0, none⟩ = some (.int .i64 0) := by rw [← hw1]; simp [go_sem]
  have r1 : w1.cell? ⟨w.heap.size + 1, 1, none⟩ = some (.int .i64 0) := by rw [← hw1]; simp [go_sem]
  have rf0 : w1.frozen? ⟨w.heap.size + 1, 0, none⟩ = false := by rw [← hw1]; simp [go_sem]
  have rf1 : w1.frozen? ⟨w.heap.size + 1, 1, none⟩ = false := by rw [← hw1]; simp [go_sem]
  have nA1 := cstAhead
  have nA2 := cstMeth
  have HC := fun n W => Lib.hid (nConst n W)
  have HZ1 := Lib.hid z1
  clear z1
  go_enter Tryz.func182, Tryz.ntmps182
  go_wp2_with fail
  refine region_TQ 8 (fun w' => w'.cell? ⟨w.heap.size, 0, none⟩ = some (ofN) ∧ w'.cell? ⟨w.heap.size + 1, 0, none⟩ = some (.int .i64 0) ∧ w'.cell? ⟨w.heap.size + 1, 1, none⟩ = some (.int .i64 0) ∧ w'.frozen? ⟨w.heap.size + 1, 0, none⟩ = false ∧ w'.frozen? ⟨w.heap.size + 1, 1, none⟩ = false) (by kernel_rfl) (⟨x0, r0, r1, rf0, rf1⟩) (fun _ _ d _ _ h => by cases d <;> exact h) (fun HQ hHeld => ?_)
  refine anyT_take (i := 0) (v := ?vT0_1) rfl (by kernel_rfl) (fun c a w h => HQ.out c a _ _ w h) (Or.inl ⟨by rfl, ?hT0_1⟩) hHeld ?rT0_1
  case hT0_1 => (intro wS hSw; (try dsimp only at hSw); go_simp; try with_reducible rfl)
  simp only [Act.put]
  refine anyT_take (i := 1) (v := ?vT1_1) rfl (by kernel_rfl) (fun c a w h => HQ.out c a _ _ w h) (Or.inl ⟨by rfl, ?hT1_1⟩) hHeld ?rT1_1
  case hT1_1 => (intro wS hSw; (try dsimp only at hSw); go_simp; try with_reducible rfl)
  simp only [Act.put]
  refine anyT_take (i := 2) (v := ?vT2_1) rfl (by kernel_rfl) (fun c a w h => HQ.out c a _ _ w h) (Or.inl ⟨by rfl, ?hT2_1⟩) hHeld ?rT2_1
  case hT2_1 => (intro wS hSw; (try dsimp only at hSw); go_simp; try with_reducible rfl)
  simp only [Act.put]
  refine anyT_take (i := 4) (v := ?vT4_1) rfl (by kernel_rfl) (fun c a w h => HQ.out c a _ _ w h) (Or.inl ⟨by rfl, ?hT4_1⟩) hHeld ?rT4_1
  case hT4_1 => (intro wS hSw; (try dsimp only at hSw); go_simp; try with_reducible rfl)
  simp only [Act.put]
  refine anyT_take (i := 5) (v := ?vT5_1) rfl (by kernel_rfl) (fun c a w h => HQ.out c a _ _ w h) (Or.inl ⟨by rfl, ?hT5_1⟩) hHeld ?rT5_1
  case hT5_1 => (intro wS hSw; (try dsimp only at hSw); go_simp; try with_reducible rfl)
  simp only [Act.put]
  refine anyT_step (i := 3) rfl (by kernel_rfl) (fun K hK => ?_)
  clear hHeld
  go_simp
  refine (HC n _).out.mono ?_; rintro e v0 ⟨rfl, c0⟩
  have d0 : Below w1.heap.size w1 v0 := ⟨c0.os, c0.tape, c0.output, c0.size, c0.block⟩
  go_wp2_with fail
  refine hK.out _ _ (by have z1 := HZ1.out; exact ⟨(d0.cell (p := ⟨w.heap.size, 0, none⟩) (by show w.heap.size < w1.heap.size; omega)).trans x0, (d0.cell (p := ⟨w.heap.size + 1, 0, none⟩) (by show w.heap.size + 1 < w1.heap.size; omega)).trans r0, (d0.cell (p := ⟨w.heap.size + 1, 1, none⟩) (by show w.heap.size + 1 < w1.heap.size; omega)).trans r1, (d0.frozen (p := ⟨w.heap.size + 1, 0, none⟩) (by show w.heap.size + 1 < w1.heap.size; omega)).trans rf0, (d0.frozen (p := ⟨w.heap.size + 1, 1, none⟩) (by show w.heap.size + 1 < w1.heap.size; omega)).trans rf1⟩) (fun hHeld => ?_)
  clear hK K
  try simp only [Act.put]
  refine anyT_step (i := 6) rfl (by kernel_rfl) (fun K hK => ?_)
  clear hHeld
  go_simp
  refine (HC 0 _).out.mono ?_; rintro e v1 ⟨rfl, c1⟩
  have d1 : Below w1.heap.size w1 v1 := d0.trans (c1.mono d0.size)
  go_wp2_with fail
  refine hK.out _ _ (by have z1 := HZ1.out; exact ⟨(d1.cell (p := ⟨w.heap.size, 0, none⟩) (by show w.heap.size < w1.heap.size; omega)).trans x0, (d1.cell (p := ⟨w.heap.size + 1, 0, none⟩) (by show w.heap.size + 1 < w1.heap.size; omega)).trans r0, (d1.cell (p := ⟨w.heap.size + 1, 1, none⟩) (by show w.heap.size + 1 < w1.heap.size; omega)).trans r1, (d1.frozen (p := ⟨w.heap.size + 1, 0, none⟩) (by show w.heap.size + 1 < w1.heap.size; omega)).trans rf0, (d1.frozen (p := ⟨w.heap.size + 1, 1, none⟩) (by show w.heap.size + 1 < w1.heap.size; omega)).trans rf1⟩) (fun hHeld => ?_)
  clear hK K
  try simp only [Act.put]
  refine anyT_take (i := 7) (v := ?vT7_1) rfl (by kernel_rfl) (fun c a w h => HQ.out c a _ _ w h) (Or.inl ⟨by rfl, ?hT7_1⟩) hHeld ?rT7_1
  case hT7_1 => (intro wS hSw; (try dsimp only at hSw); go_simp; try with_reducible rfl)
  simp only [Act.put]
  refine anyT_last rfl (by kernel_rfl) (by kernel_rfl) (fun K hK => ?_)
  try dsimp only at hHeld
  go_simp
  refine hK.out _ _ ?_
  clear hK K hHeld
  go_wp2_with fail
  have z1 := HZ1.out
  have hr0 : v1.cell? ⟨w.heap.size + 1, 0, none⟩ = some (.int .i64 0) := (d1.cell (p := ⟨w.heap.size + 1, 0, none⟩) (by show w.heap.size + 1 < w1.heap.size; omega)).trans r0
  have hr1 : v1.cell? ⟨w.heap.size + 1, 1, none⟩ = some (.int .i64 0) := (d1.cell (p := ⟨w.heap.size + 1, 1, none⟩) (by show w.heap.size + 1 < w1.heap.size; omega)).trans r1
  refine bodyPost_ret (v := .agg #[.int .i64 n, .int .i64 0]) (by simp [results, Tryz.results182, go_sem, hr0, hr1]) rfl ⟨rfl, ?_⟩
  have hsz := b1.size
  exact ((b1.trans (d1.mono hsz)).setCell (by show w.heap.size ≤ w.heap.size + 1; omega) _).setCell (by show w.heap.size ≤ w.heap.size + 1; omega) _

set_option maxRecDepth 100000 in
set_option maxHeartbeats 3200000 in
theorem pPlus (a x c y : Int) (ha : Num2 (a, x)) (hc : Num2 (c, y)) (w : World) : Calls Tryz.prog 188 #[.agg #[ofN], .agg #[.int .i64 a, .int .i64 x], .agg #[.int .i64 c, .int .i64 y]] w fun e w' => e = .returned (.agg #[.int .i64 (pls a c), .int .i64 (pls x y)]) ∧ Below w.heap.size w w' := by
  obtain ⟨w1, hw1⟩ : ∃ w1, (((w.alloc (.cells #[ofN] 123)).alloc (.cells #[.int .i64 a, .int .i64 x] 121)).alloc (.cells #[.int .i64 c, .int .i64 y] 121)).alloc (.cells #[.int .i64 0, .int .i64 0] 121) = w1 := ⟨_, rfl⟩
  have z1 : w1.heap.size = w.heap.size + 1 + 1 + 1 + 1 := by rw [← hw1]; simp
  have b1 : Below w.heap.size w w1 := by rw [← hw1]; exact ((((Below.refl _ _).alloc (Nat.le_refl _) _).alloc (by simp; try omega) _).alloc (by simp; try omega) _).alloc (by simp; try omega) _
  have x0 : w1.cell? ⟨w.heap.size, 0, none⟩ = some (ofN) := by rw [← hw1]; simp [go_sem]
  have p1 : w1.cell? ⟨w.heap.size + 1, 0, none⟩ = some (.int .i64 a) := by rw [← hw1]; simp [go_sem]
  have q1 : w1.cell? ⟨w.heap.size + 1, 1, none⟩ = some (.int .i64 x) := by rw [← hw1]; simp [go_sem]
  have p2 : w1.cell? ⟨w.heap.size + 1 + 1, 0, none⟩ = some (.int .i64 c) := by rw [← hw1]; simp [go_sem]
  have q2 : w1.cell? ⟨w.heap.size + 1 + 1, 1, none⟩ = some (.int .i64 y) := by rw [← hw1]; simp [go_sem]
  have r0 : w1.cell? ⟨w.heap.size + 1 + 1 + 1, 0, none⟩ = some (.int .i64 0) := by rw [← hw1]; simp [go_sem]
  have r1 : w1.cell? ⟨w.heap.size + 1 + 1 + 1, 1, none⟩ = some (.int .i64 0) := by rw [← hw1]; simp [go_sem]
  have rf0 : w1.frozen? ⟨w.heap.size + 1 + 1 + 1, 0, none⟩ = false := by rw [← hw1]; simp [go_sem]
  have rf1 : w1.frozen? ⟨w.heap.size + 1 + 1 + 1, 1, none⟩ = false := by rw [← hw1]; simp [go_sem]
  have nA1 := plsAhead
  have nA2 := plsMeth
  have HCA := fun W => Lib.hid (nPlus a c ha.1 hc.1 W)
  have HCB := fun W => Lib.hid (nPlus x y ha.2 hc.2 W)
  have HZ1 := Lib.hid z1
  clear z1
  go_enter Tryz.func188, Tryz.ntmps188
  go_wp2_with fail
  refine region_TQ 15 (fun w' => w'.cell? ⟨w.heap.size, 0, none⟩ = some (ofN) ∧ w'.cell? ⟨w.heap.size + 1, 0, none⟩ = some (.int .i64 a) ∧ w'.cell? ⟨w.heap.size + 1, 1, none⟩ = some (.int .i64 x) ∧ w'.cell? ⟨w.heap.size + 1 + 1, 0, none⟩ = some (.int .i64 c) ∧ w'.cell? ⟨w.heap.size + 1 + 1, 1, none⟩ = some (.int .i64 y) ∧ w'.cell? ⟨w.heap.size + 1 + 1 + 1, 0, none⟩ = some (.int .i64 0) ∧ w'.cell? ⟨w.heap.size + 1 + 1 + 1, 1, none⟩ = some (.int .i64 0) ∧ w'.frozen? ⟨w.heap.size + 1 + 1 + 1, 0, none⟩ = false ∧ w'.frozen? ⟨w.heap.size + 1 + 1 + 1, 1, none⟩ = false) (by kernel_rfl) (⟨x0, p1, q1, p2, q2, r0, r1, rf0, rf1⟩) (fun _ _ d _ _ h => by cases d <;> exact h) (fun HQ hHeld => ?_)
  refine anyT_take (i := 0) (v := ?vT0_2) rfl (by kernel_rfl) (fun c a w h => HQ.out c a _ _ w h) (Or.inl ⟨by rfl, ?hT0_2⟩) hHeld ?rT0_2
  case hT0_2 => (intro wS hSw; (try dsimp only at hSw); go_simp; try with_reducible rfl)
  simp only [Act.put]
  refine anyT_take (i := 1) (v := ?vT1_2) rfl (by kernel_rfl) (fun c a w h => HQ.out c a _ _ w h) (Or.inl ⟨by rfl, ?hT1_2⟩) hHeld ?rT1_2
  case hT1_2 => (intro wS hSw; (try dsimp only at hSw); go_simp; try with_reducible rfl)
  simp only [Act.put]
  refine anyT_take (i := 2) (v := ?vT2_2) rfl (by kernel_rfl) (fun c a w h => HQ.out c a _ _ w h) (Or.inl ⟨by rfl, ?hT2_2⟩) hHeld ?rT2_2
  case hT2_2 => (intro wS hSw; (try dsimp only at hSw); go_simp; try with_reducible rfl)
  simp only [Act.put]
  refine anyT_take (i := 3) (v := ?vT3_2) rfl (by kernel_rfl) (fun c a w h => HQ.out c a _ _ w h) (Or.inl ⟨by rfl, ?hT3_2⟩) hHeld ?rT3_2
  case hT3_2 => (intro wS hSw; (try dsimp only at hSw); go_simp; try with_reducible rfl)
  simp only [Act.put]
  refine anyT_take (i := 4) (v := ?vT4_2) rfl (by kernel_rfl) (fun c a w h => HQ.out c a _ _ w h) (Or.inl ⟨by rfl, ?hT4_2⟩) hHeld ?rT4_2
  case hT4_2 => (intro wS hSw; (try dsimp only at hSw); go_simp; try with_reducible rfl)
  simp only [Act.put]
  refine anyT_take (i := 5) (v := ?vT5_2) rfl (by kernel_rfl) (fun c a w h => HQ.out c a _ _ w h) (Or.inl ⟨by rfl, ?hT5_2⟩) hHeld ?rT5_2
  case hT5_2 => (intro wS hSw; (try dsimp only at hSw); go_simp; try with_reducible rfl)
  simp only [Act.put]
  refine anyT_take (i := 7) (v := ?vT7_2) rfl (by kernel_rfl) (fun c a w h => HQ.out c a _ _ w h) (Or.inl ⟨by rfl, ?hT7_2⟩) hHeld ?rT7_2
  case hT7_2 => (intro wS hSw; (try dsimp only at hSw); go_simp; try with_reducible rfl)
  simp only [Act.put]
  refine anyT_take (i := 8) (v := ?vT8_2) rfl (by kernel_rfl) (fun c a w h => HQ.out c a _ _ w h) (Or.inl ⟨by rfl, ?hT8_2⟩) hHeld ?rT8_2
  case hT8_2 => (intro wS hSw; (try dsimp only at hSw); go_simp; try with_reducible rfl)
  simp only [Act.put]
  refine anyT_take (i := 9) (v := ?vT9_2) rfl (by kernel_rfl) (fun c a w h => HQ.out c a _ _ w h) (Or.inl ⟨by rfl, ?hT9_2⟩) hHeld ?rT9_2
  case hT9_2 => (intro wS hSw; (try dsimp only at hSw); go_simp; try with_reducible rfl)
  simp only [Act.put]
  refine anyT_take (i := 10) (v := ?vT10_2) rfl (by kernel_rfl) (fun c a w h => HQ.out c a _ _ w h) (Or.inl ⟨by rfl, ?hT10_2⟩) hHeld ?rT10_2
  case hT10_2 => (intro wS hSw; (try dsimp only at hSw); go_simp; try with_reducible rfl)
  simp only [Act.put]
  refine anyT_take (i := 11) (v := ?vT11_2) rfl (by kernel_rfl) (fun c a w h => HQ.out c a _ _ w h) (Or.inl ⟨by rfl, ?hT11_2⟩) hHeld ?rT11_2
  case hT11_2 => (intro wS hSw; (try dsimp only at hSw); go_simp; try with_reducible rfl)
  simp only [Act.put]
  refine anyT_take (i := 12) (v := ?vT12_2) rfl (by kernel_rfl) (fun c a w h => HQ.out c a _ _ w h) (Or.inl ⟨by rfl, ?hT12_2⟩) hHeld ?rT12_2
  case hT12_2 => (intro wS hSw; (try dsimp only at hSw); go_simp; try with_reducible rfl)
  simp only [Act.put]
  refine anyT_step (i := 6) rfl (by kernel_rfl) (fun K hK => ?_)
  clear hHeld
  go_simp
  refine (HCA _).out.mono ?_; rintro e v0 ⟨rfl, c0⟩
  have d0 : Below w1.heap.size w1 v0 := ⟨c0.os, c0.tape, c0.output, c0.size, c0.block⟩
  go_wp2_with fail
  refine hK.out _ _ (by have z1 := HZ1.out; exact ⟨(d0.cell (p := ⟨w.heap.size, 0, none⟩) (by show w.heap.size < w1.heap.size; omega)).trans x0, (d0.cell (p := ⟨w.heap.size + 1, 0, none⟩) (by show w.heap.size + 1 < w1.heap.size; omega)).trans p1, (d0.cell (p := ⟨w.heap.size + 1, 1, none⟩) (by show w.heap.size + 1 < w1.heap.size; omega)).trans q1, (d0.cell (p := ⟨w.heap.size + 1 + 1, 0, none⟩) (by show w.heap.size + 1 + 1 < w1.heap.size; omega)).trans p2, (d0.cell (p := ⟨w.heap.size + 1 + 1, 1, none⟩) (by show w.heap.size + 1 + 1 < w1.heap.size; omega)).trans q2, (d0.cell (p := ⟨w.heap.size + 1 + 1 + 1, 0, none⟩) (by show w.heap.size + 1 + 1 + 1 < w1.heap.size; omega)).trans r0, (d0.cell (p := ⟨w.heap.size + 1 + 1 + 1, 1, none⟩) (by show w.heap.size + 1 + 1 + 1 < w1.heap.size; omega)).trans r1, (d0.frozen (p := ⟨w.heap.size + 1 + 1 + 1, 0, none⟩) (by show w.heap.size + 1 + 1 + 1 < w1.heap.size; omega)).trans rf0, (d0.frozen (p := ⟨w.heap.size + 1 + 1 + 1, 1, none⟩) (by show w.heap.size + 1 + 1 + 1 < w1.heap.size; omega)).trans rf1⟩) (fun hHeld => ?_)
  clear hK K
  try simp only [Act.put]
  refine anyT_step (i := 13) rfl (by kernel_rfl) (fun K hK => ?_)
  clear hHeld
  go_simp
  refine (HCB _).out.mono ?_; rintro e v1 ⟨rfl, c1⟩
  have d1 : Below w1.heap.size w1 v1 := d0.trans (c1.mono d0.size)
  go_wp2_with fail
  refine hK.out _ _ (by have z1 := HZ1.out; exact ⟨(d1.cell (p := ⟨w.heap.size, 0, none⟩) (by show w.heap.size < w1.heap.size; omega)).trans x0, (d1.cell (p := ⟨w.heap.size + 1, 0, none⟩) (by show w.heap.size + 1 < w1.heap.size; omega)).trans p1, (d1.cell (p := ⟨w.heap.size + 1, 1, none⟩) (by show w.heap.size + 1 < w1.heap.size; omega)).trans q1, (d1.cell (p := ⟨w.heap.size + 1 + 1, 0, none⟩) (by show w.heap.size + 1 + 1 < w1.heap.size; omega)).trans p2, (d1.cell (p := ⟨w.heap.size + 1 + 1, 1, none⟩) (by show w.heap.size + 1 + 1 < w1.heap.size; omega)).trans q2, (d1.cell (p := ⟨w.heap.size + 1 + 1 + 1, 0, none⟩) (by show w.heap.size + 1 + 1 + 1 < w1.heap.size; omega)).trans r0, (d1.cell (p := ⟨w.heap.size + 1 + 1 + 1, 1, none⟩) (by show w.heap.size + 1 + 1 + 1 < w1.heap.size; omega)).trans r1, (d1.frozen (p := ⟨w.heap.size + 1 + 1 + 1, 0, none⟩) (by show w.heap.size + 1 + 1 + 1 < w1.heap.size; omega)).trans rf0, (d1.frozen (p := ⟨w.heap.size + 1 + 1 + 1, 1, none⟩) (by show w.heap.size + 1 + 1 + 1 < w1.heap.size; omega)).trans rf1⟩) (fun hHeld => ?_)
  clear hK K
  try simp only [Act.put]
  refine anyT_take (i := 14) (v := ?vT14_2) rfl (by kernel_rfl) (fun c a w h => HQ.out c a _ _ w h) (Or.inl ⟨by rfl, ?hT14_2⟩) hHeld ?rT14_2
  case hT14_2 => (intro wS hSw; (try dsimp only at hSw); go_simp; try with_reducible rfl)
  simp only [Act.put]
  refine anyT_last rfl (by kernel_rfl) (by kernel_rfl) (fun K hK => ?_)
  try dsimp only at hHeld
  go_simp
  refine hK.out _ _ ?_
  clear hK K hHeld
  go_wp2_with fail
  have z1 := HZ1.out
  have hr0 : v1.cell? ⟨w.heap.size + 1 + 1 + 1, 0, none⟩ = some (.int .i64 0) := (d1.cell (p := ⟨w.heap.size + 1 + 1 + 1, 0, none⟩) (by show w.heap.size + 1 + 1 + 1 < w1.heap.size; omega)).trans r0
  have hr1 : v1.cell? ⟨w.heap.size + 1 + 1 + 1, 1, none⟩ = some (.int .i64 0) := (d1.cell (p := ⟨w.heap.size + 1 + 1 + 1, 1, none⟩) (by show w.heap.size + 1 + 1 + 1 < w1.heap.size; omega)).trans r1
  refine bodyPost_ret (v := .agg #[.int .i64 (pls a c), .int .i64 (pls x y)]) (by simp [results, Tryz.results188, go_sem, hr0, hr1]) rfl ⟨rfl, ?_⟩
  have hsz := b1.size
  exact ((b1.trans (d1.mono hsz)).setCell (by show w.heap.size ≤ w.heap.size + 1 + 1 + 1; omega) _).setCell (by show w.heap.size ≤ w.heap.size + 1 + 1 + 1; omega) _

set_option maxRecDepth 100000 in
set_option maxHeartbeats 3200000 in
theorem pMinus (a x c y : Int) (ha : Num2 (a, x)) (hc : Num2 (c, y)) (w : World) : Calls Tryz.prog 185 #[.agg #[ofN], .agg #[.int .i64 a, .int .i64 x], .agg #[.int .i64 c, .int .i64 y]] w fun e w' => e = .returned (.agg #[.int .i64 (mns a c), .int .i64 (mns x y)]) ∧ Below w.heap.size w w' := by
  obtain ⟨w1, hw1⟩ : ∃ w1, (((w.alloc (.cells #[ofN] 123)).alloc (.cells #[.int .i64 a, .int .i64 x] 121)).alloc (.cells #[.int .i64 c, .int .i64 y] 121)).alloc (.cells #[.int .i64 0, .int .i64 0] 121) = w1 := ⟨_, rfl⟩
  have z1 : w1.heap.size = w.heap.size + 1 + 1 + 1 + 1 := by rw [← hw1]; simp
  have b1 : Below w.heap.size w w1 := by rw [← hw1]; exact ((((Below.refl _ _).alloc (Nat.le_refl _) _).alloc (by simp; try omega) _).alloc (by simp; try omega) _).alloc (by simp; try omega) _
  have x0 : w1.cell? ⟨w.heap.size, 0, none⟩ = some (ofN) := by rw [← hw1]; simp [go_sem]
  have p1 : w1.cell? ⟨w.heap.size + 1, 0, none⟩ = some (.int .i64 a) := by rw [← hw1]; simp [go_sem]
  have q1 : w1.cell? ⟨w.heap.size + 1, 1, none⟩ = some (.int .i64 x) := by rw [← hw1]; simp [go_sem]
  have p2 : w1.cell? ⟨w.heap.size + 1 + 1, 0, none⟩ = some (.int .i64 c) := by rw [← hw1]; simp [go_sem]
  have q2 : w1.cell? ⟨w.heap.size + 1 + 1, 1, none⟩ = some (.int .i64 y) := by rw [← hw1]; simp [go_sem]
  have r0 : w1.cell? ⟨w.heap.size + 1 + 1 + 1, 0, none⟩ = some (.int .i64 0) := by rw [← hw1]; simp [go_sem]
  have r1 : w1.cell? ⟨w.heap.size + 1 + 1 + 1, 1, none⟩ = some (.int .i64 0) := by rw [← hw1]; simp [go_sem]
  have rf0 : w1.frozen? ⟨w.heap.size + 1 + 1 + 1, 0, none⟩ = false := by rw [← hw1]; simp [go_sem]
  have rf1 : w1.frozen? ⟨w.heap.size + 1 + 1 + 1, 1, none⟩ = false := by rw [← hw1]; simp [go_sem]
  have nA1 := minAhead
  have nA2 := minMeth
  have HCA := fun W => Lib.hid (nMinus a c ha.1 hc.1 W)
  have HCB := fun W => Lib.hid (nMinus x y ha.2 hc.2 W)
  have HZ1 := Lib.hid z1
  clear z1
  go_enter Tryz.func185, Tryz.ntmps185
  go_wp2_with fail
  refine region_TQ 15 (fun w' => w'.cell? ⟨w.heap.size, 0, none⟩ = some (ofN) ∧ w'.cell? ⟨w.heap.size + 1, 0, none⟩ = some (.int .i64 a) ∧ w'.cell? ⟨w.heap.size + 1, 1, none⟩ = some (.int .i64 x) ∧ w'.cell? ⟨w.heap.size + 1 + 1, 0, none⟩ = some (.int .i64 c) ∧ w'.cell? ⟨w.heap.size + 1 + 1, 1, none⟩ = some (.int .i64 y) ∧ w'.cell? ⟨w.heap.size + 1 + 1 + 1, 0, none⟩ = some (.int .i64 0) ∧ w'.cell? ⟨w.heap.size + 1 + 1 + 1, 1, none⟩ = some (.int .i64 0) ∧ w'.frozen? ⟨w.heap.size + 1 + 1 + 1, 0, none⟩ = false ∧ w'.frozen? ⟨w.heap.size + 1 + 1 + 1, 1, none⟩ = false) (by kernel_rfl) (⟨x0, p1, q1, p2, q2, r0, r1, rf0, rf1⟩) (fun _ _ d _ _ h => by cases d <;> exact h) (fun HQ hHeld => ?_)
  refine anyT_take (i := 0) (v := ?vT0_3) rfl (by kernel_rfl) (fun c a w h => HQ.out c a _ _ w h) (Or.inl ⟨by rfl, ?hT0_3⟩) hHeld ?rT0_3
  case hT0_3 => (intro wS hSw; (try dsimp only at hSw); go_simp; try with_reducible rfl)
  simp only [Act.put]
  refine anyT_take (i := 1) (v := ?vT1_3) rfl (by kernel_rfl) (fun c a w h => HQ.out c a _ _ w h) (Or.inl ⟨by rfl, ?hT1_3⟩) hHeld ?rT1_3
  case hT1_3 => (intro wS hSw; (try dsimp only at hSw); go_simp; try with_reducible rfl)
  simp only [Act.put]
  refine anyT_take (i := 2) (v := ?vT2_3) rfl (by kernel_rfl) (fun c a w h => HQ.out c a _ _ w h) (Or.inl ⟨by rfl, ?hT2_3⟩) hHeld ?rT2_3
  case hT2_3 => (intro wS hSw; (try dsimp only at hSw); go_simp; try with_reducible rfl)
  simp only [Act.put]
  refine anyT_take (i := 3) (v := ?vT3_3) rfl (by kernel_rfl) (fun c a w h => HQ.out c a _ _ w h) (Or.inl ⟨by rfl, ?hT3_3⟩) hHeld ?rT3_3
  case hT3_3 => (intro wS hSw; (try dsimp only at hSw); go_simp; try with_reducible rfl)
  simp only [Act.put]
  refine anyT_take (i := 4) (v := ?vT4_3) rfl (by kernel_rfl) (fun c a w h => HQ.out c a _ _ w h) (Or.inl ⟨by rfl, ?hT4_3⟩) hHeld ?rT4_3
  case hT4_3 => (intro wS hSw; (try dsimp only at hSw); go_simp; try with_reducible rfl)
  simp only [Act.put]
  refine anyT_take (i := 5) (v := ?vT5_3) rfl (by kernel_rfl) (fun c a w h => HQ.out c a _ _ w h) (Or.inl ⟨by rfl, ?hT5_3⟩) hHeld ?rT5_3
  case hT5_3 => (intro wS hSw; (try dsimp only at hSw); go_simp; try with_reducible rfl)
  simp only [Act.put]
  refine anyT_take (i := 7) (v := ?vT7_3) rfl (by kernel_rfl) (fun c a w h => HQ.out c a _ _ w h) (Or.inl ⟨by rfl, ?hT7_3⟩) hHeld ?rT7_3
  case hT7_3 => (intro wS hSw; (try dsimp only at hSw); go_simp; try with_reducible rfl)
  simp only [Act.put]
  refine anyT_take (i := 8) (v := ?vT8_3) rfl (by kernel_rfl) (fun c a w h => HQ.out c a _ _ w h) (Or.inl ⟨by rfl, ?hT8_3⟩) hHeld ?rT8_3
  case hT8_3 => (intro wS hSw; (try dsimp only at hSw); go_simp; try with_reducible rfl)
  simp only [Act.put]
  refine anyT_take (i := 9) (v := ?vT9_3) rfl (by kernel_rfl) (fun c a w h => HQ.out c a _ _ w h) (Or.inl ⟨by rfl, ?hT9_3⟩) hHeld ?rT9_3
  case hT9_3 => (intro wS hSw; (try dsimp only at hSw); go_simp; try with_reducible rfl)
  simp only [Act.put]
  refine anyT_take (i := 10) (v := ?vT10_3) rfl (by kernel_rfl) (fun c a w h => HQ.out c a _ _ w h) (Or.inl ⟨by rfl, ?hT10_3⟩) hHeld ?rT10_3
  case hT10_3 => (intro wS hSw; (try dsimp only at hSw); go_simp; try with_reducible rfl)
  simp only [Act.put]
  refine anyT_take (i := 11) (v := ?vT11_3) rfl (by kernel_rfl) (fun c a w h => HQ.out c a _ _ w h) (Or.inl ⟨by rfl, ?hT11_3⟩) hHeld ?rT11_3
  case hT11_3 => (intro wS hSw; (try dsimp only at hSw); go_simp; try with_reducible rfl)
  simp only [Act.put]
  refine anyT_take (i := 12) (v := ?vT12_3) rfl (by kernel_rfl) (fun c a w h => HQ.out c a _ _ w h) (Or.inl ⟨by rfl, ?hT12_3⟩) hHeld ?rT12_3
  case hT12_3 => (intro wS hSw; (try dsimp only at hSw); go_simp; try with_reducible rfl)
  simp only [Act.put]
  refine anyT_step (i := 6) rfl (by kernel_rfl) (fun K hK => ?_)
  clear hHeld
  go_simp
  refine (HCA _).out.mono ?_; rintro e v0 ⟨rfl, c0⟩
  have d0 : Below w1.heap.size w1 v0 := ⟨c0.os, c0.tape, c0.output, c0.size, c0.block⟩
  go_wp2_with fail
  refine hK.out _ _ (by have z1 := HZ1.out; exact ⟨(d0.cell (p := ⟨w.heap.size, 0, none⟩) (by show w.heap.size < w1.heap.size; omega)).trans x0, (d0.cell (p := ⟨w.heap.size + 1, 0, none⟩) (by show w.heap.size + 1 < w1.heap.size; omega)).trans p1, (d0.cell (p := ⟨w.heap.size + 1, 1, none⟩) (by show w.heap.size + 1 < w1.heap.size; omega)).trans q1, (d0.cell (p := ⟨w.heap.size + 1 + 1, 0, none⟩) (by show w.heap.size + 1 + 1 < w1.heap.size; omega)).trans p2, (d0.cell (p := ⟨w.heap.size + 1 + 1, 1, none⟩) (by show w.heap.size + 1 + 1 < w1.heap.size; omega)).trans q2, (d0.cell (p := ⟨w.heap.size + 1 + 1 + 1, 0, none⟩) (by show w.heap.size + 1 + 1 + 1 < w1.heap.size; omega)).trans r0, (d0.cell (p := ⟨w.heap.size + 1 + 1 + 1, 1, none⟩) (by show w.heap.size + 1 + 1 + 1 < w1.heap.size; omega)).trans r1, (d0.frozen (p := ⟨w.heap.size + 1 + 1 + 1, 0, none⟩) (by show w.heap.size + 1 + 1 + 1 < w1.heap.size; omega)).trans rf0, (d0.frozen (p := ⟨w.heap.size + 1 + 1 + 1, 1, none⟩) (by show w.heap.size + 1 + 1 + 1 < w1.heap.size; omega)).trans rf1⟩) (fun hHeld => ?_)
  clear hK K
  try simp only [Act.put]
  refine anyT_step (i := 13) rfl (by kernel_rfl) (fun K hK => ?_)
  clear hHeld
  go_simp
  refine (HCB _).out.mono ?_; rintro e v1 ⟨rfl, c1⟩
  have d1 : Below w1.heap.size w1 v1 := d0.trans (c1.mono d0.size)
  go_wp2_with fail
  refine hK.out _ _ (by have z1 := HZ1.out; exact ⟨(d1.cell (p := ⟨w.heap.size, 0, none⟩) (by show w.heap.size < w1.heap.size; omega)).trans x0, (d1.cell (p := ⟨w.heap.size + 1, 0, none⟩) (by show w.heap.size + 1 < w1.heap.size; omega)).trans p1, (d1.cell (p := ⟨w.heap.size + 1, 1, none⟩) (by show w.heap.size + 1 < w1.heap.size; omega)).trans q1, (d1.cell (p := ⟨w.heap.size + 1 + 1, 0, none⟩) (by show w.heap.size + 1 + 1 < w1.heap.size; omega)).trans p2, (d1.cell (p := ⟨w.heap.size + 1 + 1, 1, none⟩) (by show w.heap.size + 1 + 1 < w1.heap.size; omega)).trans q2, (d1.cell (p := ⟨w.heap.size + 1 + 1 + 1, 0, none⟩) (by show w.heap.size + 1 + 1 + 1 < w1.heap.size; omega)).trans r0, (d1.cell (p := ⟨w.heap.size + 1 + 1 + 1, 1, none⟩) (by show w.heap.size + 1 + 1 + 1 < w1.heap.size; omega)).trans r1, (d1.frozen (p := ⟨w.heap.size + 1 + 1 + 1, 0, none⟩) (by show w.heap.size + 1 + 1 + 1 < w1.heap.size; omega)).trans rf0, (d1.frozen (p := ⟨w.heap.size + 1 + 1 + 1, 1, none⟩) (by show w.heap.size + 1 + 1 + 1 < w1.heap.size; omega)).trans rf1⟩) (fun hHeld => ?_)
  clear hK K
  try simp only [Act.put]
  refine anyT_take (i := 14) (v := ?vT14_3) rfl (by kernel_rfl) (fun c a w h => HQ.out c a _ _ w h) (Or.inl ⟨by rfl, ?hT14_3⟩) hHeld ?rT14_3
  case hT14_3 => (intro wS hSw; (try dsimp only at hSw); go_simp; try with_reducible rfl)
  simp only [Act.put]
  refine anyT_last rfl (by kernel_rfl) (by kernel_rfl) (fun K hK => ?_)
  try dsimp only at hHeld
  go_simp
  refine hK.out _ _ ?_
  clear hK K hHeld
  go_wp2_with fail
  have z1 := HZ1.out
  have hr0 : v1.cell? ⟨w.heap.size + 1 + 1 + 1, 0, none⟩ = some (.int .i64 0) := (d1.cell (p := ⟨w.heap.size + 1 + 1 + 1, 0, none⟩) (by show w.heap.size + 1 + 1 + 1 < w1.heap.size; omega)).trans r0
  have hr1 : v1.cell? ⟨w.heap.size + 1 + 1 + 1, 1, none⟩ = some (.int .i64 0) := (d1.cell (p := ⟨w.heap.size + 1 + 1 + 1, 1, none⟩) (by show w.heap.size + 1 + 1 + 1 < w1.heap.size; omega)).trans r1
  refine bodyPost_ret (v := .agg #[.int .i64 (mns a c), .int .i64 (mns x y)]) (by simp [results, Tryz.results185, go_sem, hr0, hr1]) rfl ⟨rfl, ?_⟩
  have hsz := b1.size
  exact ((b1.trans (d1.mono hsz)).setCell (by show w.heap.size ≤ w.heap.size + 1 + 1 + 1; omega) _).setCell (by show w.heap.size ≤ w.heap.size + 1 + 1 + 1; omega) _

set_option maxRecDepth 100000 in
set_option maxHeartbeats 3200000 in
theorem pNeg (a x : Int) (ha : Num2 (a, x)) (w : World) : Calls Tryz.prog 186 #[.agg #[ofN], .agg #[.int .i64 a, .int .i64 x]] w fun e w' => e = .returned (.agg #[.int .i64 (mns 0 a), .int .i64 (mns 0 x)]) ∧ Below w.heap.size w w' := by
  obtain ⟨w1, hw1⟩ : ∃ w1, ((w.alloc (.cells #[ofN] 123)).alloc (.cells #[.int .i64 a, .int .i64 x] 121)).alloc (.cells #[.int .i64 0, .int .i64 0] 121) = w1 := ⟨_, rfl⟩
  have z1 : w1.heap.size = w.heap.size + 1 + 1 + 1 := by rw [← hw1]; simp
  have b1 : Below w.heap.size w w1 := by rw [← hw1]; exact (((Below.refl _ _).alloc (Nat.le_refl _) _).alloc (by simp; try omega) _).alloc (by simp; try omega) _
  have x0 : w1.cell? ⟨w.heap.size, 0, none⟩ = some (ofN) := by rw [← hw1]; simp [go_sem]
  have p1 : w1.cell? ⟨w.heap.size + 1, 0, none⟩ = some (.int .i64 a) := by rw [← hw1]; simp [go_sem]
  have q1 : w1.cell? ⟨w.heap.size + 1, 1, none⟩ = some (.int .i64 x) := by rw [← hw1]; simp [go_sem]
  have r0 : w1.cell? ⟨w.heap.size + 1 + 1, 0, none⟩ = some (.int .i64 0) := by rw [← hw1]; simp [go_sem]
  have r1 : w1.cell? ⟨w.heap.size + 1 + 1, 1, none⟩ = some (.int .i64 0) := by rw [← hw1]; simp [go_sem]
  have rf0 : w1.frozen? ⟨w.heap.size + 1 + 1, 0, none⟩ = false := by rw [← hw1]; simp [go_sem]
  have rf1 : w1.frozen? ⟨w.heap.size + 1 + 1, 1, none⟩ = false := by rw [← hw1]; simp [go_sem]
  have nA1 := negAhead
  have nA2 := negMeth
  have HCA := fun W => Lib.hid (nNeg a ha.1 W)
  have HCB := fun W => Lib.hid (nNeg x ha.2 W)
  have HZ1 := Lib.hid z1
  clear z1
  go_enter Tryz.func186, Tryz.ntmps186
  go_wp2_with fail
  refine region_TQ 11 (fun w' => w'.cell? ⟨w.heap.size, 0, none⟩ = some (ofN) ∧ w'.cell? ⟨w.heap.size + 1, 0, none⟩ = some (.int .i64 a) ∧ w'.cell? ⟨w.heap.size + 1, 1, none⟩ = some (.int .i64 x) ∧ w'.cell? ⟨w.heap.size + 1 + 1, 0, none⟩ = some (.int .i64 0) ∧ w'.cell? ⟨w.heap.size + 1 + 1, 1, none⟩ = some (.int .i64 0) ∧ w'.frozen? ⟨w.heap.size + 1 + 1, 0, none⟩ = false ∧ w'.frozen? ⟨w.heap.size + 1 + 1, 1, none⟩ = false) (by kernel_rfl) (⟨x0, p1, q1, r0, r1, rf0, rf1⟩) (fun _ _ d _ _ h => by cases d <;> exact h) (fun HQ hHeld => ?_)
  refine anyT_take (i := 0) (v := ?vT0_4) rfl (by kernel_rfl) (fun c a w h => HQ.out c a _ _ w h) (Or.inl ⟨by rfl, ?hT0_4⟩) hHeld ?rT0_4
  case hT0_4 => (intro wS hSw; (try dsimp only at hSw); go_simp; try with_reducible rfl)
  simp only [Act.put]
  refine anyT_take (i := 1) (v := ?vT1_4) rfl (by kernel_rfl) (fun c a w h => HQ.out c a _ _ w h) (Or.inl ⟨by rfl, ?hT1_4⟩) hHeld ?rT1_4
  case hT1_4 => (intro wS hSw; (try dsimp only at hSw); go_simp; try with_reducible rfl)
  simp only [Act.put]
  refine anyT_take (i := 2) (v := ?vT2_4) rfl (by kernel_rfl) (fun c a w h => HQ.out c a _ _ w h) (Or.inl ⟨by rfl, ?hT2_4⟩) hHeld ?rT2_4
  case hT2_4 => (intro wS hSw; (try dsimp only at hSw); go_simp; try with_reducible rfl)
  simp only [Act.put]
  refine anyT_take (i := 3) (v := ?vT3_4) rfl (by kernel_rfl) (fun c a w h => HQ.out c a _ _ w h) (Or.inl ⟨by rfl, ?hT3_4⟩) hHeld ?rT3_4
  case hT3_4 => (intro wS hSw; (try dsimp only at hSw); go_simp; try with_reducible rfl)
  simp only [Act.put]
  refine anyT_take (i := 5) (v := ?vT5_4) rfl (by kernel_rfl) (fun c a w h => HQ.out c a _ _ w h) (Or.inl ⟨by rfl, ?hT5_4⟩) hHeld ?rT5_4
  case hT5_4 => (intro wS hSw; (try dsimp only at hSw); go_simp; try with_reducible rfl)
  simp only [Act.put]
  refine anyT_take (i := 6) (v := ?vT6_4) rfl (by kernel_rfl) (fun c a w h => HQ.out c a _ _ w h) (Or.inl ⟨by rfl, ?hT6_4⟩) hHeld ?rT6_4
  case hT6_4 => (intro wS hSw; (try dsimp only at hSw); go_simp; try with_reducible rfl)
  simp only [Act.put]
  refine anyT_take (i := 7) (v := ?vT7_4) rfl (by kernel_rfl) (fun c a w h => HQ.out c a _ _ w h) (Or.inl ⟨by rfl, ?hT7_4⟩) hHeld ?rT7_4
  case hT7_4 => (intro wS hSw; (try dsimp only at hSw); go_simp; try with_reducible rfl)
  simp only [Act.put]
  refine anyT_take (i := 8) (v := ?vT8_4) rfl (by kernel_rfl) (fun c a w h => HQ.out c a _ _ w h) (Or.inl ⟨by rfl, ?hT8_4⟩) hHeld ?rT8_4
  case hT8_4 => (intro wS hSw; (try dsimp only at hSw); go_simp; try with_reducible rfl)
  simp only [Act.put]
  refine anyT_step (i := 4) rfl (by kernel_rfl) (fun K hK => ?_)
  clear hHeld
  go_simp
  refine (HCA _).out.mono ?_; rintro e v0 ⟨rfl, c0⟩
  have d0 : Below w1.heap.size w1 v0 := ⟨c0.os, c0.tape, c0.output, c0.size, c0.block⟩
  go_wp2_with fail
  refine hK.out _ _ (by have z1 := HZ1.out; exact ⟨(d0.cell (p := ⟨w.heap.size, 0, none⟩) (by show w.heap.size < w1.heap.size; omega)).trans x0, (d0.cell (p := ⟨w.heap.size + 1, 0, none⟩) (by show w.heap.size + 1 < w1.heap.size; omega)).trans p1, (d0.cell (p := ⟨w.heap.size + 1, 1, none⟩) (by show w.heap.size + 1 < w1.heap.size; omega)).trans q1, (d0.cell (p := ⟨w.heap.size + 1 + 1, 0, none⟩) (by show w.heap.size + 1 + 1 < w1.heap.size; omega)).trans r0, (d0.cell (p := ⟨w.heap.size + 1 + 1, 1, none⟩) (by show w.heap.size + 1 + 1 < w1.heap.size; omega)).trans r1, (d0.frozen (p := ⟨w.heap.size + 1 + 1, 0, none⟩) (by show w.heap.size + 1 + 1 < w1.heap.size; omega)).trans rf0, (d0.frozen (p := ⟨w.heap.size + 1 + 1, 1, none⟩) (by show w.heap.size + 1 + 1 < w1.heap.size; omega)).trans rf1⟩) (fun hHeld => ?_)
  clear hK K
  try simp only [Act.put]
  refine anyT_step (i := 9) rfl (by kernel_rfl) (fun K hK => ?_)
  clear hHeld
  go_simp
  refine (HCB _).out.mono ?_; rintro e v1 ⟨rfl, c1⟩
  have d1 : Below w1.heap.size w1 v1 := d0.trans (c1.mono d0.size)
  go_wp2_with fail
  refine hK.out _ _ (by have z1 := HZ1.out; exact ⟨(d1.cell (p := ⟨w.heap.size, 0, none⟩) (by show w.heap.size < w1.heap.size; omega)).trans x0, (d1.cell (p := ⟨w.heap.size + 1, 0, none⟩) (by show w.heap.size + 1 < w1.heap.size; omega)).trans p1, (d1.cell (p := ⟨w.heap.size + 1, 1, none⟩) (by show w.heap.size + 1 < w1.heap.size; omega)).trans q1, (d1.cell (p := ⟨w.heap.size + 1 + 1, 0, none⟩) (by show w.heap.size + 1 + 1 < w1.heap.size; omega)).trans r0, (d1.cell (p := ⟨w.heap.size + 1 + 1, 1, none⟩) (by show w.heap.size + 1 + 1 < w1.heap.size; omega)).trans r1, (d1.frozen (p := ⟨w.heap.size + 1 + 1, 0, none⟩) (by show w.heap.size + 1 + 1 < w1.heap.size; omega)).trans rf0, (d1.frozen (p := ⟨w.heap.size + 1 + 1, 1, none⟩) (by show w.heap.size + 1 + 1 < w1.heap.size; omega)).trans rf1⟩) (fun hHeld => ?_)
  clear hK K
  try simp only [Act.put]
  refine anyT_take (i := 10) (v := ?vT10_4) rfl (by kernel_rfl) (fun c a w h => HQ.out c a _ _ w h) (Or.inl ⟨by rfl, ?hT10_4⟩) hHeld ?rT10_4
  case hT10_4 => (intro wS hSw; (try dsimp only at hSw); go_simp; try with_reducible rfl)
  simp only [Act.put]
  refine anyT_last rfl (by kernel_rfl) (by kernel_rfl) (fun K hK => ?_)
  try dsimp only at hHeld
  go_simp
  refine hK.out _ _ ?_
  clear hK K hHeld
  go_wp2_with fail
  have z1 := HZ1.out
  have hr0 : v1.cell? ⟨w.heap.size + 1 + 1, 0, none⟩ = some (.int .i64 0) := (d1.cell (p := ⟨w.heap.size + 1 + 1, 0, none⟩) (by show w.heap.size + 1 + 1 < w1.heap.size; omega)).trans r0
  have hr1 : v1.cell? ⟨w.heap.size + 1 + 1, 1, none⟩ = some (.int .i64 0) := (d1.cell (p := ⟨w.heap.size + 1 + 1, 1, none⟩) (by show w.heap.size + 1 + 1 < w1.heap.size; omega)).trans r1
  refine bodyPost_ret (v := .agg #[.int .i64 (mns 0 a), .int .i64 (mns 0 x)]) (by simp [results, Tryz.results186, go_sem, hr0, hr1]) rfl ⟨rfl, ?_⟩
  have hsz := b1.size
  exact ((b1.trans (d1.mono hsz)).setCell (by show w.heap.size ≤ w.heap.size + 1 + 1; omega) _).setCell (by show w.heap.size ≤ w.heap.size + 1 + 1; omega) _

set_option maxRecDepth 100000 in
set_option maxHeartbeats 3200000 in
theorem pTimes (a x c y : Int) (ha : Num2 (a, x)) (hc : Num2 (c, y)) (w : World) : Calls Tryz.prog 189 #[.agg #[ofN], .agg #[.int .i64 a, .int .i64 x], .agg #[.int .i64 c, .int .i64 y]] w fun e w' => e = .returned (.agg #[.int .i64 (tms a c), .int .i64 (pls (tms x c) (tms a y))]) ∧ Below w.heap.size w w' := by
  obtain ⟨w1, hw1⟩ : ∃ w1, (((w.alloc (.cells #[ofN] 123)).alloc (.cells #[.int .i64 a, .int .i64 x] 121)).alloc (.cells #[.int .i64 c, .int .i64 y] 121)).alloc (.cells #[.int .i64 0, .int .i64 0] 121) = w1 := ⟨_, rfl⟩
  have z1 : w1.heap.size = w.heap.size + 1 + 1 + 1 + 1 := by rw [← hw1]; simp
  have b1 : Below w.heap.size w w1 := by rw [← hw1]; exact ((((Below.refl _ _).alloc (Nat.le_refl _) _).alloc (by simp; try omega) _).alloc (by simp; try omega) _).alloc (by simp; try omega) _
  have x0 : w1.cell? ⟨w.heap.size, 0, none⟩ = some (ofN) := by rw [← hw1]; simp [go_sem]
  have p1 : w1.cell? ⟨w.heap.size + 1, 0, none⟩ = some (.int .i64 a) := by rw [← hw1]; simp [go_sem]
  have q1 : w1.cell? ⟨w.heap.size + 1, 1, none⟩ = some (.int .i64 x) := by rw [← hw1]; simp [go_sem]
  have p2 : w1.cell? ⟨w.heap.size + 1 + 1, 0, none⟩ = some (.int .i64 c) := by rw [← hw1]; simp [go_sem]
  have q2 : w1.cell? ⟨w.heap.size + 1 + 1, 1, none⟩ = some (.int .i64 y) := by rw [← hw1]; simp [go_sem]
  have r0 : w1.cell? ⟨w.heap.size + 1 + 1 + 1, 0, none⟩ = some (.int .i64 0) := by rw [← hw1]; simp [go_sem]
  have r1 : w1.cell? ⟨w.heap.size + 1 + 1 + 1, 1, none⟩ = some (.int .i64 0) := by rw [← hw1]; simp [go_sem]
  have rf0 : w1.frozen? ⟨w.heap.size + 1 + 1 + 1, 0, none⟩ = false := by rw [← hw1]; simp [go_sem]
  have rf1 : w1.frozen? ⟨w.heap.size + 1 + 1 + 1, 1, none⟩ = false := by rw [← hw1]; simp [go_sem]
  have nA1 := timAhead
  have nA2 := timMeth
  have nA3 := plsAhead
  have nA4 := plsMeth
  have HCA := fun W => Lib.hid (nTimes x c ha.2 hc.1 W)
  have HCB := fun W => Lib.hid (nTimes a y ha.1 hc.2 W)
  have HCC := fun W => Lib.hid (nPlus (tms x c) (tms a y) (tms_bd _ _) (tms_bd _ _) W)
  have HCD := fun W => Lib.hid (nTimes a c ha.1 hc.1 W)
  have HZ1 := Lib.hid z1
  clear z1
  have HS0 : Hid (w1.cell? ⟨w.heap.size, 0, none⟩ = some (ofN) ∧ w1.cell? ⟨w.heap.size + 1, 0, none⟩ = some (.int .i64 a) ∧ w1.cell? ⟨w.heap.size + 1, 1, none⟩ = some (.int .i64 x) ∧ w1.cell? ⟨w.heap.size + 1 + 1, 0, none⟩ = some (.int .i64 c) ∧ w1.cell? ⟨w.heap.size + 1 + 1, 1, none⟩ = some (.int .i64 y) ∧ w1.cell? ⟨w.heap.size + 1 + 1 + 1, 0, none⟩ = some (.int .i64 0) ∧ w1.cell? ⟨w.heap.size + 1 + 1 + 1, 1, none⟩ = some (.int .i64 0) ∧ w1.frozen? ⟨w.heap.size + 1 + 1 + 1, 0, none⟩ = false ∧ w1.frozen? ⟨w.heap.size + 1 + 1 + 1, 1, none⟩ = false) := ⟨x0, p1, q1, p2, q2, r0, r1, rf0, rf1⟩
  go_enter Tryz.func189, Tryz.ntmps189
  go_wp2_with fail
  go_region_held3 (fun w' => w'.cell? ⟨w.heap.size, 0, none⟩ = some (ofN) ∧ w'.cell? ⟨w.heap.size + 1, 0, none⟩ = some (.int .i64 a) ∧ w'.cell? ⟨w.heap.size + 1, 1, none⟩ = some (.int .i64 x) ∧ w'.cell? ⟨w.heap.size + 1 + 1, 0, none⟩ = some (.int .i64 c) ∧ w'.cell? ⟨w.heap.size + 1 + 1, 1, none⟩ = some (.int .i64 y) ∧ w'.cell? ⟨w.heap.size + 1 + 1 + 1, 0, none⟩ = some (.int .i64 0) ∧ w'.cell? ⟨w.heap.size + 1 + 1 + 1, 1, none⟩ = some (.int .i64 0) ∧ w'.frozen? ⟨w.heap.size + 1 + 1 + 1, 0, none⟩ = false ∧ w'.frozen? ⟨w.heap.size + 1 + 1 + 1, 1, none⟩ = false)
    (first
      | with_reducible exact HS0.out
      | with_reducible exact Y0.out
      | with_reducible exact Y1.out
      | with_reducible exact Y2.out
      | go_keep)
    (first
      | (go_at_call 177; refine (HCA _).out.mono ?_; rintro e v0 ⟨rfl, c0⟩; have d0 : Below w1.heap.size w1 v0 := ⟨c0.os, c0.tape, c0.output, c0.size, c0.block⟩; have Y0 : Hid (v0.cell? ⟨w.heap.size, 0, none⟩ = some (ofN) ∧ v0.cell? ⟨w.heap.size + 1, 0, none⟩ = some (.int .i64 a) ∧ v0.cell? ⟨w.heap.size + 1, 1, none⟩ = some (.int .i64 x) ∧ v0.cell? ⟨w.heap.size + 1 + 1, 0, none⟩ = some (.int .i64 c) ∧ v0.cell? ⟨w.heap.size + 1 + 1, 1, none⟩ = some (.int .i64 y) ∧ v0.cell? ⟨w.heap.size + 1 + 1 + 1, 0, none⟩ = some (.int .i64 0) ∧ v0.cell? ⟨w.heap.size + 1 + 1 + 1, 1, none⟩ = some (.int .i64 0) ∧ v0.frozen? ⟨w.heap.size + 1 + 1 + 1, 0, none⟩ = false ∧ v0.frozen? ⟨w.heap.size + 1 + 1 + 1, 1, none⟩ = false) := (by have z1 := HZ1.out; obtain ⟨x0, p1, q1, p2, q2, r0, r1, rf0, rf1⟩ := HS0.out; exact ⟨(d0.cell (p := ⟨w.heap.size, 0, none⟩) (by show w.heap.size < w1.heap.size; omega)).trans x0, (d0.cell (p := ⟨w.heap.size + 1, 0, none⟩) (by show w.heap.size + 1 < w1.heap.size; omega)).trans p1, (d0.cell (p := ⟨w.heap.size + 1, 1, none⟩) (by show w.heap.size + 1 < w1.heap.size; omega)).trans q1, (d0.cell (p := ⟨w.heap.size + 1 + 1, 0, none⟩) (by show w.heap.size + 1 + 1 < w1.heap.size; omega)).trans p2, (d0.cell (p := ⟨w.heap.size + 1 + 1, 1, none⟩) (by show w.heap.size + 1 + 1 < w1.heap.size; omega)).trans q2, (d0.cell (p := ⟨w.heap.size + 1 + 1 + 1, 0, none⟩) (by show w.heap.size + 1 + 1 + 1 < w1.heap.size; omega)).trans r0, (d0.cell (p := ⟨w.heap.size + 1 + 1 + 1, 1, none⟩) (by show w.heap.size + 1 + 1 + 1 < w1.heap.size; omega)).trans r1, (d0.frozen (p := ⟨w.heap.size + 1 + 1 + 1, 0, none⟩) (by show w.heap.size + 1 + 1 + 1 < w1.heap.size; omega)).trans rf0, (d0.frozen (p := ⟨w.heap.size + 1 + 1 + 1, 1, none⟩) (by show w.heap.size + 1 + 1 + 1 < w1.heap.size; omega)).trans rf1⟩))
      | (go_at_call 177; refine (HCB _).out.mono ?_; rintro e v1 ⟨rfl, c1⟩; have d1 : Below w1.heap.size w1 v1 := d0.trans (((⟨c1.os, c1.tape, c1.output, c1.size, c1.block⟩ : Below v0.heap.size v0 v1)).mono d0.size); have Y1 : Hid (v1.cell? ⟨w.heap.size, 0, none⟩ = some (ofN) ∧ v1.cell? ⟨w.heap.size + 1, 0, none⟩ = some (.int .i64 a) ∧ v1.cell? ⟨w.heap.size + 1, 1, none⟩ = some (.int .i64 x) ∧ v1.cell? ⟨w.heap.size + 1 + 1, 0, none⟩ = some (.int .i64 c) ∧ v1.cell? ⟨w.heap.size + 1 + 1, 1, none⟩ = some (.int .i64 y) ∧ v1.cell? ⟨w.heap.size + 1 + 1 + 1, 0, none⟩ = some (.int .i64 0) ∧ v1.cell? ⟨w.heap.size + 1 + 1 + 1, 1, none⟩ = some (.int .i64 0) ∧ v1.frozen? ⟨w.heap.size + 1 + 1 + 1, 0, none⟩ = false ∧ v1.frozen? ⟨w.heap.size + 1 + 1 + 1, 1, none⟩ = false) := (by have z1 := HZ1.out; obtain ⟨x0, p1, q1, p2, q2, r0, r1, rf0, rf1⟩ := HS0.out; exact ⟨(d1.cell (p := ⟨w.heap.size, 0, none⟩) (by show w.heap.size < w1.heap.size; omega)).trans x0, (d1.cell (p := ⟨w.heap.size + 1, 0, none⟩) (by show w.heap.size + 1 < w1.heap.size; omega)).trans p1, (d1.cell (p := ⟨w.heap.size + 1, 1, none⟩) (by show w.heap.size + 1 < w1.heap.size; omega)).trans q1, (d1.cell (p := ⟨w.heap.size + 1 + 1, 0, none⟩) (by show w.heap.size + 1 + 1 < w1.heap.size; omega)).trans p2, (d1.cell (p := ⟨w.heap.size + 1 + 1, 1, none⟩) (by show w.heap.size + 1 + 1 < w1.heap.size; omega)).trans q2, (d1.cell (p := ⟨w.heap.size + 1 + 1 + 1, 0, none⟩) (by show w.heap.size + 1 + 1 + 1 < w1.heap.size; omega)).trans r0, (d1.cell (p := ⟨w.heap.size + 1 + 1 + 1, 1, none⟩) (by show w.heap.size + 1 + 1 + 1 < w1.heap.size; omega)).trans r1, (d1.frozen (p := ⟨w.heap.size + 1 + 1 + 1, 0, none⟩) (by show w.heap.size + 1 + 1 + 1 < w1.heap.size; omega)).trans rf0, (d1.frozen (p := ⟨w.heap.size + 1 + 1 + 1, 1, none⟩) (by show w.heap.size + 1 + 1 + 1 < w1.heap.size; omega)).trans rf1⟩))
      | (go_at_call 176; refine (HCC _).out.mono ?_; rintro e v2 ⟨rfl, c2⟩; have d2 : Below w1.heap.size w1 v2 := d1.trans (((⟨c2.os, c2.tape, c2.output, c2.size, c2.block⟩ : Below v1.heap.size v1 v2)).mono d1.size); have Y2 : Hid (v2.cell? ⟨w.heap.size, 0, none⟩ = some (ofN) ∧ v2.cell? ⟨w.heap.size + 1, 0, none⟩ = some (.int .i64 a) ∧ v2.cell? ⟨w.heap.size + 1, 1, none⟩ = some (.int .i64 x) ∧ v2.cell? ⟨w.heap.size + 1 + 1, 0, none⟩ = some (.int .i64 c) ∧ v2.cell? ⟨w.heap.size + 1 + 1, 1, none⟩ = some (.int .i64 y) ∧ v2.cell? ⟨w.heap.size + 1 + 1 + 1, 0, none⟩ = some (.int .i64 0) ∧ v2.cell? ⟨w.heap.size + 1 + 1 + 1, 1, none⟩ = some (.int .i64 0) ∧ v2.frozen? ⟨w.heap.size + 1 + 1 + 1, 0, none⟩ = false ∧ v2.frozen? ⟨w.heap.size + 1 + 1 + 1, 1, none⟩ = false) := (by have z1 := HZ1.out; obtain ⟨x0, p1, q1, p2, q2, r0, r1, rf0, rf1⟩ := HS0.out; exact ⟨(d2.cell (p := ⟨w.heap.size, 0, none⟩) (by show w.heap.size < w1.heap.size; omega)).trans x0, (d2.cell (p := ⟨w.heap.size + 1, 0, none⟩) (by show w.heap.size + 1 < w1.heap.size; omega)).trans p1, (d2.cell (p := ⟨w.heap.size + 1, 1, none⟩) (by show w.heap.size + 1 < w1.heap.size; omega)).trans q1, (d2.cell (p := ⟨w.heap.size + 1 + 1, 0, none⟩) (by show w.heap.size + 1 + 1 < w1.heap.size; omega)).trans p2, (d2.cell (p := ⟨w.heap.size + 1 + 1, 1, none⟩) (by show w.heap.size + 1 + 1 < w1.heap.size; omega)).trans q2, (d2.cell (p := ⟨w.heap.size + 1 + 1 + 1, 0, none⟩) (by show w.heap.size + 1 + 1 + 1 < w1.heap.size; omega)).trans r0, (d2.cell (p := ⟨w.heap.size + 1 + 1 + 1, 1, none⟩) (by show w.heap.size + 1 + 1 + 1 < w1.heap.size; omega)).trans r1, (d2.frozen (p := ⟨w.heap.size + 1 + 1 + 1, 0, none⟩) (by show w.heap.size + 1 + 1 + 1 < w1.heap.size; omega)).trans rf0, (d2.frozen (p := ⟨w.heap.size + 1 + 1 + 1, 1, none⟩) (by show w.heap.size + 1 + 1 + 1 < w1.heap.size; omega)).trans rf1⟩)))
  all_goals
    clear x0 p1 q1 p2 q2 r0 r1 rf0 rf1
    obtain ⟨x0, p1, q1, p2, q2, r0, r1, rf0, rf1⟩ := Y2.out
    go_wp2_with fail
    refine (HCD _).out.mono ?_; rintro e v3 ⟨rfl, c3⟩
    have d3 : Below w1.heap.size w1 v3 := d2.trans (((⟨c3.os, c3.tape, c3.output, c3.size, c3.block⟩ : Below v2.heap.size v2 v3)).mono d2.size)
    have Y3 : Hid (v3.cell? ⟨w.heap.size, 0, none⟩ = some (ofN) ∧ v3.cell? ⟨w.heap.size + 1, 0, none⟩ = some (.int .i64 a) ∧ v3.cell? ⟨w.heap.size + 1, 1, none⟩ = some (.int .i64 x) ∧ v3.cell? ⟨w.heap.size + 1 + 1, 0, none⟩ = some (.int .i64 c) ∧ v3.cell? ⟨w.heap.size + 1 + 1, 1, none⟩ = some (.int .i64 y) ∧ v3.cell? ⟨w.heap.size + 1 + 1 + 1, 0, none⟩ = some (.int .i64 0) ∧ v3.cell? ⟨w.heap.size + 1 + 1 + 1, 1, none⟩ = some (.int .i64 0) ∧ v3.frozen? ⟨w.heap.size + 1 + 1 + 1, 0, none⟩ = false ∧ v3.frozen? ⟨w.heap.size + 1 + 1 + 1, 1, none⟩ = false) := (by have z1 := HZ1.out; obtain ⟨x0, p1, q1, p2, q2, r0, r1, rf0, rf1⟩ := HS0.out; exact ⟨(d3.cell (p := ⟨w.heap.size, 0, none⟩) (by show w.heap.size < w1.heap.size; omega)).trans x0, (d3.cell (p := ⟨w.heap.size + 1, 0, none⟩) (by show w.heap.size + 1 < w1.heap.size; omega)).trans p1, (d3.cell (p := ⟨w.heap.size + 1, 1, none⟩) (by show w.heap.size + 1 < w1.heap.size; omega)).trans q1, (d3.cell (p := ⟨w.heap.size + 1 + 1, 0, none⟩) (by show w.heap.size + 1 + 1 < w1.heap.size; omega)).trans p2, (d3.cell (p := ⟨w.heap.size + 1 + 1, 1, none⟩) (by show w.heap.size + 1 + 1 < w1.heap.size; omega)).trans q2, (d3.cell (p := ⟨w.heap.size + 1 + 1 + 1, 0, none⟩) (by show w.heap.size + 1 + 1 + 1 < w1.heap.size; omega)).trans r0, (d3.cell (p := ⟨w.heap.size + 1 + 1 + 1, 1, none⟩) (by show w.heap.size + 1 + 1 + 1 < w1.heap.size; omega)).trans r1, (d3.frozen (p := ⟨w.heap.size + 1 + 1 + 1, 0, none⟩) (by show w.heap.size + 1 + 1 + 1 < w1.heap.size; omega)).trans rf0, (d3.frozen (p := ⟨w.heap.size + 1 + 1 + 1, 1, none⟩) (by show w.heap.size + 1 + 1 + 1 < w1.heap.size; omega)).trans rf1⟩)
    clear x0 p1 q1 p2 q2 r0 r1 rf0 rf1
    obtain ⟨x0, p1, q1, p2, q2, r0, r1, rf0, rf1⟩ := Y3.out
    go_wp2_with fail
    have z1 := HZ1.out
    refine bodyPost_ret (v := .agg #[.int .i64 (tms a c), .int .i64 (pls (tms x c) (tms a y))]) (by simp [results, Tryz.results189, go_sem, r0, r1]) rfl ⟨rfl, ?_⟩
    have hsz := b1.size
    exact ((b1.trans (d3.mono hsz)).setCell (by show w.heap.size ≤ w.heap.size + 1 + 1 + 1; omega) _).setCell (by show w.heap.size ≤ w.heap.size + 1 + 1 + 1; omega) _

set_option maxRecDepth 100000 in
set_option maxHeartbeats 3200000 in
theorem pOver (a x c y : Int) (ha : Num2 (a, x)) (hc : Num2 (c, y)) (w : World) : Calls Tryz.prog 187 #[.agg #[ofN], .agg #[.int .i64 a, .int .i64 x], .agg #[.int .i64 c, .int .i64 y]] w fun e w' => e = .returned (.agg #[.int .i64 (tms a (tms 1 (inv c))), .int .i64 (tms (mns x (tms (tms a (tms 1 (inv c))) y)) (tms 1 (inv c)))]) ∧ Below w.heap.size w w' := by
  obtain ⟨w1, hw1⟩ : ∃ w1, (((w.alloc (.cells #[ofN] 123)).alloc (.cells #[.int .i64 a, .int .i64 x] 121)).alloc (.cells #[.int .i64 c, .int .i64 y] 121)).alloc (.cells #[.int .i64 0, .int .i64 0] 121) = w1 := ⟨_, rfl⟩
  have z1 : w1.heap.size = w.heap.size + 1 + 1 + 1 + 1 := by rw [← hw1]; simp
  have b1 : Below w.heap.size w w1 := by rw [← hw1]; exact ((((Below.refl _ _).alloc (Nat.le_refl _) _).alloc (by simp; try omega) _).alloc (by simp; try omega) _).alloc (by simp; try omega) _
  have x0 : w1.cell? ⟨w.heap.size, 0, none⟩ = some (ofN) := by rw [← hw1]; simp [go_sem]
  have p1 : w1.cell? ⟨w.heap.size + 1, 0, none⟩ = some (.int .i64 a) := by rw [← hw1]; simp [go_sem]
  have q1 : w1.cell? ⟨w.heap.size + 1, 1, none⟩ = some (.int .i64 x) := by rw [← hw1]; simp [go_sem]
  have p2 : w1.cell? ⟨w.heap.size + 1 + 1, 0, none⟩ = some (.int .i64 c) := by rw [← hw1]; simp [go_sem]
  have q2 : w1.cell? ⟨w.heap.size + 1 + 1, 1, none⟩ = some (.int .i64 y) := by rw [← hw1]; simp [go_sem]
  have r0 : w1.cell? ⟨w.heap.size + 1 + 1 + 1, 0, none⟩ = some (.int .i64 0) := by rw [← hw1]; simp [go_sem]
  have r1 : w1.cell? ⟨w.heap.size + 1 + 1 + 1, 1, none⟩ = some (.int .i64 0) := by rw [← hw1]; simp [go_sem]
  have rf0 : w1.frozen? ⟨w.heap.size + 1 + 1 + 1, 0, none⟩ = false := by rw [← hw1]; simp [go_sem]
  have rf1 : w1.frozen? ⟨w.heap.size + 1 + 1 + 1, 1, none⟩ = false := by rw [← hw1]; simp [go_sem]
  have nA1 := cstAhead
  have nA2 := cstMeth
  have nA3 := ovrAhead
  have nA4 := ovrMeth
  have nA5 := timAhead
  have nA6 := timMeth
  have nA7 := minAhead
  have nA8 := minMeth
  have HCA := fun W => Lib.hid (nConst 1 W)
  have HCB := fun W => Lib.hid (nOver 1 c (by omega) hc.1 W)
  have HCC := fun W => Lib.hid (nTimes a (tms 1 (inv c)) ha.1 (tms_bd _ _) W)
  have HCD := fun W => Lib.hid (nTimes (tms a (tms 1 (inv c))) y (tms_bd _ _) hc.2 W)
  have HCE := fun W => Lib.hid (nMinus x (tms (tms a (tms 1 (inv c))) y) ha.2 (tms_bd _ _) W)
  have HCF := fun W => Lib.hid (nTimes (mns x (tms (tms a (tms 1 (inv c))) y)) (tms 1 (inv c)) (mns_bd _ _) (tms_bd _ _) W)
  have HZ1 := Lib.hid z1
  clear z1
  have HS0 : Hid (w1.cell? ⟨w.heap.size, 0, none⟩ = some (ofN) ∧ w1.cell? ⟨w.heap.size + 1, 0, none⟩ = some (.int .i64 a) ∧ w1.cell? ⟨w.heap.size + 1, 1, none⟩ = some (.int .i64 x) ∧ w1.cell? ⟨w.heap.size + 1 + 1, 0, none⟩ = some (.int .i64 c) ∧ w1.cell? ⟨w.heap.size + 1 + 1, 1, none⟩ = some (.int .i64 y) ∧ w1.cell? ⟨w.heap.size + 1 + 1 + 1, 0, none⟩ = some (.int .i64 0) ∧ w1.cell? ⟨w.heap.size + 1 + 1 + 1, 1, none⟩ = some (.int .i64 0) ∧ w1.frozen? ⟨w.heap.size + 1 + 1 + 1, 0, none⟩ = false ∧ w1.frozen? ⟨w.heap.size + 1 + 1 + 1, 1, none⟩ = false) := ⟨x0, p1, q1, p2, q2, r0, r1, rf0, rf1⟩
  go_enter Tryz.func187, Tryz.ntmps187
  go_wp2_with fail
  go_region_held3 (fun w' => w'.cell? ⟨w.heap.size, 0, none⟩ = some (ofN) ∧ w'.cell? ⟨w.heap.size + 1, 0, none⟩ = some (.int .i64 a) ∧ w'.cell? ⟨w.heap.size + 1, 1, none⟩ = some (.int .i64 x) ∧ w'.cell? ⟨w.heap.size + 1 + 1, 0, none⟩ = some (.int .i64 c) ∧ w'.cell? ⟨w.heap.size + 1 + 1, 1, none⟩ = some (.int .i64 y) ∧ w'.cell? ⟨w.heap.size + 1 + 1 + 1, 0, none⟩ = some (.int .i64 0) ∧ w'.cell? ⟨w.heap.size + 1 + 1 + 1, 1, none⟩ = some (.int .i64 0) ∧ w'.frozen? ⟨w.heap.size + 1 + 1 + 1, 0, none⟩ = false ∧ w'.frozen? ⟨w.heap.size + 1 + 1 + 1, 1, none⟩ = false)
    (first
      | with_reducible exact HS0.out
      | with_reducible exact Y0.out
      | with_reducible exact Y1.out
      | go_keep)
    (first
      | (go_at_call 170; refine (HCA _).out.mono ?_; rintro e v0 ⟨rfl, c0⟩; have d0 : Below w1.heap.size w1 v0 := ⟨c0.os, c0.tape, c0.output, c0.size, c0.block⟩; have Y0 : Hid (v0.cell? ⟨w.heap.size, 0, none⟩ = some (ofN) ∧ v0.cell? ⟨w.heap.size + 1, 0, none⟩ = some (.int .i64 a) ∧ v0.cell? ⟨w.heap.size + 1, 1, none⟩ = some (.int .i64 x) ∧ v0.cell? ⟨w.heap.size + 1 + 1, 0, none⟩ = some (.int .i64 c) ∧ v0.cell? ⟨w.heap.size + 1 + 1, 1, none⟩ = some (.int .i64 y) ∧ v0.cell? ⟨w.heap.size + 1 + 1 + 1, 0, none⟩ = some (.int .i64 0) ∧ v0.cell? ⟨w.heap.size + 1 + 1 + 1, 1, none⟩ = some (.int .i64 0) ∧ v0.frozen? ⟨w.heap.size + 1 + 1 + 1, 0, none⟩ = false ∧ v0.frozen? ⟨w.heap.size + 1 + 1 + 1, 1, none⟩ = false) := (by have z1 := HZ1.out; obtain ⟨x0, p1, q1, p2, q2, r0, r1, rf0, rf1⟩ := HS0.out; exact ⟨(d0.cell (p := ⟨w.heap.size, 0, none⟩) (by show w.heap.size < w1.heap.size; omega)).trans x0, (d0.cell (p := ⟨w.heap.size + 1, 0, none⟩) (by show w.heap.size + 1 < w1.heap.size; omega)).trans p1, (d0.cell (p := ⟨w.heap.size + 1, 1, none⟩) (by show w.heap.size + 1 < w1.heap.size; omega)).trans q1, (d0.cell (p := ⟨w.heap.size + 1 + 1, 0, none⟩) (by show w.heap.size + 1 + 1 < w1.heap.size; omega)).trans p2, (d0.cell (p := ⟨w.heap.size + 1 + 1, 1, none⟩) (by show w.heap.size + 1 + 1 < w1.heap.size; omega)).trans q2, (d0.cell (p := ⟨w.heap.size + 1 + 1 + 1, 0, none⟩) (by show w.heap.size + 1 + 1 + 1 < w1.heap.size; omega)).trans r0, (d0.cell (p := ⟨w.heap.size + 1 + 1 + 1, 1, none⟩) (by show w.heap.size + 1 + 1 + 1 < w1.heap.size; omega)).trans r1, (d0.frozen (p := ⟨w.heap.size + 1 + 1 + 1, 0, none⟩) (by show w.heap.size + 1 + 1 + 1 < w1.heap.size; omega)).trans rf0, (d0.frozen (p := ⟨w.heap.size + 1 + 1 + 1, 1, none⟩) (by show w.heap.size + 1 + 1 + 1 < w1.heap.size; omega)).trans rf1⟩))
      | (go_at_call 175; refine (HCB _).out.mono ?_; rintro e v1 ⟨rfl, c1⟩; have d1 : Below w1.heap.size w1 v1 := d0.trans (((⟨c1.os, c1.tape, c1.output, c1.size, c1.block⟩ : Below v0.heap.size v0 v1)).mono d0.size); have Y1 : Hid (v1.cell? ⟨w.heap.size, 0, none⟩ = some (ofN) ∧ v1.cell? ⟨w.heap.size + 1, 0, none⟩ = some (.int .i64 a) ∧ v1.cell? ⟨w.heap.size + 1, 1, none⟩ = some (.int .i64 x) ∧ v1.cell? ⟨w.heap.size + 1 + 1, 0, none⟩ = some (.int .i64 c) ∧ v1.cell? ⟨w.heap.size + 1 + 1, 1, none⟩ = some (.int .i64 y) ∧ v1.cell? ⟨w.heap.size + 1 + 1 + 1, 0, none⟩ = some (.int .i64 0) ∧ v1.cell? ⟨w.heap.size + 1 + 1 + 1, 1, none⟩ = some (.int .i64 0) ∧ v1.frozen? ⟨w.heap.size + 1 + 1 + 1, 0, none⟩ = false ∧ v1.frozen? ⟨w.heap.size + 1 + 1 + 1, 1, none⟩ = false) := (by have z1 := HZ1.out; obtain ⟨x0, p1, q1, p2, q2, r0, r1, rf0, rf1⟩ := HS0.out; exact ⟨(d1.cell (p := ⟨w.heap.size, 0, none⟩) (by show w.heap.size < w1.heap.size; omega)).trans x0, (d1.cell (p := ⟨w.heap.size + 1, 0, none⟩) (by show w.heap.size + 1 < w1.heap.size; omega)).trans p1, (d1.cell (p := ⟨w.heap.size + 1, 1, none⟩) (by show w.heap.size + 1 < w1.heap.size; omega)).trans q1, (d1.cell (p := ⟨w.heap.size + 1 + 1, 0, none⟩) (by show w.heap.size + 1 + 1 < w1.heap.size; omega)).trans p2, (d1.cell (p := ⟨w.heap.size + 1 + 1, 1, none⟩) (by show w.heap.size + 1 + 1 < w1.heap.size; omega)).trans q2, (d1.cell (p := ⟨w.heap.size + 1 + 1 + 1, 0, none⟩) (by show w.heap.size + 1 + 1 + 1 < w1.heap.size; omega)).trans r0, (d1.cell (p := ⟨w.heap.size + 1 + 1 + 1, 1, none⟩) (by show w.heap.size + 1 + 1 + 1 < w1.heap.size; omega)).trans r1, (d1.frozen (p := ⟨w.heap.size + 1 + 1 + 1, 0, none⟩) (by show w.heap.size + 1 + 1 + 1 < w1.heap.size; omega)).trans rf0, (d1.frozen (p := ⟨w.heap.size + 1 + 1 + 1, 1, none⟩) (by show w.heap.size + 1 + 1 + 1 < w1.heap.size; omega)).trans rf1⟩)))
  all_goals
    clear x0 p1 q1 p2 q2 r0 r1 rf0 rf1
    obtain ⟨x0, p1, q1, p2, q2, r0, r1, rf0, rf1⟩ := Y1.out
    go_wp2_with fail
    refine (HCC _).out.mono ?_; rintro e v2 ⟨rfl, c2⟩
    have d2 : Below w1.heap.size w1 v2 := d1.trans (((⟨c2.os, c2.tape, c2.output, c2.size, c2.block⟩ : Below v1.heap.size v1 v2)).mono d1.size)
    have Y2 : Hid (v2.cell? ⟨w.heap.size, 0, none⟩ = some (ofN) ∧ v2.cell? ⟨w.heap.size + 1, 0, none⟩ = some (.int .i64 a) ∧ v2.cell? ⟨w.heap.size + 1, 1, none⟩ = some (.int .i64 x) ∧ v2.cell? ⟨w.heap.size + 1 + 1, 0, none⟩ = some (.int .i64 c) ∧ v2.cell? ⟨w.heap.size + 1 + 1, 1, none⟩ = some (.int .i64 y) ∧ v2.cell? ⟨w.heap.size + 1 + 1 + 1, 0, none⟩ = some (.int .i64 0) ∧ v2.cell? ⟨w.heap.size + 1 + 1 + 1, 1, none⟩ = some (.int .i64 0) ∧ v2.frozen? ⟨w.heap.size + 1 + 1 + 1, 0, none⟩ = false ∧ v2.frozen? ⟨w.heap.size + 1 + 1 + 1, 1, none⟩ = false) := (by have z1 := HZ1.out; obtain ⟨x0, p1, q1, p2, q2, r0, r1, rf0, rf1⟩ := HS0.out; exact ⟨(d2.cell (p := ⟨w.heap.size, 0, none⟩) (by show w.heap.size < w1.heap.size; omega)).trans x0, (d2.cell (p := ⟨w.heap.size + 1, 0, none⟩) (by show w.heap.size + 1 < w1.heap.size; omega)).trans p1, (d2.cell (p := ⟨w.heap.size + 1, 1, none⟩) (by show w.heap.size + 1 < w1.heap.size; omega)).trans q1, (d2.cell (p := ⟨w.heap.size + 1 + 1, 0, none⟩) (by show w.heap.size + 1 + 1 < w1.heap.size; omega)).trans p2, (d2.cell (p := ⟨w.heap.size + 1 + 1, 1, none⟩) (by show w.heap.size + 1 + 1 < w1.heap.size; omega)).trans q2, (d2.cell (p := ⟨w.heap.size + 1 + 1 + 1, 0, none⟩) (by show w.heap.size + 1 + 1 + 1 < w1.heap.size; omega)).trans r0, (d2.cell (p := ⟨w.heap.size + 1 + 1 + 1, 1, none⟩) (by show w.heap.size + 1 + 1 + 1 < w1.heap.size; omega)).trans r1, (d2.frozen (p := ⟨w.heap.size + 1 + 1 + 1, 0, none⟩) (by show w.heap.size + 1 + 1 + 1 < w1.heap.size; omega)).trans rf0, (d2.frozen (p := ⟨w.heap.size + 1 + 1 + 1, 1, none⟩) (by show w.heap.size + 1 + 1 + 1 < w1.heap.size; omega)).trans rf1⟩)
    clear x0 p1 q1 p2 q2 r0 r1 rf0 rf1
    obtain ⟨x0, p1, q1, p2, q2, r0, r1, rf0, rf1⟩ := Y2.out
    go_wp2_with fail
    go_region_held3 (fun w' => w'.cell? ⟨w.heap.size, 0, none⟩ = some (ofN) ∧ w'.cell? ⟨w.heap.size + 1, 0, none⟩ = some (.int .i64 a) ∧ w'.cell? ⟨w.heap.size + 1, 1, none⟩ = some (.int .i64 x) ∧ w'.cell? ⟨w.heap.size + 1 + 1, 0, none⟩ = some (.int .i64 c) ∧ w'.cell? ⟨w.heap.size + 1 + 1, 1, none⟩ = some (.int .i64 y) ∧ w'.cell? ⟨w.heap.size + 1 + 1 + 1, 0, none⟩ = some (.int .i64 0) ∧ w'.cell? ⟨w.heap.size + 1 + 1 + 1, 1, none⟩ = some (.int .i64 0) ∧ w'.frozen? ⟨w.heap.size + 1 + 1 + 1, 0, none⟩ = false ∧ w'.frozen? ⟨w.heap.size + 1 + 1 + 1, 1, none⟩ = false)
      (first
        | with_reducible exact HS0.out
        | with_reducible exact Y3.out
        | with_reducible exact Y4.out
        | with_reducible exact Y2.out
        | go_keep)
      (first
        | (go_at_call 177; refine (HCD _).out.mono ?_; rintro e v3 ⟨rfl, c3⟩; have d3 : Below w1.heap.size w1 v3 := d2.trans (((⟨c3.os, c3.tape, c3.output, c3.size, c3.block⟩ : Below v2.heap.size v2 v3)).mono d2.size); have Y3 : Hid (v3.cell? ⟨w.heap.size, 0, none⟩ = some (ofN) ∧ v3.cell? ⟨w.heap.size + 1, 0, none⟩ = some (.int .i64 a) ∧ v3.cell? ⟨w.heap.size + 1, 1, none⟩ = some (.int .i64 x) ∧ v3.cell? ⟨w.heap.size + 1 + 1, 0, none⟩ = some (.int .i64 c) ∧ v3.cell? ⟨w.heap.size + 1 + 1, 1, none⟩ = some (.int .i64 y) ∧ v3.cell? ⟨w.heap.size + 1 + 1 + 1, 0, none⟩ = some (.int .i64 0) ∧ v3.cell? ⟨w.heap.size + 1 + 1 + 1, 1, none⟩ = some (.int .i64 0) ∧ v3.frozen? ⟨w.heap.size + 1 + 1 + 1, 0, none⟩ = false ∧ v3.frozen? ⟨w.heap.size + 1 + 1 + 1, 1, none⟩ = false) := (by have z1 := HZ1.out; obtain ⟨x0, p1, q1, p2, q2, r0, r1, rf0, rf1⟩ := HS0.out; exact ⟨(d3.cell (p := ⟨w.heap.size, 0, none⟩) (by show w.heap.size < w1.heap.size; omega)).trans x0, (d3.cell (p := ⟨w.heap.size + 1, 0, none⟩) (by show w.heap.size + 1 < w1.heap.size; omega)).trans p1, (d3.cell (p := ⟨w.heap.size + 1, 1, none⟩) (by show w.heap.size + 1 < w1.heap.size; omega)).trans q1, (d3.cell (p := ⟨w.heap.size + 1 + 1, 0, none⟩) (by show w.heap.size + 1 + 1 < w1.heap.size; omega)).trans p2, (d3.cell (p := ⟨w.heap.size + 1 + 1, 1, none⟩) (by show w.heap.size + 1 + 1 < w1.heap.size; omega)).trans q2, (d3.cell (p := ⟨w.heap.size + 1 + 1 + 1, 0, none⟩) (by show w.heap.size + 1 + 1 + 1 < w1.heap.size; omega)).trans r0, (d3.cell (p := ⟨w.heap.size + 1 + 1 + 1, 1, none⟩) (by show w.heap.size + 1 + 1 + 1 < w1.heap.size; omega)).trans r1, (d3.frozen (p := ⟨w.heap.size + 1 + 1 + 1, 0, none⟩) (by show w.heap.size + 1 + 1 + 1 < w1.heap.size; omega)).trans rf0, (d3.frozen (p := ⟨w.heap.size + 1 + 1 + 1, 1, none⟩) (by show w.heap.size + 1 + 1 + 1 < w1.heap.size; omega)).trans rf1⟩))
        | (go_at_call 173; refine (HCE _).out.mono ?_; rintro e v4 ⟨rfl, c4⟩; have d4 : Below w1.heap.size w1 v4 := d3.trans (((⟨c4.os, c4.tape, c4.output, c4.size, c4.block⟩ : Below v3.heap.size v3 v4)).mono d3.size); have Y4 : Hid (v4.cell? ⟨w.heap.size, 0, none⟩ = some (ofN) ∧ v4.cell? ⟨w.heap.size + 1, 0, none⟩ = some (.int .i64 a) ∧ v4.cell? ⟨w.heap.size + 1, 1, none⟩ = some (.int .i64 x) ∧ v4.cell? ⟨w.heap.size + 1 + 1, 0, none⟩ = some (.int .i64 c) ∧ v4.cell? ⟨w.heap.size + 1 + 1, 1, none⟩ = some (.int .i64 y) ∧ v4.cell? ⟨w.heap.size + 1 + 1 + 1, 0, none⟩ = some (.int .i64 0) ∧ v4.cell? ⟨w.heap.size + 1 + 1 + 1, 1, none⟩ = some (.int .i64 0) ∧ v4.frozen? ⟨w.heap.size + 1 + 1 + 1, 0, none⟩ = false ∧ v4.frozen? ⟨w.heap.size + 1 + 1 + 1, 1, none⟩ = false) := (by have z1 := HZ1.out; obtain ⟨x0, p1, q1, p2, q2, r0, r1, rf0, rf1⟩ := HS0.out; exact ⟨(d4.cell (p := ⟨w.heap.size, 0, none⟩) (by show w.heap.size < w1.heap.size; omega)).trans x0, (d4.cell (p := ⟨w.heap.size + 1, 0, none⟩) (by show w.heap.size + 1 < w1.heap.size; omega)).trans p1, (d4.cell (p := ⟨w.heap.size + 1, 1, none⟩) (by show w.heap.size + 1 < w1.heap.size; omega)).trans q1, (d4.cell (p := ⟨w.heap.size + 1 + 1, 0, none⟩) (by show w.heap.size + 1 + 1 < w1.heap.size; omega)).trans p2, (d4.cell (p := ⟨w.heap.size + 1 + 1, 1, none⟩) (by show w.heap.size + 1 + 1 < w1.heap.size; omega)).trans q2, (d4.cell (p := ⟨w.heap.size + 1 + 1 + 1, 0, none⟩) (by show w.heap.size + 1 + 1 + 1 < w1.heap.size; omega)).trans r0, (d4.cell (p := ⟨w.heap.size + 1 + 1 + 1, 1, none⟩) (by show w.heap.size + 1 + 1 + 1 < w1.heap.size; omega)).trans r1, (d4.frozen (p := ⟨w.heap.size + 1 + 1 + 1, 0, none⟩) (by show w.heap.size + 1 + 1 + 1 < w1.heap.size; omega)).trans rf0, (d4.frozen (p := ⟨w.heap.size + 1 + 1 + 1, 1, none⟩) (by show w.heap.size + 1 + 1 + 1 < w1.heap.size; omega)).trans rf1⟩)))
    all_goals
      clear x0 p1 q1 p2 q2 r0 r1 rf0 rf1
      obtain ⟨x0, p1, q1, p2, q2, r0, r1, rf0, rf1⟩ := Y4.out
      go_wp2_with fail
      refine (HCF _).out.mono ?_; rintro e v5 ⟨rfl, c5⟩
      have d5 : Below w1.heap.size w1 v5 := d4.trans (((⟨c5.os, c5.tape, c5.output, c5.size, c5.block⟩ : Below v4.heap.size v4 v5)).mono d4.size)
      have Y5 : Hid (v5.cell? ⟨w.heap.size, 0, none⟩ = some (ofN) ∧ v5.cell? ⟨w.heap.size + 1, 0, none⟩ = some (.int .i64 a) ∧ v5.cell? ⟨w.heap.size + 1, 1, none⟩ = some (.int .i64 x) ∧ v5.cell? ⟨w.heap.size + 1 + 1, 0, none⟩ = some (.int .i64 c) ∧ v5.cell? ⟨w.heap.size + 1 + 1, 1, none⟩ = some (.int .i64 y) ∧ v5.cell? ⟨w.heap.size + 1 + 1 + 1, 0, none⟩ = some (.int .i64 0) ∧ v5.cell? ⟨w.heap.size + 1 + 1 + 1, 1, none⟩ = some (.int .i64 0) ∧ v5.frozen? ⟨w.heap.size + 1 + 1 + 1, 0, none⟩ = false ∧ v5.frozen? ⟨w.heap.size + 1 + 1 + 1, 1, none⟩ = false) := (by have z1 := HZ1.out; obtain ⟨x0, p1, q1, p2, q2, r0, r1, rf0, rf1⟩ := HS0.out; exact ⟨(d5.cell (p := ⟨w.heap.size, 0, none⟩) (by show w.heap.size < w1.heap.size; omega)).trans x0, (d5.cell (p := ⟨w.heap.size + 1, 0, none⟩) (by show w.heap.size + 1 < w1.heap.size; omega)).trans p1, (d5.cell (p := ⟨w.heap.size + 1, 1, none⟩) (by show w.heap.size + 1 < w1.heap.size; omega)).trans q1, (d5.cell (p := ⟨w.heap.size + 1 + 1, 0, none⟩) (by show w.heap.size + 1 + 1 < w1.heap.size; omega)).trans p2, (d5.cell (p := ⟨w.heap.size + 1 + 1, 1, none⟩) (by show w.heap.size + 1 + 1 < w1.heap.size; omega)).trans q2, (d5.cell (p := ⟨w.heap.size + 1 + 1 + 1, 0, none⟩) (by show w.heap.size + 1 + 1 + 1 < w1.heap.size; omega)).trans r0, (d5.cell (p := ⟨w.heap.size + 1 + 1 + 1, 1, none⟩) (by show w.heap.size + 1 + 1 + 1 < w1.heap.size; omega)).trans r1, (d5.frozen (p := ⟨w.heap.size + 1 + 1 + 1, 0, none⟩) (by show w.heap.size + 1 + 1 + 1 < w1.heap.size; omega)).trans rf0, (d5.frozen (p := ⟨w.heap.size + 1 + 1 + 1, 1, none⟩) (by show w.heap.size + 1 + 1 + 1 < w1.heap.size; omega)).trans rf1⟩)
      clear x0 p1 q1 p2 q2 r0 r1 rf0 rf1
      obtain ⟨x0, p1, q1, p2, q2, r0, r1, rf0, rf1⟩ := Y5.out
      go_wp2_with fail
      have z1 := HZ1.out
      refine bodyPost_ret (v := .agg #[.int .i64 (tms a (tms 1 (inv c))), .int .i64 (tms (mns x (tms (tms a (tms 1 (inv c))) y)) (tms 1 (inv c)))]) (by simp [results, Tryz.results187, go_sem, r0, r1]) rfl ⟨rfl, ?_⟩
      have hsz := b1.size
      exact ((b1.trans (d5.mono hsz)).setCell (by show w.heap.size ≤ w.heap.size + 1 + 1 + 1; omega) _).setCell (by show w.heap.size ≤ w.heap.size + 1 + 1 + 1; omega) _

end Go.Proofs.YtoedccgiahegnaaGreat
