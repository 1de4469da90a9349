/- Tapes: a sweep's addition to an adjoint, by the program. -/
import Derived.Test.YtggojffmfjeikaaTnu
import Derived.Test.YtggojffmfjeikaaTsv
import Derived.Test.YtggojffmfjeikaaHdo
namespace Go.Proofs.Ytggojffmfjeikaa
open Go.RowKit
set_option linter.unusedVariables false

set_option maxRecDepth 100000 in
theorem plusMeth (W : World) : (method 290 103 (.agg #[]) "loop.example/g01091/impl.plus").run Try.prog W = .ok (146, .agg #[]) W := by kernel_rfl
set_option maxRecDepth 100000 in
theorem plusAhead (W : World) : (nilAhead 290 103 (.agg #[]) "loop.example/g01091/impl.plus").run Try.prog W = .ok (some false) W := by kernel_rfl
set_option maxRecDepth 100000 in
theorem timesMeth (W : World) : (method 290 103 (.agg #[]) "loop.example/g01091/impl.times").run Try.prog W = .ok (147, .agg #[]) W := by kernel_rfl
set_option maxRecDepth 100000 in
theorem timesAhead (W : World) : (nilAhead 290 103 (.agg #[]) "loop.example/g01091/impl.times").run Try.prog W = .ok (some false) W := by kernel_rfl
set_option maxRecDepth 100000 in
theorem overMeth (W : World) : (method 290 103 (.agg #[]) "loop.example/g01091/impl.over").run Try.prog W = .ok (145, .agg #[]) W := by kernel_rfl
set_option maxRecDepth 100000 in
theorem overAhead (W : World) : (nilAhead 290 103 (.agg #[]) "loop.example/g01091/impl.over").run Try.prog W = .ok (some false) W := by kernel_rfl
set_option maxRecDepth 100000 in
theorem constantMeth (W : World) : (method 290 103 (.agg #[]) "loop.example/g01091/impl.constant").run Try.prog W = .ok (141, .agg #[]) W := by kernel_rfl
set_option maxRecDepth 100000 in
theorem constantAhead (W : World) : (nilAhead 290 103 (.agg #[]) "loop.example/g01091/impl.constant").run Try.prog W = .ok (some false) W := by kernel_rfl
theorem cell_set_ne {w : World} {p q : Addr} {v u : Value} (h : w.cell? p = some u) (hne : p.block ≠ q.block) : (w.setCell q v).cell? p = some u :=
  (World.cell?_of_block (Below.heap_setCell _ _ _ _ hne)).trans h
theorem grown_box {w w0 w9 : World} {g : Nat} {o : Obj} {q : Nat} {v : Value} (h0 : w0 = w.alloc o) (hb : Below w0.heap.size w0 w9) : w.grownBy (w9.setCell ⟨g, q, none⟩ v) (some g) := by
  have h1 : Below w.heap.size w w9 := ((by rw [h0]; exact (Below.refl _ _).alloc (Nat.le_refl _) _ : Below w.heap.size w w0)).trans (hb.mono (by rw [h0]; simp))
  have h2 := below_grownBy h1
  exact grownBy_trans ⟨h2.os, h2.tape, h2.output, h2.size, fun k hk hne => h2.block k hk (fun e => by cases e)⟩ (grownBy_set _ _ _ _)

/-- a sweep, as a value -/
abbrev swv (ar : Option Addr) (nr cr : Nat) (g na cap : Nat) : Value := .agg #[ofN, .slice ar nr cr, .slice (some ⟨g, 0, none⟩) na cap]

set_option maxRecDepth 100000 in
set_option maxHeartbeats 3200000 in
theorem iAdd (B : Nat) (ar : Option Addr) (nr cr g cap p : Nat) (adj : List Int) (v : Int) (w : World) (ho : Own B w g cap adj) (hp : p < adj.length) (ha : Nums adj) (hv : 0 ≤ v ∧ v < 1000003) :
    Calls Try.prog 104 #[swv ar nr cr g adj.length cap, .int .i64 p, .int .i64 v] w fun e w' => e = .returned (.tuple #[]) ∧ Own B w' g cap (vAdd adj p v) ∧ w.grownBy w' (some g) := by
  unfold swv
  obtain ⟨w0, hw0⟩ : ∃ w0, w0 = w.alloc (.cells #[ofN, .slice ar nr cr, .slice (some ⟨g, 0, none⟩) adj.length cap] 145) := ⟨_, rfl⟩
  have A0 : Below w.heap.size w w0 := by rw [hw0]; exact (Below.refl _ _).alloc (Nat.le_refl _) _
  have x0 : w0.cell? ⟨w.heap.size, 0, none⟩ = some ofN := by rw [hw0]; simp [go_sem]
  have x2 : w0.cell? ⟨w.heap.size, 2, none⟩ = some (.slice (some ⟨g, 0, none⟩) adj.length cap) := by rw [hw0]; simp [go_sem]
  have o0 := ho.kept A0 ho.base.2
  have fa := o0.cellAt p hp
  have ff := o0.frz p
  have lx : w.heap.size < w0.heap.size := by rw [hw0]; simp
  have lg := o0.base.2
  have hpi : (p : Int) < (adj.length : Int) := by omega
  have hav := ha.at p
  have m1 := plusMeth
  have HS : Hid (∀ W, Own B W g cap (adj.set p (pls (adj.getD p 0) v)) → Own B W g cap (vAdd adj p v)) := fun W h => h
  have H0 := Lib.hid hw0
  have HO := Lib.hid o0
  clear o0 ho A0
  generalize adj.getD p 0 = y at *
  go_enter Try.func104, Try.ntmps104
  go_wp2_with fail
  rw [← hw0]
  clear hw0
  refine region_T 15 (fun w' => w'.cell? ⟨w.heap.size, 0, none⟩ = some (ofN) ∧ w'.cell? ⟨w.heap.size, 2, none⟩ = some (.slice (some ⟨g, 0, none⟩) adj.length cap) ∧ w'.cell? ⟨g, p, none⟩ = some (.int .i64 y) ∧ w'.frozen? ⟨g, p, none⟩ = false) (by kernel_rfl) (⟨x0, x2, fa, ff⟩) (fun hHeld => ?_)
  refine anyT_take (i := 0) (v := ?vT0_1) rfl (by kernel_rfl) (fun _ _ _ h => h) (Or.inl ⟨by rfl, ?hT0_1⟩) hHeld ?rT0_1
  case hT0_1 => (intro wS hSw; (try dsimp only at hSw); go_simp; try with_reducible rfl)
  simp only [Act.put]
  refine anyT_take (i := 1) (v := ?vT1_1) rfl (by kernel_rfl) (fun _ _ _ h => h) (Or.inl ⟨by rfl, ?hT1_1⟩) hHeld ?rT1_1
  case hT1_1 => (intro wS hSw; (try dsimp only at hSw); go_simp; try with_reducible rfl)
  simp only [Act.put]
  refine anyT_take (i := 2) (v := ?vT2_1) rfl (by kernel_rfl) (fun _ _ _ h => h) (Or.inl ⟨by rfl, ?hT2_1⟩) hHeld ?rT2_1
  case hT2_1 => (intro wS hSw; (try dsimp only at hSw); go_simp; try with_reducible rfl)
  simp only [Act.put]
  refine anyT_take (i := 3) (v := ?vT3_1) rfl (by kernel_rfl) (fun _ _ _ h => h) (Or.inl ⟨by rfl, ?hT3_1⟩) hHeld ?rT3_1
  case hT3_1 => (intro wS hSw; (try dsimp only at hSw); go_simp; try with_reducible rfl)
  simp only [Act.put]
  refine anyT_take (i := 4) (v := ?vT4_1) rfl (by kernel_rfl) (fun _ _ _ h => h) (Or.inl ⟨by rfl, ?hT4_1⟩) hHeld ?rT4_1
  case hT4_1 => (intro wS hSw; (try dsimp only at hSw); go_simp; try with_reducible rfl)
  simp only [Act.put]
  refine anyT_take (i := 5) (v := ?vT5_1) rfl (by kernel_rfl) (fun _ _ _ h => h) (Or.inl ⟨by rfl, ?hT5_1⟩) hHeld ?rT5_1
  case hT5_1 => (intro wS hSw; (try dsimp only at hSw); go_simp; try with_reducible rfl)
  simp only [Act.put]
  refine anyT_take (i := 6) (v := ?vT6_1) rfl (by kernel_rfl) (fun _ _ _ h => h) (Or.inl ⟨by rfl, ?hT6_1⟩) hHeld ?rT6_1
  case hT6_1 => (intro wS hSw; (try dsimp only at hSw); go_simp; try with_reducible rfl)
  simp only [Act.put]
  refine anyT_take (i := 7) (v := ?vT7_1) rfl (by kernel_rfl) (fun _ _ _ h => h) (Or.inl ⟨by rfl, ?hT7_1⟩) hHeld ?rT7_1
  case hT7_1 => (intro wS hSw; (try dsimp only at hSw); go_simp; try with_reducible rfl)
  simp only [Act.put]
  refine anyT_take (i := 8) (v := ?vT8_1) rfl (by kernel_rfl) (fun _ _ _ h => h) (Or.inl ⟨by rfl, ?hT8_1⟩) hHeld ?rT8_1
  case hT8_1 => (intro wS hSw; (try dsimp only at hSw); go_simp; try with_reducible rfl)
  simp only [Act.put]
  refine anyT_take (i := 9) (v := ?vT9_1) rfl (by kernel_rfl) (fun _ _ _ h => h) (Or.inl ⟨by rfl, ?hT9_1⟩) hHeld ?rT9_1
  case hT9_1 => (intro wS hSw; (try dsimp only at hSw); go_simp; try with_reducible rfl)
  simp only [Act.put]
  refine anyT_take (i := 10) (v := ?vT10_1) rfl (by kernel_rfl) (fun _ _ _ h => h) (Or.inl ⟨by rfl, ?hT10_1⟩) hHeld ?rT10_1
  case hT10_1 => (intro wS hSw; (try dsimp only at hSw); go_simp; try with_reducible rfl)
  simp only [Act.put]
  refine anyT_take (i := 11) (v := ?vT11_1) rfl (by kernel_rfl) (fun _ _ _ h => h) (Or.inl ⟨by rfl, ?hT11_1⟩) hHeld ?rT11_1
  case hT11_1 => (intro wS hSw; (try dsimp only at hSw); go_simp; try with_reducible rfl)
  simp only [Act.put]
  refine anyT_take (i := 12) (v := ?vT12_1) rfl (by kernel_rfl) (fun _ _ _ h => h) (Or.inl ⟨by rfl, ?hT12_1⟩) hHeld ?rT12_1
  case hT12_1 => (intro wS hSw; (try dsimp only at hSw); go_simp; try with_reducible rfl)
  simp only [Act.put]
  refine anyT_step (i := 13) rfl (by kernel_rfl) (fun K hK => ?_)
  clear hHeld
  go_simp
  refine (nPlus y v hav hv _).mono ?_; rintro e w9 ⟨rfl, hb9'⟩
  have hb9 : Below w0.heap.size w0 w9 := ⟨hb9'.os, hb9'.tape, hb9'.output, hb9'.size, hb9'.block⟩
  go_wp2_with fail
  refine hK.out _ _ (⟨(hb9.cell (p := ⟨w.heap.size, 0, none⟩) lx).trans x0, (hb9.cell (p := ⟨w.heap.size, 2, none⟩) lx).trans x2, (hb9.cell (p := ⟨g, p, none⟩) lg).trans fa, (hb9.frozen (p := ⟨g, p, none⟩) lg).trans ff⟩) (fun hHeld => ?_)
  clear hK K
  try simp only [Act.put]
  refine anyT_take (i := 14) (v := ?vT14_1) rfl (by kernel_rfl) (fun _ _ _ h => h) (Or.inl ⟨by rfl, ?hT14_1⟩) hHeld ?rT14_1
  case hT14_1 => (intro wS hSw; (try dsimp only at hSw); go_simp; try with_reducible rfl)
  simp only [Act.put]
  refine anyT_last rfl (by kernel_rfl) (by kernel_rfl) (fun K hK => ?_)
  try dsimp only at hHeld
  go_simp
  refine hK.out _ _ ?_
  clear hK K hHeld
  have hst := HS.out _ ((HO.out.kept hb9 lg).set p (pls y v))
  have hgr := grown_box (q := p) (v := .int .i64 (pls y v)) (g := g) H0.out hb9
  clear x0 x2 fa ff
  go_wp2_with fail
  go_end0
  exact ⟨rfl, hst, hgr⟩

  end Go.Proofs.Ytggojffmfjeikaa
