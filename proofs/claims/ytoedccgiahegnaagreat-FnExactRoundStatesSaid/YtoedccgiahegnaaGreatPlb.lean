/- A place: the function's outputs lie where the program lay. -/
import Derived.Test.YtoedccgiahegnaaGreatFg
namespace Go.Proofs.YtoedccgiahegnaaGreat
open Go.RowKit
set_option linter.unusedVariables false

/-- the answer for a place -/
def PlResB (B : Nat) (fs : List Fn) (ap : Option Addr) (capp : Nat) (f : Int) (aa : Option Addr) (ca : Nat) (args : List Int) (w : World) (e : Ending) (w' : World) : Prop := Below w.heap.size w w' ∧
  ((¬ plC fs f args = 0 ∧ e = .returned (.tuple #[.agg #[.nilIface, .slice none 0 0, .string ⟨#[]⟩, .int .i64 0, .slice none 0 0, .slice none 0 0], .int .i64 (plC fs f args)])) ∨
   (plC fs f args = 0 ∧ FnAt fs f ∧ areB args (fs.getD f.toNat noFn).params = true ∧ ∃ af cf, e = .returned (.tuple #[.agg #[ofN, .slice ap fs.length capp, .string (fs.getD f.toNat noFn).name, .int .i64 (fs.getD f.toNat noFn).params, .slice af (fs.getD f.toNat noFn).outs.len cf, .slice aa args.length ca], .int .i64 0]) ∧ Fat w 0 B (fs.getD f.toNat noFn).outs af))
set_option maxRecDepth 100000 in
set_option maxHeartbeats 3200000 in
theorem iPlaceOfB (fs : List Fn) (ap : Option Addr) (capp : Nat) (f : Int) (aa : Option Addr) (ca : Nat) (args : List Int) (w : World) (B : Nat) (hBB : B ≤ w.heap.size) (hP : Pat w 0 B fs ap) (hsz : pgSize fs ≤ 1048576) (hcap : fs.length ≤ capp) (hcm : capp ≤ 1048576) (hA : At w aa args) (hal : args.length ≤ 1048576) :
    Calls Tryz.prog 39 #[.agg #[.slice ap fs.length capp], .int .i64 f, .slice aa args.length ca] w (PlResB B fs ap capp f aa ca args w) := by
  obtain ⟨w0, hw0⟩ : ∃ w0, w0 = (w.alloc (.cells #[.slice ap fs.length capp] 31)).alloc (.cells #[.nilIface, .slice none 0 0, .string ⟨#[]⟩, .int .i64 0, .slice none 0 0, .slice none 0 0] 67) := ⟨_, rfl⟩
  have hb0 : Below w.heap.size w w0 := by rw [hw0]; exact ((Below.refl _ _).alloc (Nat.le_refl _) _).alloc (by simp) _
  have z0 : w0.heap.size = w.heap.size + 2 := by rw [hw0]; simp
  have c0 : w0.cell? ⟨w.heap.size, 0, none⟩ = some (.slice ap fs.length capp) := by rw [hw0]; simp [go_sem]
  have r0 : w0.cell? ⟨w.heap.size + 1, 0, none⟩ = some (.nilIface) := by rw [hw0]; simp [go_sem]
  have r1 : w0.cell? ⟨w.heap.size + 1, 1, none⟩ = some (.slice none 0 0) := by rw [hw0]; simp [go_sem]
  have r2 : w0.cell? ⟨w.heap.size + 1, 2, none⟩ = some (.string ⟨#[]⟩) := by rw [hw0]; simp [go_sem]
  have r3 : w0.cell? ⟨w.heap.size + 1, 3, none⟩ = some (.int .i64 0) := by rw [hw0]; simp [go_sem]
  have r4 : w0.cell? ⟨w.heap.size + 1, 4, none⟩ = some (.slice none 0 0) := by rw [hw0]; simp [go_sem]
  have r5 : w0.cell? ⟨w.heap.size + 1, 5, none⟩ = some (.slice none 0 0) := by rw [hw0]; simp [go_sem]
  have rz : ∀ o, w0.frozen? ⟨w.heap.size + 1, o, none⟩ = false := fun o => by rw [hw0]; simp [go_sem]
  have HF := Lib.hid (iFunctionOfF fs ap capp f w0 B (Nat.le_trans hBB hb0.size) (hP.below (hb0.mono hBB)) hsz hcap hcm)
  have HA := Lib.hid hA
  have HP := Lib.hid hP
  clear hP hA
  go_enter Tryz.func39, Tryz.ntmps39
  go_wp2_with fail
  rw [← hw0]
  clear hw0
  refine HF.out.mono ?_; rintro e w1 ⟨hb1, ⟨hn, rfl⟩ | ⟨hy, af, cf, rfl, hFo⟩⟩
  · have hB1 := hb0.trans (hb1.mono (by omega))
    have k0 := (hb1.cell (p := ⟨w.heap.size + 1, 0, none⟩) (by show w.heap.size + 1 < _; omega)).trans r0
    have kz0 := (hb1.frozen (p := ⟨w.heap.size + 1, 0, none⟩) (by show w.heap.size + 1 < _; omega)).trans (rz 0)
    have k1 := (hb1.cell (p := ⟨w.heap.size + 1, 1, none⟩) (by show w.heap.size + 1 < _; omega)).trans r1
    have kz1 := (hb1.frozen (p := ⟨w.heap.size + 1, 1, none⟩) (by show w.heap.size + 1 < _; omega)).trans (rz 1)
    have k2 := (hb1.cell (p := ⟨w.heap.size + 1, 2, none⟩) (by show w.heap.size + 1 < _; omega)).trans r2
    have kz2 := (hb1.frozen (p := ⟨w.heap.size + 1, 2, none⟩) (by show w.heap.size + 1 < _; omega)).trans (rz 2)
    have k3 := (hb1.cell (p := ⟨w.heap.size + 1, 3, none⟩) (by show w.heap.size + 1 < _; omega)).trans r3
    have kz3 := (hb1.frozen (p := ⟨w.heap.size + 1, 3, none⟩) (by show w.heap.size + 1 < _; omega)).trans (rz 3)
    have k4 := (hb1.cell (p := ⟨w.heap.size + 1, 4, none⟩) (by show w.heap.size + 1 < _; omega)).trans r4
    have kz4 := (hb1.frozen (p := ⟨w.heap.size + 1, 4, none⟩) (by show w.heap.size + 1 < _; omega)).trans (rz 4)
    have k5 := (hb1.cell (p := ⟨w.heap.size + 1, 5, none⟩) (by show w.heap.size + 1 < _; omega)).trans r5
    have kz5 := (hb1.frozen (p := ⟨w.heap.size + 1, 5, none⟩) (by show w.heap.size + 1 < _; omega)).trans (rz 5)
    have z1 := hb1.size
    have lw : w.heap.size + 1 < w1.heap.size := by omega
    have hne1 : ¬ w.heap.size + 1 = w1.heap.size := by omega
    have hne2 : ¬ w1.heap.size = w.heap.size + 1 := by omega
    have HC : Hid (plC fs f args = if progB fs = true then 2 else 1) := plC_no hn
    have HN := Lib.hid (plC_ne (args := args) hn)
    rw [← HC.out]
    have HRA : Hid (∀ W, Below w.heap.size w W → PlResB B fs ap capp f aa ca args w (.returned (.tuple #[.agg #[.nilIface, .slice none 0 0, .string ⟨#[]⟩, .int .i64 0, .slice none 0 0, .slice none 0 0], .int .i64 (plC fs f args)])) W) := fun W hW => ⟨hW, .inl ⟨HN.out, rfl⟩⟩
    have hbf : (plC fs f args != 0) = true := by simp [HN.out]
    generalize plC fs f args = pc at *
    obtain ⟨w2, hal⟩ : ∃ w2, w1.alloc (.cells #[.string ⟨#[]⟩, .int .i64 0, .slice none 0 0] 63) = w2 := ⟨_, rfl⟩
    have b2 : Below w1.heap.size w1 w2 := by rw [← hal]; exact (Below.refl _ _).alloc (Nat.le_refl _) _
    have hB2 := hB1.trans (b2.mono hB1.size)
    have q0 : w2.cell? ⟨w1.heap.size, 0, none⟩ = some (.string ⟨#[]⟩) := by rw [← hal]; simp [go_sem]
    have q1 : w2.cell? ⟨w1.heap.size, 1, none⟩ = some (.int .i64 0) := by rw [← hal]; simp [go_sem]
    have q2 : w2.cell? ⟨w1.heap.size, 2, none⟩ = some (.slice none 0 0) := by rw [← hal]; simp [go_sem]
    have qz0 : w2.frozen? ⟨w1.heap.size, 0, none⟩ = false := by rw [← hal]; simp [go_sem]
    have qz1 : w2.frozen? ⟨w1.heap.size, 1, none⟩ = false := by rw [← hal]; simp [go_sem]
    have qz2 : w2.frozen? ⟨w1.heap.size, 2, none⟩ = false := by rw [← hal]; simp [go_sem]
    have hs1 := hB1.size
    replace k0 := (b2.cell (p := ⟨w.heap.size + 1, 0, none⟩) lw).trans k0
    replace kz0 := (b2.frozen (p := ⟨w.heap.size + 1, 0, none⟩) lw).trans kz0
    replace k1 := (b2.cell (p := ⟨w.heap.size + 1, 1, none⟩) lw).trans k1
    replace kz1 := (b2.frozen (p := ⟨w.heap.size + 1, 1, none⟩) lw).trans kz1
    replace k2 := (b2.cell (p := ⟨w.heap.size + 1, 2, none⟩) lw).trans k2
    replace kz2 := (b2.frozen (p := ⟨w.heap.size + 1, 2, none⟩) lw).trans kz2
    replace k3 := (b2.cell (p := ⟨w.heap.size + 1, 3, none⟩) lw).trans k3
    replace kz3 := (b2.frozen (p := ⟨w.heap.size + 1, 3, none⟩) lw).trans kz3
    replace k4 := (b2.cell (p := ⟨w.heap.size + 1, 4, none⟩) lw).trans k4
    replace kz4 := (b2.frozen (p := ⟨w.heap.size + 1, 4, none⟩) lw).trans kz4
    replace k5 := (b2.cell (p := ⟨w.heap.size + 1, 5, none⟩) lw).trans k5
    replace kz5 := (b2.frozen (p := ⟨w.heap.size + 1, 5, none⟩) lw).trans kz5
    clear HF c0 r0 r1 r2 r3 r4 r5 rz hb1 hn HA HP hb0 z0 HC b2 hB1 z1 lw
    go_wp2_with fail
    refine bodyPost_ret (v := .tuple #[.agg #[.nilIface, .slice none 0 0, .string ⟨#[]⟩, .int .i64 0, .slice none 0 0, .slice none 0 0], .int .i64 pc]) (by simp [results, Tryz.results39, go_sem, k0, k1, k2, k3, k4, k5]) rfl (HRA.out _ (((((((((hB2.setCell (p := ⟨w1.heap.size, 0, none⟩) (by show w.heap.size ≤ w1.heap.size; omega) _).setCell (p := ⟨w1.heap.size, 1, none⟩) (by show w.heap.size ≤ w1.heap.size; omega) _).setCell (p := ⟨w1.heap.size, 2, none⟩) (by show w.heap.size ≤ w1.heap.size; omega) _).setCell (p := ⟨w.heap.size + 1, 0, none⟩) (by show w.heap.size ≤ w.heap.size + 1; omega) _).setCell (p := ⟨w.heap.size + 1, 1, none⟩) (by show w.heap.size ≤ w.heap.size + 1; omega) _).setCell (p := ⟨w.heap.size + 1, 2, none⟩) (by show w.heap.size ≤ w.heap.size + 1; omega) _).setCell (p := ⟨w.heap.size + 1, 3, none⟩) (by show w.heap.size ≤ w.heap.size + 1; omega) _).setCell (p := ⟨w.heap.size + 1, 4, none⟩) (by show w.heap.size ≤ w.heap.size + 1; omega) _).setCell (p := ⟨w.heap.size + 1, 5, none⟩) (by show w.heap.size ≤ w.heap.size + 1; omega) _))
  · have hB1 := hb0.trans (hb1.mono (by omega))
    have k0 := (hb1.cell (p := ⟨w.heap.size + 1, 0, none⟩) (by show w.heap.size + 1 < _; omega)).trans r0
    have kz0 := (hb1.frozen (p := ⟨w.heap.size + 1, 0, none⟩) (by show w.heap.size + 1 < _; omega)).trans (rz 0)
    have k1 := (hb1.cell (p := ⟨w.heap.size + 1, 1, none⟩) (by show w.heap.size + 1 < _; omega)).trans r1
    have kz1 := (hb1.frozen (p := ⟨w.heap.size + 1, 1, none⟩) (by show w.heap.size + 1 < _; omega)).trans (rz 1)
    have k2 := (hb1.cell (p := ⟨w.heap.size + 1, 2, none⟩) (by show w.heap.size + 1 < _; omega)).trans r2
    have kz2 := (hb1.frozen (p := ⟨w.heap.size + 1, 2, none⟩) (by show w.heap.size + 1 < _; omega)).trans (rz 2)
    have k3 := (hb1.cell (p := ⟨w.heap.size + 1, 3, none⟩) (by show w.heap.size + 1 < _; omega)).trans r3
    have kz3 := (hb1.frozen (p := ⟨w.heap.size + 1, 3, none⟩) (by show w.heap.size + 1 < _; omega)).trans (rz 3)
    have k4 := (hb1.cell (p := ⟨w.heap.size + 1, 4, none⟩) (by show w.heap.size + 1 < _; omega)).trans r4
    have kz4 := (hb1.frozen (p := ⟨w.heap.size + 1, 4, none⟩) (by show w.heap.size + 1 < _; omega)).trans (rz 4)
    have k5 := (hb1.cell (p := ⟨w.heap.size + 1, 5, none⟩) (by show w.heap.size + 1 < _; omega)).trans r5
    have kz5 := (hb1.frozen (p := ⟨w.heap.size + 1, 5, none⟩) (by show w.heap.size + 1 < _; omega)).trans (rz 5)
    have z1 := hb1.size
    have lw : w.heap.size + 1 < w1.heap.size := by omega
    have lw0 : w.heap.size < w1.heap.size := by omega
    have c1 := (hb1.cell (p := ⟨w.heap.size, 0, none⟩) (by show w.heap.size < _; omega)).trans c0
    have HC : Hid (plC fs f args = if areB args (fs.getD f.toNat noFn).params = true then 0 else 2) := plC_yes hy
    obtain ⟨w2, hw2⟩ : ∃ w2, w2 = w1.alloc (.cells #[.string (fs.getD f.toNat noFn).name, .int .i64 (fs.getD f.toNat noFn).params, .slice af (fs.getD f.toNat noFn).outs.len cf] 63) := ⟨_, rfl⟩
    have b2 : Below w1.heap.size w1 w2 := by rw [hw2]; exact (Below.refl _ _).alloc (Nat.le_refl _) _
    have f0 : w2.cell? ⟨w1.heap.size, 0, none⟩ = some (.string (fs.getD f.toNat noFn).name) := by rw [hw2]; simp [go_sem]
    have f1 : w2.cell? ⟨w1.heap.size, 1, none⟩ = some (.int .i64 (fs.getD f.toNat noFn).params) := by rw [hw2]; simp [go_sem]
    have f2 : w2.cell? ⟨w1.heap.size, 2, none⟩ = some (.slice af (fs.getD f.toNat noFn).outs.len cf) := by rw [hw2]; simp [go_sem]
    have hB2 := hB1.trans (b2.mono hB1.size)
    have HQ := Lib.hid (iAre aa ca args (fs.getD f.toNat noFn).params w2 (HA.out.below hB2 (Nat.le_refl _)) hal)
    have HFO : Hid (Fat w 0 B (fs.getD f.toNat noFn).outs af) := hFo.agree (fun i _ h2 => (hb0.block i (Nat.lt_of_lt_of_le h2 hBB)).symm)
    have HY := Lib.hid hy
    cases hq : areB args (fs.getD f.toNat noFn).params with
    | false =>
      rw [hq] at HQ HC
      have HPC : Hid (plC fs f args = 2) := HC.out
      clear HF c0 r0 r1 r2 r3 r4 r5 rz hy hFo HC hq f0 f1 f2
      generalize (fs.getD f.toNat noFn).name = nm at *
      generalize (fs.getD f.toNat noFn).params = pa at *
      generalize (fs.getD f.toNat noFn).outs.len = mo at *
      go_wp2_with fail
      rw [← hw2]
      clear hw2
      refine HQ.out.mono ?_; rintro e w3 ⟨rfl, rfl⟩
      replace k0 := (b2.cell (p := ⟨w.heap.size + 1, 0, none⟩) lw).trans k0
      replace kz0 := (b2.frozen (p := ⟨w.heap.size + 1, 0, none⟩) lw).trans kz0
      replace k1 := (b2.cell (p := ⟨w.heap.size + 1, 1, none⟩) lw).trans k1
      replace kz1 := (b2.frozen (p := ⟨w.heap.size + 1, 1, none⟩) lw).trans kz1
      replace k2 := (b2.cell (p := ⟨w.heap.size + 1, 2, none⟩) lw).trans k2
      replace kz2 := (b2.frozen (p := ⟨w.heap.size + 1, 2, none⟩) lw).trans kz2
      replace k3 := (b2.cell (p := ⟨w.heap.size + 1, 3, none⟩) lw).trans k3
      replace kz3 := (b2.frozen (p := ⟨w.heap.size + 1, 3, none⟩) lw).trans kz3
      replace k4 := (b2.cell (p := ⟨w.heap.size + 1, 4, none⟩) lw).trans k4
      replace kz4 := (b2.frozen (p := ⟨w.heap.size + 1, 4, none⟩) lw).trans kz4
      replace k5 := (b2.cell (p := ⟨w.heap.size + 1, 5, none⟩) lw).trans k5
      replace kz5 := (b2.frozen (p := ⟨w.heap.size + 1, 5, none⟩) lw).trans kz5
      go_wp2_with fail
      refine bodyPost_ret (v := .tuple #[.agg #[.nilIface, .slice none 0 0, .string ⟨#[]⟩, .int .i64 0, .slice none 0 0, .slice none 0 0], .int .i64 2]) (by simp [results, Tryz.results39, go_sem, k0, k1, k2, k3, k4, k5]) rfl ⟨((((((hB2.setCell (p := ⟨w.heap.size + 1, 0, none⟩) (by show w.heap.size ≤ w.heap.size + 1; omega) _).setCell (p := ⟨w.heap.size + 1, 1, none⟩) (by show w.heap.size ≤ w.heap.size + 1; omega) _).setCell (p := ⟨w.heap.size + 1, 2, none⟩) (by show w.heap.size ≤ w.heap.size + 1; omega) _).setCell (p := ⟨w.heap.size + 1, 3, none⟩) (by show w.heap.size ≤ w.heap.size + 1; omega) _).setCell (p := ⟨w.heap.size + 1, 4, none⟩) (by show w.heap.size ≤ w.heap.size + 1; omega) _).setCell (p := ⟨w.heap.size + 1, 5, none⟩) (by show w.heap.size ≤ w.heap.size + 1; omega) _), .inl ⟨by rw [HPC.out]; decide, by rw [HPC.out]⟩⟩
    | true =>
      have HAB := Lib.hid hq
      rw [hq] at HQ HC
      have HPC : Hid (plC fs f args = 0) := HC.out
      have HRS : Hid (∀ W, Below w.heap.size w W → PlResB B fs ap capp f aa ca args w (.returned (.tuple #[.agg #[ofN, .slice ap fs.length capp, .string (fs.getD f.toNat noFn).name, .int .i64 (fs.getD f.toNat noFn).params, .slice af (fs.getD f.toNat noFn).outs.len cf, .slice aa args.length ca], .int .i64 0])) W) := fun W hW => ⟨hW, .inr ⟨HPC.out, HY.out, HAB.out, af, cf, rfl, HFO.out⟩⟩
      clear HF c0 r0 r1 r2 r3 r4 r5 rz hy hFo HC hq HFO HAB HPC HY
      generalize (fs.getD f.toNat noFn).name = nm at *
      generalize (fs.getD f.toNat noFn).params = pa at *
      generalize (fs.getD f.toNat noFn).outs.len = mo at *
      go_wp2_with fail
      rw [← hw2]
      clear hw2
      refine HQ.out.mono ?_; rintro e w3 ⟨rfl, rfl⟩
      replace k0 := (b2.cell (p := ⟨w.heap.size + 1, 0, none⟩) lw).trans k0
      replace kz0 := (b2.frozen (p := ⟨w.heap.size + 1, 0, none⟩) lw).trans kz0
      replace k1 := (b2.cell (p := ⟨w.heap.size + 1, 1, none⟩) lw).trans k1
      replace kz1 := (b2.frozen (p := ⟨w.heap.size + 1, 1, none⟩) lw).trans kz1
      replace k2 := (b2.cell (p := ⟨w.heap.size + 1, 2, none⟩) lw).trans k2
      replace kz2 := (b2.frozen (p := ⟨w.heap.size + 1, 2, none⟩) lw).trans kz2
      replace k3 := (b2.cell (p := ⟨w.heap.size + 1, 3, none⟩) lw).trans k3
      replace kz3 := (b2.frozen (p := ⟨w.heap.size + 1, 3, none⟩) lw).trans kz3
      replace k4 := (b2.cell (p := ⟨w.heap.size + 1, 4, none⟩) lw).trans k4
      replace kz4 := (b2.frozen (p := ⟨w.heap.size + 1, 4, none⟩) lw).trans kz4
      replace k5 := (b2.cell (p := ⟨w.heap.size + 1, 5, none⟩) lw).trans k5
      replace kz5 := (b2.frozen (p := ⟨w.heap.size + 1, 5, none⟩) lw).trans kz5
      have c2 := (b2.cell (p := ⟨w.heap.size, 0, none⟩) lw0).trans c1
      go_wp2_with fail
      refine bodyPost_ret (v := .tuple #[.agg #[ofN, .slice ap fs.length capp, .string nm, .int .i64 pa, .slice af mo cf, .slice aa args.length ca], .int .i64 0]) (by simp [results, Tryz.results39, go_sem, k0, k1, k2, k3, k4, k5]) rfl (HRS.out _ ((((((hB2.setCell (p := ⟨w.heap.size + 1, 0, none⟩) (by show w.heap.size ≤ w.heap.size + 1; omega) _).setCell (p := ⟨w.heap.size + 1, 1, none⟩) (by show w.heap.size ≤ w.heap.size + 1; omega) _).setCell (p := ⟨w.heap.size + 1, 2, none⟩) (by show w.heap.size ≤ w.heap.size + 1; omega) _).setCell (p := ⟨w.heap.size + 1, 3, none⟩) (by show w.heap.size ≤ w.heap.size + 1; omega) _).setCell (p := ⟨w.heap.size + 1, 4, none⟩) (by show w.heap.size ≤ w.heap.size + 1; omega) _).setCell (p := ⟨w.heap.size + 1, 5, none⟩) (by show w.heap.size ≤ w.heap.size + 1; omega) _))


end Go.Proofs.YtoedccgiahegnaaGreat
