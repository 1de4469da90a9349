/- A place: the function of a program at an index, with arguments. The model's evaluation: what is asked. -/
import Derived.Test.YtoedccgiahegnaaGreatAre
import Derived.Test.YtoedccgiahegnaaGreatNfn
import Derived.Test.YtoedccgiahegnaaGreatFitW
namespace Go.Proofs.YtoedccgiahegnaaGreat
open Go.RowKit
set_option linter.unusedVariables false

/-- the code for a place -/
def plC (fs : List Fn) (f : Int) (args : List Int) : Int := if progB fs = true then (if 0 ≤ f ∧ f < (fs.length : Int) then (if areB args (fs.getD f.toNat noFn).params = true then 0 else 2) else 2) else 1
theorem plC_no {fs : List Fn} {f : Int} {args : List Int} (h : ¬ FnAt fs f) : plC fs f args = if progB fs = true then 2 else 1 := by
  unfold plC
  by_cases hp : progB fs = true
  · rw [if_pos hp, if_pos hp, if_neg (fun h2 => h ⟨hp, h2⟩)]
  · rw [if_neg hp, if_neg hp]
theorem plC_yes {fs : List Fn} {f : Int} {args : List Int} (h : FnAt fs f) : plC fs f args = if areB args (fs.getD f.toNat noFn).params = true then 0 else 2 := by
  unfold plC
  rw [if_pos h.1, if_pos h.2]
theorem plC_ne {fs : List Fn} {f : Int} {args : List Int} (h : ¬ FnAt fs f) : ¬ plC fs f args = 0 := by
  rw [plC_no h]; split <;> decide
/-- the answer for a place -/
def PlRes (fs : List Fn) (ap : Option Addr) (capp : Nat) (f : Int) (aa : Option Addr) (ca : Nat) (args : List Int) (w : World) (e : Ending) (w' : World) : Prop := Below w.heap.size w w' ∧
  ((¬ plC fs f args = 0 ∧ e = .returned (.tuple #[.agg #[.nilIface, .slice none 0 0, .string ⟨#[]⟩, .int .i64 0, .slice none 0 0, .slice none 0 0], .int .i64 (plC fs f args)])) ∨
   (plC fs f args = 0 ∧ FnAt fs f ∧ areB args (fs.getD f.toNat noFn).params = true ∧ ∃ af cf, e = .returned (.tuple #[.agg #[ofN, .slice ap fs.length capp, .string (fs.getD f.toNat noFn).name, .int .i64 (fs.getD f.toNat noFn).params, .slice af (fs.getD f.toNat noFn).outs.len cf, .slice aa args.length ca], .int .i64 0]) ∧ Fat w 0 w.heap.size (fs.getD f.toNat noFn).outs af))
set_option maxRecDepth 100000 in
set_option maxHeartbeats 3200000 in
theorem iPlaceOf (fs : List Fn) (ap : Option Addr) (capp : Nat) (f : Int) (aa : Option Addr) (ca : Nat) (args : List Int) (w : World) (hP : Pat w 0 w.heap.size fs ap) (hsz : pgSize fs ≤ 1048576) (hcap : fs.length ≤ capp) (hcm : capp ≤ 1048576) (hA : At w aa args) (hal : args.length ≤ 1048576) :
    Calls Tryz.prog 39 #[.agg #[.slice ap fs.length capp], .int .i64 f, .slice aa args.length ca] w (PlRes fs ap capp f aa ca args w) := by
  obtain ⟨w0, hw0⟩ : ∃ w0, w0 = (w.alloc (.cells #[.slice ap fs.length capp] 31)).alloc (.cells #[.nilIface, .slice none 0 0, .string ⟨#[]⟩, .int .i64 0, .slice none 0 0, .slice none 0 0] 67) := ⟨_, rfl⟩
  have hb0 : Below w.heap.size w w0 := by rw [hw0]; exact ((Below.refl _ _).alloc (Nat.le_refl _) _).alloc (by simp) _
  have z0 : w0.heap.size = w.heap.size + 2 := by rw [hw0]; simp
  have c0 : w0.cell? ⟨w.heap.size, 0, none⟩ = some (.slice ap fs.length capp) := by rw [hw0]; simp [go_sem]
  have r0 : w0.cell? ⟨w.heap.size + 1, 0, none⟩ = some (.nilIface) := by rw [hw0]; simp [go_sem]
  have r1 : w0.cell? ⟨w.heap.size + 1, 1, none⟩ = some (.slice none 0 0) := by rw [hw0]; simp [go_sem]
  have r2 : w0.cell? ⟨w.heap.size + 1, 2, none⟩ = some (.string ⟨#[]⟩) := by rw [hw0]; simp [go_sem]
  have r3 : w0.cell? ⟨w.heap.size + 1, 3, none⟩ = some (.int .i64 0) := by rw [hw0]; simp [go_sem]
  have r4 : w0.cell? ⟨w.heap.size + 1, 4, none⟩ = some (.slice none 0 0) := by rw [hw0]; simp [go_sem]
  have r5 : w0.cell? ⟨w.heap.size + 1, 5, none⟩ = some (.slice none 0 0) := by rw [hw0]; simp [go_sem]
  have rz : ∀ o, w0.frozen? ⟨w.heap.size + 1, o, none⟩ = false := fun o => by rw [hw0]; simp [go_sem]
  have HF := Lib.hid (iFunctionOfF fs ap capp f w0 w.heap.size hb0.size (hP.below hb0) hsz hcap hcm)
  have HA := Lib.hid hA
  have HP := Lib.hid hP
  clear hP hA
  go_enter Tryz.func39, Tryz.ntmps39
  go_wp2_with fail
  rw [← hw0]
  clear hw0
  refine HF.out.mono ?_; rintro e w1 ⟨hb1, ⟨hn, rfl⟩ | ⟨hy, af, cf, rfl, hFo⟩⟩
  · have hB1 := hb0.trans (hb1.mono (by omega))
    have k0 := (hb1.cell (p := ⟨w.heap.size + 1, 0, none⟩) (by show w.heap.size + 1 < _; omega)).trans r0
    have kz0 := (hb1.frozen (p := ⟨w.heap.size + 1, 0, none⟩) (by show w.heap.size + 1 < _; omega)).trans (rz 0)
    have k1 := (hb1.cell (p := ⟨w.heap.size + 1, 1, none⟩) (by show w.heap.size + 1 < _; omega)).trans r1
    have kz1 := (hb1.frozen (p := ⟨w.heap.size + 1, 1, none⟩) (by show w.heap.size + 1 < _; omega)).trans (rz 1)
    have k2 := (hb1.cell (p := ⟨w.heap.size + 1, 2, none⟩) (by show w.heap.size + 1 < _; omega)).trans r2
    have kz2 := (hb1.frozen (p := ⟨w.heap.size + 1, 2, none⟩) (by show w.heap.size + 1 < _; omega)).trans (rz 2)
    have k3 := (hb1.cell (p := ⟨w.heap.size + 1, 3, none⟩) (by show w.heap.size + 1 < _; omega)).trans r3
    have kz3 := (hb1.frozen (p := ⟨w.heap.size + 1, 3, none⟩) (by show w.heap.size + 1 < _; omega)).trans (rz 3)
    have k4 := (hb1.cell (p := ⟨w.heap.size + 1, 4, none⟩) (by show w.heap.size + 1 < _; omega)).trans r4
    have kz4 := (hb1.frozen (p := ⟨w.heap.size + 1, 4, none⟩) (by show w.heap.size + 1 < _; omega)).trans (rz 4)
    have k5 := (hb1.cell (p := ⟨w.heap.size + 1, 5, none⟩) (by show w.heap.size + 1 < _; omega)).trans r5
    have kz5 := (hb1.frozen (p := ⟨w.heap.size + 1, 5, none⟩) (by show w.heap.size + 1 < _; omega)).trans (rz 5)
    have z1 := hb1.size
    have lw : w.heap.size + 1 < w1.heap.size := by omega
    have hne1 : ¬ w.heap.size + 1 = w1.heap.size := by omega
    have hne2 : ¬ w1.heap.size = w.heap.size + 1 := by omega
    have HC : Hid (plC fs f args = if progB fs = true then 2 else 1) := plC_no hn
    have HN := Lib.hid (plC_ne (args := args) hn)
    rw [← HC.out]
    have HRA : Hid (∀ W, Below w.heap.size w W → PlRes fs ap capp f aa ca args w (.returned (.tuple #[.agg #[.nilIface, .slice none 0 0, .string ⟨#[]⟩, .int .i64 0, .slice none 0 0, .slice none 0 0], .int .i64 (plC fs f args)])) W) := fun W hW => ⟨hW, .inl ⟨HN.out, rfl⟩⟩
    have hbf : (plC fs f args != 0) = true := by simp [HN.out]
    generalize plC fs f args = pc at *
    obtain ⟨w2, hal⟩ : ∃ w2, w1.alloc (.cells #[.string ⟨#[]⟩, .int .i64 0, .slice none 0 0] 63) = w2 := ⟨_, rfl⟩
    have b2 : Below w1.heap.size w1 w2 := by rw [← hal]; exact (Below.refl _ _).alloc (Nat.le_refl _) _
    have hB2 := hB1.trans (b2.mono hB1.size)
    have q0 : w2.cell? ⟨w1.heap.size, 0, none⟩ = some (.string ⟨#[]⟩) := by rw [← hal]; simp [go_sem]
    have q1 : w2.cell? ⟨w1.heap.size, 1, none⟩ = some (.int .i64 0) := by rw [← hal]; simp [go_sem]
    have q2 : w2.cell? ⟨w1.heap.size, 2, none⟩ = some (.slice none 0 0) := by rw [← hal]; simp [go_sem]
    have qz0 : w2.frozen? ⟨w1.heap.size, 0, none⟩ = false := by rw [← hal]; simp [go_sem]
    have qz1 : w2.frozen? ⟨w1.heap.size, 1, none⟩ = false := by rw [← hal]; simp [go_sem]
    have qz2 : w2.frozen? ⟨w1.heap.size, 2, none⟩ = false := by rw [← hal]; simp [go_sem]
    have hs1 := hB1.size
    replace k0 := (b2.cell (p := ⟨w.heap.size + 1, 0, none⟩) lw).trans k0
    replace kz0 := (b2.frozen (p := ⟨w.heap.size + 1, 0, none⟩) lw).trans kz0
    replace k1 := (b2.cell (p := ⟨w.heap.size + 1, 1, none⟩) lw).trans k1
    replace kz1 := (b2.frozen (p := ⟨w.heap.size + 1, 1, none⟩) lw).trans kz1
    replace k2 := (b2.cell (p := ⟨w.heap.size + 1, 2, none⟩) lw).trans k2
    replace kz2 := (b2.frozen (p := ⟨w.heap.size + 1, 2, none⟩) lw).trans kz2
    replace k3 := (b2.cell (p := ⟨w.heap.size + 1, 3, none⟩) lw).trans k3
    replace kz3 := (b2.frozen (p := ⟨w.heap.size + 1, 3, none⟩) lw).trans kz3
    replace k4 := (b2.cell (p := ⟨w.heap.size + 1, 4, none⟩) lw).trans k4
    replace kz4 := (b2.frozen (p := ⟨w.heap.size + 1, 4, none⟩) lw).trans kz4
    replace k5 := (b2.cell (p := ⟨w.heap.size + 1, 5, none⟩) lw).trans k5
    replace kz5 := (b2.frozen (p := ⟨w.heap.size + 1, 5, none⟩) lw).trans kz5
    clear HF c0 r0 r1 r2 r3 r4 r5 rz hb1 hn HA HP hb0 z0 HC b2 hB1 z1 lw
    go_wp2_with fail
    refine bodyPost_ret (v := .tuple #[.agg #[.nilIface, .slice none 0 0, .string ⟨#[]⟩, .int .i64 0, .slice none 0 0, .slice none 0 0], .int .i64 pc]) (by simp [results, Tryz.results39, go_sem, k0, k1, k2, k3, k4, k5]) rfl (HRA.out _ (((((((((hB2.setCell (p := ⟨w1.heap.size, 0, none⟩) (by show w.heap.size ≤ w1.heap.size; omega) _).setCell (p := ⟨w1.heap.size, 1, none⟩) (by show w.heap.size ≤ w1.heap.size; omega) _).setCell (p := ⟨w1.heap.size, 2, none⟩) (by show w.heap.size ≤ w1.heap.size; omega) _).setCell (p := ⟨w.heap.size + 1, 0, none⟩) (by show w.heap.size ≤ w.heap.size + 1; omega) _).setCell (p := ⟨w.heap.size + 1, 1, none⟩) (by show w.heap.size ≤ w.heap.size + 1; omega) _).setCell (p := ⟨w.heap.size + 1, 2, none⟩) (by show w.heap.size ≤ w.heap.size + 1; omega) _).setCell (p := ⟨w.heap.size + 1, 3, none⟩) (by show w.heap.size ≤ w.heap.size + 1; omega) _).setCell (p := ⟨w.heap.size + 1, 4, none⟩) (by show w.heap.size ≤ w.heap.size + 1; omega) _).setCell (p := ⟨w.heap.size + 1, 5, none⟩) (by show w.heap.size ≤ w.heap.size + 1; omega) _))
  · have hB1 := hb0.trans (hb1.mono (by omega))
    have k0 := (hb1.cell (p := ⟨w.heap.size + 1, 0, none⟩) (by show w.heap.size + 1 < _; omega)).trans r0
    have kz0 := (hb1.frozen (p := ⟨w.heap.size + 1, 0, none⟩) (by show w.heap.size + 1 < _; omega)).trans (rz 0)
    have k1 := (hb1.cell (p := ⟨w.heap.size + 1, 1, none⟩) (by show w.heap.size + 1 < _; omega)).trans r1
    have kz1 := (hb1.frozen (p := ⟨w.heap.size + 1, 1, none⟩) (by show w.heap.size + 1 < _; omega)).trans (rz 1)
    have k2 := (hb1.cell (p := ⟨w.heap.size + 1, 2, none⟩) (by show w.heap.size + 1 < _; omega)).trans r2
    have kz2 := (hb1.frozen (p := ⟨w.heap.size + 1, 2, none⟩) (by show w.heap.size + 1 < _; omega)).trans (rz 2)
    have k3 := (hb1.cell (p := ⟨w.heap.size + 1, 3, none⟩) (by show w.heap.size + 1 < _; omega)).trans r3
    have kz3 := (hb1.frozen (p := ⟨w.heap.size + 1, 3, none⟩) (by show w.heap.size + 1 < _; omega)).trans (rz 3)
    have k4 := (hb1.cell (p := ⟨w.heap.size + 1, 4, none⟩) (by show w.heap.size + 1 < _; omega)).trans r4
    have kz4 := (hb1.frozen (p := ⟨w.heap.size + 1, 4, none⟩) (by show w.heap.size + 1 < _; omega)).trans (rz 4)
    have k5 := (hb1.cell (p := ⟨w.heap.size + 1, 5, none⟩) (by show w.heap.size + 1 < _; omega)).trans r5
    have kz5 := (hb1.frozen (p := ⟨w.heap.size + 1, 5, none⟩) (by show w.heap.size + 1 < _; omega)).trans (rz 5)
    have z1 := hb1.size
    have lw : w.heap.size + 1 < w1.heap.size := by omega
    have lw0 : w.heap.size < w1.heap.size := by omega
    have c1 := (hb1.cell (p := ⟨w.heap.size, 0, none⟩) (by show w.heap.size < _; omega)).trans c0
    have HC : Hid (plC fs f args = if areB args (fs.getD f.toNat noFn).params = true then 0 else 2) := plC_yes hy
    obtain ⟨w2, hw2⟩ : ∃ w2, w2 = w1.alloc (.cells #[.string (fs.getD f.toNat noFn).name, .int .i64 (fs.getD f.toNat noFn).params, .slice af (fs.getD f.toNat noFn).outs.len cf] 63) := ⟨_, rfl⟩
    have b2 : Below w1.heap.size w1 w2 := by rw [hw2]; exact (Below.refl _ _).alloc (Nat.le_refl _) _
    have f0 : w2.cell? ⟨w1.heap.size, 0, none⟩ = some (.string (fs.getD f.toNat noFn).name) := by rw [hw2]; simp [go_sem]
    have f1 : w2.cell? ⟨w1.heap.size, 1, none⟩ = some (.int .i64 (fs.getD f.toNat noFn).params) := by rw [hw2]; simp [go_sem]
    have f2 : w2.cell? ⟨w1.heap.size, 2, none⟩ = some (.slice af (fs.getD f.toNat noFn).outs.len cf) := by rw [hw2]; simp [go_sem]
    have hB2 := hB1.trans (b2.mono hB1.size)
    have HQ := Lib.hid (iAre aa ca args (fs.getD f.toNat noFn).params w2 (HA.out.below hB2 (Nat.le_refl _)) hal)
    have HFO : Hid (Fat w 0 w.heap.size (fs.getD f.toNat noFn).outs af) := hFo.agree (fun i _ h2 => (hb0.block i h2).symm)
    have HY := Lib.hid hy
    cases hq : areB args (fs.getD f.toNat noFn).params with
    | false =>
      rw [hq] at HQ HC
      have HPC : Hid (plC fs f args = 2) := HC.out
      clear HF c0 r0 r1 r2 r3 r4 r5 rz hy hFo HC hq f0 f1 f2
      generalize (fs.getD f.toNat noFn).name = nm at *
      generalize (fs.getD f.toNat noFn).params = pa at *
      generalize (fs.getD f.toNat noFn).outs.len = mo at *
      go_wp2_with fail
      rw [← hw2]
      clear hw2
      refine HQ.out.mono ?_; rintro e w3 ⟨rfl, rfl⟩
      replace k0 := (b2.cell (p := ⟨w.heap.size + 1, 0, none⟩) lw).trans k0
      replace kz0 := (b2.frozen (p := ⟨w.heap.size + 1, 0, none⟩) lw).trans kz0
      replace k1 := (b2.cell (p := ⟨w.heap.size + 1, 1, none⟩) lw).trans k1
      replace kz1 := (b2.frozen (p := ⟨w.heap.size + 1, 1, none⟩) lw).trans kz1
      replace k2 := (b2.cell (p := ⟨w.heap.size + 1, 2, none⟩) lw).trans k2
      replace kz2 := (b2.frozen (p := ⟨w.heap.size + 1, 2, none⟩) lw).trans kz2
      replace k3 := (b2.cell (p := ⟨w.heap.size + 1, 3, none⟩) lw).trans k3
      replace kz3 := (b2.frozen (p := ⟨w.heap.size + 1, 3, none⟩) lw).trans kz3
      replace k4 := (b2.cell (p := ⟨w.heap.size + 1, 4, none⟩) lw).trans k4
      replace kz4 := (b2.frozen (p := ⟨w.heap.size + 1, 4, none⟩) lw).trans kz4
      replace k5 := (b2.cell (p := ⟨w.heap.size + 1, 5, none⟩) lw).trans k5
      replace kz5 := (b2.frozen (p := ⟨w.heap.size + 1, 5, none⟩) lw).trans kz5
      go_wp2_with fail
      refine bodyPost_ret (v := .tuple #[.agg #[.nilIface, .slice none 0 0, .string ⟨#[]⟩, .int .i64 0, .slice none 0 0, .slice none 0 0], .int .i64 2]) (by simp [results, Tryz.results39, go_sem, k0, k1, k2, k3, k4, k5]) rfl ⟨((((((hB2.setCell (p := ⟨w.heap.size + 1, 0, none⟩) (by show w.heap.size ≤ w.heap.size + 1; omega) _).setCell (p := ⟨w.heap.size + 1, 1, none⟩) (by show w.heap.size ≤ w.heap.size + 1; omega) _).setCell (p := ⟨w.heap.size + 1, 2, none⟩) (by show w.heap.size ≤ w.heap.size + 1; omega) _).setCell (p := ⟨w.heap.size + 1, 3, none⟩) (by show w.heap.size ≤ w.heap.size + 1; omega) _).setCell (p := ⟨w.heap.size + 1, 4, none⟩) (by show w.heap.size ≤ w.heap.size + 1; omega) _).setCell (p := ⟨w.heap.size + 1, 5, none⟩) (by show w.heap.size ≤ w.heap.size + 1; omega) _), .inl ⟨by rw [HPC.out]; decide, by rw [HPC.out]⟩⟩
    | true =>
      have HAB := Lib.hid hq
      rw [hq] at HQ HC
      have HPC : Hid (plC fs f args = 0) := HC.out
      have HRS : Hid (∀ W, Below w.heap.size w W → PlRes fs ap capp f aa ca args w (.returned (.tuple #[.agg #[ofN, .slice ap fs.length capp, .string (fs.getD f.toNat noFn).name, .int .i64 (fs.getD f.toNat noFn).params, .slice af (fs.getD f.toNat noFn).outs.len cf, .slice aa args.length ca], .int .i64 0])) W) := fun W hW => ⟨hW, .inr ⟨HPC.out, HY.out, HAB.out, af, cf, rfl, HFO.out⟩⟩
      clear HF c0 r0 r1 r2 r3 r4 r5 rz hy hFo HC hq HFO HAB HPC HY
      generalize (fs.getD f.toNat noFn).name = nm at *
      generalize (fs.getD f.toNat noFn).params = pa at *
      generalize (fs.getD f.toNat noFn).outs.len = mo at *
      go_wp2_with fail
      rw [← hw2]
      clear hw2
      refine HQ.out.mono ?_; rintro e w3 ⟨rfl, rfl⟩
      replace k0 := (b2.cell (p := ⟨w.heap.size + 1, 0, none⟩) lw).trans k0
      replace kz0 := (b2.frozen (p := ⟨w.heap.size + 1, 0, none⟩) lw).trans kz0
      replace k1 := (b2.cell (p := ⟨w.heap.size + 1, 1, none⟩) lw).trans k1
      replace kz1 := (b2.frozen (p := ⟨w.heap.size + 1, 1, none⟩) lw).trans kz1
      replace k2 := (b2.cell (p := ⟨w.heap.size + 1, 2, none⟩) lw).trans k2
      replace kz2 := (b2.frozen (p := ⟨w.heap.size + 1, 2, none⟩) lw).trans kz2
      replace k3 := (b2.cell (p := ⟨w.heap.size + 1, 3, none⟩) lw).trans k3
      replace kz3 := (b2.frozen (p := ⟨w.heap.size + 1, 3, none⟩) lw).trans kz3
      replace k4 := (b2.cell (p := ⟨w.heap.size + 1, 4, none⟩) lw).trans k4
      replace kz4 := (b2.frozen (p := ⟨w.heap.size + 1, 4, none⟩) lw).trans kz4
      replace k5 := (b2.cell (p := ⟨w.heap.size + 1, 5, none⟩) lw).trans k5
      replace kz5 := (b2.frozen (p := ⟨w.heap.size + 1, 5, none⟩) lw).trans kz5
      have c2 := (b2.cell (p := ⟨w.heap.size, 0, none⟩) lw0).trans c1
      go_wp2_with fail
      refine bodyPost_ret (v := .tuple #[.agg #[ofN, .slice ap fs.length capp, .string nm, .int .i64 pa, .slice af mo cf, .slice aa args.length ca], .int .i64 0]) (by simp [results, Tryz.results39, go_sem, k0, k1, k2, k3, k4, k5]) rfl (HRS.out _ ((((((hB2.setCell (p := ⟨w.heap.size + 1, 0, none⟩) (by show w.heap.size ≤ w.heap.size + 1; omega) _).setCell (p := ⟨w.heap.size + 1, 1, none⟩) (by show w.heap.size ≤ w.heap.size + 1; omega) _).setCell (p := ⟨w.heap.size + 1, 2, none⟩) (by show w.heap.size ≤ w.heap.size + 1; omega) _).setCell (p := ⟨w.heap.size + 1, 3, none⟩) (by show w.heap.size ≤ w.heap.size + 1; omega) _).setCell (p := ⟨w.heap.size + 1, 4, none⟩) (by show w.heap.size ≤ w.heap.size + 1; omega) _).setCell (p := ⟨w.heap.size + 1, 5, none⟩) (by show w.heap.size ≤ w.heap.size + 1; omega) _))


end Go.Proofs.YtoedccgiahegnaaGreat

namespace Go.Proofs.YtoedccgiahegnaaGreat
open Go.RowKit
set_option linter.unusedVariables false

def cCodE (fs : List Fn) (f : Int) : Int := if progB fs = true then (if 0 ≤ f ∧ f < (fs.length : Int) then 0 else 2) else 1
set_option maxRecDepth 100000 in
set_option maxHeartbeats 3200000 in
theorem sAskedE (fs : List Fn) (bp op : Nat) (ap : Option Addr) (capp : Nat) (f : Int) (w : World)
    (hp : w.cell? ⟨bp, op, none⟩ = some (.slice ap fs.length capp)) (hP : Pat w 0 w.heap.size fs ap) (hsz : pgSize fs ≤ 1048576) :
    Calls Tryz.prog 67 #[.pointer (some ⟨bp, op, none⟩), .int .i64 f] w (Quiet (.int .i64 (cCodE fs f)) w) := by
  have hl : fs.length ≤ 1048576 := by unfold pgSize at hsz; omega
  have hli : (fs.length : Int) ≤ 1048576 := by omega
  have HO := Lib.hid (sOkP fs bp op ap capp w hp hP hsz)
  cases hpb : progB fs with
  | false =>
    have HF : Hid (cCodE fs f = 1) := if_neg (by rw [hpb]; simp)
    rw [hpb] at HO
    clear hpb hP
    go_enter Tryz.func67, Tryz.ntmps67
    go_wp2_with fail
    refine (HO.out).mono ?_; rintro e w1 ⟨rfl, hq⟩
    obtain ⟨q, rfl⟩ := hq
    go_wp2_with fail
    go_ret
    exact ⟨ret_int HF.out.symm, q, rfl⟩
  | true =>
    rw [hpb] at HO
    by_cases h1 : 0 ≤ f ∧ f < (fs.length : Int)
    · have HF : Hid (cCodE fs f = 0) := by show _ = _; unfold cCodE; rw [if_pos hpb, if_pos h1]
      clear hpb hP
      go_enter Tryz.func67, Tryz.ntmps67
      go_wp2_with fail
      refine (HO.out).mono ?_; rintro e w1 ⟨rfl, hq⟩
      obtain ⟨q, rfl⟩ := hq
      go_wp2_with fail
      refine (inT f 0 ((fs.length : Int) - 1) h1.1 (by omega) _).mono ?_; rintro e w1 ⟨rfl, rfl⟩
      go_wp2_with fail
      go_ret
      exact ⟨ret_int HF.out.symm, q, rfl⟩
    · have HF : Hid (cCodE fs f = 2) := by show _ = _; unfold cCodE; rw [if_pos hpb, if_neg h1]
      clear hpb hP
      go_enter Tryz.func67, Tryz.ntmps67
      go_wp2_with fail
      refine (HO.out).mono ?_; rintro e w1 ⟨rfl, hq⟩
      obtain ⟨q, rfl⟩ := hq
      go_wp2_with fail
      refine (inF f 0 ((fs.length : Int) - 1) (by omega) _).mono ?_; rintro e w1 ⟨rfl, rfl⟩
      go_wp2_with fail
      go_ret
      exact ⟨ret_int HF.out.symm, q, rfl⟩


theorem cCodE_yes {fs : List Fn} {f : Int} (hp : progB fs = true) (h : 0 ≤ f ∧ f < (fs.length : Int)) : cCodE fs f = 0 := by unfold cCodE; rw [if_pos hp, if_pos h]
theorem plC_asked {fs : List Fn} {f : Int} {args : List Int} (h : ¬ cCodE fs f = 0) : plC fs f args = cCodE fs f := by
  unfold plC
  unfold cCodE at h ⊢
  by_cases hp : progB fs = true
  · rw [if_pos hp] at h ⊢
    rw [if_pos hp]
    by_cases h2 : 0 ≤ f ∧ f < (fs.length : Int)
    · rw [if_pos h2] at h; exact absurd rfl h
    · rw [if_neg h2, if_neg h2]
  · rw [if_neg hp, if_neg hp]
set_option maxRecDepth 100000 in
set_option maxHeartbeats 3200000 in
theorem sArgs (fs : List Fn) (bp op : Nat) (ap : Option Addr) (capp : Nat) (f : Int) (aa : Option Addr) (ca : Nat) (args : List Int) (w : World)
    (hp : w.cell? ⟨bp, op, none⟩ = some (.slice ap fs.length capp)) (hP : Pat w 0 w.heap.size fs ap) (hsz : pgSize fs ≤ 1048576) (hA : At w aa args) (hal : args.length ≤ 1048576) :
    Calls Tryz.prog 36 #[.pointer (some ⟨bp, op, none⟩), .int .i64 f, .slice aa args.length ca] w (Quiet (.int .i64 (plC fs f args)) w) := by
  have HA := Lib.hid (sAskedE fs bp op ap capp f w hp hP hsz)
  have HN := fun q => Lib.hid (sNumbers aa ca args (w.drewN q) (hA.drewN q) (by omega))
  by_cases h0 : cCodE fs f = 0
  · have hk : progB fs = true ∧ (0 ≤ f ∧ f < (fs.length : Int)) := by
      unfold cCodE at h0
      by_cases hpb : progB fs = true
      · rw [if_pos hpb] at h0
        by_cases h2 : 0 ≤ f ∧ f < (fs.length : Int)
        · exact ⟨hpb, h2⟩
        · rw [if_neg h2] at h0; cases h0
      · rw [if_neg hpb] at h0; cases h0
    obtain ⟨j, rfl⟩ := Int.eq_ofNat_of_zero_le hk.2.1
    have hj : j < fs.length := by omega
    obtain ⟨bf, of, rfl, hbB, hall⟩ := hP.resolve_left (by intro e; rw [e] at hj; simp at hj)
    obtain ⟨hr, af, cf, f0, f1, f2, hFo⟩ := hall j hj
    have HPL : Hid (plC fs (j : Int) args = if areB args (fs.getD j noFn).params = true then 0 else 2) := by show _ = _; unfold plC; rw [if_pos hk.1, if_pos hk.2]; rfl
    rw [h0] at HA
    have hji : (j : Int) < (fs.length : Int) := hk.2.2
    generalize plC fs (j : Int) args = pc at HPL ⊢
    clear hk hall hr f0 f2 hFo hP hA h0
    generalize (fs.getD j noFn).params = pm at *
    by_cases hl : (args.length : Int) = pm
    · have hlb : ((args.length : Int) != pm) = false := by rw [hl]; simp
      have HAR : Hid (areB args pm = okNums args) := areB_of hl
      clear hl
      go_enter Tryz.func36, Tryz.ntmps36
      go_wp2_with fail
      refine HA.out.mono ?_; rintro e w1 ⟨rfl, q, rfl⟩
      have f1' : (w.drewN q).cell? ⟨bf, of + j * 3 + 1, none⟩ = some (.int .i64 pm) := f1
      have hp' : (w.drewN q).cell? ⟨bp, op, none⟩ = some (.slice (some ⟨bf, of, none⟩) fs.length capp) := hp
      cases hn : okNums args with
      | true =>
        rw [hn] at HN HAR
        have HP0 : Hid (pc = 0) := by show _ = _; rw [HPL.out, HAR.out]; rfl
        clear HPL HAR
        go_wp2_with fail
        refine (HN q).out.mono ?_; rintro e w1 ⟨rfl, rfl⟩
        go_wp2_with fail
        go_ret
        exact ⟨ret_int HP0.out.symm, q, rfl⟩
      | false =>
        rw [hn] at HN HAR
        have HP0 : Hid (pc = 2) := by show _ = _; rw [HPL.out, HAR.out]; rfl
        clear HPL HAR
        go_wp2_with fail
        refine (HN q).out.mono ?_; rintro e w1 ⟨rfl, rfl⟩
        go_wp2_with fail
        go_ret
        exact ⟨ret_int HP0.out.symm, q, rfl⟩
    · have hlb : ((args.length : Int) != pm) = true := by simpa using hl
      have HP0 : Hid (pc = 2) := by show _ = _; rw [HPL.out, areB_len hl]; rfl
      clear HPL hl
      go_enter Tryz.func36, Tryz.ntmps36
      go_wp2_with fail
      refine HA.out.mono ?_; rintro e w1 ⟨rfl, q, rfl⟩
      have f1' : (w.drewN q).cell? ⟨bf, of + j * 3 + 1, none⟩ = some (.int .i64 pm) := f1
      have hp' : (w.drewN q).cell? ⟨bp, op, none⟩ = some (.slice (some ⟨bf, of, none⟩) fs.length capp) := hp
      go_wp2_with fail
      go_ret
      exact ⟨ret_int HP0.out.symm, q, rfl⟩
  · have hb : (cCodE fs f == 0) = false := by simpa using h0
    have HP0 : Hid (plC fs f args = cCodE fs f) := plC_asked h0
    generalize plC fs f args = pc at HP0 ⊢
    generalize cCodE fs f = cd at *
    clear h0
    go_enter Tryz.func36, Tryz.ntmps36
    go_wp2_with fail
    refine HA.out.mono ?_; rintro e w1 ⟨rfl, q, rfl⟩
    go_wp2_with fail
    go_ret
    exact ⟨ret_int HP0.out.symm, q, rfl⟩

end Go.Proofs.YtoedccgiahegnaaGreat
