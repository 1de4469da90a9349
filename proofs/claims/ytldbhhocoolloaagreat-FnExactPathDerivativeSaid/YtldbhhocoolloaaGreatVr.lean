/- The function of a program at an index; rounds: by the model and by the program. -/
import Derived.Test.YtldbhhocoolloaaGreatIm
import Derived.Test.YtldbhhocoolloaaGreatSy
namespace Go.Proofs.YtldbhhocoolloaaGreat
open Go.RowKit
set_option linter.unusedVariables false

/-- there is such a function in a valid program -/
def FnAt (fs : List Fn) (f : Int) : Prop := progB fs = true ∧ 0 ≤ f ∧ f < (fs.length : Int)
def FnRes (fs : List Fn) (f : Int) (w : World) (e : Ending) (w' : World) : Prop := Below w.heap.size w w' ∧
  ((¬ FnAt fs f ∧ ∃ c : Int, (c == 0) = false ∧ e = .returned (.tuple #[.agg #[.string ⟨#[]⟩, .int .i64 0, .slice none 0 0], .int .i64 c])) ∨
   (FnAt fs f ∧ ∃ af cf, e = .returned (.tuple #[.agg #[.string (fs.getD f.toNat noFn).name, .int .i64 (fs.getD f.toNat noFn).params, .slice af (fs.getD f.toNat noFn).outs.len cf], .int .i64 0])))

set_option maxRecDepth 100000 in
set_option maxHeartbeats 3200000 in
theorem iFunctionOf (fs : List Fn) (ap : Option Addr) (capp : Nat) (f : Int) (w : World) (hP : Pat w 0 w.heap.size fs ap) (hsz : pgSize fs ≤ 1048576) (hcap : fs.length ≤ capp) (hcm : capp ≤ 1048576) :
    Calls Tryz.prog 52 #[.agg #[.slice ap fs.length capp], .int .i64 f] w (FnRes fs f w) := by
  have hl : fs.length ≤ 1048576 := by unfold pgSize at hsz; omega
  obtain ⟨w0, hw0⟩ : ∃ w0, w0 = (w.alloc (.cells #[.slice ap fs.length capp] 31)).alloc (.cells #[.string ⟨#[]⟩, .int .i64 0, .slice none 0 0] 69) := ⟨_, rfl⟩
  have hb0 : Below w.heap.size w w0 := by rw [hw0]; exact ((Below.refl _ _).alloc (Nat.le_refl _) _).alloc (by simp) _
  have z0 : w0.heap.size = w.heap.size + 2 := by rw [hw0]; simp
  have c0 : w0.cell? ⟨w.heap.size, 0, none⟩ = some (.slice ap fs.length capp) := by rw [hw0]; simp [go_sem]
  have r0 : w0.cell? ⟨w.heap.size + 1, 0, none⟩ = some (.string ⟨#[]⟩) := by rw [hw0]; simp [go_sem]
  have r1 : w0.cell? ⟨w.heap.size + 1, 1, none⟩ = some (.int .i64 0) := by rw [hw0]; simp [go_sem]
  have r2 : w0.cell? ⟨w.heap.size + 1, 2, none⟩ = some (.slice none 0 0) := by rw [hw0]; simp [go_sem]
  have rz : ∀ o, w0.frozen? ⟨w.heap.size + 1, o, none⟩ = false := fun o => by rw [hw0]; simp [go_sem]
  have hP0 : Pat w0 0 w0.heap.size fs ap := (hP.below hb0).mono (Nat.le_refl _) hb0.size
  have HV := Lib.hid (iValidProgram fs ap capp w0 hP0 hsz hcap hcm)
  cases hpb : progB fs with
  | false =>
    have HN : Hid (¬ FnAt fs f) := fun h => by have := h.1; rw [hpb] at this; cases this
    rw [hpb] at HV
    clear hpb hP hP0
    go_enter Tryz.func52, Tryz.ntmps52
    go_wp2_with fail
    rw [← hw0]
    clear hw0
    refine (HV.out).mono ?_; rintro e w1 ⟨rfl, hb1⟩
    have hB1 := hb0.trans (hb1.mono (by omega))
    have k0 := (hb1.cell (p := ⟨w.heap.size + 1, 0, none⟩) (by show w.heap.size + 1 < _; omega)).trans r0
    have k1 := (hb1.cell (p := ⟨w.heap.size + 1, 1, none⟩) (by show w.heap.size + 1 < _; omega)).trans r1
    have k2 := (hb1.cell (p := ⟨w.heap.size + 1, 2, none⟩) (by show w.heap.size + 1 < _; omega)).trans r2
    have kz0 := (hb1.frozen (p := ⟨w.heap.size + 1, 0, none⟩) (by show w.heap.size + 1 < _; omega)).trans (rz 0)
    have kz1 := (hb1.frozen (p := ⟨w.heap.size + 1, 1, none⟩) (by show w.heap.size + 1 < _; omega)).trans (rz 1)
    have kz2 := (hb1.frozen (p := ⟨w.heap.size + 1, 2, none⟩) (by show w.heap.size + 1 < _; omega)).trans (rz 2)
    clear c0 r0 r1 r2 rz HV hb1
    go_wp2_with fail
    refine bodyPost_ret (v := .tuple #[.agg #[.string ⟨#[]⟩, .int .i64 0, .slice none 0 0], .int .i64 1]) (by simp [results, Tryz.results52, go_sem, k0, k1, k2]) rfl ⟨?_, .inl ⟨HN.out, 1, rfl, rfl⟩⟩
    exact ((hB1.setCell (p := ⟨w.heap.size + 1, 0, none⟩) (by show w.heap.size ≤ w.heap.size + 1; omega) _).setCell (p := ⟨w.heap.size + 1, 1, none⟩) (by show w.heap.size ≤ w.heap.size + 1; omega) _).setCell (p := ⟨w.heap.size + 1, 2, none⟩) (by show w.heap.size ≤ w.heap.size + 1; omega) _
  | true =>
    rw [hpb] at HV
    by_cases hf : 0 ≤ f ∧ f < (fs.length : Int)
    · have HN : Hid (FnAt fs f) := ⟨hpb, hf⟩
      have HX := fun W => Lib.hid (iIndex f (fs.length : Int) W)
      rw [decide_eq_true hf] at HX
      have hf2 := hf.2
      obtain ⟨j, rfl⟩ := Int.eq_ofNat_of_zero_le hf.1
      have hj : j < fs.length := by omega
      clear hpb hP hf
      go_enter Tryz.func52, Tryz.ntmps52
      go_wp2_with fail
      rw [← hw0]
      clear hw0
      refine (HV.out).mono ?_; rintro e w1 ⟨rfl, hb1⟩
      have hB1 := hb0.trans (hb1.mono (by omega))
      have k := (hb1.cell (p := ⟨w.heap.size, 0, none⟩) (by show w.heap.size < _; omega)).trans c0
      have k0 := (hb1.cell (p := ⟨w.heap.size + 1, 0, none⟩) (by show w.heap.size + 1 < _; omega)).trans r0
      have k1 := (hb1.cell (p := ⟨w.heap.size + 1, 1, none⟩) (by show w.heap.size + 1 < _; omega)).trans r1
      have k2 := (hb1.cell (p := ⟨w.heap.size + 1, 2, none⟩) (by show w.heap.size + 1 < _; omega)).trans r2
      have kz0 := (hb1.frozen (p := ⟨w.heap.size + 1, 0, none⟩) (by show w.heap.size + 1 < _; omega)).trans (rz 0)
      have kz1 := (hb1.frozen (p := ⟨w.heap.size + 1, 1, none⟩) (by show w.heap.size + 1 < _; omega)).trans (rz 1)
      have kz2 := (hb1.frozen (p := ⟨w.heap.size + 1, 2, none⟩) (by show w.heap.size + 1 < _; omega)).trans (rz 2)
      obtain ⟨bf, of, rfl, hbB, hall⟩ := (((hP0.below hb1).mono (Nat.le_refl _) hb1.size).resolve_left (by intro e; rw [e] at hj; simp at hj))
      obtain ⟨hrr, af, cf, f0, f1, f2, _⟩ := hall j hj
      have HRES : Hid (FnAt fs (j : Int) ∧ Ending.returned (.tuple #[.agg #[.string (fs.getD j noFn).name, .int .i64 (fs.getD j noFn).params, .slice af (fs.getD j noFn).outs.len cf], .int .i64 0]) = .returned (.tuple #[.agg #[.string (fs.getD (j : Int).toNat noFn).name, .int .i64 (fs.getD (j : Int).toNat noFn).params, .slice af (fs.getD (j : Int).toNat noFn).outs.len cf], .int .i64 0])) := ⟨HN.out, rfl⟩
      clear hall hrr c0 r0 r1 r2 rz HV hb1 hP0
      generalize (fs.getD j noFn).name = nm at *
      generalize (fs.getD j noFn).outs.len = mo at *
      generalize (fs.getD j noFn).params = pa at *
      go_wp2_with fail
      refine (HX _).out.mono ?_; rintro e w2 ⟨rfl, rfl⟩
      go_wp2_with fail
      refine bodyPost_ret (v := .tuple #[.agg #[.string nm, .int .i64 pa, .slice af mo cf], .int .i64 0]) (by simp [results, Tryz.results52, go_sem, k0, k1, k2]) rfl ⟨?_, .inr ⟨HRES.out.1, af, cf, HRES.out.2⟩⟩
      exact ((hB1.setCell (p := ⟨w.heap.size + 1, 0, none⟩) (by show w.heap.size ≤ w.heap.size + 1; omega) _).setCell (p := ⟨w.heap.size + 1, 1, none⟩) (by show w.heap.size ≤ w.heap.size + 1; omega) _).setCell (p := ⟨w.heap.size + 1, 2, none⟩) (by show w.heap.size ≤ w.heap.size + 1; omega) _
    · have HN : Hid (¬ FnAt fs f) := fun h => hf h.2
      have HX := fun W => Lib.hid (iIndex f (fs.length : Int) W)
      rw [decide_eq_false hf] at HX
      clear hpb hP hf hP0
      go_enter Tryz.func52, Tryz.ntmps52
      go_wp2_with fail
      rw [← hw0]
      clear hw0
      refine (HV.out).mono ?_; rintro e w1 ⟨rfl, hb1⟩
      have hB1 := hb0.trans (hb1.mono (by omega))
      have k := (hb1.cell (p := ⟨w.heap.size, 0, none⟩) (by show w.heap.size < _; omega)).trans c0
      have k0 := (hb1.cell (p := ⟨w.heap.size + 1, 0, none⟩) (by show w.heap.size + 1 < _; omega)).trans r0
      have k1 := (hb1.cell (p := ⟨w.heap.size + 1, 1, none⟩) (by show w.heap.size + 1 < _; omega)).trans r1
      have k2 := (hb1.cell (p := ⟨w.heap.size + 1, 2, none⟩) (by show w.heap.size + 1 < _; omega)).trans r2
      have kz0 := (hb1.frozen (p := ⟨w.heap.size + 1, 0, none⟩) (by show w.heap.size + 1 < _; omega)).trans (rz 0)
      have kz1 := (hb1.frozen (p := ⟨w.heap.size + 1, 1, none⟩) (by show w.heap.size + 1 < _; omega)).trans (rz 1)
      have kz2 := (hb1.frozen (p := ⟨w.heap.size + 1, 2, none⟩) (by show w.heap.size + 1 < _; omega)).trans (rz 2)
      clear c0 r0 r1 r2 rz HV hb1
      go_wp2_with fail
      refine (HX _).out.mono ?_; rintro e w2 ⟨rfl, rfl⟩
      go_wp2_with fail
      refine bodyPost_ret (v := .tuple #[.agg #[.string ⟨#[]⟩, .int .i64 0, .slice none 0 0], .int .i64 2]) (by simp [results, Tryz.results52, go_sem, k0, k1, k2]) rfl ⟨?_, .inl ⟨HN.out, 2, rfl, rfl⟩⟩
      exact ((hB1.setCell (p := ⟨w.heap.size + 1, 0, none⟩) (by show w.heap.size ≤ w.heap.size + 1; omega) _).setCell (p := ⟨w.heap.size + 1, 1, none⟩) (by show w.heap.size ≤ w.heap.size + 1; omega) _).setCell (p := ⟨w.heap.size + 1, 2, none⟩) (by show w.heap.size ≤ w.heap.size + 1; omega) _

def rndB (fs : List Fn) (f : Int) : Bool := decide (0 ≤ f ∧ f < (fs.length : Int)) && repB fs f
/-- what is answered for a round -/
def vrdB (fs : List Fn) (f : Int) : Bool := progB fs && rndB fs f
theorem vrdB_no {fs : List Fn} {f : Int} (h : ¬ FnAt fs f) : vrdB fs f = false := by
  unfold vrdB rndB
  cases hp : progB fs with
  | false => rfl
  | true => rw [decide_eq_false (fun h2 => h ⟨hp, h2⟩)]; rfl
theorem vrdB_yes {fs : List Fn} {f : Int} (h : FnAt fs f) : vrdB fs f = repB fs f := by
  unfold vrdB rndB
  rw [h.1, decide_eq_true h.2, Bool.true_and, Bool.true_and]

end Go.Proofs.YtldbhhocoolloaaGreat
