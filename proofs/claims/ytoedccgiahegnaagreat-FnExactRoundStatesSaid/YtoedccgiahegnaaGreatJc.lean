/- The Jacobian by the program: the values first, then the slopes. -/
import Derived.Test.YtoedccgiahegnaaGreatJb
import Derived.Test.YtoedccgiahegnaaGreatEu
namespace Go.Proofs.YtoedccgiahegnaaGreat
open Go Go.RowKit
set_option linter.unusedVariables false

/-- the values of all outputs at a place -/
def vaL (fs : List Fn) (j : Nat) (args : List Int) : Rl Int := lisE nA (evE nA fs 3001) (fs.getD j noFn).outs args 0 (fs.getD j noFn).outs.len
/-- the code of the Jacobian at a place -/
def jcC (fs : List Fn) (j : Nat) (args : List Int) : Int := if (vaL fs j args).c = 0 then jaC fs j args args.length else (vaL fs j args).c
def jcA (fs : List Fn) (j : Nat) (args : List Int) : List (List Int) := if (vaL fs j args).c = 0 then jaA fs j args else []

set_option maxRecDepth 100000 in
set_option maxHeartbeats 3200000 in
theorem pValues (fs : List Fn) (ap : Option Addr) (capp : Nat) (j : Nat) (af : Option Addr) (cf : Nat) (aa : Option Addr) (ca : Nat) (args : List Int) (w : World)
    (hpb : progB fs = true) (hj : j < fs.length) (hfl : fs.length ≤ 1048576) (hP : Pat w 0 w.heap.size fs ap) (hFo : Fat w 0 w.heap.size (fs.getD j noFn).outs af) (hA : At w aa args) (hN : Nums args) (hal : (args.length : Int) = (fs.getD j noFn).params) (hca : args.length ≤ ca) (hca2 : ca ≤ 9223372036854775807) :
    Calls Tryz.prog 89 #[.agg #[ofN, .slice ap fs.length capp, .string (fs.getD j noFn).name, .int .i64 (fs.getD j noFn).params, .slice af (fs.getD j noFn).outs.len cf, .slice aa args.length ca]] w fun e w' => ∃ v, e = .returned (.tuple #[v, .int .i64 (vaL fs j args).c]) ∧ Below w.heap.size w w' := by
  obtain ⟨w1, hw1⟩ : ∃ w1, w.alloc (.cells #[ofN, .slice ap fs.length capp, .string (fs.getD j noFn).name, .int .i64 (fs.getD j noFn).params, .slice af (fs.getD j noFn).outs.len cf, .slice aa args.length ca] 65) = w1 := ⟨_, rfl⟩
  have b1 : Below w.heap.size w w1 := by rw [← hw1]; exact (Below.refl _ _).alloc (Nat.le_refl _) _
  have p0 : w1.cell? ⟨w.heap.size, 0, none⟩ = some ofN := by rw [← hw1]; simp [go_sem]
  have p1 : w1.cell? ⟨w.heap.size, 1, none⟩ = some (.slice ap fs.length capp) := by rw [← hw1]; simp [go_sem]
  have p2 : w1.cell? ⟨w.heap.size, 2, none⟩ = some (.string (fs.getD j noFn).name) := by rw [← hw1]; simp [go_sem]
  have p3 : w1.cell? ⟨w.heap.size, 3, none⟩ = some (.int .i64 (fs.getD j noFn).params) := by rw [← hw1]; simp [go_sem]
  have p4 : w1.cell? ⟨w.heap.size, 4, none⟩ = some (.slice af (fs.getD j noFn).outs.len cf) := by rw [← hw1]; simp [go_sem]
  have p5 : w1.cell? ⟨w.heap.size, 5, none⟩ = some (.slice aa args.length ca) := by rw [← hw1]; simp [go_sem]
  have HV : Hid (Calls Tryz.prog 40 _ w1 (EvRes w1 (vaL fs j args))) := Lib.hid (iEvaluateN fs ap capp j af cf aa ca args w1 hpb hj hfl ((hP.below b1).mono (Nat.le_refl _) b1.size) ((hFo.agree (fun i _ h2 => b1.block i h2)).mono (Nat.le_refl _) b1.size) (hA.below b1 (Nat.le_refl _)) hN hal hca hca2)
  generalize vaL fs j args = r at HV ⊢
  clear hpb hj hP hFo hA hN hal
  generalize (fs.getD j noFn).name = nm at *
  generalize (fs.getD j noFn).params = pa at *
  generalize (fs.getD j noFn).outs.len = mo at *
  have hs1 := b1.size
  go_enter Tryz.func89, Tryz.ntmps89
  go_wp2_with fail
  clear hw1
  refine HV.out.mono ?_; rintro e w2 ⟨b2, ⟨hc, g, rfl, _, _⟩ | ⟨hc, rfl⟩⟩
  · have HC := Lib.hid hc
    clear hc HV
    go_wp2_with fail
    go_ret2
    exact ⟨.slice (some ⟨g, 0, none⟩) r.l.length r.l.length, by rw [HC.out]; rfl, b1.trans (b2.mono hs1)⟩
  · clear hc HV
    go_wp2_with fail
    go_ret2
    exact ⟨_, rfl, b1.trans (b2.mono hs1)⟩

set_option maxRecDepth 100000 in
set_option maxHeartbeats 3200000 in
theorem pJacobian (fs : List Fn) (ap : Option Addr) (capp : Nat) (j : Nat) (af : Option Addr) (cf : Nat) (aa : Option Addr) (ca : Nat) (args : List Int) (w : World)
    (hpb : progB fs = true) (hj : j < fs.length) (hfl : fs.length ≤ 1048576) (hP : Pat w 0 w.heap.size fs ap) (hFo : Fat w 0 w.heap.size (fs.getD j noFn).outs af) (hA : At w aa args) (hN : Nums args) (hal : (args.length : Int) = (fs.getD j noFn).params) (hab : args.length ≤ 1048576) (hca : args.length ≤ ca) (hca2 : ca ≤ 9223372036854775807) :
    Calls Tryz.prog 65 #[.agg #[ofN, .slice ap fs.length capp, .string (fs.getD j noFn).name, .int .i64 (fs.getD j noFn).params, .slice af (fs.getD j noFn).outs.len cf, .slice aa args.length ca]] w (JaRes w (jcA fs j args) (jcC fs j args)) := by
  obtain ⟨w1, hw1⟩ : ∃ w1, w.alloc (.cells #[ofN, .slice ap fs.length capp, .string (fs.getD j noFn).name, .int .i64 (fs.getD j noFn).params, .slice af (fs.getD j noFn).outs.len cf, .slice aa args.length ca] 67) = w1 := ⟨_, rfl⟩
  have b1 : Below w.heap.size w w1 := by rw [← hw1]; exact (Below.refl _ _).alloc (Nat.le_refl _) _
  have p0 : w1.cell? ⟨w.heap.size, 0, none⟩ = some ofN := by rw [← hw1]; simp [go_sem]
  have p1 : w1.cell? ⟨w.heap.size, 1, none⟩ = some (.slice ap fs.length capp) := by rw [← hw1]; simp [go_sem]
  have p2 : w1.cell? ⟨w.heap.size, 2, none⟩ = some (.string (fs.getD j noFn).name) := by rw [← hw1]; simp [go_sem]
  have p3 : w1.cell? ⟨w.heap.size, 3, none⟩ = some (.int .i64 (fs.getD j noFn).params) := by rw [← hw1]; simp [go_sem]
  have p4 : w1.cell? ⟨w.heap.size, 4, none⟩ = some (.slice af (fs.getD j noFn).outs.len cf) := by rw [← hw1]; simp [go_sem]
  have p5 : w1.cell? ⟨w.heap.size, 5, none⟩ = some (.slice aa args.length ca) := by rw [← hw1]; simp [go_sem]
  have HV := Lib.hid (pValues fs ap capp j af cf aa ca args w1 hpb hj hfl ((hP.below b1).mono (Nat.le_refl _) b1.size) ((hFo.agree (fun i _ h2 => b1.block i h2)).mono (Nat.le_refl _) b1.size) (hA.below b1 (Nat.le_refl _)) hN hal hca hca2)
  have HS := fun (W : World) (hW : Below w.heap.size w W) => Lib.hid (iSlopes fs ap capp j af cf aa ca args W hpb hj hfl ((hP.below hW).mono (Nat.le_refl _) hW.size) ((hFo.agree (fun i _ h2 => hW.block i h2)).mono (Nat.le_refl _) hW.size) (hA.below hW (Nat.le_refl _)) hN hal hab hca hca2)
  have HC : Hid (jcC fs j args = if (vaL fs j args).c = 0 then jaC fs j args args.length else (vaL fs j args).c) := rfl
  have HA : Hid (jcA fs j args = if (vaL fs j args).c = 0 then jaA fs j args else []) := rfl
  generalize vaL fs j args = r at *
  generalize jcC fs j args = C at *
  generalize jcA fs j args = JA at *
  generalize jaC fs j args args.length = C2 at *
  generalize jaA fs j args = JB at *
  clear hpb hj hP hFo hA hN hal
  generalize (fs.getD j noFn).name = nm at *
  generalize (fs.getD j noFn).params = pa at *
  generalize (fs.getD j noFn).outs.len = mo at *
  have hs1 := b1.size
  go_enter Tryz.func65, Tryz.ntmps65
  go_wp2_with fail
  clear hw1
  refine HV.out.mono ?_; rintro e w2 ⟨v, rfl, b2⟩
  have B2 := b1.trans (b2.mono hs1)
  have hs2 := B2.size
  clear HV
  by_cases hc : r.c = 0
  · have hbf : (r.c != 0) = false := by rw [hc]; rfl
    have HC1 : Hid (C = C2) := by show _ = _; rw [HC.out, if_pos hc]
    have HA1 : Hid (JA = JB) := by show _ = _; rw [HA.out, if_pos hc]
    replace p0 := (b2.cell (p := ⟨w.heap.size, 0, none⟩) (cell_lt p0)).trans p0
    replace p1 := (b2.cell (p := ⟨w.heap.size, 1, none⟩) (cell_lt p1)).trans p1
    replace p2 := (b2.cell (p := ⟨w.heap.size, 2, none⟩) (cell_lt p2)).trans p2
    replace p3 := (b2.cell (p := ⟨w.heap.size, 3, none⟩) (cell_lt p3)).trans p3
    replace p4 := (b2.cell (p := ⟨w.heap.size, 4, none⟩) (cell_lt p4)).trans p4
    replace p5 := (b2.cell (p := ⟨w.heap.size, 5, none⟩) (cell_lt p5)).trans p5
    have HS2 := HS w2 B2
    clear HC HA HS hc
    go_wp2_with fail
    refine HS2.out.mono ?_; rintro e w3 ⟨a, ka, rfl, o, b3⟩
    clear HS2
    go_wp2_with fail
    go_ret2
    exact ⟨a, ka, by rw [HC1.out, HA1.out]; rfl, by rw [HA1.out]; exact o.mono hs2, B2.trans (b3.mono hs2)⟩
  · have hbf : (r.c != 0) = true := by simp [hc]
    have HC1 : Hid (C = r.c) := by show _ = _; rw [HC.out, if_neg hc]
    have HA1 : Hid (JA = []) := by show _ = _; rw [HA.out, if_neg hc]
    clear HC HA HS hc
    go_wp2_with fail
    go_ret2
    exact ⟨none, 0, by rw [HC1.out, HA1.out]; rfl, .inl HA1.out, B2⟩

end Go.Proofs.YtoedccgiahegnaaGreat
