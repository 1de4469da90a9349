/- Evaluate by the program. -/
import Derived.Test.YtoedccgiahegnaaGreatEu
import Derived.Test.YtoedccgiahegnaaGreatFg
namespace Go.Proofs.YtoedccgiahegnaaGreat
open Go.RowKit
set_option linter.unusedVariables false

/-- what Evaluate answers -/
def evL (fs : List Fn) (f : Int) (args : List Int) : Rl Int := if plC fs f args = 0 then lisE nA (evE nA fs 3001) (fs.getD f.toNat noFn).outs args 0 (fs.getD f.toNat noFn).outs.len else ⟨[], 0, plC fs f args⟩
theorem evL_no {fs : List Fn} {f : Int} {args : List Int} (h : ¬ plC fs f args = 0) : evL fs f args = ⟨[], 0, plC fs f args⟩ := if_neg h
theorem evL_yes {fs : List Fn} {f : Int} {args : List Int} (h : plC fs f args = 0) : evL fs f args = lisE nA (evE nA fs 3001) (fs.getD f.toNat noFn).outs args 0 (fs.getD f.toNat noFn).outs.len := if_pos h
set_option maxRecDepth 100000 in
set_option maxHeartbeats 3200000 in
theorem iEvaluate (fs : List Fn) (ap : Option Addr) (capp : Nat) (f : Int) (aa : Option Addr) (ca : Nat) (args : List Int) (w : World) (hP : Pat w 0 w.heap.size fs ap) (hsz : pgSize fs ≤ 1048576) (hcap : fs.length ≤ capp) (hcm : capp ≤ 1048576) (hA : At w aa args) (hal : args.length ≤ 1048576) (hca : args.length ≤ ca) (hca2 : ca ≤ 9223372036854775807) :
    Calls Tryz.prog 14 #[.agg #[.slice ap fs.length capp], .int .i64 f, .slice aa args.length ca] w (EvRes w (evL fs f args)) := by
  have hfl : fs.length ≤ 1048576 := by unfold pgSize at hsz; omega
  obtain ⟨w0, hw0⟩ : ∃ w0, w0 = w.alloc (.cells #[.slice ap fs.length capp] 31) := ⟨_, rfl⟩
  have hb0 : Below w.heap.size w w0 := by rw [hw0]; exact (Below.refl _ _).alloc (Nat.le_refl _) _
  have P0 := (hP.below hb0).mono (Nat.le_refl _) hb0.size
  have A0 := hA.below hb0 (Nat.le_refl _)
  have HF := Lib.hid (iPlaceOf fs ap capp f aa ca args w0 P0 hsz hcap hcm A0 hal)
  have HP := Lib.hid P0
  have HA := Lib.hid A0
  clear hP hA P0 A0
  go_enter Tryz.func14, Tryz.ntmps14
  go_wp2_with fail
  rw [← hw0]
  clear hw0
  refine HF.out.mono ?_; rintro e w1 ⟨hb1, ⟨hn, rfl⟩ | ⟨hy, hfa, hab, af, cf, rfl, hFo⟩⟩
  · have hB1 := hb0.trans (hb1.mono hb0.size)
    have hbf : (plC fs f args != 0) = true := by simp [hn]
    have HR := Lib.hid (evL_no hn)
    have HX : Hid (∀ W, Below w.heap.size w W → EvRes w (evL fs f args) (.returned (.tuple #[.slice none 0 0, .int .i64 0, .int .i64 (plC fs f args)])) W) := fun W hW => ⟨hW, .inr (by rw [HR.out]; exact ⟨hn, rfl⟩)⟩
    have hs1 := hB1.size
    clear HF HP HA hn HR
    generalize plC fs f args = pc at *
    go_wp2_with fail
    go_ret3
    exact HX.out _ (hB1.alloc hs1 _)
  · have hB1 := hb0.trans (hb1.mono hb0.size)
    have HR := Lib.hid (evL_yes hy)
    obtain ⟨hp1, hf1, hf2⟩ := hfa
    obtain ⟨j, rfl⟩ := Int.eq_ofNat_of_zero_le hf1
    have ej : (j : Int).toNat = j := rfl
    rw [ej] at hab hFo ⊢
    have HR2 : Hid (evL fs (j : Int) args = lisE nA (evE nA fs 3001) (fs.getD j noFn).outs args 0 (fs.getD j noFn).outs.len) := HR.out
    have hj : j < fs.length := by omega
    have hln : (args.length : Int) = (fs.getD j noFn).params := by unfold areB at hab; rw [Bool.and_eq_true] at hab; exact of_decide_eq_true hab.1
    have hnm : Nums args := by unfold areB at hab; rw [Bool.and_eq_true] at hab; exact okNums_nums hab.2
    have hs1 := hb1.size
    obtain ⟨w2, hw2⟩ : ∃ w2, w2 = w1.alloc (.cells #[ofN, .slice ap fs.length capp, .string (fs.getD j noFn).name, .int .i64 (fs.getD j noFn).params, .slice af (fs.getD j noFn).outs.len cf, .slice aa args.length ca] 67) := ⟨_, rfl⟩
    have b2 : Below w1.heap.size w1 w2 := by rw [hw2]; exact (Below.refl _ _).alloc (Nat.le_refl _) _
    have hs2 := b2.size
    have hb12 := hb1.trans (b2.mono hs1)
    have p1 : w2.cell? ⟨w1.heap.size, 1, none⟩ = some (.slice ap fs.length capp) := by rw [hw2]; simp [go_sem]
    have p2 : w2.cell? ⟨w1.heap.size, 2, none⟩ = some (.string (fs.getD j noFn).name) := by rw [hw2]; simp [go_sem]
    have p3 : w2.cell? ⟨w1.heap.size, 3, none⟩ = some (.int .i64 (fs.getD j noFn).params) := by rw [hw2]; simp [go_sem]
    have p4 : w2.cell? ⟨w1.heap.size, 4, none⟩ = some (.slice af (fs.getD j noFn).outs.len cf) := by rw [hw2]; simp [go_sem]
    have p5 : w2.cell? ⟨w1.heap.size, 5, none⟩ = some (.slice aa args.length ca) := by rw [hw2]; simp [go_sem]
    have HV := Lib.hid (iEvaluateN fs ap capp j af cf aa ca args w2 hp1 hj hfl ((HP.out.below hb12).mono (Nat.le_refl _) hb12.size) ((hFo.agree (fun i _ h2 => hb12.block i h2)).mono (Nat.le_refl _) hb12.size) (HA.out.below hb12 (Nat.le_refl _)) hnm hln hca hca2)
    have hB2 := hB1.trans (b2.mono hB1.size)
    generalize lisE nA (evE nA fs 3001) (fs.getD j noFn).outs args 0 (fs.getD j noFn).outs.len = r at HV HR2
    have HX : Hid (∀ e W, EvRes w2 r e W → EvRes w r e W) := fun e W h => ⟨hB2.trans (h.1.mono hB2.size), h.2.imp (fun ⟨h1, g, h2, h3, h4⟩ => ⟨h1, g, h2, h3.mono hB2.size, h4⟩) id⟩
    clear HF HP HA hp1 hf1 hf2 hab hFo hln hnm hy HR b2 hb12
    generalize (fs.getD j noFn).name = nm at *
    generalize (fs.getD j noFn).params = pa at *
    generalize (fs.getD j noFn).outs.len = mo at *
    go_wp2_with fail
    rw [← hw2]
    clear hw2
    refine HV.out.mono ?_; intro e w3 hres
    have HRR := Lib.hid (HX.out _ _ hres)
    rcases hres with ⟨_, ⟨_, g, rfl, _⟩ | ⟨_, rfl⟩⟩
    · go_wp2_with fail
      go_ret3
      rw [HR2.out]
      exact HRR.out
    · go_wp2_with fail
      go_ret3
      rw [HR2.out]
      exact HRR.out

end Go.Proofs.YtoedccgiahegnaaGreat
