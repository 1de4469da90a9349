/- The Jacobian by the program: the values first, then the slopes. JacobianOf and GradientOf by the program. -/
import Derived.Test.YtoedccgiahegnaaGreatJb
import Derived.Test.YtoedccgiahegnaaGreatEu
import Derived.Test.YtoedccgiahegnaaGreatDp
namespace Go.Proofs.YtoedccgiahegnaaGreat
open Go Go.RowKit
set_option linter.unusedVariables false

/-- the values of all outputs at a place -/
def vaL (fs : List Fn) (j : Nat) (args : List Int) : Rl Int := lisE nA (evE nA fs 3001) (fs.getD j noFn).outs args 0 (fs.getD j noFn).outs.len
/-- the code of the Jacobian at a place -/
def jcC (fs : List Fn) (j : Nat) (args : List Int) : Int := if (vaL fs j args).c = 0 then jaC fs j args args.length else (vaL fs j args).c
def jcA (fs : List Fn) (j : Nat) (args : List Int) : List (List Int) := if (vaL fs j args).c = 0 then jaA fs j args else []

set_option maxRecDepth 100000 in
set_option maxHeartbeats 3200000 in
theorem pValues (fs : List Fn) (ap : Option Addr) (capp : Nat) (j : Nat) (af : Option Addr) (cf : Nat) (aa : Option Addr) (ca : Nat) (args : List Int) (w : World)
    (hpb : progB fs = true) (hj : j < fs.length) (hfl : fs.length ≤ 1048576) (hP : Pat w 0 w.heap.size fs ap) (hFo : Fat w 0 w.heap.size (fs.getD j noFn).outs af) (hA : At w aa args) (hN : Nums args) (hal : (args.length : Int) = (fs.getD j noFn).params) (hca : args.length ≤ ca) (hca2 : ca ≤ 9223372036854775807) :
    Calls Tryz.prog 89 #[.agg #[ofN, .slice ap fs.length capp, .string (fs.getD j noFn).name, .int .i64 (fs.getD j noFn).params, .slice af (fs.getD j noFn).outs.len cf, .slice aa args.length ca]] w fun e w' => ∃ v, e = .returned (.tuple #[v, .int .i64 (vaL fs j args).c]) ∧ Below w.heap.size w w' := by
  obtain ⟨w1, hw1⟩ : ∃ w1, w.alloc (.cells #[ofN, .slice ap fs.length capp, .string (fs.getD j noFn).name, .int .i64 (fs.getD j noFn).params, .slice af (fs.getD j noFn).outs.len cf, .slice aa args.length ca] 65) = w1 := ⟨_, rfl⟩
  have b1 : Below w.heap.size w w1 := by rw [← hw1]; exact (Below.refl _ _).alloc (Nat.le_refl _) _
  have p0 : w1.cell? ⟨w.heap.size, 0, none⟩ = some ofN := by rw [← hw1]; simp [go_sem]
  have p1 : w1.cell? ⟨w.heap.size, 1, none⟩ = some (.slice ap fs.length capp) := by rw [← hw1]; simp [go_sem]
  have p2 : w1.cell? ⟨w.heap.size, 2, none⟩ = some (.string (fs.getD j noFn).name) := by rw [← hw1]; simp [go_sem]
  have p3 : w1.cell? ⟨w.heap.size, 3, none⟩ = some (.int .i64 (fs.getD j noFn).params) := by rw [← hw1]; simp [go_sem]
  have p4 : w1.cell? ⟨w.heap.size, 4, none⟩ = some (.slice af (fs.getD j noFn).outs.len cf) := by rw [← hw1]; simp [go_sem]
  have p5 : w1.cell? ⟨w.heap.size, 5, none⟩ = some (.slice aa args.length ca) := by rw [← hw1]; simp [go_sem]
  have HV : Hid (Calls Tryz.prog 40 _ w1 (EvRes w1 (vaL fs j args))) := Lib.hid (iEvaluateN fs ap capp j af cf aa ca args w1 hpb hj hfl ((hP.below b1).mono (Nat.le_refl _) b1.size) ((hFo.agree (fun i _ h2 => b1.block i h2)).mono (Nat.le_refl _) b1.size) (hA.below b1 (Nat.le_refl _)) hN hal hca hca2)
  generalize vaL fs j args = r at HV ⊢
  clear hpb hj hP hFo hA hN hal
  generalize (fs.getD j noFn).name = nm at *
  generalize (fs.getD j noFn).params = pa at *
  generalize (fs.getD j noFn).outs.len = mo at *
  have hs1 := b1.size
  go_enter Tryz.func89, Tryz.ntmps89
  go_wp2_with fail
  clear hw1
  refine HV.out.mono ?_; rintro e w2 ⟨b2, ⟨hc, g, rfl, _, _⟩ | ⟨hc, rfl⟩⟩
  · have HC := Lib.hid hc
    clear hc HV
    go_wp2_with fail
    go_ret2
    exact ⟨.slice (some ⟨g, 0, none⟩) r.l.length r.l.length, by rw [HC.out]; rfl, b1.trans (b2.mono hs1)⟩
  · clear hc HV
    go_wp2_with fail
    go_ret2
    exact ⟨_, rfl, b1.trans (b2.mono hs1)⟩

set_option maxRecDepth 100000 in
set_option maxHeartbeats 3200000 in
theorem pJacobian (fs : List Fn) (ap : Option Addr) (capp : Nat) (j : Nat) (af : Option Addr) (cf : Nat) (aa : Option Addr) (ca : Nat) (args : List Int) (w : World)
    (hpb : progB fs = true) (hj : j < fs.length) (hfl : fs.length ≤ 1048576) (hP : Pat w 0 w.heap.size fs ap) (hFo : Fat w 0 w.heap.size (fs.getD j noFn).outs af) (hA : At w aa args) (hN : Nums args) (hal : (args.length : Int) = (fs.getD j noFn).params) (hab : args.length ≤ 1048576) (hca : args.length ≤ ca) (hca2 : ca ≤ 9223372036854775807) :
    Calls Tryz.prog 65 #[.agg #[ofN, .slice ap fs.length capp, .string (fs.getD j noFn).name, .int .i64 (fs.getD j noFn).params, .slice af (fs.getD j noFn).outs.len cf, .slice aa args.length ca]] w (JaRes w (jcA fs j args) (jcC fs j args)) := by
  obtain ⟨w1, hw1⟩ : ∃ w1, w.alloc (.cells #[ofN, .slice ap fs.length capp, .string (fs.getD j noFn).name, .int .i64 (fs.getD j noFn).params, .slice af (fs.getD j noFn).outs.len cf, .slice aa args.length ca] 67) = w1 := ⟨_, rfl⟩
  have b1 : Below w.heap.size w w1 := by rw [← hw1]; exact (Below.refl _ _).alloc (Nat.le_refl _) _
  have p0 : w1.cell? ⟨w.heap.size, 0, none⟩ = some ofN := by rw [← hw1]; simp [go_sem]
  have p1 : w1.cell? ⟨w.heap.size, 1, none⟩ = some (.slice ap fs.length capp) := by rw [← hw1]; simp [go_sem]
  have p2 : w1.cell? ⟨w.heap.size, 2, none⟩ = some (.string (fs.getD j noFn).name) := by rw [← hw1]; simp [go_sem]
  have p3 : w1.cell? ⟨w.heap.size, 3, none⟩ = some (.int .i64 (fs.getD j noFn).params) := by rw [← hw1]; simp [go_sem]
  have p4 : w1.cell? ⟨w.heap.size, 4, none⟩ = some (.slice af (fs.getD j noFn).outs.len cf) := by rw [← hw1]; simp [go_sem]
  have p5 : w1.cell? ⟨w.heap.size, 5, none⟩ = some (.slice aa args.length ca) := by rw [← hw1]; simp [go_sem]
  have HV := Lib.hid (pValues fs ap capp j af cf aa ca args w1 hpb hj hfl ((hP.below b1).mono (Nat.le_refl _) b1.size) ((hFo.agree (fun i _ h2 => b1.block i h2)).mono (Nat.le_refl _) b1.size) (hA.below b1 (Nat.le_refl _)) hN hal hca hca2)
  have HS := fun (W : World) (hW : Below w.heap.size w W) => Lib.hid (iSlopes fs ap capp j af cf aa ca args W hpb hj hfl ((hP.below hW).mono (Nat.le_refl _) hW.size) ((hFo.agree (fun i _ h2 => hW.block i h2)).mono (Nat.le_refl _) hW.size) (hA.below hW (Nat.le_refl _)) hN hal hab hca hca2)
  have HC : Hid (jcC fs j args = if (vaL fs j args).c = 0 then jaC fs j args args.length else (vaL fs j args).c) := rfl
  have HA : Hid (jcA fs j args = if (vaL fs j args).c = 0 then jaA fs j args else []) := rfl
  generalize vaL fs j args = r at *
  generalize jcC fs j args = C at *
  generalize jcA fs j args = JA at *
  generalize jaC fs j args args.length = C2 at *
  generalize jaA fs j args = JB at *
  clear hpb hj hP hFo hA hN hal
  generalize (fs.getD j noFn).name = nm at *
  generalize (fs.getD j noFn).params = pa at *
  generalize (fs.getD j noFn).outs.len = mo at *
  have hs1 := b1.size
  go_enter Tryz.func65, Tryz.ntmps65
  go_wp2_with fail
  clear hw1
  refine HV.out.mono ?_; rintro e w2 ⟨v, rfl, b2⟩
  have B2 := b1.trans (b2.mono hs1)
  have hs2 := B2.size
  clear HV
  by_cases hc : r.c = 0
  · have hbf : (r.c != 0) = false := by rw [hc]; rfl
    have HC1 : Hid (C = C2) := by show _ = _; rw [HC.out, if_pos hc]
    have HA1 : Hid (JA = JB) := by show _ = _; rw [HA.out, if_pos hc]
    replace p0 := (b2.cell (p := ⟨w.heap.size, 0, none⟩) (cell_lt p0)).trans p0
    replace p1 := (b2.cell (p := ⟨w.heap.size, 1, none⟩) (cell_lt p1)).trans p1
    replace p2 := (b2.cell (p := ⟨w.heap.size, 2, none⟩) (cell_lt p2)).trans p2
    replace p3 := (b2.cell (p := ⟨w.heap.size, 3, none⟩) (cell_lt p3)).trans p3
    replace p4 := (b2.cell (p := ⟨w.heap.size, 4, none⟩) (cell_lt p4)).trans p4
    replace p5 := (b2.cell (p := ⟨w.heap.size, 5, none⟩) (cell_lt p5)).trans p5
    have HS2 := HS w2 B2
    clear HC HA HS hc
    go_wp2_with fail
    refine HS2.out.mono ?_; rintro e w3 ⟨a, ka, rfl, o, b3⟩
    clear HS2
    go_wp2_with fail
    go_ret2
    exact ⟨a, ka, by rw [HC1.out, HA1.out]; rfl, by rw [HA1.out]; exact o.mono hs2, B2.trans (b3.mono hs2)⟩
  · have hbf : (r.c != 0) = true := by simp [hc]
    have HC1 : Hid (C = r.c) := by show _ = _; rw [HC.out, if_neg hc]
    have HA1 : Hid (JA = []) := by show _ = _; rw [HA.out, if_neg hc]
    clear HC HA HS hc
    go_wp2_with fail
    go_ret2
    exact ⟨none, 0, by rw [HC1.out, HA1.out]; rfl, .inl HA1.out, B2⟩

end Go.Proofs.YtoedccgiahegnaaGreat

namespace Go.Proofs.YtoedccgiahegnaaGreat
open Go Go.RowKit
set_option linter.unusedVariables false

/-- what JacobianOf answers -/
def jfC (fs : List Fn) (f : Int) (args : List Int) : Int := if plC fs f args = 0 then jcC fs f.toNat args else plC fs f args
def jfA (fs : List Fn) (f : Int) (args : List Int) : List (List Int) := if plC fs f args = 0 then jcA fs f.toNat args else []
/-- what GradientOf answers -/
def grC0 (fs : List Fn) (f pick : Int) (args : List Int) : Int := if plC fs f args = 0 then (if 0 ≤ pick ∧ pick < ((fs.getD f.toNat noFn).outs.len : Int) then 0 else 2) else plC fs f args
def grC (fs : List Fn) (f pick : Int) (args : List Int) : Int := if grC0 fs f pick args = 0 then jcC fs f.toNat args else grC0 fs f pick args
def grL (fs : List Fn) (f pick : Int) (args : List Int) : List Int := if grC fs f pick args = 0 then (jcA fs f.toNat args).getD pick.toNat [] else []
theorem jcA_len {fs : List Fn} {j : Nat} {args : List Int} (h : jcC fs j args = 0) : (jcA fs j args).length = (fs.getD j noFn).outs.len := by
  unfold jcC at h
  by_cases hv : (vaL fs j args).c = 0
  · rw [if_pos hv] at h
    unfold jcA jaA
    rw [if_pos hv, if_pos h, jaR_len]
  · rw [if_neg hv] at h; exact absurd h hv
theorem grC_no {fs : List Fn} {f pick : Int} {args : List Int} (h : ¬ grC0 fs f pick args = 0) : grC fs f pick args = grC0 fs f pick args := if_neg h
theorem grC_yes {fs : List Fn} {f pick : Int} {args : List Int} (h : grC0 fs f pick args = 0) : grC fs f pick args = jcC fs f.toNat args := if_pos h
theorem LcRes.nil {w w' : World} {c : Int} {a : Option Addr} {ca : Nat} {L : List Int} (hL : L = []) (hb : Below w.heap.size w w') : LcRes w L c (.returned (.tuple #[.slice a 0 ca, .int .i64 c])) w' := ⟨a, ca, by rw [hL]; rfl, .inl hL, hb⟩

set_option maxRecDepth 100000 in
set_option maxHeartbeats 6400000 in
theorem iJacobianOf (fs : List Fn) (ap : Option Addr) (capp : Nat) (f : Int) (aa : Option Addr) (ca : Nat) (args : List Int) (w : World) (hP : Pat w 0 w.heap.size fs ap) (hsz : pgSize fs ≤ 1048576) (hcap : fs.length ≤ capp) (hcm : capp ≤ 1048576) (hA : At w aa args) (hal : args.length ≤ 1048576) (hca : args.length ≤ ca) (hca2 : ca ≤ 9223372036854775807) :
    Calls Tryz.prog 34 #[.agg #[.slice ap fs.length capp], .int .i64 f, .slice aa args.length ca] w (JaRes w (jfA fs f args) (jfC fs f args)) := by
  have hfl : fs.length ≤ 1048576 := by unfold pgSize at hsz; omega
  obtain ⟨w0, hw0⟩ : ∃ w0, w0 = w.alloc (.cells #[.slice ap fs.length capp] 31) := ⟨_, rfl⟩
  have hb0 : Below w.heap.size w w0 := by rw [hw0]; exact (Below.refl _ _).alloc (Nat.le_refl _) _
  have c0 : w0.cell? ⟨w.heap.size, 0, none⟩ = some (.slice ap fs.length capp) := by rw [hw0]; simp [go_sem]
  have P0 := (hP.below hb0).mono (Nat.le_refl _) hb0.size
  have A0 := hA.below hb0 (Nat.le_refl _)
  have HF := Lib.hid (iPlaceOf fs ap capp f aa ca args w0 P0 hsz hcap hcm A0 hal)
  have HP := Lib.hid P0
  have HA := Lib.hid A0
  clear hP hA P0 A0
  go_enter Tryz.func34, Tryz.ntmps34
  go_wp2_with fail
  rw [← hw0]
  clear hw0
  refine HF.out.mono ?_; rintro e w1 ⟨hb1, ⟨hn, rfl⟩ | ⟨hy, hfa, hab, af, cf, rfl, hFo⟩⟩
  · have hB1 := hb0.trans (hb1.mono hb0.size)
    have hbf : (plC fs f args != 0) = true := by simp [hn]
    have e1 : jfC fs f args = plC fs f args := if_neg hn
    have e2 : jfA fs f args = [] := if_neg hn
    have HX : Hid (∀ W, Below w.heap.size w W → JaRes w (jfA fs f args) (jfC fs f args) (.returned (.tuple #[.slice none 0 0, .int .i64 (plC fs f args)])) W) := fun W hW => ⟨none, 0, by rw [e1, e2]; rfl, .inl e2, hW⟩
    clear e1 e2
    have hs1 := hB1.size
    clear HF HP HA hn
    generalize plC fs f args = pc at *
    go_wp2_with fail
    go_ret2
    exact HX.out _ (hB1.alloc hs1 _)
  · have hB1 := hb0.trans (hb1.mono hb0.size)
    obtain ⟨hp1, hf1, hf2⟩ := hfa
    obtain ⟨j, rfl⟩ := Int.eq_ofNat_of_zero_le hf1
    have ej : (j : Int).toNat = j := rfl
    rw [ej] at hab hFo ⊢
    have hj : j < fs.length := by omega
    have hln := areB_ln hab
    have hnm := areB_nm hab
    have hs1 := hb1.size
    obtain ⟨w2, hw2⟩ : ∃ w2, w2 = w1.alloc (.cells #[ofN, .slice ap fs.length capp, .string (fs.getD j noFn).name, .int .i64 (fs.getD j noFn).params, .slice af (fs.getD j noFn).outs.len cf, .slice aa args.length ca] 67) := ⟨_, rfl⟩
    have b2 : Below w1.heap.size w1 w2 := by rw [hw2]; exact (Below.refl _ _).alloc (Nat.le_refl _) _
    have p0 : w2.cell? ⟨w1.heap.size, 0, none⟩ = some (ofN) := by rw [hw2]; simp [go_sem]
    have p1 : w2.cell? ⟨w1.heap.size, 1, none⟩ = some (.slice ap fs.length capp) := by rw [hw2]; simp [go_sem]
    have p2 : w2.cell? ⟨w1.heap.size, 2, none⟩ = some (.string (fs.getD j noFn).name) := by rw [hw2]; simp [go_sem]
    have p3 : w2.cell? ⟨w1.heap.size, 3, none⟩ = some (.int .i64 (fs.getD j noFn).params) := by rw [hw2]; simp [go_sem]
    have p4 : w2.cell? ⟨w1.heap.size, 4, none⟩ = some (.slice af (fs.getD j noFn).outs.len cf) := by rw [hw2]; simp [go_sem]
    have p5 : w2.cell? ⟨w1.heap.size, 5, none⟩ = some (.slice aa args.length ca) := by rw [hw2]; simp [go_sem]
    have hb12 := hb1.trans (b2.mono hs1)
    have hB2 := hB1.trans (b2.mono hB1.size)
    have HJ := fun (W : World) (hW : Below w2.heap.size w2 W) => Lib.hid (show Calls Tryz.prog 65 #[.agg #[ofN, .slice ap fs.length capp, .string (fs.getD j noFn).name, .int .i64 (fs.getD j noFn).params, .slice af (fs.getD j noFn).outs.len cf, .slice aa args.length ca]] W (JaRes W (jcA fs j args) (jcC fs j args)) from by
      have hbW : Below w0.heap.size w0 W := hb12.trans (hW.mono hb12.size)
      exact pJacobian fs ap capp j af cf aa ca args W hp1 hj hfl ((HP.out.below hbW).mono (Nat.le_refl _) hbW.size) ((hFo.agree (fun i _ h2 => hbW.block i h2)).mono (Nat.le_refl _) hbW.size) (HA.out.below hbW (Nat.le_refl _)) hnm hln hal hca hca2)
    have E1 : Hid (jfC fs (j : Int) args = jcC fs j args) := if_pos hy
    have E2 : Hid (jfA fs (j : Int) args = jcA fs j args) := if_pos hy
    clear HF HP HA hFo hab hln hnm hy hp1 hf1 hf2 hb12 hb1
    generalize jcC fs j args = C at *
    generalize jcA fs j args = JA at *
    generalize (fs.getD j noFn).name = nm at *
    generalize (fs.getD j noFn).params = pa at *
    generalize (fs.getD j noFn).outs.len = mo at *
    have HJ2 := HJ w2 (Below.refl _ _)
    have hs2 := hB2.size
    clear HJ
    go_wp2_with fail
    rw [← hw2]
    clear hw2
    refine HJ2.out.mono ?_; rintro e w3 ⟨a, ka, rfl, o, b3⟩
    clear HJ2
    go_wp2_with fail
    go_ret2
    exact ⟨a, ka, by rw [E1.out, E2.out]; rfl, by rw [E2.out]; exact o.mono hs2, hB2.trans (b3.mono hs2)⟩

set_option maxRecDepth 100000 in
set_option maxHeartbeats 6400000 in
theorem iGradientOf (fs : List Fn) (ap : Option Addr) (capp : Nat) (f pick : Int) (aa : Option Addr) (ca : Nat) (args : List Int) (w : World) (hP : Pat w 0 w.heap.size fs ap) (hsz : pgSize fs ≤ 1048576) (hcap : fs.length ≤ capp) (hcm : capp ≤ 1048576) (hA : At w aa args) (hal : args.length ≤ 1048576) (hca : args.length ≤ ca) (hca2 : ca ≤ 9223372036854775807) :
    Calls Tryz.prog 32 #[.agg #[.slice ap fs.length capp], .int .i64 f, .int .i64 pick, .slice aa args.length ca] w (LcRes w (grL fs f pick args) (grC fs f pick args)) := by
  have hfl : fs.length ≤ 1048576 := by unfold pgSize at hsz; omega
  obtain ⟨w0, hw0⟩ : ∃ w0, w0 = w.alloc (.cells #[.slice ap fs.length capp] 31) := ⟨_, rfl⟩
  have hb0 : Below w.heap.size w w0 := by rw [hw0]; exact (Below.refl _ _).alloc (Nat.le_refl _) _
  have c0 : w0.cell? ⟨w.heap.size, 0, none⟩ = some (.slice ap fs.length capp) := by rw [hw0]; simp [go_sem]
  have P0 := (hP.below hb0).mono (Nat.le_refl _) hb0.size
  have A0 := hA.below hb0 (Nat.le_refl _)
  have HF := Lib.hid (iPlaceOf fs ap capp f aa ca args w0 P0 hsz hcap hcm A0 hal)
  have HP := Lib.hid P0
  have HA := Lib.hid A0
  clear hP hA P0 A0
  go_enter Tryz.func32, Tryz.ntmps32
  go_wp2_with fail
  rw [← hw0]
  clear hw0
  refine HF.out.mono ?_; rintro e w1 ⟨hb1, ⟨hn, rfl⟩ | ⟨hy, hfa, hab, af, cf, rfl, hFo⟩⟩
  · have hB1 := hb0.trans (hb1.mono hb0.size)
    have hbf : (plC fs f args != 0) = true := by simp [hn]
    have e0 : grC0 fs f pick args = plC fs f args := if_neg hn
    have e1 : grC fs f pick args = plC fs f args := by rw [grC_no (by rw [e0]; exact hn), e0]
    have e2 : grL fs f pick args = [] := if_neg (by rw [e1]; exact hn)
    have HX : Hid (∀ W, Below w.heap.size w W → LcRes w (grL fs f pick args) (grC fs f pick args) (.returned (.tuple #[.slice none 0 0, .int .i64 (plC fs f args)])) W) := fun W hW => by rw [e1]; exact LcRes.nil e2 hW
    clear e0 e1 e2
    have hs1 := hB1.size
    clear HF HP HA hn
    generalize plC fs f args = pc at *
    go_wp2_with fail
    go_ret2
    exact HX.out _ (hB1.alloc hs1 _)
  · have hB1 := hb0.trans (hb1.mono hb0.size)
    obtain ⟨hp1, hf1, hf2⟩ := hfa
    obtain ⟨j, rfl⟩ := Int.eq_ofNat_of_zero_le hf1
    have ej : (j : Int).toNat = j := rfl
    rw [ej] at hab hFo ⊢
    have hj : j < fs.length := by omega
    have hln := areB_ln hab
    have hnm := areB_nm hab
    have hs1 := hb1.size
    obtain ⟨w2, hw2⟩ : ∃ w2, w2 = w1.alloc (.cells #[ofN, .slice ap fs.length capp, .string (fs.getD j noFn).name, .int .i64 (fs.getD j noFn).params, .slice af (fs.getD j noFn).outs.len cf, .slice aa args.length ca] 67) := ⟨_, rfl⟩
    have b2 : Below w1.heap.size w1 w2 := by rw [hw2]; exact (Below.refl _ _).alloc (Nat.le_refl _) _
    have p0 : w2.cell? ⟨w1.heap.size, 0, none⟩ = some (ofN) := by rw [hw2]; simp [go_sem]
    have p1 : w2.cell? ⟨w1.heap.size, 1, none⟩ = some (.slice ap fs.length capp) := by rw [hw2]; simp [go_sem]
    have p2 : w2.cell? ⟨w1.heap.size, 2, none⟩ = some (.string (fs.getD j noFn).name) := by rw [hw2]; simp [go_sem]
    have p3 : w2.cell? ⟨w1.heap.size, 3, none⟩ = some (.int .i64 (fs.getD j noFn).params) := by rw [hw2]; simp [go_sem]
    have p4 : w2.cell? ⟨w1.heap.size, 4, none⟩ = some (.slice af (fs.getD j noFn).outs.len cf) := by rw [hw2]; simp [go_sem]
    have p5 : w2.cell? ⟨w1.heap.size, 5, none⟩ = some (.slice aa args.length ca) := by rw [hw2]; simp [go_sem]
    have hb12 := hb1.trans (b2.mono hs1)
    have hB2 := hB1.trans (b2.mono hB1.size)
    have HJ := fun (W : World) (hW : Below w2.heap.size w2 W) => Lib.hid (show Calls Tryz.prog 65 #[.agg #[ofN, .slice ap fs.length capp, .string (fs.getD j noFn).name, .int .i64 (fs.getD j noFn).params, .slice af (fs.getD j noFn).outs.len cf, .slice aa args.length ca]] W (JaRes W (jcA fs j args) (jcC fs j args)) from by
      have hbW : Below w0.heap.size w0 W := hb12.trans (hW.mono hb12.size)
      exact pJacobian fs ap capp j af cf aa ca args W hp1 hj hfl ((HP.out.below hbW).mono (Nat.le_refl _) hbW.size) ((hFo.agree (fun i _ h2 => hbW.block i h2)).mono (Nat.le_refl _) hbW.size) (HA.out.below hbW (Nat.le_refl _)) hnm hln hal hca hca2)
    have e0 : grC0 fs (j : Int) pick args = if 0 ≤ pick ∧ pick < ((fs.getD j noFn).outs.len : Int) then 0 else 2 := if_pos hy
    have HBAD : Hid (¬ (0 ≤ pick ∧ pick < ((fs.getD j noFn).outs.len : Int)) → grC fs (j : Int) pick args = 2 ∧ grL fs (j : Int) pick args = []) := fun h => by
      have e : grC0 fs (j : Int) pick args = 2 := by rw [e0, if_neg h]
      have e1 : grC fs (j : Int) pick args = 2 := by rw [grC_no (by rw [e]; decide), e]
      exact ⟨e1, if_neg (by rw [e1]; decide)⟩
    have HGO : Hid (0 ≤ pick ∧ pick < ((fs.getD j noFn).outs.len : Int) → grC fs (j : Int) pick args = jcC fs j args ∧ grL fs (j : Int) pick args = if jcC fs j args = 0 then (jcA fs j args).getD pick.toNat [] else []) := fun h => by
      have e : grC0 fs (j : Int) pick args = 0 := by rw [e0, if_pos h]
      have e1 : grC fs (j : Int) pick args = jcC fs j args := grC_yes e
      refine ⟨e1, ?_⟩
      unfold grL
      rw [e1]; rfl
    have HLN : Hid (jcC fs j args = 0 → (jcA fs j args).length = (fs.getD j noFn).outs.len) := jcA_len
    have HDI := Lib.hid (pHasOut pick ap fs.length capp (fs.getD j noFn).name (fs.getD j noFn).params af (fs.getD j noFn).outs.len cf aa args.length ca w2)
    clear e0 HF HP HA hFo hab hln hnm hy hp1 hf1 hf2 hb12 hb1
    generalize grC fs (j : Int) pick args = GC at *
    generalize grL fs (j : Int) pick args = GL at *
    generalize jcC fs j args = C at *
    generalize jcA fs j args = JA at *
    generalize (fs.getD j noFn).name = nm at *
    generalize (fs.getD j noFn).params = pa at *
    generalize (fs.getD j noFn).outs.len = mo at *
    go_wp2_with fail
    rw [← hw2]
    clear hw2
    by_cases hq : 0 ≤ pick ∧ pick < (mo : Int)
    rotate_left
    · have hd1 : decide (0 ≤ pick ∧ pick < (mo : Int)) = false := decide_eq_false hq
      rw [hd1] at HDI
      obtain ⟨x1, x2⟩ := HBAD.out hq
      have HX1 := Lib.hid x1
      have HX2 := Lib.hid x2
      clear HBAD HGO HJ HLN hq hd1 x1 x2
      refine HDI.out.mono ?_; rintro e w4 ⟨rfl, b4⟩
      have B4 := hB2.trans (b4.mono hB2.size)
      go_wp2_with fail
      go_ret2
      rw [HX1.out]
      exact LcRes.nil HX2.out B4
    · have hd1 : decide (0 ≤ pick ∧ pick < (mo : Int)) = true := decide_eq_true hq
      rw [hd1] at HDI
      obtain ⟨x1, x2⟩ := HGO.out hq
      have HX1 := Lib.hid x1
      have HX2 := Lib.hid x2
      obtain ⟨k, rfl⟩ := Int.eq_ofNat_of_zero_le hq.1
      have hk : k < mo := by omega
      clear HBAD HGO hd1 x1 x2
      refine HDI.out.mono ?_; rintro e w4 ⟨rfl, b4⟩
      have B4 := hB2.trans (b4.mono hB2.size)
      have HJ4 := HJ w4 b4
      replace p0 := (b4.cell (p := ⟨w1.heap.size, 0, none⟩) (cell_lt p0)).trans p0
      replace p1 := (b4.cell (p := ⟨w1.heap.size, 1, none⟩) (cell_lt p1)).trans p1
      replace p2 := (b4.cell (p := ⟨w1.heap.size, 2, none⟩) (cell_lt p2)).trans p2
      replace p3 := (b4.cell (p := ⟨w1.heap.size, 3, none⟩) (cell_lt p3)).trans p3
      replace p4 := (b4.cell (p := ⟨w1.heap.size, 4, none⟩) (cell_lt p4)).trans p4
      replace p5 := (b4.cell (p := ⟨w1.heap.size, 5, none⟩) (cell_lt p5)).trans p5
      have hs4 := B4.size
      clear HJ
      go_wp2_with fail
      refine HJ4.out.mono ?_; rintro e w5 ⟨a, ka, rfl, o, b5⟩
      have B5 := B4.trans (b5.mono hs4)
      clear HJ4
      by_cases hc : C = 0
      · have hbf : (C != 0) = false := by rw [hc]; rfl
        have hln := HLN.out hc
        have HC0 := Lib.hid hc
        obtain ⟨g, A, K, rfl, hM⟩ := o.resolve_left (by intro e; rw [e] at hln; simp at hln; omega)
        rw [hln] at hM ⊢
        have hr0 := hM.cell k hk
        have hrow := hM.row k hk
        have hx2 : GL = JA.getD k [] := by rw [HX2.out, if_pos hc]; rfl
        rw [← hx2] at hr0 hrow
        obtain ⟨am, ham⟩ : ∃ am, A k = am := ⟨_, rfl⟩
        obtain ⟨km, hkm⟩ : ∃ km, K k = km := ⟨_, rfl⟩
        rw [ham, hkm] at hr0 hrow
        have hO := hrow.a
        clear hM hrow hx2 hc hln HLN ham hkm
        go_wp2_with fail
        go_ret2
        exact ⟨am, km, by rw [HX1.out, HC0.out]; rfl, hO.imp id (fun ⟨g, e, o⟩ => ⟨g, e, o.mono hs4⟩), B5⟩
      · have hbf : (C != 0) = true := by simp [hc]
        have HG : Hid (GL = []) := by show _ = _; rw [HX2.out, if_neg hc]
        clear hc HLN o
        go_wp2_with fail
        go_ret2
        rw [HX1.out]
        exact LcRes.nil HG.out B5

end Go.Proofs.YtoedccgiahegnaaGreat
