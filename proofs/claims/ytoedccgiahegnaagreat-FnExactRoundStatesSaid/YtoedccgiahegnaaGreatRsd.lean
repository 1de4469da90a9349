/- RoundStates by the program. -/
import Derived.Test.YtoedccgiahegnaaGreatRsc
namespace Go.Proofs.YtoedccgiahegnaaGreat
open Go Go.RowKit
set_option linter.unusedVariables false

/-- what RoundStates answers -/
def rcC (fs : List Fn) (f : Int) (args : List Int) (n : Int) : Int := if roC fs f args = 0 then (if 0 ≤ n ∧ n < 41 then 0 else 2) else roC fs f args
def rsC (fs : List Fn) (f : Int) (args : List Int) (n : Int) : Int := if rcC fs f args n = 0 then (stE fs f.toNat args n.toNat).c else rcC fs f args n
def rsA (fs : List Fn) (f : Int) (args : List Int) (n : Int) : List (List Int) := if rcC fs f args n = 0 then stA fs f.toNat args n.toNat else []
theorem rcC_known {fs : List Fn} {f : Int} {args : List Int} {n : Int} (h : rcC fs f args n = 0) : roC fs f args = 0 ∧ (0 ≤ n ∧ n < 41) := by
  unfold rcC at h
  by_cases h0 : roC fs f args = 0
  · rw [if_pos h0] at h
    by_cases h1 : 0 ≤ n ∧ n < 41
    · exact ⟨h0, h1⟩
    · rw [if_neg h1] at h; cases h
  · rw [if_neg h0] at h; exact absurd h h0
theorem repB_known {fs : List Fn} {f : Int} (h : repB fs f = true) : 1 ≤ (fs.getD f.toNat noFn).params ∧ ((fs.getD f.toNat noFn).outs.len : Int) = (fs.getD f.toNat noFn).params := by
  unfold repB at h
  rw [Bool.and_eq_true] at h
  exact ⟨of_decide_eq_true h.1, of_decide_eq_true h.2⟩

set_option maxRecDepth 100000 in
set_option maxHeartbeats 6400000 in
theorem iRoundStates (fs : List Fn) (ap : Option Addr) (capp : Nat) (f : Int) (aa : Option Addr) (ca : Nat) (args : List Int) (n : Int) (w : World) (hP : Pat w 0 w.heap.size fs ap) (hsz : pgSize fs ≤ 1048576) (hcap : fs.length ≤ capp) (hcm : capp ≤ 1048576) (hA : At w aa args) (hal : args.length ≤ 1048576) (hca : args.length ≤ ca) (hca2 : ca ≤ 9223372036854775807) :
    Calls Tryz.prog 27 #[.agg #[.slice ap fs.length capp], .int .i64 f, .slice aa args.length ca, .int .i64 n] w (JaRes w (rsA fs f args n) (rsC fs f args n)) := by
  have hfl : fs.length ≤ 1048576 := by unfold pgSize at hsz; omega
  obtain ⟨w0, hw0⟩ : ∃ w0, w0 = w.alloc (.cells #[.slice ap fs.length capp] 31) := ⟨_, rfl⟩
  have hb0 : Below w.heap.size w w0 := by rw [hw0]; exact (Below.refl _ _).alloc (Nat.le_refl _) _
  have c0 : w0.cell? ⟨w.heap.size, 0, none⟩ = some (.slice ap fs.length capp) := by rw [hw0]; simp [go_sem]
  have P0 := (hP.below hb0).mono (Nat.le_refl _) hb0.size
  have A0 := hA.below hb0 (Nat.le_refl _)
  have HF := Lib.hid (iRoundOf fs ap capp f aa ca args w0 P0 hsz hcap hcm A0 hal)
  have HP := Lib.hid P0
  have HA := Lib.hid A0
  clear hP hA P0 A0
  go_enter Tryz.func27, Tryz.ntmps27
  go_wp2_with fail
  rw [← hw0]
  clear hw0
  refine HF.out.mono ?_; rintro e w1 ⟨hb1, ⟨hn, rfl⟩ | ⟨hy, af, cf, rfl, hFo⟩⟩
  · have hB1 := hb0.trans (hb1.mono hb0.size)
    have hbf : (roC fs f args != 0) = true := by simp [hn]
    have e0 : rcC fs f args n = roC fs f args := if_neg hn
    have e1 : rsC fs f args n = roC fs f args := by unfold rsC; rw [e0, if_neg hn]
    have e2 : rsA fs f args n = [] := by unfold rsA; rw [e0, if_neg hn]
    have HX : Hid (∀ W, Below w.heap.size w W → JaRes w (rsA fs f args n) (rsC fs f args n) (.returned (.tuple #[.slice none 0 0, .int .i64 (roC fs f args)])) W) := fun W hW => ⟨none, 0, by rw [e1, e2]; rfl, .inl e2, hW⟩
    have hs1 := hB1.size
    clear HF HP HA hn e0 e1 e2
    generalize roC fs f args = pc at *
    go_wp2_with fail
    go_ret2
    exact HX.out _ (hB1.alloc hs1 _)
  · have hB1 := hb0.trans (hb1.mono hb0.size)
    obtain ⟨hpl, hrp⟩ := roC_known hy
    obtain ⟨hp1, ⟨hf1, hf2⟩, hab⟩ := plC_known hpl
    have e0 : rcC fs f args n = if 0 ≤ n ∧ n < 41 then 0 else 2 := if_pos hy
    have HBAD : Hid (¬ (0 ≤ n ∧ n < 41) → rsC fs f args n = 2 ∧ rsA fs f args n = []) := fun h => by
      have e : rcC fs f args n = 2 := by rw [e0, if_neg h]
      exact ⟨by unfold rsC; rw [e, if_neg (by decide)], by unfold rsA; rw [e, if_neg (by decide)]⟩
    have HGO : Hid (0 ≤ n ∧ n < 41 → rsC fs f args n = (stE fs f.toNat args n.toNat).c ∧ rsA fs f args n = stA fs f.toNat args n.toNat) := fun h => by
      have e : rcC fs f args n = 0 := by rw [e0, if_pos h]
      exact ⟨if_pos e, if_pos e⟩
    clear e0
    obtain ⟨j, rfl⟩ := Int.eq_ofNat_of_zero_le hf1
    have ej : (j : Int).toNat = j := rfl
    obtain ⟨hr1, hr2⟩ := repB_known hrp
    rw [ej] at hab hFo HGO hr1 hr2 ⊢
    have hj : j < fs.length := by omega
    have hln := areB_ln hab
    have hnm := areB_nm hab
    have hs1 := hb1.size
    obtain ⟨w2, hw2⟩ : ∃ w2, w2 = w1.alloc (.cells #[ofN, .slice ap fs.length capp, .string (fs.getD j noFn).name, .int .i64 (fs.getD j noFn).params, .slice af (fs.getD j noFn).outs.len cf, .slice aa args.length ca] 67) := ⟨_, rfl⟩
    have b2 : Below w1.heap.size w1 w2 := by rw [hw2]; exact (Below.refl _ _).alloc (Nat.le_refl _) _
    have p0 : w2.cell? ⟨w1.heap.size, 0, none⟩ = some (ofN) := by rw [hw2]; simp [go_sem]
    have p1 : w2.cell? ⟨w1.heap.size, 1, none⟩ = some (.slice ap fs.length capp) := by rw [hw2]; simp [go_sem]
    have p2 : w2.cell? ⟨w1.heap.size, 2, none⟩ = some (.string (fs.getD j noFn).name) := by rw [hw2]; simp [go_sem]
    have p3 : w2.cell? ⟨w1.heap.size, 3, none⟩ = some (.int .i64 (fs.getD j noFn).params) := by rw [hw2]; simp [go_sem]
    have p4 : w2.cell? ⟨w1.heap.size, 4, none⟩ = some (.slice af (fs.getD j noFn).outs.len cf) := by rw [hw2]; simp [go_sem]
    have p5 : w2.cell? ⟨w1.heap.size, 5, none⟩ = some (.slice aa args.length ca) := by rw [hw2]; simp [go_sem]
    have hb12 := hb1.trans (b2.mono hs1)
    have hB2 := hB1.trans (b2.mono hB1.size)
    have HJ := fun (W : World) (hW : Below w2.heap.size w2 W) (k : Nat) (hk : k ≤ 40) => Lib.hid (show Calls Tryz.prog 63 #[.agg #[ofN, .slice ap fs.length capp, .string (fs.getD j noFn).name, .int .i64 (fs.getD j noFn).params, .slice af (fs.getD j noFn).outs.len cf, .slice aa args.length ca], .int .i64 k] W (JaRes W (stA fs j args k) (stE fs j args k).c) from by
      have hbW : Below w0.heap.size w0 W := hb12.trans (hW.mono hb12.size)
      exact pStates fs ap capp j af cf aa ca args W hp1 hj hfl ((HP.out.below hbW).mono (Nat.le_refl _) hbW.size) ((hFo.agree (fun i _ h2 => hbW.block i h2)).mono (Nat.le_refl _) hbW.size) (HA.out.below hbW (Nat.le_refl _)) hnm hln hca hca2 (by omega) (by omega) hal k hk)
    have HDI := fun W => Lib.hid (iIndex n 41 W)
    clear HF HP HA hFo hab hln hnm hy hp1 hf1 hf2 hb12 hb1 hr1 hr2 hpl hrp
    generalize rsC fs (j : Int) args n = GC at *
    generalize rsA fs (j : Int) args n = GL at *
    generalize stE fs j args = S at *
    generalize stA fs j args = SA at *
    generalize (fs.getD j noFn).name = nm at *
    generalize (fs.getD j noFn).params = pa at *
    generalize (fs.getD j noFn).outs.len = mo at *
    have hs2 := hB2.size
    by_cases hq : 0 ≤ n ∧ n < 41
    rotate_left
    · have hd1 : decide (0 ≤ n ∧ n < 41) = false := decide_eq_false hq
      rw [hd1] at HDI
      obtain ⟨x1, x2⟩ := HBAD.out hq
      have HX1 := Lib.hid x1
      have HX2 := Lib.hid x2
      clear HBAD HGO HJ hq hd1 x1 x2
      go_wp2_with fail
      rw [← hw2]
      clear hw2
      refine (HDI _).out.mono ?_; rintro e w4 ⟨rfl, rfl⟩
      go_wp2_with fail
      go_ret2
      exact ⟨none, 0, by rw [HX1.out, HX2.out]; rfl, .inl HX2.out, hB2⟩
    · have hd1 : decide (0 ≤ n ∧ n < 41) = true := decide_eq_true hq
      rw [hd1] at HDI
      obtain ⟨x1, x2⟩ := HGO.out hq
      obtain ⟨k, rfl⟩ := Int.eq_ofNat_of_zero_le hq.1
      have ek : (k : Int).toNat = k := rfl
      rw [ek] at x1 x2
      have HX1 := Lib.hid x1
      have HX2 := Lib.hid x2
      have HJ2 := HJ w2 (Below.refl _ _) k (by omega)
      clear HBAD HGO HJ hq hd1 x1 x2 ek
      go_wp2_with fail
      rw [← hw2]
      clear hw2
      refine (HDI _).out.mono ?_; rintro e w4 ⟨rfl, rfl⟩
      go_wp2_with fail
      refine HJ2.out.mono ?_; rintro e w5 ⟨a, ka, rfl, o, b5⟩
      clear HJ2
      go_wp2_with fail
      go_ret2
      exact ⟨a, ka, by rw [HX1.out, HX2.out]; rfl, by rw [HX2.out]; exact o.mono hs2, hB2.trans (b5.mono hs2)⟩

end Go.Proofs.YtoedccgiahegnaaGreat
