/- The split of steps, by the model. -/
import Derived.Test.YtleebjjikpmgoaaCla
namespace Go.Proofs.Ytleebjjikpmgoaa
open Go.RowKit
set_option linter.unusedVariables false

/-- a table of three dimensions, as lists of lists of lists -/
def Tb3 (W : World) (g M n : Nat) (F : Nat → Nat → Nat → Int) : Prop :=
  ∀ c, c < M → ∃ gc kc, W.cell? ⟨g, c, none⟩ = some (.slice (some ⟨gc, 0, none⟩) (n + 1) kc) ∧ ∀ a, a ≤ n → ∃ ga ka, W.cell? ⟨gc, a, none⟩ = some (.slice (some ⟨ga, 0, none⟩) (n + 1) ka) ∧ ∀ b, b ≤ n → W.cell? ⟨ga, b, none⟩ = some (.int .i64 (F c a b))
theorem tbM_bd {w : List Int} (hw : ∀ k, 0 ≤ w.getD k 0 ∧ w.getD k 0 ≤ 1000) {c a b : Nat} (hb : b ≤ 40) : -1 ≤ tbM w c a b ∧ tbM w c a b ≤ 1600000 := by
  unfold tbM
  split
  · omega
  · split
    · omega
    · have h1 := lcK_bd hw (b - a) c a b (Nat.le_refl _)
      have h2 := h1.2 (by omega) hb
      omega
set_option maxRecDepth 100000 in
set_option maxHeartbeats 3200000 in
theorem sSplit (wt : List Int) (hw : ∀ k, 0 ≤ wt.getD k 0 ∧ wt.getD k 0 ≤ 1000) (aw : Option Addr) (capw g kg M n : Nat) (F : Nat → Nat → Nat → Int) (c a b : Nat) (hn : n ≤ 40) (hwl : wt.length = n) (hb : b ≤ n) (hab : a < b) (hc : c < M) (hM : M ≤ 9) (W : World) (hW : At W aw wt) (hT : Tb3 W g M n F)
    (hF : 1 ≤ c → ∀ m, a < m → m < b → F (c - 1) m b = tbM wt (c - 1) m b ∧ F c a m = tbM wt c a m) :
    Calls Try.prog 54 #[.slice aw wt.length capw, .slice (some ⟨g, 0, none⟩) M kg, .int .i64 a, .int .i64 b, .int .i64 c] W fun e w' => e = .returned (.tuple #[.int .i64 (spM wt c a b).1, .int .i64 (spM wt c a b).2]) ∧ W = w' := by
  by_cases h0 : c = 0
  · subst h0
    have HF : Hid (spM wt 0 a b = (0, -1)) := by show _ = _; unfold spM; rw [if_pos rfl]
    go_enter Try.func54, Try.ntmps54
    go_wp2_with fail
    go_ret2
    exact ⟨by rw [HF.out]; rfl, rfl⟩
  · have hc0 : ((c : Int) == 0) = false := by simp; omega
    have hcp : 1 ≤ c := by omega
    have ha1 : IntKind.i64.wrap ((a : Int) + 1) = ((a + 1 : Nat) : Int) := by rw [IntWalk.i64_in _ (by omega)]; omega
    have HF := Lib.hid (hF (by omega))
    have HW := Lib.hid hw
    obtain ⟨c1, hc1⟩ : ∃ c1, c1 = c - 1 := ⟨_, rfl⟩
    have hcw : IntKind.i64.wrap ((c : Int) - 1) = (c1 : Int) := by rw [IntWalk.i64_in _ (by omega)]; omega
    have hcM : (c : Int) < (M : Int) := by omega
    have hcM1 : (c1 : Int) < (M : Int) := by omega
    obtain ⟨gl, kl, tl, hl⟩ := hT c hc
    obtain ⟨gr, kr, tr, hr⟩ := hT c1 (by omega)
    obtain ⟨ga, ka, ta, hla⟩ := hl a (by omega)
    have HLA := Lib.hid hla
    have HR := Lib.hid hr
    have HSP : Hid (spM wt c a b = splM (fun m => sumK wt m - sumK wt a + tbM wt (c - 1) m b + tbM wt c a m) (fun m => !(decide (tbM wt (c - 1) m b < 0) || decide (tbM wt c a m < 0))) (b - (a + 1)) (a + 1) (0, -1)) := by
      show _ = _; unfold spM; rw [if_neg h0, show b - a - 1 = b - (a + 1) by omega]
    obtain ⟨bw, ow, rfl, hbw, hcwt⟩ := hW.resolve_left (by intro e; rw [e] at hwl; simp at hwl; omega)
    have HWC := Lib.hid hcwt
    have han : (a : Int) < (n : Int) + 1 := by omega
    have hbn : (b : Int) < (n : Int) + 1 := by omega
    clear hF hw hT hl hla hr hW hcwt h0
    rw [← hc1] at HF HSP
    have HC1 := Lib.hid hc1
    clear hc1
    have ha9 : ((a : Nat) : Int) ≤ 40 := by omega
    go_enter Try.func54, Try.ntmps54
    go_wp2_with fail
    go_loop [12, 13, 14, 15] (fun p q r s => ∃ (m at_ : Nat) (best : Int), a + 1 ≤ m ∧ m ≤ b ∧ p = .int .i64 at_ ∧ q = .int .i64 best ∧ r = .int .i64 (sumK wt (m - 1) - sumK wt a) ∧ s = .int .i64 m ∧ Hid (spM wt c a b = splM (fun m => sumK wt m - sumK wt a + tbM wt c1 m b + tbM wt c a m) (fun m => !(decide (tbM wt c1 m b < 0) || decide (tbM wt c a m < 0))) (b - m) m (at_, best))) (fun _ _ _ s => b - (intOf s).toNat)
    case atStart => exact ⟨a + 1, 0, -1, Nat.le_refl _, hab, rfl, rfl, by rw [Nat.add_sub_cancel]; simp, rfl, HSP.out⟩
    case round =>
      obtain ⟨m, at_, best, hm0, hm1, rfl, rfl, rfl, rfl, HG⟩ := hrel
      clear HSP
      by_cases hlt : m < b
      · have hii : (m : Int) < (b : Int) := by omega
        have hmp : m - 1 + 1 = m := by omega
        obtain ⟨g2, k2, t2, h2⟩ := HR.out m (by omega)
        have x0 := h2 b hb
        have y0 := HLA.out m (by omega)
        rw [(HF.out m (by omega) hlt).1] at x0
        rw [(HF.out m (by omega) hlt).2] at y0
        have bx := tbM_bd HW.out (c := c1) (a := m) (b := b) (by omega)
        have by_ := tbM_bd HW.out (c := c) (a := a) (b := m) (by omega)
        have hy : 0 ≤ tbM wt c a m := by
          have := tbM_nn HW.out (c := c) (a := a) (b := m); omega
        have hxs : b - m ≤ 1 → tbM wt c1 m b = 0 := fun h => by unfold tbM; rw [if_pos (by omega)]
        have HFar : Hid (sumK wt (m + 1 - 1) - sumK wt a = sumK wt (m - 1) - sumK wt a + wt.getD (m - 1) 0) := by
          show _ = _; rw [Nat.add_sub_cancel]; have hk : sumK wt (m - 1 + 1) = sumK wt (m - 1) + wt.getD (m - 1) 0 := rfl; rw [hmp] at hk; rw [hk]; omega
        have HS : Hid (spM wt c a b = splM (fun m => sumK wt m - sumK wt a + tbM wt c1 m b + tbM wt c a m) (fun m => !(decide (tbM wt c1 m b < 0) || decide (tbM wt c a m < 0))) (b - (m + 1)) (m + 1) (if (!(decide (tbM wt c1 m b < 0) || decide (tbM wt c a m < 0))) = true then (if best < 0 ∨ sumK wt (m - 1) - sumK wt a + wt.getD (m - 1) 0 + tbM wt c1 m b + tbM wt c a m < best then (m, sumK wt (m - 1) - sumK wt a + wt.getD (m - 1) 0 + tbM wt c1 m b + tbM wt c a m) else (at_, best)) else (at_, best))) := by
          show _ = _
          have e : sumK wt (m - 1) - sumK wt a + wt.getD (m - 1) 0 = sumK wt m - sumK wt a := by have := HFar.out; rw [Nat.add_sub_cancel] at this; exact this.symm
          rw [HG.out, show b - m = (b - (m + 1)) + 1 by omega, splM, e]
        have sb := sumK_mono HW.out a (m - 1 - a)
        rw [show a + (m - 1 - a) = m - 1 by omega] at sb
        have wb := HW.out (m - 1)
        have cw := HWC.out (m - 1) (by omega)
        obtain ⟨mm, hmm⟩ : ∃ mm, mm = m - 1 := ⟨_, rfl⟩
        have hmw : IntKind.i64.wrap ((m : Int) - 1) = (mm : Int) := by rw [IntWalk.i64_in _ (by omega)]; omega
        have hmi : (mm : Int) < (wt.length : Int) := by omega
        rw [← hmm] at HFar HS sb wb cw
        rw [← hmm]
        have hmn : (m : Int) < (n : Int) + 1 := by omega
        have hm9 : IntKind.i64.wrap ((m : Int) + 1) = (m : Int) + 1 := IntWalk.i64_in _ (by omega)
        have hbm : IntKind.i64.wrap ((b : Int) - (m : Int)) = (b : Int) - (m : Int) := IntWalk.i64_in _ (by omega)
        clear HG h2 hmm hmp
        generalize sumK wt mm - sumK wt a = fr at *
        generalize wt.getD mm 0 = wv at *
        have e1 : IntKind.i64.wrap (fr + wv) = fr + wv := IntWalk.i64_in _ (by omega)
        by_cases hsm : b - m ≤ 1
        · have hx := hxs hsm
          rw [hx] at x0 HS
          rw [Int.add_zero] at HS
          have hsi : (b : Int) - (m : Int) ≤ 1 := by omega
          clear hxs bx hsm hx
          generalize tbM wt c a m = y at *
          have e3 : IntKind.i64.wrap (fr + wv + y) = fr + wv + y := IntWalk.i64_in _ (by omega)
          have hyn : ¬ y < 0 := by omega
          clear sb wb by_
          by_cases hbest : best < 0
          · skip
            have HS2 : Hid (spM wt c a b = splM (fun m => sumK wt m - sumK wt a + tbM wt c1 m b + tbM wt c a m) (fun m => !(decide (tbM wt c1 m b < 0) || decide (tbM wt c a m < 0))) (b - (m + 1)) (m + 1) (m, fr + wv + y)) := by
              show _ = _; rw [HS.out, if_pos (by rw [decide_eq_false (p := 0 < 0) (by omega), decide_eq_false (p := y < 0) (by omega)]; rfl), if_pos (.inl hbest)]
            clear HS
            go_wp2_with fail
            go_round
            case rel => exact ⟨m + 1, _, _, by omega, by omega, rfl, rfl, by rw [HFar.out], by go_num, HS2.out⟩
            case measure => simp [intOf]; omega
          · by_cases hcost : fr + wv + y < best
            · skip
              have HS2 : Hid (spM wt c a b = splM (fun m => sumK wt m - sumK wt a + tbM wt c1 m b + tbM wt c a m) (fun m => !(decide (tbM wt c1 m b < 0) || decide (tbM wt c a m < 0))) (b - (m + 1)) (m + 1) (m, fr + wv + y)) := by
                show _ = _; rw [HS.out, if_pos (by rw [decide_eq_false (p := 0 < 0) (by omega), decide_eq_false (p := y < 0) (by omega)]; rfl), if_pos (.inr hcost)]
              clear HS
              go_wp2_with fail
              go_round
              case rel => exact ⟨m + 1, _, _, by omega, by omega, rfl, rfl, by rw [HFar.out], by go_num, HS2.out⟩
              case measure => simp [intOf]; omega
            · skip
              have HS2 : Hid (spM wt c a b = splM (fun m => sumK wt m - sumK wt a + tbM wt c1 m b + tbM wt c a m) (fun m => !(decide (tbM wt c1 m b < 0) || decide (tbM wt c a m < 0))) (b - (m + 1)) (m + 1) (at_, best)) := by
                show _ = _; rw [HS.out, if_pos (by rw [decide_eq_false (p := 0 < 0) (by omega), decide_eq_false (p := y < 0) (by omega)]; rfl), if_neg (by omega)]
              clear HS
              go_wp2_with fail
              go_round
              case rel => exact ⟨m + 1, _, _, by omega, by omega, rfl, rfl, by rw [HFar.out], by go_num, HS2.out⟩
              case measure => simp [intOf]; omega
        · have hsi : ¬ (b : Int) - (m : Int) ≤ 1 := by omega
          clear hxs hsm
          generalize tbM wt c a m = y at *
          generalize tbM wt c1 m b = x at *
          have e2 : IntKind.i64.wrap (fr + wv + x) = fr + wv + x := IntWalk.i64_in _ (by omega)
          have e3 : IntKind.i64.wrap (fr + wv + x + y) = fr + wv + x + y := IntWalk.i64_in _ (by omega)
          have hyn : ¬ y < 0 := by omega
          clear sb wb by_ bx
          by_cases hxn : x < 0
          · have HS2 : Hid (spM wt c a b = splM (fun m => sumK wt m - sumK wt a + tbM wt c1 m b + tbM wt c a m) (fun m => !(decide (tbM wt c1 m b < 0) || decide (tbM wt c a m < 0))) (b - (m + 1)) (m + 1) (at_, best)) := by
              show _ = _; rw [HS.out, if_neg (by rw [decide_eq_true hxn]; simp)]
            clear HS
            go_wp2_with fail
            go_round
            case rel => exact ⟨m + 1, _, _, by omega, by omega, rfl, rfl, by rw [HFar.out], by go_num, HS2.out⟩
            case measure => simp [intOf]; omega
          · by_cases hbest : best < 0
            · skip
              have HS2 : Hid (spM wt c a b = splM (fun m => sumK wt m - sumK wt a + tbM wt c1 m b + tbM wt c a m) (fun m => !(decide (tbM wt c1 m b < 0) || decide (tbM wt c a m < 0))) (b - (m + 1)) (m + 1) (m, fr + wv + x + y)) := by
                show _ = _; rw [HS.out, if_pos (by rw [decide_eq_false (p := x < 0) (by omega), decide_eq_false (p := y < 0) (by omega)]; rfl), if_pos (.inl hbest)]
              clear HS
              go_wp2_with fail
              go_round
              case rel => exact ⟨m + 1, _, _, by omega, by omega, rfl, rfl, by rw [HFar.out], by go_num, HS2.out⟩
              case measure => simp [intOf]; omega
            · by_cases hcost : fr + wv + x + y < best
              · skip
                have HS2 : Hid (spM wt c a b = splM (fun m => sumK wt m - sumK wt a + tbM wt c1 m b + tbM wt c a m) (fun m => !(decide (tbM wt c1 m b < 0) || decide (tbM wt c a m < 0))) (b - (m + 1)) (m + 1) (m, fr + wv + x + y)) := by
                  show _ = _; rw [HS.out, if_pos (by rw [decide_eq_false (p := x < 0) (by omega), decide_eq_false (p := y < 0) (by omega)]; rfl), if_pos (.inr hcost)]
                clear HS
                go_wp2_with fail
                go_round
                case rel => exact ⟨m + 1, _, _, by omega, by omega, rfl, rfl, by rw [HFar.out], by go_num, HS2.out⟩
                case measure => simp [intOf]; omega
              · skip
                have HS2 : Hid (spM wt c a b = splM (fun m => sumK wt m - sumK wt a + tbM wt c1 m b + tbM wt c a m) (fun m => !(decide (tbM wt c1 m b < 0) || decide (tbM wt c a m < 0))) (b - (m + 1)) (m + 1) (at_, best)) := by
                  show _ = _; rw [HS.out, if_pos (by rw [decide_eq_false (p := x < 0) (by omega), decide_eq_false (p := y < 0) (by omega)]; rfl), if_neg (by omega)]
                clear HS
                go_wp2_with fail
                go_round
                case rel => exact ⟨m + 1, _, _, by omega, by omega, rfl, rfl, by rw [HFar.out], by go_num, HS2.out⟩
                case measure => simp [intOf]; omega
      · have hii : ¬ (m : Int) < (b : Int) := by omega
        have HS : Hid (spM wt c a b = (at_, best)) := by show _ = _; rw [HG.out, show b - m = 0 by omega]; rfl
        clear HG
        go_wp2_with fail
        go_ret2
        exact ⟨by rw [HS.out]; rfl, rfl⟩

end Go.Proofs.Ytleebjjikpmgoaa
