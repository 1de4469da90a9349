/- The split of steps, by the program. -/
import Derived.Test.YtleebjjikpmgoaaClc
namespace Go.Proofs.Ytleebjjikpmgoaa
open Go.RowKit
set_option linter.unusedVariables false

set_option maxRecDepth 100000 in
set_option maxHeartbeats 3200000 in
theorem iSplit (wt : List Int) (hw : ∀ k, 0 ≤ wt.getD k 0 ∧ wt.getD k 0 ≤ 1000) (g gb cb n : Nat) (F : Nat → Nat → Nat → Int) (c a b : Nat) (hn : n ≤ 40) (hb : b ≤ n) (hab : a < b) (hc1 : 1 ≤ c) (hc : c ≤ 8) (W : World) (hT : TabAt W g F) (hB : ∀ k, k ≤ n → W.cell? ⟨gb, k, none⟩ = some (.int .i64 (sumK wt k)))
    (hF : ∀ m, a < m → m < b → okM c b m = true → F (c - 1) m b = lcK wt (c - 1) m b ∧ F c a m = lcK wt c a m) :
    Calls Try.prog 56 #[.agg #[.slice (some ⟨gb, 0, none⟩) (n + 1) cb, .func (.func 107) #[.pointer (some ⟨g, 0, none⟩)] #[]], .int .i64 a, .int .i64 b, .int .i64 c] W fun e w' => e = .returned (.tuple #[.int .i64 (spK wt c a b).1, .int .i64 (spK wt c a b).2]) ∧ Below W.heap.size W w' := by
  have ha1 : IntKind.i64.wrap ((a : Int) + 1) = ((a + 1 : Nat) : Int) := by rw [IntWalk.i64_in _ (by omega)]; omega
  obtain ⟨c1, hcc⟩ : ∃ c1, c1 = c - 1 := ⟨_, rfl⟩
  have hcw : IntKind.i64.wrap ((c : Int) - 1) = (c1 : Int) := by rw [IntWalk.i64_in _ (by omega)]; omega
  have HF := Lib.hid hF
  have HW := Lib.hid hw
  have HSP : Hid (spK wt c a b = spl (fun m => sumK wt m - sumK wt a + lcK wt (c - 1) m b + lcK wt c a m) (okM c b) (b - (a + 1)) (a + 1) (0, 0)) := by
    show _ = _; unfold spK; rw [show b - a - 1 = b - (a + 1) by omega]
  rw [← hcc] at HF HSP
  have HT := Lib.hid hT
  have HB := Lib.hid hB
  have hc1i : c1 ≤ 8 := by omega
  have HC1 : Hid (c1 = c - 1) := hcc
  clear hT hB hF hw hcc
  go_enter Try.func56, Try.ntmps56
  go_wp2_with fail
  obtain ⟨w0, hw0⟩ : ∃ w0, w0 = W.alloc (.cells #[.slice (some ⟨gb, 0, none⟩) (n + 1) cb, .func (.func 107) #[.pointer (some ⟨g, 0, none⟩)] #[]] 73) := ⟨_, rfl⟩
  have A0 : Below W.heap.size W w0 := by rw [hw0]; exact (Below.refl _ _).alloc (Nat.le_refl _) _
  have x0 : w0.cell? ⟨W.heap.size, 0, none⟩ = some (.slice (some ⟨gb, 0, none⟩) (n + 1) cb) := by rw [hw0]; simp [go_sem]
  have x1 : w0.cell? ⟨W.heap.size, 1, none⟩ = some (.func (.func 107) #[.pointer (some ⟨g, 0, none⟩)] #[]) := by rw [hw0]; simp [go_sem]
  have z0 : w0.heap.size = W.heap.size + 1 := by rw [hw0]; simp
  rw [← hw0]
  clear hw0
  go_loopw [8, 9, 10] (fun p q s wr => ∃ (m at_ : Nat) (best : Int), a + 1 ≤ m ∧ m ≤ b ∧ p = .int .i64 at_ ∧ q = .int .i64 best ∧ s = .int .i64 m ∧ Hid (spK wt c a b = spl (fun m => sumK wt m - sumK wt a + lcK wt c1 m b + lcK wt c a m) (okM c b) (b - m) m (at_, best)) ∧ Below w0.heap.size w0 wr) (fun _ _ s _ => b - (intOf s).toNat)
  case atStart => exact ⟨a + 1, 0, 0, Nat.le_refl _, hab, rfl, rfl, rfl, HSP.out, Below.refl _ _⟩
  case round =>
    obtain ⟨m, at_, best, hm0, hm1, rfl, rfl, rfl, HG, hwr⟩ := hrel
    clear HSP
    have hbw := A0.trans (hwr.mono A0.size)
    have hsz := hwr.size
    by_cases hlt : m < b
    · have hii : (m : Int) < (b : Int) := by omega
      have hm9 : IntKind.i64.wrap ((m : Int) + 1) = (m : Int) + 1 := IntWalk.i64_in _ (by omega)
      have hbm : IntKind.i64.wrap ((b : Int) - (m : Int)) = (b : Int) - (m : Int) := IntWalk.i64_in _ (by omega)
      have HCN := Lib.hid (iCan ((b : Int) - (m : Int)) (c1 : Int) wr)
      have hok : decide ((b : Int) - (m : Int) ≤ 1 ∨ 1 ≤ (c1 : Int)) = okM c b m := by
        have := HC1.out
        unfold okM
        by_cases h1 : b - m ≤ 1
        · rw [decide_eq_true h1, decide_eq_true (by omega)]; rfl
        · rw [decide_eq_false h1, Bool.false_or]
          by_cases h2 : 2 ≤ c
          · rw [decide_eq_true h2, decide_eq_true (by omega)]
          · rw [decide_eq_false h2, decide_eq_false (by omega)]
      rw [hok] at HCN
      have HS : Hid (spK wt c a b = spl (fun m => sumK wt m - sumK wt a + lcK wt c1 m b + lcK wt c a m) (okM c b) (b - (m + 1)) (m + 1) (if okM c b m = true then (if at_ = 0 ∨ sumK wt m - sumK wt a + lcK wt c1 m b + lcK wt c a m < best then (m, sumK wt m - sumK wt a + lcK wt c1 m b + lcK wt c a m) else (at_, best)) else (at_, best))) := by
        show _ = _
        rw [HG.out, show b - m = (b - (m + 1)) + 1 by omega, spl]
      have HFm := Lib.hid (HF.out m (by omega) hlt)
      clear HG hok
      cases hob : okM c b m with
      | false =>
        rw [hob] at HCN HS
        have HS2 : Hid (spK wt c a b = spl (fun m => sumK wt m - sumK wt a + lcK wt c1 m b + lcK wt c a m) (okM c b) (b - (m + 1)) (m + 1) (at_, best)) := HS.out.trans (by rw [if_neg (by simp)])
        clear HS HFm hob
        go_wp2_with fail
        refine HCN.out.mono ?_; rintro e w' ⟨rfl, rfl⟩
        go_wp2_with fail
        go_roundw
        case rel => exact ⟨m + 1, at_, best, by omega, by omega, rfl, rfl, by go_num, HS2.out, hwr⟩
        case measure => simp [intOf]; omega
      | true =>
        rw [hob] at HCN HS
        obtain ⟨f1, f2⟩ := HFm.out hob
        have hgW : g < W.heap.size := cell_lt (HT.out 0 0 0 (by omega) (by omega) (by omega))
        have HBd := fun (j : Nat) => Lib.hid (hbw.trans ((below_drewN (Below.refl wr.heap.size wr) j).mono hbw.size))
        have HWd := fun (j : Nat) => Lib.hid (hwr.trans ((below_drewN (Below.refl wr.heap.size wr) j).mono hsz))
        have HTd : ∀ j, TabAt (wr.drewN j) g F := fun j p q r h1 h2 h3 => ((HBd j).out.cell (p := ⟨g, p * 369 + q * 9 + r, none⟩) hgW).trans (HT.out p q r h1 h2 h3)
        have H1 := fun (j : Nat) => iAt g m b c1 F (by omega) (by omega) hc1i (wr.drewN j) (HTd j)
        have H2 := fun (j : Nat) => iAt g a m c F (by omega) (by omega) hc (wr.drewN j) (HTd j)
        rw [f1] at H1
        rw [f2] at H2
        have hgb : gb < W.heap.size := cell_lt (HB.out 0 (by omega))
        have bm := (hbw.cell (p := ⟨gb, m, none⟩) hgb).trans (HB.out m (by omega))
        have ba := (hbw.cell (p := ⟨gb, a, none⟩) hgb).trans (HB.out a (by omega))
        have x0' := (hwr.cell (p := ⟨W.heap.size, 0, none⟩) (by show W.heap.size < _; omega)).trans x0
        have x1' := (hwr.cell (p := ⟨W.heap.size, 1, none⟩) (by show W.heap.size < _; omega)).trans x1
        have hmn : (m : Int) < (n : Int) + 1 := by omega
        have han : (a : Int) < (n : Int) + 1 := by omega
        have sb := sumK_mono HW.out a (m - a)
        rw [show a + (m - a) = m by omega] at sb
        have bx : 0 ≤ lcK wt c1 m b ∧ lcK wt c1 m b ≤ 1600000 := by
          have h1 := lcK_bd HW.out (b - m) c1 m b (Nat.le_refl _)
          by_cases hs : b - m < 2
          · rw [lcK_small hs]; omega
          · have hc2 : 2 ≤ c := by
              unfold okM at hob; rw [Bool.or_eq_true, decide_eq_true_eq, decide_eq_true_eq] at hob; omega
            have h2 := h1.2 (by have := HC1.out; omega) (by omega)
            omega
        have by_ : 0 ≤ lcK wt c a m ∧ lcK wt c a m ≤ 1600000 := by
          have h1 := lcK_bd HW.out (m - a) c a m (Nat.le_refl _)
          have h2 := h1.2 hc1 (by omega)
          omega
        have hbb := hbw.size
        clear HFm hob f1 f2 HTd x0 x1 HBd hwr hbw
        generalize lcK wt c1 m b = x at *
        generalize lcK wt c a m = y at *
        generalize sumK wt m = sm at *
        generalize sumK wt a = sa at *
        have e1 : IntKind.i64.wrap (sm - sa) = sm - sa := IntWalk.i64_in _ (by omega)
        have e2 : IntKind.i64.wrap (sm - sa + x) = sm - sa + x := IntWalk.i64_in _ (by omega)
        have e3 : IntKind.i64.wrap (sm - sa + x + y) = sm - sa + x + y := IntWalk.i64_in _ (by omega)
        clear sb bx by_
        by_cases hz : at_ = 0
        · subst hz
          have HS2 : Hid (spK wt c a b = spl (fun m => sumK wt m - sa + lcK wt c1 m b + lcK wt c a m) (okM c b) (b - (m + 1)) (m + 1) (m, sm - sa + x + y)) := HS.out.trans (by simp)
          clear HS
          go_wp2_with fail
          refine HCN.out.mono ?_; rintro e w' ⟨rfl, rfl⟩
          go_wp2_with fail
          go_quiet ((first | (go_at_call 107; with_reducible exact quiet_same (H1 _)) | (go_at_call 107; with_reducible exact quiet_same (H2 _))))
          go_wp2_with fail
          go_roundw
          case rel => exact ⟨m + 1, _, _, by omega, by omega, rfl, rfl, by go_num, HS2.out, (HWd _).out⟩
          case measure => simp [intOf]; omega
        · have hz0 : ((at_ : Int) == 0) = false := by simp; omega
          by_cases hcost : sm - sa + x + y < best
          · have HS2 : Hid (spK wt c a b = spl (fun m => sumK wt m - sa + lcK wt c1 m b + lcK wt c a m) (okM c b) (b - (m + 1)) (m + 1) (m, sm - sa + x + y)) := HS.out.trans (by rw [if_pos (by trivial), if_pos (.inr hcost)])
            clear HS
            go_wp2_with fail
            refine HCN.out.mono ?_; rintro e w' ⟨rfl, rfl⟩
            go_wp2_with fail
            go_quiet ((first | (go_at_call 107; with_reducible exact quiet_same (H1 _)) | (go_at_call 107; with_reducible exact quiet_same (H2 _))))
            go_wp2_with fail
            go_roundw
            case rel => exact ⟨m + 1, _, _, by omega, by omega, rfl, rfl, by go_num, HS2.out, (HWd _).out⟩
            case measure => simp [intOf]; omega
          · have HS2 : Hid (spK wt c a b = spl (fun m => sumK wt m - sa + lcK wt c1 m b + lcK wt c a m) (okM c b) (b - (m + 1)) (m + 1) (at_, best)) := HS.out.trans (by rw [if_pos (by trivial), if_neg (by omega)])
            clear HS
            go_wp2_with fail
            refine HCN.out.mono ?_; rintro e w' ⟨rfl, rfl⟩
            go_wp2_with fail
            go_quiet ((first | (go_at_call 107; with_reducible exact quiet_same (H1 _)) | (go_at_call 107; with_reducible exact quiet_same (H2 _))))
            go_wp2_with fail
            go_roundw
            case rel => exact ⟨m + 1, _, _, by omega, by omega, rfl, rfl, by go_num, HS2.out, (HWd _).out⟩
            case measure => simp [intOf]; omega
    · have hii : ¬ (m : Int) < (b : Int) := by omega
      have HS : Hid (spK wt c a b = (at_, best)) := by show _ = _; rw [HG.out, show b - m = 0 by omega]; rfl
      clear HG
      go_wp2_with fail
      go_ret2
      exact ⟨by rw [HS.out]; rfl, hbw⟩

end Go.Proofs.Ytleebjjikpmgoaa
