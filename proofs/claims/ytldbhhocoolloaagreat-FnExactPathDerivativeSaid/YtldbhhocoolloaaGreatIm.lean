/- The program: which programs and expressions are valid. -/
import Derived.Test.YtldbhhocoolloaaGreatIl
import Derived.StillTailTactics
namespace Go.Proofs.YtldbhhocoolloaaGreat
open Go.RowKit
set_option linter.unusedVariables false

set_option maxRecDepth 100000 in
set_option maxHeartbeats 6400000 in
theorem iValidProgram (fs : List Fn) (ap : Option Addr) (capp : Nat) (w : World) (hP : Pat w 0 w.heap.size fs ap) (hsz : pgSize fs ≤ 1048576) (hcap : fs.length ≤ capp) (hcm : capp ≤ 1048576) :
    Calls Tryz.prog 94 #[.agg #[.slice ap fs.length capp]] w fun e w' => e = .returned (.bool (progB fs)) ∧ Below w.heap.size w w' := by
  have hl : fs.length ≤ 1048576 := by unfold pgSize at hsz; omega
  have B1 : ∀ o, Below w.heap.size w (w.alloc o) := fun o => (Below.refl _ _).alloc (Nat.le_refl _) o
  by_cases h16 : fs.length ≤ 16
  · have hd2 : ¬ (16 : Int) < (fs.length : Int) := by omega
    have hb0 := B1 (.cells #[.slice ap fs.length capp] 31)
    have c0 : (w.alloc (.cells #[.slice ap fs.length capp] 31)).cell? ⟨w.heap.size, 0, none⟩ = some (.slice ap fs.length capp) := by simp [go_sem]
    obtain ⟨w1, hw1⟩ : ∃ w1, w1 = w.alloc (.cells #[.slice ap fs.length capp] 31) := ⟨_, rfl⟩
    rw [← hw1] at hb0 c0
    have z1 : w1.heap.size = w.heap.size + 1 := by rw [hw1]; simp
    have hb1 : Below w1.heap.size w1 w1 := Below.refl _ _
    go_enter Tryz.func94, Tryz.ntmps94
    go_wp2_with fail
    rw [← hw1]
    clear hw1 B1
    go_loopw [11] (fun q wr => ∃ i : Nat, i ≤ fs.length ∧ q = .int .i64 i ∧ Hid (∀ t, t < i → fnB fs t = true) ∧ Below w1.heap.size w1 wr) (fun q _ => fs.length - (intOf q).toNat)
    case atStart => exact ⟨0, Nat.zero_le _, rfl, (fun t ht => by omega), hb1⟩
    case round =>
      obtain ⟨i, hi, rfl, HX, hw⟩ := hrel
      have hB : Below w.heap.size w wr := hb0.trans (hw.mono (by omega))
      have c1 := (hw.cell (p := ⟨w.heap.size, 0, none⟩) (by show w.heap.size < _; omega)).trans c0
      clear c0 hb1
      by_cases hlt : i < fs.length
      · have hii : (i : Int) < (fs.length : Int) := by omega
        have hic : (i : Int) ≤ (capp : Int) := by omega
        have hicn : i ≤ capp := by omega
        obtain ⟨bf, of, rfl, hbB, hall⟩ := ((hP.below hB).resolve_left (by intro e; rw [e] at hlt; simp at hlt))
        obtain ⟨hr, af, cf, f0, f1, f2, hFk⟩ := hall i hlt
        have HC := fun (W : World) (hW : Below wr.heap.size wr W) => Lib.hid (iFunc fs (some ⟨bf, of, none⟩) i capp (fs.getD i noFn) af cf W ((hP.below (hB.trans (hW.mono hB.size))).mono (Nat.le_refl _) (Nat.le_trans hB.size hW.size)) hlt rfl ((hFk.below (hW.mono hB.size)).mono (Nat.le_refl _) (Nat.le_trans hB.size hW.size)) hr hsz)
        clear hall hP hFk hr
        have hfk : Hid ((fs.getD i noFn).name.size = (fs.getD i noFn).name.size) := rfl
        cases hb : fnB fs i with
        | true =>
          have HX2 : Hid (∀ t, t < i + 1 → fnB fs t = true) := by
            intro t ht
            by_cases hti : t = i
            · rw [hti]; exact hb
            · exact HX.out t (by omega)
          rw [hb] at HC
          clear hb HX hfk
          generalize fs.getD i noFn = f at f0 f1 f2 HC
          go_wp2_with fail
          go_still_tail 9, (by kernel_rfl)
          change wpList _ _ _ _ _ wr.drew
          have hdw : Below wr.heap.size wr wr.drew := below_drew (Below.refl _ _)
          have HC2 := HC _ hdw
          clear HC
          generalize wr.drew = w2 at hdw HC2 ⊢
          clear f0 f1 f2 c1
          go_wp2_with fail
          refine (HC2.out).mono ?_; rintro e w' ⟨rfl, hb2⟩
          have hw2 := hw.trans ((hdw.trans (hb2.mono hdw.size)).mono hw.size)
          clear HC2
          go_wp2_with fail
          go_roundw
          case rel => exact ⟨i + 1, by omega, by go_num, HX2, hw2⟩
          case measure => simp [intOf]; omega
        | false =>
          have HF := Lib.hid (progB_f hlt hb)
          rw [hb] at HC
          clear hb HX hfk
          generalize fs.getD i noFn = f at f0 f1 f2 HC
          go_wp2_with fail
          go_still_tail 9, (by kernel_rfl)
          change wpList _ _ _ _ _ wr.drew
          have hdw : Below wr.heap.size wr wr.drew := below_drew (Below.refl _ _)
          have HC2 := HC _ hdw
          clear HC
          generalize wr.drew = w2 at hdw HC2 ⊢
          clear f0 f1 f2 c1
          go_wp2_with fail
          refine (HC2.out).mono ?_; rintro e w' ⟨rfl, hb2⟩
          have hw2 := hB.trans ((hdw.trans (hb2.mono hdw.size)).mono hB.size)
          clear HC2
          go_wp2_with fail
          go_ret
          exact ⟨ret_bool HF.out.symm, hw2⟩
      · have hii : ¬ (i : Int) < (fs.length : Int) := by omega
        have HF := Lib.hid (progB_t h16 (fun t ht => HX.out t (by omega)))
        clear HX hP c1
        go_wp2_with fail
        go_ret
        exact ⟨ret_bool HF.out.symm, hB⟩
  · have hd2 : (16 : Int) < (fs.length : Int) := by omega
    have HF := Lib.hid (progB_long h16)
    clear hP
    go_enter Tryz.func94, Tryz.ntmps94
    go_wp2_with fail
    go_ret
    exact ⟨ret_bool HF.out.symm, B1 _⟩

end Go.Proofs.YtldbhhocoolloaaGreat
