/- The model: which programs are valid. -/
import Derived.Test.YtldbhhocoolloaaGreatSx
namespace Go.Proofs.YtldbhhocoolloaaGreat
open Go.RowKit
set_option linter.unusedVariables false

theorem progB_t {fs : List Fn} (h : fs.length ≤ 16) (h2 : ∀ t, t < fs.length → fnB fs t = true) : progB fs = true := by
  unfold progB
  rw [decide_eq_true h, Bool.true_and, List.all_eq_true]
  intro x hx
  exact h2 x (by simpa using hx)
theorem progB_f {fs : List Fn} {t : Nat} (h : t < fs.length) (h2 : fnB fs t = false) : progB fs = false := by
  unfold progB
  have : (List.range fs.length).all (fnB fs) = false := by
    rw [List.all_eq_false]
    exact ⟨t, by simpa using h, by rw [h2]; simp⟩
  rw [this, Bool.and_false]
theorem progB_long {fs : List Fn} (h : ¬ fs.length ≤ 16) : progB fs = false := by
  unfold progB
  rw [decide_eq_false h, Bool.false_and]

set_option maxRecDepth 100000 in
set_option maxHeartbeats 3200000 in
theorem sOkP (fs : List Fn) (bp op : Nat) (ap : Option Addr) (capp : Nat) (w : World)
    (hp : w.cell? ⟨bp, op, none⟩ = some (.slice ap fs.length capp)) (hP : Pat w 0 w.heap.size fs ap) (hsz : pgSize fs ≤ 1048576) :
    Calls Tryz.prog 109 #[.pointer (some ⟨bp, op, none⟩)] w (Quiet (.bool (progB fs)) w) := by
  have hl : fs.length ≤ 1048576 := by unfold pgSize at hsz; omega
  by_cases h16 : fs.length ≤ 16
  · have hd : decide (16 < fs.length) = false := decide_eq_false (by omega)
    have hd2 : ¬ (16 : Int) < (fs.length : Int) := by omega
    go_enter Tryz.func109, Tryz.ntmps109
    go_wp2_with fail
    go_loopw [3] (fun q wr => ∃ i : Nat, i ≤ fs.length ∧ q = .int .i64 i ∧ Hid (∀ t, t < i → fnB fs t = true) ∧ Hid (∃ m, wr = w.drewN m)) (fun q _ => fs.length - (intOf q).toNat)
    case atStart => exact ⟨0, Nat.zero_le _, rfl, (fun t ht => by omega), ⟨0, rfl⟩⟩
    case round =>
      obtain ⟨i, hi, rfl, HX, HQ⟩ := hrel
      have gp : wr.cell? ⟨bp, op, none⟩ = some (.slice ap fs.length capp) := by obtain ⟨q', hq'⟩ := HQ.out; rw [hq']; exact hp
      by_cases hlt : i < fs.length
      · have hii : (i : Int) < (fs.length : Int) := by omega
        have hPw : Pat wr 0 wr.heap.size fs ap := by obtain ⟨q', hq'⟩ := HQ.out; rw [hq']; exact hP.agree (w' := w.drewN q') (fun _ _ _ => rfl)
        have HC := Lib.hid (sFunc fs bp op ap capp i wr gp hPw hlt hsz)
        have HQ2 : ∀ r, Hid (∃ m, wr.drewN r = w.drewN m) := fun r => by
          obtain ⟨q', hq'⟩ := HQ.out
          exact ⟨q' + r, by rw [hq', World.drewN_drewN]⟩
        clear hPw hP hp HQ
        cases hb : fnB fs i with
        | true =>
          have HX2 : Hid (∀ t, t < i + 1 → fnB fs t = true) := by
            intro t ht
            by_cases hti : t = i
            · rw [hti]; exact hb
            · exact HX.out t (by omega)
          rw [hb] at HC
          clear hb HX
          go_wp2_with fail
          refine (HC.out).mono ?_; rintro e w' ⟨rfl, hq⟩
          obtain ⟨q, rfl⟩ := hq
          go_wp2_with fail
          go_roundw
          case rel => exact ⟨i + 1, by omega, by go_num, HX2, HQ2 _⟩
          case measure => simp [intOf]; omega
        | false =>
          have HF := Lib.hid (progB_f hlt hb)
          rw [hb] at HC
          clear hb HX
          go_wp2_with fail
          refine (HC.out).mono ?_; rintro e w' ⟨rfl, hq⟩
          obtain ⟨q, rfl⟩ := hq
          go_wp2_with fail
          go_ret
          exact ⟨ret_bool HF.out.symm, (HQ2 _).out⟩
      · have hii : ¬ (i : Int) < (fs.length : Int) := by omega
        have HF := Lib.hid (progB_t h16 (fun t ht => HX.out t (by omega)))
        clear HX hP hp
        go_wp2_with fail
        go_ret
        exact ⟨ret_bool HF.out.symm, HQ.out⟩
  · have hd : decide (16 < fs.length) = true := decide_eq_true (by omega)
    have hd2 : (16 : Int) < (fs.length : Int) := by omega
    have HF := Lib.hid (progB_long h16)
    clear hP
    go_enter Tryz.func109, Tryz.ntmps109
    go_wp2_with fail
    go_ret
    exact ⟨ret_bool HF.out.symm, 0, rfl⟩

end Go.Proofs.YtldbhhocoolloaaGreat
