/- Lists of so many numbers, by the program. -/
import Derived.Test.YtldbhhocoolloaaGreatTai
import Derived.Test.YtldbhhocoolloaaGreatTao
namespace Go.Proofs.YtldbhhocoolloaaGreat
open Go.RowKit
set_option linter.unusedVariables false

/-- so many numbers -/
def areB (l : List Int) (n : Int) : Bool := decide ((l.length : Int) = n) && okNums l
theorem areB_len {l : List Int} {n : Int} (h : ¬ (l.length : Int) = n) : areB l n = false := by unfold areB; rw [decide_eq_false h, Bool.false_and]
theorem areB_of {l : List Int} {n : Int} (h : (l.length : Int) = n) : areB l n = okNums l := by unfold areB; rw [decide_eq_true h, Bool.true_and]
set_option maxRecDepth 100000 in
set_option maxHeartbeats 1600000 in
theorem iAre (a : Option Addr) (ca : Nat) (l : List Int) (n : Int) (w : World) (hA : At w a l) (hl : l.length ≤ 1048576) :
    Calls Tryz.prog 88 #[.slice a l.length ca, .int .i64 n] w fun e w' => e = .returned (.bool (areB l n)) ∧ w = w' := by
  by_cases h1 : (l.length : Int) = n
  · have hne : ((l.length : Int) != n) = false := by simp [h1]
    have hnn : n = (l.length : Int) := h1.symm
    have H0 := Lib.hid (okNums_take_zero l)
    have HA := Lib.hid (areB_of h1)
    subst hnn
    clear h1
    go_enter Tryz.func88, Tryz.ntmps88
    go_wp2_with fail
    go_loopw [13] (fun q wr => ∃ i : Nat, i ≤ l.length ∧ q = .int .i64 i ∧ Hid (okNums (l.take i) = true) ∧ wr = w) (fun q _ => l.length - (intOf q).toNat)
    case atStart => exact ⟨0, Nat.zero_le _, rfl, H0, rfl⟩
    case round =>
      obtain ⟨i, hi, rfl, HX, rfl⟩ := hrel
      by_cases hlt : i < l.length
      · have hii : (i : Int) < (l.length : Int) := by omega
        obtain ⟨bf, of, rfl, hbB, hall⟩ := (hA.resolve_left (by intro e; rw [e] at hlt; simp at hlt))
        have f0 := hall i hlt
        have HC := Lib.hid (tIx (l.getD i 0) 1000003 wr)
        rw [← okNum_ix] at HC
        cases hb : okNum (l.getD i 0) with
        | true =>
          have HX2 := Lib.hid (okNums_succ hlt HX.out hb)
          rw [hb] at HC
          clear hall HX hA hb H0
          generalize l.getD i 0 = x at f0 HC
          go_wp2_with fail
          refine HC.out.mono ?_; rintro e w1 ⟨rfl, rfl⟩
          go_wp2_with fail
          go_roundw
          case rel => exact ⟨i + 1, by omega, by go_num, HX2, by trivial⟩
          case measure => simp [intOf]; omega
        | false =>
          have HX2 := Lib.hid (okNums_bad hlt hb)
          rw [hb] at HC
          clear hall HX hA hb H0
          generalize l.getD i 0 = x at f0 HC
          go_wp2_with fail
          refine HC.out.mono ?_; rintro e w1 ⟨rfl, rfl⟩
          go_wp2_with fail
          go_ret
          exact ⟨ret_bool (HA.out.trans HX2.out).symm, rfl⟩
      · have hii : ¬ (i : Int) < (l.length : Int) := by omega
        have hki : i = l.length := by omega
        subst hki
        have HX2 := Lib.hid (show okNums l = true by have := HX.out; rwa [List.take_length] at this)
        clear HX hA H0
        go_wp2_with fail
        go_ret
        exact ⟨ret_bool (HA.out.trans HX2.out).symm, rfl⟩
  · have hne : ((l.length : Int) != n) = true := by simp [h1]
    have HF := Lib.hid (areB_len h1)
    clear h1
    go_enter Tryz.func88, Tryz.ntmps88
    go_wp2_with fail
    go_ret
    exact ⟨ret_bool HF.out.symm, rfl⟩

end Go.Proofs.YtldbhhocoolloaaGreat
