/- Square matrices: by the model, by the program. -/
import Derived.Test.YtiimebiecihpkaaMxb
import Derived.Test.YtiimebiecihpkaaAre
namespace Go.Proofs.Ytiimebiecihpkaa
open Go.RowKit
set_option linter.unusedVariables false

/-- a row of a square matrix of n rows -/
def sqR (n : Nat) (r : List Int) : Bool := decide (r.length = n) && okNums r
def sqB (ls : List (List Int)) : Bool := ls.all (sqR ls.length) && decide (ls.length ≤ 6)
theorem sqB_t {ls : List (List Int)} (h : sqB ls = true) : ls.length ≤ 6 ∧ ∀ i, i < ls.length → (ls.getD i []).length = ls.length ∧ Nums (ls.getD i []) := by
  unfold sqB at h
  rw [Bool.and_eq_true] at h
  refine ⟨of_decide_eq_true h.2, fun i hi => ?_⟩
  have := List.all_eq_true.1 h.1 (ls.getD i []) (by rw [List.getD_eq_getElem?_getD, List.getElem?_eq_getElem hi]; exact List.getElem_mem hi)
  unfold sqR at this
  rw [Bool.and_eq_true] at this
  exact ⟨of_decide_eq_true this.1, okNums_nums this.2⟩
theorem sq_take0 {ls : List (List Int)} : (ls.take 0).all (sqR ls.length) = true := by simp
theorem sq_step {ls : List (List Int)} {k : Nat} (hk : k < ls.length) (h : (ls.take k).all (sqR ls.length) = true) (h2 : sqR ls.length (ls.getD k []) = true) : (ls.take (k + 1)).all (sqR ls.length) = true := by
  rw [List.take_add_one, List.all_append, h, List.getElem?_eq_getElem hk]
  rw [List.getD_eq_getElem?_getD, List.getElem?_eq_getElem hk] at h2
  simpa using h2
theorem sq_bad {ls : List (List Int)} {k : Nat} (hk : k < ls.length) (h2 : sqR ls.length (ls.getD k []) = false) : sqB ls = false := by
  have : ls.all (sqR ls.length) = false := by
    rw [List.all_eq_false]
    exact ⟨ls.getD k [], by rw [List.getD_eq_getElem?_getD, List.getElem?_eq_getElem hk]; exact List.getElem_mem hk, by rw [h2]; simp⟩
  unfold sqB; rw [this, Bool.false_and]
theorem sq_full {ls : List (List Int)} (h : (ls.take ls.length).all (sqR ls.length) = true) : sqB ls = decide ((ls.length : Int) ≤ 6) := by
  rw [List.take_length] at h
  unfold sqB; rw [h, Bool.true_and]
  by_cases h2 : ls.length ≤ 6
  · rw [decide_eq_true h2, decide_eq_true (by omega)]
  · rw [decide_eq_false h2, decide_eq_false (by omega)]

set_option maxRecDepth 100000 in
set_option maxHeartbeats 1600000 in
theorem sSquare (a : Option Addr) (cap : Nat) (ls : List (List Int)) (w : World) (h : Mat w a ls) (hs : mSz ls ≤ 1048576) :
    Calls Try.prog 76 #[.slice a ls.length cap] w fun e w' => e = .returned (.bool (sqB ls)) ∧ w = w' := by
  have hll : ls.length ≤ 1048576 := by unfold mSz at hs; omega
  have HR := fun i => Lib.hid (mSz_row (i := i) hs)
  clear hs
  go_enter Try.func76, Try.ntmps76
  go_wp2_with fail
  go_loop [3] (fun q => ∃ k : Nat, k ≤ ls.length ∧ q = .int .i64 k ∧ Hid ((ls.take k).all (sqR ls.length) = true)) (fun q => ls.length - (intOf q).toNat)
  case atStart => exact ⟨0, Nat.zero_le _, rfl, sq_take0⟩
  case round =>
    obtain ⟨k, hk, rfl, HX⟩ := hrel
    by_cases hlt : k < ls.length
    · have hii : (k : Int) < (ls.length : Int) := by omega
      obtain ⟨b, off, rfl, hbl, hall⟩ := h.resolve_left (by intro e; rw [e] at hlt; simp at hlt)
      obtain ⟨ai, ci, c0, hat⟩ := hall k hlt
      have HC := Lib.hid (sNumbers ai ci (ls.getD k []) w hat (by have := (HR k).out; omega))
      have HS : Hid (sqR ls.length (ls.getD k []) = true → (ls.take (k + 1)).all (sqR ls.length) = true) := fun h2 => sq_step hlt HX.out h2
      have HF : Hid (sqR ls.length (ls.getD k []) = false → sqB ls = false) := fun h2 => sq_bad hlt h2
      clear hall hat HR HX
      generalize ls.getD k [] = x at *
      by_cases hln : x.length = ls.length
      · have hne : ((x.length : Int) != (ls.length : Int)) = false := by rw [hln]; simp
        cases hok : okNums x with
        | true =>
          have HN := Lib.hid (HS.out (by unfold sqR; rw [decide_eq_true hln, hok]; rfl))
          have HLN := Lib.hid hln
          rw [hok] at HC
          clear HS HF hok hln
          generalize x.length = m at *
          go_wp2_with fail
          with_reducible refine HC.out.mono ?_; rintro e w1 ⟨rfl, rfl⟩
          go_wp2_with fail
          go_round
          case rel => exact ⟨k + 1, by omega, by go_num, HN.out⟩
          case measure => simp [intOf]; omega
        | false =>
          have HN := Lib.hid (HF.out (by unfold sqR; rw [hok, Bool.and_false]))
          have HLN := Lib.hid hln
          rw [hok] at HC
          clear HS HF hok hln
          generalize x.length = m at *
          go_wp2_with fail
          with_reducible refine HC.out.mono ?_; rintro e w1 ⟨rfl, rfl⟩
          go_wp2_with fail
          go_ret
          exact ⟨ret_bool HN.out.symm, rfl⟩
      · have hne : ((x.length : Int) != (ls.length : Int)) = true := by simp; omega
        have HN := Lib.hid (HF.out (by unfold sqR; rw [decide_eq_false hln, Bool.false_and]))
        clear HS HF hln HC
        generalize x.length = m at *
        go_wp2_with fail
        go_ret
        exact ⟨ret_bool HN.out.symm, rfl⟩
    · have hii : ¬ (k : Int) < (ls.length : Int) := by omega
      obtain rfl : k = ls.length := by omega
      have HE := Lib.hid (sq_full HX.out)
      clear HX h
      go_wp2_with fail
      go_ret
      exact ⟨ret_bool HE.out.symm, rfl⟩

set_option maxRecDepth 100000 in
set_option maxHeartbeats 1600000 in
theorem iSquare (a : Option Addr) (cap : Nat) (ls : List (List Int)) (w : World) (h : Mat w a ls) (hs : mSz ls ≤ 1048576) :
    Calls Try.prog 80 #[.slice a ls.length cap] w fun e w' => e = .returned (.bool (sqB ls)) ∧ w = w' := by
  have hll : ls.length ≤ 1048576 := by unfold mSz at hs; omega
  have HR := fun i => Lib.hid (mSz_row (i := i) hs)
  clear hs
  go_enter Try.func80, Try.ntmps80
  go_wp2_with fail
  go_loop [7] (fun q => ∃ k : Nat, k ≤ ls.length ∧ q = .int .i64 k ∧ Hid ((ls.take k).all (sqR ls.length) = true)) (fun q => ls.length - (intOf q).toNat)
  case atStart => exact ⟨0, Nat.zero_le _, rfl, sq_take0⟩
  case round =>
    obtain ⟨k, hk, rfl, HX⟩ := hrel
    by_cases hlt : k < ls.length
    · have hii : (k : Int) < (ls.length : Int) := by omega
      obtain ⟨b, off, rfl, hbl, hall⟩ := h.resolve_left (by intro e; rw [e] at hlt; simp at hlt)
      obtain ⟨ai, ci, c0, hat⟩ := hall k hlt
      have HC := Lib.hid (iAre ai ci (ls.getD k []) (ls.length : Int) w hat (HR k).out)
      have HV : Hid (areB (ls.getD k []) (ls.length : Int) = sqR ls.length (ls.getD k [])) := by
        show _ = _
        by_cases hln : (ls.getD k []).length = ls.length
        · rw [areB_of (by omega)]; unfold sqR; rw [decide_eq_true hln, Bool.true_and]
        · rw [areB_len (by omega)]; unfold sqR; rw [decide_eq_false hln, Bool.false_and]
      have HS : Hid (sqR ls.length (ls.getD k []) = true → (ls.take (k + 1)).all (sqR ls.length) = true) := fun h2 => sq_step hlt HX.out h2
      have HF : Hid (sqR ls.length (ls.getD k []) = false → sqB ls = false) := fun h2 => sq_bad hlt h2
      rw [HV.out] at HC
      clear hall hat HR HX HV
      generalize ls.getD k [] = x at *
      cases hok : sqR ls.length x with
      | true =>
        have HN := Lib.hid (HS.out hok)
        rw [hok] at HC
        clear HS HF hok
        generalize x.length = m at *
        go_wp2_with fail
        with_reducible refine HC.out.mono ?_; rintro e w1 ⟨rfl, rfl⟩
        go_wp2_with fail
        go_round
        case rel => exact ⟨k + 1, by omega, by go_num, HN.out⟩
        case measure => simp [intOf]; omega
      | false =>
        have HN := Lib.hid (HF.out hok)
        rw [hok] at HC
        clear HS HF hok
        generalize x.length = m at *
        go_wp2_with fail
        with_reducible refine HC.out.mono ?_; rintro e w1 ⟨rfl, rfl⟩
        go_wp2_with fail
        go_ret
        exact ⟨ret_bool HN.out.symm, rfl⟩
    · have hii : ¬ (k : Int) < (ls.length : Int) := by omega
      obtain rfl : k = ls.length := by omega
      have HE := Lib.hid (sq_full HX.out)
      clear HX h
      go_wp2_with fail
      go_ret
      exact ⟨ret_bool HE.out.symm, rfl⟩

end Go.Proofs.Ytiimebiecihpkaa
