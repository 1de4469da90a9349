/- Names: the model's and the program's. -/
import Derived.Test.YtldbhhocoolloaaGreatFrame
namespace Go.Proofs.YtldbhhocoolloaaGreat
open Go.RowKit
set_option linter.unusedVariables false

def lowB (c : UInt8) : Bool := decide (97 ≤ c.toNat ∧ c.toNat ≤ 122)
def alnB (c : UInt8) : Bool := decide (97 ≤ c.toNat ∧ c.toNat ≤ 122 ∨ 48 ≤ c.toNat ∧ c.toNat ≤ 57)
/-- a name -/
def isNm (s : ByteArray) : Bool := decide (1 ≤ s.size ∧ s.size ≤ 12) && lowB (s.data.toList.getD 0 0) && s.data.toList.all alnB
/-- how many small letters and digits a text begins with -/
def wlen (l : List UInt8) : Nat := (l.takeWhile alnB).length

theorem byte_at {s : ByteArray} {k : Nat} (h : k < s.size) : s.data.toList.getD k 0 = s[k] := by
  rw [List.getD_eq_getElem?_getD, List.getElem?_eq_getElem (by simpa using h)]; rfl
theorem aln_cases (x : Nat) : (x < 48) ∨ (48 ≤ x ∧ x ≤ 57) ∨ (57 < x ∧ x < 97) ∨ (97 ≤ x ∧ x ≤ 122) ∨ 122 < x := by omega
theorem alnB_t {c : UInt8} (h : 97 ≤ c.toNat ∧ c.toNat ≤ 122 ∨ 48 ≤ c.toNat ∧ c.toNat ≤ 57) : alnB c = true := by simp [alnB, h]
theorem alnB_f {c : UInt8} (h : ¬ (97 ≤ c.toNat ∧ c.toNat ≤ 122 ∨ 48 ≤ c.toNat ∧ c.toNat ≤ 57)) : alnB c = false := by simp only [alnB, h, decide_false]
theorem all_take_succ {l : List UInt8} {k : Nat} (hk : k < l.length) (h : (l.take k).all alnB = true) (h2 : alnB (l.getD k 0) = true) : (l.take (k + 1)).all alnB = true := by
  rw [List.take_succ_eq_append_getElem hk, List.all_append, h]
  rw [List.getD_eq_getElem?_getD, List.getElem?_eq_getElem hk] at h2
  simpa using h2
theorem all_badN {l : List UInt8} {k : Nat} (hk : k < l.length) (h2 : alnB (l.getD k 0) = false) : l.all alnB = false := by
  rw [List.all_eq_false]
  rw [List.getD_eq_getElem?_getD, List.getElem?_eq_getElem hk] at h2
  exact ⟨l[k], List.getElem_mem hk, by simpa using h2⟩
theorem wlen_le (l : List UInt8) : wlen l ≤ l.length := List.Sublist.length_le (List.takeWhile_sublist _)
theorem wlen_iff (l : List UInt8) : decide (wlen l = l.length) = l.all alnB := by
  induction l with
  | nil => rfl
  | cons a l ih =>
    have h1 := wlen_le l
    cases ha : alnB a with
    | true =>
      have e : wlen (a :: l) = wlen l + 1 := by unfold wlen; rw [List.takeWhile_cons, ha]; rfl
      rw [e, List.all_cons, ha, Bool.true_and, ← ih, List.length_cons]
      simp
    | false =>
      have e : wlen (a :: l) = 0 := by unfold wlen; rw [List.takeWhile_cons, ha]; rfl
      rw [e, List.all_cons, ha]
      simp
theorem wlen_stop {l : List UInt8} {k : Nat} (hk : k < l.length) (h : (l.take k).all alnB = true) (h2 : alnB (l.getD k 0) = false) : wlen l = k := by
  unfold wlen
  have e : l = l.take k ++ l.drop k := (List.take_append_drop k l).symm
  rw [e, List.takeWhile_append_of_pos (List.all_eq_true.1 h), List.drop_eq_getElem_cons hk, List.takeWhile_cons]
  rw [List.getD_eq_getElem?_getD, List.getElem?_eq_getElem hk] at h2
  have h3 : alnB l[k] = false := by simpa using h2
  rw [h3]
  simp
  omega
theorem wlen_end {l : List UInt8} (h : l.all alnB = true) : wlen l = l.length := by have := wlen_iff l; rw [h] at this; simpa using this

set_option maxRecDepth 100000 in
set_option maxHeartbeats 1600000 in
theorem iWord (s : ByteArray) (w : World) (hs : s.size ≤ 9223372036854775806) :
    Calls Tryz.prog 159 #[.string s] w fun e w' => e = .returned (.int .i64 (wlen s.data.toList)) ∧ w = w' := by
  have hl : s.data.toList.length = s.size := Array.length_toList
  have HL := Lib.hid hl
  have h0 : Hid ((s.data.toList.take 0).all alnB = true) := rfl
  clear hl
  go_enter Tryz.func159, Tryz.ntmps159
  go_wp2
  go_loop [3, 4, 5, 8] (fun _ _ _ i => ∃ k : Nat, k ≤ s.size ∧ i = .int .i64 k ∧ Hid ((s.data.toList.take k).all alnB = true)) (fun _ _ _ i => s.size - (intOf i).toNat)
  case atStart => exact ⟨0, Nat.zero_le _, rfl, h0⟩
  case round =>
    obtain ⟨k, hk, rfl, hok⟩ := hrel
    by_cases hlt : k < s.size
    · have hat := byte_at hlt
      have hsn := fun h => all_take_succ (l := s.data.toList) (k := k) (by rw [HL.out]; exact hlt) hok.out h
      have hst := fun h => wlen_stop (l := s.data.toList) (k := k) (by rw [HL.out]; exact hlt) hok.out h
      rw [hat] at hsn hst
      clear hat hok h0
      rcases aln_cases s[k].toNat with h | ⟨h1, h2⟩ | ⟨h1, h2⟩ | ⟨h1, h2⟩ | h
      · have HB := Lib.hid (hst (alnB_f (by omega)))
        have d0 : decide (97 ≤ (s[k].toNat : Int)) = false := decide_eq_false (by omega)
        have d1 : decide (48 ≤ (s[k].toNat : Int)) = false := decide_eq_false (by omega)
        clear hsn hst h
        go_wp2
        go_ret
        exact ⟨ret_int (by rw [HB.out]), rfl⟩
      · have HB := Lib.hid (hsn (alnB_t (by omega)))
        have d0 : decide (97 ≤ (s[k].toNat : Int)) = false := decide_eq_false (by omega)
        have d1 : decide (48 ≤ (s[k].toNat : Int)) = true := decide_eq_true (by omega)
        have d2 : decide ((s[k].toNat : Int) ≤ 57) = true := decide_eq_true (by omega)
        clear hsn hst h1 h2
        go_wp2
        go_round
        case rel => exact ⟨k + 1, by omega, by go_num, HB⟩
        case measure => simp [intOf]; omega
      · have HB := Lib.hid (hst (alnB_f (by omega)))
        have d0 : decide (97 ≤ (s[k].toNat : Int)) = false := decide_eq_false (by omega)
        have d1 : decide (48 ≤ (s[k].toNat : Int)) = true := decide_eq_true (by omega)
        have d2 : decide ((s[k].toNat : Int) ≤ 57) = false := decide_eq_false (by omega)
        clear hsn hst h1 h2
        go_wp2
        go_ret
        exact ⟨ret_int (by rw [HB.out]), rfl⟩
      · have HB := Lib.hid (hsn (alnB_t (by omega)))
        have d0 : decide (97 ≤ (s[k].toNat : Int)) = true := decide_eq_true (by omega)
        have d1 : decide ((s[k].toNat : Int) ≤ 122) = true := decide_eq_true (by omega)
        have d2 : decide (48 ≤ (s[k].toNat : Int)) = true := decide_eq_true (by omega)
        have d3 : decide ((s[k].toNat : Int) ≤ 57) = false := decide_eq_false (by omega)
        clear hsn hst h1 h2
        go_wp2
        go_round
        case rel => exact ⟨k + 1, by omega, by go_num, HB⟩
        case measure => simp [intOf]; omega
      · have HB := Lib.hid (hst (alnB_f (by omega)))
        have d0 : decide (97 ≤ (s[k].toNat : Int)) = true := decide_eq_true (by omega)
        have d1 : decide ((s[k].toNat : Int) ≤ 122) = false := decide_eq_false (by omega)
        have d2 : decide (48 ≤ (s[k].toNat : Int)) = true := decide_eq_true (by omega)
        have d3 : decide ((s[k].toNat : Int) ≤ 57) = false := decide_eq_false (by omega)
        clear hsn hst h
        go_wp2
        go_ret
        exact ⟨ret_int (by rw [HB.out]), rfl⟩
    · have hkk : k = s.size := by omega
      have HB : Hid (wlen s.data.toList = s.size) := by
        have := hok.out
        rw [hkk, ← HL.out, List.take_length] at this
        exact (wlen_end this).trans HL.out
      clear hok h0
      go_wp2
      go_ret
      exact ⟨ret_int (by rw [HB.out]), rfl⟩

theorem isNm_bad {s : ByteArray} (h : ¬ (1 ≤ s.size ∧ s.size ≤ 12)) : isNm s = false := by simp only [isNm, h, decide_false, Bool.false_and]
theorem lowB_f {c : UInt8} (h : ¬ (97 ≤ c.toNat ∧ c.toNat ≤ 122)) : lowB c = false := by simp only [lowB, h, decide_false]
theorem isNm_first {s : ByteArray} (h : 0 < s.size) (h2 : lowB s[0] = false) : isNm s = false := by
  have e := byte_at h
  unfold isNm
  rw [e, h2, Bool.and_false, Bool.false_and]
theorem isNm_rest {s : ByteArray} (h : 1 ≤ s.size ∧ s.size ≤ 12) (h0 : 0 < s.size) (h2 : 97 ≤ s[0].toNat ∧ s[0].toNat ≤ 122) : isNm s = s.data.toList.all alnB := by
  have e := byte_at h0
  unfold isNm
  rw [e, show lowB s[0] = true from by simp [lowB, h2], decide_eq_true h, Bool.true_and, Bool.true_and]
theorem isNm_high {s : ByteArray} (h0 : 0 < s.size) (h2 : 122 < s[0].toNat) : s.data.toList.all alnB = false :=
  all_badN (k := 0) (by rw [Array.length_toList]; exact h0) (by rw [byte_at h0]; exact alnB_f (by omega))

set_option maxRecDepth 100000 in
set_option maxHeartbeats 1600000 in
theorem iName (s : ByteArray) (w : World) (hs : s.size ≤ 9223372036854775806) :
    Calls Tryz.prog 143 #[.string s] w fun e w' => e = .returned (.bool (isNm s)) ∧ w = w' := by
  by_cases hsz : 1 ≤ s.size ∧ s.size ≤ 12
  · have h0 : 0 < s.size := by omega
    have hwl := wlen_iff s.data.toList
    have hl : s.data.toList.length = s.size := Array.length_toList
    have hi1 : ¬ (s.size : Int) < 1 := by omega
    have hi2 : ¬ (12 : Int) < (s.size : Int) := by omega
    by_cases hc : s[0].toNat < 97
    · have hfin := Lib.hid (isNm_first h0 (lowB_f (c := s[0]) (by omega)))
      have d0 : decide ((s[0].toNat : Int) < 97) = true := decide_eq_true (by omega)
      clear hc hwl hl
      go_enter Tryz.func143, Tryz.ntmps143
      go_wp2_with fail
      go_ret
      exact ⟨ret_bool hfin.out.symm, rfl⟩
    · have hfin : Hid (isNm s = decide (wlen s.data.toList = s.size)) := by
        show _ = _
        rw [hl] at hwl
        rw [hwl]
        by_cases hc2 : s[0].toNat ≤ 122
        · exact isNm_rest hsz h0 (by omega)
        · rw [isNm_first h0 (lowB_f (c := s[0]) (by omega)), isNm_high h0 (by omega)]
      have d0 : decide ((s[0].toNat : Int) < 97) = false := decide_eq_false (by omega)
      clear hc hwl hl
      go_enter Tryz.func143, Tryz.ntmps143
      go_wp2_with fail
      refine (iWord s _ hs).mono ?_; rintro e w' ⟨rfl, rfl⟩
      go_wp2_with fail
      go_ret
      refine ⟨ret_bool ?_, rfl⟩
      rw [hfin.out]
      by_cases he : wlen s.data.toList = s.size
      · simp [he]
      · have : ¬ ((wlen s.data.toList : Int) = (s.size : Int)) := by omega
        simp [he, this]
  · have hfin := Lib.hid (isNm_bad hsz)
    by_cases h1 : s.size < 1
    · have hi1 : (s.size : Int) < 1 := by omega
      clear hsz h1
      go_enter Tryz.func143, Tryz.ntmps143
      go_wp2_with fail
      go_ret
      exact ⟨ret_bool hfin.out.symm, rfl⟩
    · have hi1 : ¬ (s.size : Int) < 1 := by omega
      have hi2 : (12 : Int) < (s.size : Int) := by omega
      clear hsz h1
      go_enter Tryz.func143, Tryz.ntmps143
      go_wp2_with fail
      go_ret
      exact ⟨ret_bool hfin.out.symm, rfl⟩

set_option maxRecDepth 100000 in
set_option maxHeartbeats 1600000 in
theorem sName (s : ByteArray) (w : World) (hs : s.size ≤ 9223372036854775806) :
    Calls Tryz.prog 153 #[.string s] w fun e w' => e = .returned (.bool (isNm s)) ∧ w = w' := by
  by_cases hsz : 1 ≤ s.size ∧ s.size ≤ 12
  · have h0 : 0 < s.size := by omega
    have hj0 : (0 : Int) < (s.size : Int) := by omega
    rcases (by omega : s[0].toNat < 97 ∨ 122 < s[0].toNat ∨ (97 ≤ s[0].toNat ∧ s[0].toNat ≤ 122)) with hc | hc | hc
    · have hfin := Lib.hid (isNm_first h0 (lowB_f (c := s[0]) (by omega)))
      have d0 : decide ((s[0].toNat : Int) < 97) = true := decide_eq_true (by omega)
      clear hc
      go_enter Tryz.func153, Tryz.ntmps153
      go_wp2_with fail
      refine (inT _ 1 12 (by omega) (by omega) _).mono ?_; rintro e w' ⟨rfl, rfl⟩
      go_wp2_with fail
      go_ret
      exact ⟨ret_bool hfin.out.symm, rfl⟩
    · have hfin := Lib.hid (isNm_first h0 (lowB_f (c := s[0]) (by omega)))
      have d0 : decide ((s[0].toNat : Int) < 97) = false := decide_eq_false (by omega)
      have d1 : decide ((122 : Int) < (s[0].toNat : Int)) = true := decide_eq_true (by omega)
      clear hc
      go_enter Tryz.func153, Tryz.ntmps153
      go_wp2_with fail
      refine (inT _ 1 12 (by omega) (by omega) _).mono ?_; rintro e w' ⟨rfl, rfl⟩
      go_wp2_with fail
      go_ret
      exact ⟨ret_bool hfin.out.symm, rfl⟩
    · have hrest := Lib.hid (isNm_rest hsz h0 hc)
      have d0 : decide ((s[0].toNat : Int) < 97) = false := decide_eq_false (by omega)
      have d1 : decide ((122 : Int) < (s[0].toNat : Int)) = false := decide_eq_false (by omega)
      have HL : Hid (s.data.toList.length = s.size) := Array.length_toList
      have hs0 : Hid ((s.data.toList.take 0).all alnB = true) := rfl
      clear hc
      go_enter Tryz.func153, Tryz.ntmps153
      go_wp2_with fail
      refine (inT _ 1 12 (by omega) (by omega) _).mono ?_; rintro e w' ⟨rfl, rfl⟩
      go_wp2_with fail
      go_loop [3] (fun i => ∃ k : Nat, k ≤ s.size ∧ i = .int .i64 k ∧ Hid ((s.data.toList.take k).all alnB = true)) (fun i => s.size - (intOf i).toNat)
      case atStart => exact ⟨0, Nat.zero_le _, rfl, hs0⟩
      case round =>
        obtain ⟨k, hk, rfl, hok⟩ := hrel
        clear d0 d1 hs0
        by_cases hlt : k < s.size
        · have hat := byte_at hlt
          have hsn := fun h => all_take_succ (l := s.data.toList) (k := k) (by rw [HL.out]; exact hlt) hok.out h
          have hst := fun h => all_badN (l := s.data.toList) (k := k) (by rw [HL.out]; exact hlt) h
          rw [hat] at hsn hst
          have hki : (k : Int) < (s.size : Int) := by omega
          clear hat hok
          rcases aln_cases s[k].toNat with h | ⟨h1, h2⟩ | ⟨h1, h2⟩ | ⟨h1, h2⟩ | h
          · have HB := Lib.hid (hst (alnB_f (by omega)))
            have d0 : decide ((s[k].toNat : Int) < 97) = true := decide_eq_true (by omega)
            have d1 : decide ((s[k].toNat : Int) < 48) = true := decide_eq_true (by omega)
            clear hsn hst h
            go_wp2
            go_ret
            exact ⟨ret_bool (hrest.out.trans HB.out).symm, rfl⟩
          · have HB := Lib.hid (hsn (alnB_t (by omega)))
            have d0 : decide ((s[k].toNat : Int) < 97) = true := decide_eq_true (by omega)
            have d1 : decide ((s[k].toNat : Int) < 48) = false := decide_eq_false (by omega)
            have d2 : decide (57 < (s[k].toNat : Int)) = false := decide_eq_false (by omega)
            clear hsn hst h1 h2
            go_wp2
            go_round
            case rel => exact ⟨k + 1, by omega, by go_num, HB⟩
            case measure => simp [intOf]; omega
          · have HB := Lib.hid (hst (alnB_f (by omega)))
            have d0 : decide ((s[k].toNat : Int) < 97) = true := decide_eq_true (by omega)
            have d1 : decide ((s[k].toNat : Int) < 48) = false := decide_eq_false (by omega)
            have d2 : decide (57 < (s[k].toNat : Int)) = true := decide_eq_true (by omega)
            clear hsn hst h1 h2
            go_wp2
            go_ret
            exact ⟨ret_bool (hrest.out.trans HB.out).symm, rfl⟩
          · have HB := Lib.hid (hsn (alnB_t (by omega)))
            have d0 : decide ((s[k].toNat : Int) < 97) = false := decide_eq_false (by omega)
            have d1 : decide (122 < (s[k].toNat : Int)) = false := decide_eq_false (by omega)
            clear hsn hst h1 h2
            go_wp2
            go_round
            case rel => exact ⟨k + 1, by omega, by go_num, HB⟩
            case measure => simp [intOf]; omega
          · have HB := Lib.hid (hst (alnB_f (by omega)))
            have d0 : decide ((s[k].toNat : Int) < 97) = false := decide_eq_false (by omega)
            have d1 : decide (122 < (s[k].toNat : Int)) = true := decide_eq_true (by omega)
            have d2 : decide ((s[k].toNat : Int) < 48) = false := decide_eq_false (by omega)
            have d3 : decide (57 < (s[k].toNat : Int)) = true := decide_eq_true (by omega)
            clear hsn hst h
            go_wp2
            go_ret
            exact ⟨ret_bool (hrest.out.trans HB.out).symm, rfl⟩
        · have hkk : k = s.size := by omega
          have HB : Hid (s.data.toList.all alnB = true) := by
            have := hok.out
            rw [hkk, ← HL.out, List.take_length] at this
            exact this
          clear hok
          go_wp2
          go_ret
          exact ⟨ret_bool (hrest.out.trans HB.out).symm, rfl⟩
  · have hfin := Lib.hid (isNm_bad hsz)
    go_enter Tryz.func153, Tryz.ntmps153
    go_wp2_with fail
    refine (inF _ 1 12 (by omega) _).mono ?_; rintro e w' ⟨rfl, rfl⟩
    go_wp2_with fail
    go_ret
    exact ⟨ret_bool hfin.out.symm, rfl⟩

end Go.Proofs.YtldbhhocoolloaaGreat
