/- Least costs, least slots and splits, by the program. -/
import Derived.Test.YtleebjjikpmgoaaClh
namespace Go.Proofs.Ytleebjjikpmgoaa
open Go.RowKit
set_option linter.unusedVariables false

/-- the code of a plan -/
def cpC (l : List Int) (s : Int) : Int := if wtB l = false then 1 else if inB s 0 8 = false then 2 else 0
set_option maxRecDepth 100000 in
set_option maxHeartbeats 1600000 in
theorem iPlan (l : List Int) (a : Option Addr) (cap : Nat) (s : Int) (w : World) (hP : At w a l) (hs : l.length ≤ 1048576) :
    Calls Try.prog 49 #[.slice a l.length cap, .int .i64 s] w fun e w' => e = .returned (.int .i64 (cpC l s)) ∧ w = w' := by
  have HW := Lib.hid (iValidWeights l a cap w hP hs)
  have HI := Lib.hid (iIx s 9 w)
  rw [inB_ix (x := s) (hi := 8) (n := 9) rfl] at HI
  cases hw : wtB l with
  | false =>
    have HC : Hid (cpC l s = 1) := by show _ = _; unfold cpC; rw [if_pos hw]
    rw [hw] at HW
    clear hw hP
    go_enter Try.func49, Try.ntmps49
    go_wp2_with fail
    refine HW.out.mono ?_; rintro e w1 ⟨rfl, rfl⟩
    go_wp2_with fail
    go_ret
    exact ⟨ret_int HC.out.symm, rfl⟩
  | true =>
    rw [hw] at HW
    cases hi : inB s 0 8 with
    | false =>
      have HC : Hid (cpC l s = 2) := by show _ = _; unfold cpC; rw [if_neg (by rw [hw]; simp), if_pos hi]
      rw [hi] at HI
      clear hw hP hi
      go_enter Try.func49, Try.ntmps49
      go_wp2_with fail
      refine HW.out.mono ?_; rintro e w1 ⟨rfl, rfl⟩
      go_wp2_with fail
      refine HI.out.mono ?_; rintro e w1 ⟨rfl, rfl⟩
      go_wp2_with fail
      go_ret
      exact ⟨ret_int HC.out.symm, rfl⟩
    | true =>
      have HC : Hid (cpC l s = 0) := by show _ = _; unfold cpC; rw [if_neg (by rw [hw]; simp), if_neg (by rw [hi]; simp)]
      rw [hi] at HI
      clear hw hP hi
      go_enter Try.func49, Try.ntmps49
      go_wp2_with fail
      refine HW.out.mono ?_; rintro e w1 ⟨rfl, rfl⟩
      go_wp2_with fail
      refine HI.out.mono ?_; rintro e w1 ⟨rfl, rfl⟩
      go_wp2_with fail
      go_ret
      exact ⟨ret_int HC.out.symm, rfl⟩
theorem cp_1 {l : List Int} {s : Int} (h : wtB l = false) : cpC l s = 1 := by unfold cpC; rw [if_pos h]
theorem cp_2 {l : List Int} {s : Int} (h : wtB l = true) (h2 : inB s 0 8 = false) : cpC l s = 2 := by unfold cpC; rw [if_neg (by rw [h]; simp), if_pos h2]
theorem cp_0 {l : List Int} {s : Int} (h : wtB l = true) (h2 : inB s 0 8 = true) : cpC l s = 0 := by unfold cpC; rw [if_neg (by rw [h]; simp), if_neg (by rw [h2]; simp)]

theorem allP_ok {l : List Int} {m j : Nat} (hm1 : 1 ≤ m) (hm8 : m ≤ 8) (h2 : j < l.length) (ho : okM m l.length j = true) : allP l l.length (m - 1) j l.length = lcK l (m - 1) j l.length ∧ allP l l.length m 0 j = lcK l m 0 j := by
  unfold allP
  refine ⟨?_, by rw [if_pos (by omega)]⟩
  by_cases h : 1 ≤ m - 1
  · rw [if_pos (by omega)]
  · unfold okM at ho
    rw [Bool.or_eq_true, decide_eq_true_eq, decide_eq_true_eq] at ho
    rw [if_neg (by omega), lcK_small (by omega)]
theorem lsP_eq {l : List Int} {c : Int} {m : Nat} (hw : wtB l = true) (hm : m ≤ 8) : (l.length ≤ 1 ∨ 1 ≤ m → lsP l c m = decide (allP l l.length m 0 l.length ≤ c)) ∧ (¬ (l.length ≤ 1 ∨ 1 ≤ m) → lsP l c m = false) := by
  have hi : inB (m : Int) 0 8 = true := inB_of (by omega)
  unfold lsP
  refine ⟨fun h => ?_, fun h => ?_⟩
  · by_cases h2 : l.length < 2
    · have := lc_small hw hi h2
      rw [this.1, this.2]
      have e : allP l l.length m 0 l.length = 0 := by
        unfold allP; split
        · rw [lcK_small (by omega)]
        · rfl
      rw [e]; simp
    · have := lc_some (l := l) (m := m) hw (by omega) (by omega)
      rw [this.1, this.2]
      unfold allP
      rw [if_pos (by omega)]; simp
  · obtain rfl : m = 0 := by omega
    have := lc_none (l := l) hw (by omega)
    rw [show ((0 : Nat) : Int) = 0 from rfl, this.1]; rfl
set_option maxRecDepth 100000 in
theorem fieldLeast (sl : Option Addr) (n c : Nat) (f : Fn) (x y : Array Value) (w : World) : (Instr.field 73 (.agg #[.slice sl n c, .func f x y]) 1).run Try.prog w = .ok (.func f x y) w := rfl
set_option maxRecDepth 100000 in
set_option maxHeartbeats 3200000 in
theorem iLeastCost (l : List Int) (a : Option Addr) (cap : Nat) (s : Int) (w : World) (hP : At w a l) (hR : Rng l) (hs : l.length ≤ 1048576) (hn : -9223372036854775808 ≤ s ∧ s ≤ 9223372036854775807) :
    Calls Try.prog 14 #[.slice a l.length cap, .int .i64 s] w fun e w' => e = .returned (.tuple #[.int .i64 (lcR l s), .int .i64 (lcC l s)]) ∧ Below w.heap.size w w' := by
  have HP := Lib.hid (iPlan l a cap s w hP hs)
  cases hw : wtB l with
  | false =>
    have HC := Lib.hid (lc_inv (s := s) hw)
    rw [cp_1 hw] at HP
    clear hw hP
    go_enter Try.func14, Try.ntmps14
    go_wp2_with fail
    refine HP.out.mono ?_; rintro e w1 ⟨rfl, rfl⟩
    go_wp2_with fail
    go_ret2
    exact ⟨ret_two HC.out.2.symm HC.out.1.symm, Below.refl _ _⟩
  | true =>
    cases hi : inB s 0 8 with
    | false =>
      have HC := Lib.hid (lc_range hw hi)
      rw [cp_2 hw hi] at HP
      clear hw hi hP
      go_enter Try.func14, Try.ntmps14
      go_wp2_with fail
      refine HP.out.mono ?_; rintro e w1 ⟨rfl, rfl⟩
      go_wp2_with fail
      go_ret2
      exact ⟨ret_two HC.out.2.symm HC.out.1.symm, Below.refl _ _⟩
    | true =>
      rw [cp_0 hw hi] at HP
      have hin := inB_t hi
      obtain ⟨m, rfl⟩ : ∃ m : Nat, s = m := ⟨s.toNat, by omega⟩
      have hwt := wtB_t hw
      have HCN := Lib.hid (iCan (l.length : Int) (m : Int) w)
      by_cases hno : 2 ≤ l.length ∧ m = 0
      · obtain ⟨h2, rfl⟩ := hno
        have HC := Lib.hid (lc_none hw h2)
        have hd : decide ((l.length : Int) ≤ 1 ∨ 1 ≤ ((0 : Nat) : Int)) = false := decide_eq_false (by omega)
        rw [hd] at HCN
        clear hw hi hP hd hwt hin h2
        go_enter Try.func14, Try.ntmps14
        go_wp2_with fail
        refine HP.out.mono ?_; rintro e w1 ⟨rfl, rfl⟩
        go_wp2_with fail
        refine HCN.out.mono ?_; rintro e w1 ⟨rfl, rfl⟩
        go_wp2_with fail
        go_ret2
        exact ⟨ret_two HC.out.2.symm HC.out.1.symm, Below.refl _ _⟩
      · have hd : decide ((l.length : Int) ≤ 1 ∨ 1 ≤ (m : Int)) = true := decide_eq_true (by omega)
        rw [hd] at HCN
        have HT := Lib.hid (iCosts l hwt.2 a cap l.length hwt.1 rfl w hP)
        have HC : Hid (lcR l m = allP l l.length m 0 l.length ∧ lcC l m = 0) := by
          show _ ∧ _
          unfold allP
          by_cases h2 : l.length < 2
          · have := lc_small hw hi h2
            refine ⟨?_, this.1⟩
            rw [this.2]; split
            · rw [lcK_small (by omega)]
            · rfl
          · have := lc_some (m := m) hw (by omega) (by omega)
            exact ⟨by rw [this.2, if_pos (by omega)], this.1⟩
        have hfl := fieldLeast
        have hl40 := hwt.1
        have hm8 : m ≤ 8 := by omega
        clear hw hi hP hd hwt hno hin
        go_enter Try.func14, Try.ntmps14
        go_wp2_with fail
        refine HP.out.mono ?_; rintro e w1 ⟨rfl, rfl⟩
        go_wp2_with fail
        refine HCN.out.mono ?_; rintro e w1 ⟨rfl, rfl⟩
        go_wp2_with fail
        refine HT.out.mono ?_; rintro e w2 ⟨g, gb, cb, rfl, ht, hpre, hb⟩
        have HAt := Lib.hid (iAt g 0 l.length m (allP l l.length) (by omega) hl40 hm8 w2 ht)
        clear HT ht hpre
        go_wp2_with fail
        refine HAt.out.mono ?_; rintro e w3 ⟨rfl, rfl⟩
        go_wp2_with fail
        go_ret2
        exact ⟨ret_two HC.out.1.symm HC.out.2.symm, hb⟩

set_option maxRecDepth 100000 in
set_option maxHeartbeats 3200000 in
theorem iSplitOf (l : List Int) (a : Option Addr) (cap : Nat) (s : Int) (w : World) (hP : At w a l) (hR : Rng l) (hs : l.length ≤ 1048576) (hn : -9223372036854775808 ≤ s ∧ s ≤ 9223372036854775807) :
    Calls Try.prog 19 #[.slice a l.length cap, .int .i64 s] w fun e w' => e = .returned (.tuple #[.int .i64 (soR l s), .int .i64 (soC l s)]) ∧ Below w.heap.size w w' := by
  have HP := Lib.hid (iPlan l a cap s w hP hs)
  cases hw : wtB l with
  | false =>
    have HC := Lib.hid (so_inv (s := s) hw)
    rw [cp_1 hw] at HP
    clear hw hP
    go_enter Try.func19, Try.ntmps19
    go_wp2_with fail
    refine HP.out.mono ?_; rintro e w1 ⟨rfl, rfl⟩
    go_wp2_with fail
    go_ret2
    exact ⟨ret_two HC.out.1.symm HC.out.2.symm, Below.refl _ _⟩
  | true =>
    cases hi : inB s 0 8 with
    | false =>
      have HC := Lib.hid (so_range hw hi)
      rw [cp_2 hw hi] at HP
      clear hw hi hP
      go_enter Try.func19, Try.ntmps19
      go_wp2_with fail
      refine HP.out.mono ?_; rintro e w1 ⟨rfl, rfl⟩
      go_wp2_with fail
      go_ret2
      exact ⟨ret_two HC.out.1.symm HC.out.2.symm, Below.refl _ _⟩
    | true =>
      rw [cp_0 hw hi] at HP
      by_cases h2 : l.length < 2
      · have HC := Lib.hid (so_small hw hi h2)
        have hii : (l.length : Int) < 2 := by omega
        clear hw hi hP
        go_enter Try.func19, Try.ntmps19
        go_wp2_with fail
        refine HP.out.mono ?_; rintro e w1 ⟨rfl, rfl⟩
        go_wp2_with fail
        go_ret2
        exact ⟨ret_two HC.out.1.symm HC.out.2.symm, Below.refl _ _⟩
      have hii : ¬ (l.length : Int) < 2 := by omega
      have hin := inB_t hi
      obtain ⟨m, rfl⟩ : ∃ m : Nat, s = m := ⟨s.toNat, by omega⟩
      have hwt := wtB_t hw
      have HCN := Lib.hid (iCan (l.length : Int) (m : Int) w)
      by_cases hno : m = 0
      · subst hno
        have HC := Lib.hid (so_none hw (by omega))
        have hd : decide ((l.length : Int) ≤ 1 ∨ 1 ≤ ((0 : Nat) : Int)) = false := decide_eq_false (by omega)
        rw [hd] at HCN
        clear hw hi hP hd hwt hin h2
        go_enter Try.func19, Try.ntmps19
        go_wp2_with fail
        refine HP.out.mono ?_; rintro e w1 ⟨rfl, rfl⟩
        go_wp2_with fail
        refine HCN.out.mono ?_; rintro e w1 ⟨rfl, rfl⟩
        go_wp2_with fail
        go_ret2
        exact ⟨ret_two HC.out.1.symm HC.out.2.symm, Below.refl _ _⟩
      · have hd : decide ((l.length : Int) ≤ 1 ∨ 1 ≤ (m : Int)) = true := decide_eq_true (by omega)
        rw [hd] at HCN
        have HT := Lib.hid (iCosts l hwt.2 a cap l.length hwt.1 rfl w hP)
        have HC := Lib.hid (so_some (m := m) hw (by omega) (by omega) (by omega))
        have HWT := Lib.hid hwt
        have hm8 : m ≤ 8 := by omega
        have hm1 : 1 ≤ m := by omega
        have hl2 : 0 < l.length := by omega
        clear hw hi hP hd hwt hno hin h2
        go_enter Try.func19, Try.ntmps19
        go_wp2_with fail
        refine HP.out.mono ?_; rintro e w1 ⟨rfl, rfl⟩
        go_wp2_with fail
        refine HCN.out.mono ?_; rintro e w1 ⟨rfl, rfl⟩
        go_wp2_with fail
        refine HT.out.mono ?_; rintro e w2 ⟨g, gb, cb, rfl, ht, hpre, hb⟩
        have HSP := Lib.hid (iSplit l HWT.out.2 g gb cb l.length (allP l l.length) m 0 l.length HWT.out.1 (Nat.le_refl _) hl2 hm1 hm8 w2 ht hpre (fun j h1 h2 h3 => allP_ok hm1 hm8 h2 h3))
        clear HT ht hpre
        go_wp2_with fail
        refine HSP.out.mono ?_; rintro e w3 ⟨rfl, hb3⟩
        have hb4 := hb.trans (hb3.mono hb.size)
        go_wp2_with fail
        go_ret2
        exact ⟨ret_two HC.out.1.symm HC.out.2.symm, hb4⟩

set_option maxRecDepth 100000 in
set_option maxHeartbeats 3200000 in
theorem iLeastSlots (l : List Int) (a : Option Addr) (cap : Nat) (c : Int) (w : World) (hP : At w a l) (hR : Rng l) (hs : l.length ≤ 1048576) (hn : -9223372036854775808 ≤ c ∧ c ≤ 9223372036854775807) :
    Calls Try.prog 17 #[.slice a l.length cap, .int .i64 c] w fun e w' => e = .returned (.tuple #[.int .i64 (lsR l c), .int .i64 (lsC l c)]) ∧ Below w.heap.size w w' := by
  have HW := Lib.hid (iValidWeights l a cap w hP hs)
  cases hw : wtB l with
  | false =>
    have HC := Lib.hid (ls_inv (cost := c) hw)
    rw [hw] at HW
    clear hw hP
    go_enter Try.func17, Try.ntmps17
    go_wp2_with fail
    refine HW.out.mono ?_; rintro e w1 ⟨rfl, rfl⟩
    go_wp2_with fail
    go_ret2
    exact ⟨ret_two HC.out.1.symm HC.out.2.symm, Below.refl _ _⟩
  | true =>
    rw [hw] at HW
    have hwt := wtB_t hw
    have HT := Lib.hid (iCosts l hwt.2 a cap l.length hwt.1 rfl w hP)
    have HWT := Lib.hid hw
    have hl40 := hwt.1
    clear hP hw hwt
    go_enter Try.func17, Try.ntmps17
    go_wp2_with fail
    refine HW.out.mono ?_; rintro e w1 ⟨rfl, rfl⟩
    go_wp2_with fail
    refine HT.out.mono ?_; rintro e w2 ⟨g, gb, cb, rfl, ht, hpre, hb⟩
    clear HT hpre
    have HTA := Lib.hid ht
    have hgl : g < w2.heap.size := cell_lt (ht 0 0 0 (by omega) (by omega) (by omega))
    clear ht
    go_wp2_with fail
    obtain ⟨w3, hw3⟩ : ∃ w3, w3 = w2.alloc (.cells #[.slice (some ⟨gb, 0, none⟩) (l.length + 1) cb, .func (.func 107) #[.pointer (some ⟨g, 0, none⟩)] #[]] 73) := ⟨_, rfl⟩
    have B3 : Below w2.heap.size w2 w3 := by rw [hw3]; exact (Below.refl _ _).alloc (Nat.le_refl _) _
    have x1 : w3.cell? ⟨w2.heap.size, 1, none⟩ = some (.func (.func 107) #[.pointer (some ⟨g, 0, none⟩)] #[]) := by rw [hw3]; simp [go_sem]
    have HT3 := Lib.hid (HTA.out.below B3 hgl)
    have HB3 := Lib.hid (hb.trans (B3.mono hb.size))
    rw [← hw3]
    clear hw3 B3 HTA hb
    go_loop [16] (fun q => ∃ m : Nat, m ≤ 9 ∧ q = .int .i64 m ∧ Hid (lsO l c = lst (lsP l c) (9 - m) m)) (fun q => 9 - (intOf q).toNat)
    case atStart => exact ⟨0, Nat.zero_le _, rfl, rfl⟩
    case round =>
      obtain ⟨m, hm, rfl, HX⟩ := hrel
      by_cases hlt : m < 9
      · have hii : (m : Int) < 9 := by omega
        have HCN := Lib.hid (iCan (l.length : Int) (m : Int) w3)
        have HE : Hid (lsO l c = if lsP l c m = true then some m else lst (lsP l c) (9 - (m + 1)) (m + 1)) := by show _ = _; rw [HX.out, show 9 - m = (9 - (m + 1)) + 1 by omega]; rfl
        have HV := Lib.hid (lsP_eq (c := c) (m := m) HWT.out (by omega))
        clear HX
        by_cases hcan : (l.length : Int) ≤ 1 ∨ 1 ≤ (m : Int)
        · rw [decide_eq_true hcan] at HCN
          have HAt := Lib.hid (iAt g 0 l.length m (allP l l.length) (by omega) hl40 (by omega) w3 HT3.out)
          have hv := HV.out.1 (by omega)
          clear HV hcan
          by_cases hle : allP l l.length m 0 l.length ≤ c
          · have HR := Lib.hid (ls_some HWT.out (HE.out.trans (if_pos (hv.trans (decide_eq_true hle)))))
            clear HE hv
            generalize allP l l.length m 0 l.length = x at *
            go_wp2_with fail
            refine HCN.out.mono ?_; rintro e w1 ⟨rfl, rfl⟩
            go_wp2_with fail
            refine HAt.out.mono ?_; rintro e w1 ⟨rfl, rfl⟩
            go_wp2_with fail
            go_ret2
            exact ⟨ret_two HR.out.1.symm HR.out.2.symm, HB3.out⟩
          · have HE2 := Lib.hid (HE.out.trans (if_neg (by rw [hv, decide_eq_false hle]; simp)))
            clear HE hv
            generalize allP l l.length m 0 l.length = x at *
            go_wp2_with fail
            refine HCN.out.mono ?_; rintro e w1 ⟨rfl, rfl⟩
            go_wp2_with fail
            refine HAt.out.mono ?_; rintro e w1 ⟨rfl, rfl⟩
            go_wp2_with fail
            go_round
            case rel => exact ⟨m + 1, by omega, by go_num, HE2.out⟩
            case measure => simp [intOf]; omega
        · rw [decide_eq_false hcan] at HCN
          have HE2 := Lib.hid (HE.out.trans (if_neg (by rw [HV.out.2 (by omega)]; simp)))
          clear HE HV hcan
          go_wp2_with fail
          refine HCN.out.mono ?_; rintro e w1 ⟨rfl, rfl⟩
          go_wp2_with fail
          go_round
          case rel => exact ⟨m + 1, by omega, by go_num, HE2.out⟩
          case measure => simp [intOf]; omega
      · have hii : ¬ (m : Int) < 9 := by omega
        have HE : Hid (lsO l c = none) := by show _ = _; rw [HX.out, show 9 - m = 0 by omega]; rfl
        have HR := Lib.hid (ls_none HWT.out HE.out)
        clear HX HE
        go_wp2_with fail
        go_ret2
        exact ⟨ret_two HR.out.1.symm HR.out.2.symm, HB3.out⟩

end Go.Proofs.Ytleebjjikpmgoaa
