/- Least costs, least slots and splits, by the model. -/
import Derived.Test.YtleebjjikpmgoaaClf
import Derived.Test.YtleebjjikpmgoaaCho
namespace Go.Proofs.Ytleebjjikpmgoaa
open Go.RowKit
set_option linter.unusedVariables false

/-- the least cost of all steps, and the code -/
def lcC (l : List Int) (s : Int) : Int := if wtB l = false then 1 else if inB s 0 8 = false then 2 else if 2 ≤ l.length ∧ s = 0 then 4 else 0
def lcR (l : List Int) (s : Int) : Int := if lcC l s = 0 then lcK l s.toNat 0 l.length else 0
theorem lc_inv {l : List Int} {s : Int} (h : wtB l = false) : lcC l s = 1 ∧ lcR l s = 0 := by
  have h1 : lcC l s = 1 := by unfold lcC; rw [if_pos h]
  refine ⟨h1, ?_⟩
  unfold lcR; rw [if_neg (by omega)]
theorem lc_range {l : List Int} {s : Int} (h : wtB l = true) (h2 : inB s 0 8 = false) : lcC l s = 2 ∧ lcR l s = 0 := by
  have h1 : lcC l s = 2 := by unfold lcC; rw [if_neg (by rw [h]; simp), if_pos h2]
  refine ⟨h1, ?_⟩
  unfold lcR; rw [if_neg (by omega)]
theorem lc_small {l : List Int} {s : Int} (h : wtB l = true) (h2 : inB s 0 8 = true) (h3 : l.length < 2) : lcC l s = 0 ∧ lcR l s = 0 := by
  have h1 : lcC l s = 0 := by unfold lcC; rw [if_neg (by rw [h]; simp), if_neg (by rw [h2]; simp), if_neg (by omega)]
  refine ⟨h1, ?_⟩
  unfold lcR; rw [if_pos h1, lcK_small (by omega)]
theorem lc_none {l : List Int} (h : wtB l = true) (h3 : 2 ≤ l.length) : lcC l 0 = 4 ∧ lcR l 0 = 0 := by
  have h1 : lcC l 0 = 4 := by unfold lcC; rw [if_neg (by rw [h]; simp), if_neg (by decide), if_pos ⟨h3, rfl⟩]
  refine ⟨h1, ?_⟩
  unfold lcR; rw [if_neg (by omega)]
theorem lc_some {l : List Int} {m : Nat} (h : wtB l = true) (hm : 1 ≤ m) (hm2 : m ≤ 8) : lcC l m = 0 ∧ lcR l m = lcK l m 0 l.length := by
  have hb : inB (m : Int) 0 8 = true := by unfold inB; simp; omega
  have h1 : lcC l m = 0 := by unfold lcC; rw [if_neg (by rw [h]; simp), if_neg (by rw [hb]; simp), if_neg (by omega)]
  refine ⟨h1, ?_⟩
  unfold lcR; rw [if_pos h1, Int.toNat_natCast]
theorem ret_2 {a b c d : Int} (h : a = c ∧ b = d) : Ending.returned (.tuple #[.int .i64 b, .int .i64 a]) = .returned (.tuple #[.int .i64 d, .int .i64 c]) := by rw [h.1, h.2]

/-- the model's cost at a table -/
theorem tbM_all {l : List Int} {m : Nat} (h : 2 ≤ l.length) (hm : 1 ≤ m) : tbM l m 0 l.length = lcK l m 0 l.length := tbM_lc (.inr hm)

set_option maxRecDepth 100000 in
set_option maxHeartbeats 3200000 in
theorem sCost (l : List Int) (a : Option Addr) (cap : Nat) (s : Int) (w : World) (hP : At w a l) (hs : l.length ≤ 1048576) :
    Calls Try.prog 48 #[.slice a l.length cap, .int .i64 s] w fun e w' => e = .returned (.tuple #[.int .i64 (lcR l s), .int .i64 (lcC l s)]) ∧ Below w.heap.size w w' := by
  have HW := Lib.hid (sWeights l a cap w hP hs)
  cases hw : wtB l with
  | false =>
    have HC := Lib.hid (lc_inv (s := s) hw)
    rw [hw] at HW
    clear hw hP
    go_enter Try.func48, Try.ntmps48
    go_wp2_with fail
    refine HW.out.mono ?_; rintro e w1 ⟨rfl, rfl⟩
    go_wp2_with fail
    go_ret2
    exact ⟨ret_two HC.out.2.symm HC.out.1.symm, Below.refl _ _⟩
  | true =>
    have HI := Lib.hid (sIn s 0 8 w)
    rw [hw] at HW
    cases hi : inB s 0 8 with
    | false =>
      have HC := Lib.hid (lc_range hw hi)
      rw [hi] at HI
      clear hw hi hP
      go_enter Try.func48, Try.ntmps48
      go_wp2_with fail
      refine HW.out.mono ?_; rintro e w1 ⟨rfl, rfl⟩
      go_wp2_with fail
      refine HI.out.mono ?_; rintro e w1 ⟨rfl, rfl⟩
      go_wp2_with fail
      go_ret2
      exact ⟨ret_two HC.out.2.symm HC.out.1.symm, Below.refl _ _⟩
    | true =>
      rw [hi] at HI
      by_cases h2 : l.length < 2
      · have HC := Lib.hid (lc_small hw hi h2)
        have hii : (l.length : Int) < 2 := by omega
        clear hw hi hP h2
        go_enter Try.func48, Try.ntmps48
        go_wp2_with fail
        refine HW.out.mono ?_; rintro e w1 ⟨rfl, rfl⟩
        go_wp2_with fail
        refine HI.out.mono ?_; rintro e w1 ⟨rfl, rfl⟩
        go_wp2_with fail
        go_ret2
        exact ⟨ret_two HC.out.2.symm HC.out.1.symm, Below.refl _ _⟩
      · have hii : ¬ (l.length : Int) < 2 := by omega
        have hin := inB_t hi
        obtain ⟨m, rfl⟩ : ∃ m : Nat, s = m := ⟨s.toNat, by omega⟩
        have hwt := wtB_t hw
        have HT := Lib.hid (sTable l hwt.2 a cap l.length m hwt.1 rfl (by omega) w hP)
        have hmi : (m : Int) < (m : Int) + 1 := by omega
        have hni : (l.length : Int) < (l.length : Int) + 1 := by omega
        have hn0 : (0 : Int) < (l.length : Int) + 1 := by omega
        by_cases hm : m = 0
        · subst hm
          have HC := Lib.hid (lc_none hw (by omega))
          have HX : Hid (tbM l 0 0 l.length = -1) := by show _ = _; unfold tbM; rw [if_neg (by omega), if_pos rfl]
          clear hwt hw hi hP h2 hin
          go_enter Try.func48, Try.ntmps48
          go_wp2_with fail
          refine HW.out.mono ?_; rintro e w1 ⟨rfl, rfl⟩
          go_wp2_with fail
          refine HI.out.mono ?_; rintro e w1 ⟨rfl, rfl⟩
          go_wp2_with fail
          refine HT.out.mono ?_; rintro e w2 ⟨g, kg, rfl, ht, hb⟩
          obtain ⟨gc, kc, t0, hl⟩ := ht 0 (by omega)
          obtain ⟨ga, ka, t1, hla⟩ := hl 0 (by omega)
          have t2 := hla l.length (Nat.le_refl _)
          rw [HX.out] at t2
          clear ht hl hla HT
          go_wp2_with fail
          go_ret2
          exact ⟨ret_two HC.out.2.symm HC.out.1.symm, hb⟩
        · have HC := Lib.hid (lc_some (m := m) hw (by omega) (by omega))
          have HX := Lib.hid (tbM_all (m := m) (show 2 ≤ l.length by omega) (by omega))
          have HN := Lib.hid (lcK_bd hwt.2 _ m 0 l.length (Nat.le_refl _)).1
          clear hwt hw hi hP h2 hin hm
          go_enter Try.func48, Try.ntmps48
          go_wp2_with fail
          refine HW.out.mono ?_; rintro e w1 ⟨rfl, rfl⟩
          go_wp2_with fail
          refine HI.out.mono ?_; rintro e w1 ⟨rfl, rfl⟩
          go_wp2_with fail
          refine HT.out.mono ?_; rintro e w2 ⟨g, kg, rfl, ht, hb⟩
          obtain ⟨gc, kc, t0, hl⟩ := ht m (by omega)
          obtain ⟨ga, ka, t1, hla⟩ := hl 0 (by omega)
          have t2 := hla l.length (Nat.le_refl _)
          rw [HX.out] at t2
          have hx := HN.out
          clear ht hl hla HT HN HX
          generalize lcK l m 0 l.length = x at *
          have hx0 : ¬ x < 0 := by omega
          go_wp2_with fail
          go_ret2
          exact ⟨ret_two HC.out.2.symm HC.out.1.symm, hb⟩

/-- the least number of slots for a cost -/
def lsP (l : List Int) (cost : Int) (m : Nat) : Bool := decide (lcC l m = 0) && decide (lcR l m ≤ cost)
def lsO (l : List Int) (cost : Int) : Option Nat := lst (lsP l cost) 9 0
def lsR (l : List Int) (cost : Int) : Int := if wtB l = true then (match lsO l cost with | some m => (m : Int) | none => 0) else 0
def lsC (l : List Int) (cost : Int) : Int := if wtB l = true then (match lsO l cost with | some m => 0 | none => 9) else 1
theorem ls_inv {l : List Int} {cost : Int} (h : wtB l = false) : lsR l cost = 0 ∧ lsC l cost = 1 := by
  unfold lsR lsC; rw [if_neg (by rw [h]; simp), if_neg (by rw [h]; simp)]; exact ⟨rfl, rfl⟩
theorem ls_some {l : List Int} {cost : Int} {m : Nat} (h : wtB l = true) (h2 : lsO l cost = some m) : lsR l cost = m ∧ lsC l cost = 0 := by
  unfold lsR lsC; rw [if_pos h, if_pos h, h2]; exact ⟨rfl, rfl⟩
theorem ls_none {l : List Int} {cost : Int} (h : wtB l = true) (h2 : lsO l cost = none) : lsR l cost = 0 ∧ lsC l cost = 9 := by
  unfold lsR lsC; rw [if_pos h, if_pos h, h2]; exact ⟨rfl, rfl⟩
/-- the split of all steps -/
def soC (l : List Int) (s : Int) : Int := if wtB l = false then 1 else if inB s 0 8 = false then 2 else if l.length < 2 then 9 else if s = 0 then 4 else 0
def soR (l : List Int) (s : Int) : Int := if soC l s = 0 then ((spK l s.toNat 0 l.length).1 : Int) else 0
theorem so_inv {l : List Int} {s : Int} (h : wtB l = false) : soR l s = 0 ∧ soC l s = 1 := by
  have h1 : soC l s = 1 := by unfold soC; rw [if_pos h]
  exact ⟨by unfold soR; rw [if_neg (by omega)], h1⟩
theorem so_range {l : List Int} {s : Int} (h : wtB l = true) (h2 : inB s 0 8 = false) : soR l s = 0 ∧ soC l s = 2 := by
  have h1 : soC l s = 2 := by unfold soC; rw [if_neg (by rw [h]; simp), if_pos h2]
  exact ⟨by unfold soR; rw [if_neg (by omega)], h1⟩
theorem so_small {l : List Int} {s : Int} (h : wtB l = true) (h2 : inB s 0 8 = true) (h3 : l.length < 2) : soR l s = 0 ∧ soC l s = 9 := by
  have h1 : soC l s = 9 := by unfold soC; rw [if_neg (by rw [h]; simp), if_neg (by rw [h2]; simp), if_pos h3]
  exact ⟨by unfold soR; rw [if_neg (by omega)], h1⟩
theorem so_none {l : List Int} (h : wtB l = true) (h3 : 2 ≤ l.length) : soR l 0 = 0 ∧ soC l 0 = 4 := by
  have h1 : soC l 0 = 4 := by unfold soC; rw [if_neg (by rw [h]; simp), if_neg (by decide), if_neg (by omega), if_pos rfl]
  exact ⟨by unfold soR; rw [if_neg (by omega)], h1⟩
theorem so_some {l : List Int} {m : Nat} (h : wtB l = true) (h3 : 2 ≤ l.length) (hm : 1 ≤ m) (hm2 : m ≤ 8) : soR l m = ((spK l m 0 l.length).1 : Int) ∧ soC l m = 0 := by
  have hb : inB (m : Int) 0 8 = true := by unfold inB; simp; omega
  have h1 : soC l m = 0 := by unfold soC; rw [if_neg (by rw [h]; simp), if_neg (by rw [hb]; simp), if_neg (by omega), if_neg (by omega)]
  exact ⟨by unfold soR; rw [if_pos h1, Int.toNat_natCast], h1⟩

set_option maxRecDepth 100000 in
set_option maxHeartbeats 1600000 in
theorem sLeastCost (l : List Int) (a : Option Addr) (cap : Nat) (s : Int) (w : World) (hP : At w a l) (hR : Rng l) (hs : l.length ≤ 1048576) (hn : -9223372036854775808 ≤ s ∧ s ≤ 9223372036854775807) :
    Calls Try.prog 12 #[.slice a l.length cap, .int .i64 s] w fun e w' => e = .returned (.tuple #[.int .i64 (lcR l s), .int .i64 (lcC l s)]) ∧ Below w.heap.size w w' := by
  have HC := Lib.hid (sCost l a cap s w hP hs)
  clear hP hn
  go_enter Try.func12, Try.ntmps12
  go_wp2_with fail
  refine HC.out.mono ?_; rintro e w1 ⟨rfl, hb⟩
  go_wp2_with fail
  go_ret2
  exact ⟨rfl, hb⟩

set_option maxRecDepth 100000 in
set_option maxHeartbeats 1600000 in
theorem sLeastSlots (l : List Int) (a : Option Addr) (cap : Nat) (c : Int) (w : World) (hP : At w a l) (hR : Rng l) (hs : l.length ≤ 1048576) (hn : -9223372036854775808 ≤ c ∧ c ≤ 9223372036854775807) :
    Calls Try.prog 16 #[.slice a l.length cap, .int .i64 c] w fun e w' => e = .returned (.tuple #[.int .i64 (lsR l c), .int .i64 (lsC l c)]) ∧ Below w.heap.size w w' := by
  have HW := Lib.hid (sWeights l a cap w hP hs)
  cases hw : wtB l with
  | false =>
    have HC := Lib.hid (ls_inv (cost := c) hw)
    rw [hw] at HW
    clear hw hP
    go_enter Try.func16, Try.ntmps16
    go_wp2_with fail
    refine HW.out.mono ?_; rintro e w1 ⟨rfl, rfl⟩
    go_wp2_with fail
    go_ret2
    exact ⟨ret_two HC.out.1.symm HC.out.2.symm, Below.refl _ _⟩
  | true =>
    rw [hw] at HW
    have HP := Lib.hid hP
    have HWT := Lib.hid hw
    clear hP hw
    go_enter Try.func16, Try.ntmps16
    go_wp2_with fail
    refine HW.out.mono ?_; rintro e w1 ⟨rfl, rfl⟩
    go_wp2_with fail
    go_loopw [6] (fun q wr => ∃ m : Nat, m ≤ 9 ∧ q = .int .i64 m ∧ Hid (lsO l c = lst (lsP l c) (9 - m) m) ∧ Hid (Below w.heap.size w wr)) (fun q _ => 9 - (intOf q).toNat)
    case atStart => exact ⟨0, Nat.zero_le _, rfl, rfl, Below.refl _ _⟩
    case round =>
      obtain ⟨m, hm, rfl, HX, hw⟩ := hrel
      by_cases hlt : m < 9
      · have hii : (m : Int) ≤ 8 := by omega
        have HC := Lib.hid (sCost l a cap m wr (HP.out.below hw.out (Nat.le_refl _)) hs)
        have HE : Hid (lsO l c = if lsP l c m = true then some m else lst (lsP l c) (9 - (m + 1)) (m + 1)) := by show _ = _; rw [HX.out, show 9 - m = (9 - (m + 1)) + 1 by omega]; rfl
        clear HX
        by_cases hc : lcC l m = 0
        · by_cases hr : lcR l m ≤ c
          · have HR := Lib.hid (ls_some (cost := c) HWT.out (HE.out.trans (by rw [if_pos (by unfold lsP; rw [decide_eq_true hc, decide_eq_true hr]; rfl)])))
            rw [hc] at HC
            clear HE hc
            generalize lcR l m = x at *
            go_wp2_with fail
            refine HC.out.mono ?_; rintro e w1 ⟨rfl, hb⟩
            go_wp2_with fail
            go_ret2
            exact ⟨ret_two HR.out.1.symm HR.out.2.symm, hw.out.trans (hb.mono hw.out.size)⟩
          · have HE2 : Hid (lsO l c = lst (lsP l c) (9 - (m + 1)) (m + 1)) := HE.out.trans (by rw [if_neg (by unfold lsP; rw [decide_eq_false hr]; simp)])
            rw [hc] at HC
            clear HE hc
            generalize lcR l m = x at *
            go_wp2_with fail
            refine HC.out.mono ?_; rintro e w1 ⟨rfl, hb⟩
            have hw2 := Lib.hid (hw.out.trans (hb.mono hw.out.size))
            clear hb
            go_wp2_with fail
            go_roundw
            case rel => exact ⟨m + 1, by omega, by go_num, HE2.out, hw2.out⟩
            case measure => simp [intOf]; omega
        · have HE2 : Hid (lsO l c = lst (lsP l c) (9 - (m + 1)) (m + 1)) := HE.out.trans (by rw [if_neg (by unfold lsP; rw [decide_eq_false hc]; simp)])
          have hcb : (lcC l m == 0) = false := by simpa using hc
          clear HE hc
          generalize lcR l m = x at *
          generalize lcC l m = y at *
          go_wp2_with fail
          refine HC.out.mono ?_; rintro e w1 ⟨rfl, hb⟩
          have hw2 := Lib.hid (hw.out.trans (hb.mono hw.out.size))
          clear hb
          go_wp2_with fail
          go_roundw
          case rel => exact ⟨m + 1, by omega, by go_num, HE2.out, hw2.out⟩
          case measure => simp [intOf]; omega
      · have hii : ¬ (m : Int) ≤ 8 := by omega
        have HE : Hid (lsO l c = none) := by show _ = _; rw [HX.out, show 9 - m = 0 by omega]; rfl
        have HR := Lib.hid (ls_none HWT.out HE.out)
        clear HX HE
        go_wp2_with fail
        go_ret2
        exact ⟨ret_two HR.out.1.symm HR.out.2.symm, hw.out⟩

set_option maxRecDepth 100000 in
set_option maxHeartbeats 1600000 in
theorem sSplitOf (l : List Int) (a : Option Addr) (cap : Nat) (s : Int) (w : World) (hP : At w a l) (hR : Rng l) (hs : l.length ≤ 1048576) (hn : -9223372036854775808 ≤ s ∧ s ≤ 9223372036854775807) :
    Calls Try.prog 18 #[.slice a l.length cap, .int .i64 s] w fun e w' => e = .returned (.tuple #[.int .i64 (soR l s), .int .i64 (soC l s)]) ∧ Below w.heap.size w w' := by
  have HC := Lib.hid (sCost l a cap s w hP hs)
  cases hw : wtB l with
  | false =>
    have HS := Lib.hid (so_inv (s := s) hw)
    have hcv := (lc_inv (s := s) hw).1
    rw [hcv] at HC
    clear hw hP hcv
    go_enter Try.func18, Try.ntmps18
    go_wp2_with fail
    refine HC.out.mono ?_; rintro e w1 ⟨rfl, hb⟩
    go_wp2_with fail
    go_ret2
    exact ⟨ret_two HS.out.1.symm HS.out.2.symm, hb⟩
  | true =>
    cases hi : inB s 0 8 with
    | false =>
      have HS := Lib.hid (so_range hw hi)
      have hcv := (lc_range hw hi).1
      rw [hcv] at HC
      clear hw hP hi hcv
      go_enter Try.func18, Try.ntmps18
      go_wp2_with fail
      refine HC.out.mono ?_; rintro e w1 ⟨rfl, hb⟩
      go_wp2_with fail
      go_ret2
      exact ⟨ret_two HS.out.1.symm HS.out.2.symm, hb⟩
    | true =>
      by_cases h2 : l.length < 2
      · have HS := Lib.hid (so_small hw hi h2)
        have hcv := (lc_small hw hi h2).1
        rw [hcv] at HC
        have hii : (l.length : Int) < 2 := by omega
        clear hw hP hi hcv
        go_enter Try.func18, Try.ntmps18
        go_wp2_with fail
        refine HC.out.mono ?_; rintro e w1 ⟨rfl, hb⟩
        go_wp2_with fail
        go_ret2
        exact ⟨ret_two HS.out.1.symm HS.out.2.symm, hb⟩
      · have hii : ¬ (l.length : Int) < 2 := by omega
        have hin := inB_t hi
        obtain ⟨m, rfl⟩ : ∃ m : Nat, s = m := ⟨s.toNat, by omega⟩
        have hwt := wtB_t hw
        by_cases hm : m = 0
        · subst hm
          have HS := Lib.hid (so_none hw (by omega))
          have hcv := (lc_none hw (show 2 ≤ l.length by omega)).1
          have HC0 : Hid (Calls Try.prog 48 #[.slice a l.length cap, .int .i64 0] w fun e w' => e = .returned (.tuple #[.int .i64 (lcR l 0), .int .i64 4]) ∧ Below w.heap.size w w') := by rw [← hcv]; exact HC.out
          clear hw hP hi hcv HC
          go_enter Try.func18, Try.ntmps18
          go_wp2_with fail
          refine HC0.out.mono ?_; rintro e w1 ⟨rfl, hb⟩
          go_wp2_with fail
          go_ret2
          exact ⟨ret_two HS.out.1.symm HS.out.2.symm, hb⟩
        · have HS := Lib.hid (so_some (m := m) hw (by omega) (by omega) (by omega))
          have hcv := (lc_some (l := l) (m := m) hw (by omega) (by omega)).1
          have HSP := Lib.hid (spM_eq hwt.2 (c := m) (a := 0) (b := l.length) (by omega) (by omega))
          have HP := Lib.hid hP
          rw [hcv] at HC
          have HWT := Lib.hid hwt
          clear hw hP hi hcv
          go_enter Try.func18, Try.ntmps18
          go_wp2_with fail
          refine HC.out.mono ?_; rintro e w1 ⟨rfl, hb⟩
          have HT := Lib.hid (sTable l HWT.out.2 a cap l.length m HWT.out.1 rfl (by omega) w1 (HP.out.below hb (Nat.le_refl _)))
          clear HC
          go_wp2_with fail
          refine HT.out.mono ?_; rintro e w2 ⟨g, kg, rfl, ht, hb2⟩
          have hb3 := hb.trans (hb2.mono hb.size)
          have HSL := Lib.hid (sSplit l HWT.out.2 a cap g kg (m + 1) l.length (tbM l) m 0 l.length HWT.out.1 rfl (Nat.le_refl _) (by omega) (by omega) (by omega) w2 (HP.out.below hb3 (Nat.le_refl _)) ht (fun _ _ _ _ => ⟨rfl, rfl⟩))
          rw [HSP.out] at HSL
          clear hb hb2 ht HT
          go_wp2_with fail
          refine HSL.out.mono ?_; rintro e w3 ⟨rfl, rfl⟩
          go_wp2_with fail
          go_ret2
          exact ⟨ret_two HS.out.1.symm HS.out.2.symm, hb3⟩

end Go.Proofs.Ytleebjjikpmgoaa
