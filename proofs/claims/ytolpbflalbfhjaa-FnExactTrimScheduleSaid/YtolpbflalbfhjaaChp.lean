/- The reach of chains, the repeats that are needed, and the cost by the formula: by the model and by the program. -/
import Derived.Test.YtolpbflalbfhjaaCho
namespace Go.Proofs.Ytolpbflalbfhjaa
open Go.RowKit
set_option linter.unusedVariables false

theorem ret_ii {a b c d : Int} (h : a = c) (h2 : b = d) : Ending.returned (.tuple #[.int .i64 a, .int .i64 b]) = .returned (.tuple #[.int .i64 c, .int .i64 d]) := by rw [h, h2]
/-- two numbers, and nothing old has turned -/
def II (a b : Int) (w : World) (e : Ending) (w' : World) : Prop := e = .returned (.tuple #[.int .i64 a, .int .i64 b]) ∧ Below w.heap.size w w'

def inR (n s : Int) : Bool := inB s 0 8 && inB n 0 40
theorem inR_t {n s : Int} (h : inR n s = true) : inB s 0 8 = true ∧ inB n 0 40 = true := by unfold inR at h; rwa [Bool.and_eq_true] at h
def RReach (s r : Int) : Int := if inR r s = true then ((bin (s.toNat + r.toNat) s.toNat : Nat) : Int) else 0
def CReach (s r : Int) : Int := if inR r s = true then 0 else 2

set_option maxHeartbeats 800000 in
theorem sReach (s r : Int) (w : World) : Calls Try.prog 24 #[.int .i64 s, .int .i64 r] w (II (RReach s r) (CReach s r) w) := by
  have HS := fun (W : World) => Lib.hid (sIn s 0 8 W)
  have HN := fun (W : World) => Lib.hid (sIn r 0 40 W)
  cases h1 : inB s 0 8 with
  | false =>
    have HF : Hid (RReach s r = 0 ∧ CReach s r = 2) := by constructor <;> simp [RReach, CReach, inR, h1]
    rw [h1] at HS; clear h1 HN
    go_enter Try.func24, Try.ntmps24
    go_wp2_with fail
    refine (HS _).out.mono ?_; rintro e w' ⟨rfl, rfl⟩
    go_wp2_with fail
    go_ret2
    exact ⟨ret_ii HF.out.1.symm HF.out.2.symm, Below.refl _ _⟩
  | true =>
    cases h2 : inB r 0 40 with
    | false =>
      have HF : Hid (RReach s r = 0 ∧ CReach s r = 2) := by constructor <;> simp [RReach, CReach, inR, h2]
      rw [h1] at HS; rw [h2] at HN; clear h1 h2
      go_enter Try.func24, Try.ntmps24
      go_wp2_with fail
      refine (HS _).out.mono ?_; rintro e w' ⟨rfl, rfl⟩
      go_wp2_with fail
      refine (HN _).out.mono ?_; rintro e w' ⟨rfl, rfl⟩
      go_wp2_with fail
      go_ret2
      exact ⟨ret_ii HF.out.1.symm HF.out.2.symm, Below.refl _ _⟩
    | true =>
      have HF : Hid (RReach s r = ((bin (s.toNat + r.toNat) s.toNat : Nat) : Int) ∧ CReach s r = 0) := by constructor <;> simp [RReach, CReach, inR, h1, h2]
      have b1 := inB_t h1
      have b2 := inB_t h2
      rw [h1] at HS; rw [h2] at HN; clear h1 h2
      have HC := fun (W : World) => Lib.hid (sChoose (s.toNat + r.toNat) s.toNat (s + r) s (by omega) (by omega) (by omega) (by omega) W)
      go_enter Try.func24, Try.ntmps24
      go_wp2_with fail
      refine (HS _).out.mono ?_; rintro e w' ⟨rfl, rfl⟩
      go_wp2_with fail
      refine (HN _).out.mono ?_; rintro e w' ⟨rfl, rfl⟩
      go_wp2_with fail
      refine (HC _).out.mono ?_; rintro e w' ⟨rfl, rfl⟩
      go_wp2_with fail
      go_ret2
      exact ⟨ret_ii HF.out.1.symm HF.out.2.symm, Below.refl _ _⟩

set_option maxHeartbeats 800000 in
theorem iReach (s r : Int) (w : World) : Calls Try.prog 25 #[.int .i64 s, .int .i64 r] w (II (RReach s r) (CReach s r) w) := by
  have HS := fun (W : World) => Lib.hid (iIx s 9 W)
  have HN := fun (W : World) => Lib.hid (iIx r 41 W)
  simp only [inB_ix (show (8 : Int) + 1 = 9 from rfl)] at HS
  simp only [inB_ix (show (40 : Int) + 1 = 41 from rfl)] at HN
  cases h1 : inB s 0 8 with
  | false =>
    have HF : Hid (RReach s r = 0 ∧ CReach s r = 2) := by constructor <;> simp [RReach, CReach, inR, h1]
    rw [h1] at HS; clear h1 HN
    go_enter Try.func25, Try.ntmps25
    go_wp2_with fail
    refine (HS _).out.mono ?_; rintro e w' ⟨rfl, rfl⟩
    go_wp2_with fail
    go_ret2
    exact ⟨ret_ii HF.out.1.symm HF.out.2.symm, Below.refl _ _⟩
  | true =>
    cases h2 : inB r 0 40 with
    | false =>
      have HF : Hid (RReach s r = 0 ∧ CReach s r = 2) := by constructor <;> simp [RReach, CReach, inR, h2]
      rw [h1] at HS; rw [h2] at HN; clear h1 h2
      go_enter Try.func25, Try.ntmps25
      go_wp2_with fail
      refine (HS _).out.mono ?_; rintro e w' ⟨rfl, rfl⟩
      go_wp2_with fail
      refine (HN _).out.mono ?_; rintro e w' ⟨rfl, rfl⟩
      go_wp2_with fail
      go_ret2
      exact ⟨ret_ii HF.out.1.symm HF.out.2.symm, Below.refl _ _⟩
    | true =>
      have HF : Hid (RReach s r = ((bin (s.toNat + r.toNat) s.toNat : Nat) : Int) ∧ CReach s r = 0) := by constructor <;> simp [RReach, CReach, inR, h1, h2]
      have b1 := inB_t h1
      have b2 := inB_t h2
      have es : ((s.toNat : Nat) : Int) = s := by omega
      rw [h1] at HS; rw [h2] at HN; clear h1 h2
      have HC := fun (B : Nat) (W : World) (hc : W.cell? ⟨B, 0, none⟩ = some (.int .i64 s)) => Lib.hid (iClos (s.toNat + r.toNat) s.toNat (s + r) B (by omega) (by omega) (by omega) W (by rw [es]; exact hc))
      clear es
      go_enter Try.func25, Try.ntmps25
      go_wp2_with fail
      refine (HS _).out.mono ?_; rintro e w' ⟨rfl, rfl⟩
      go_wp2_with fail
      refine (HN _).out.mono ?_; rintro e w' ⟨rfl, rfl⟩
      go_wp2_with fail
      refine (iWays s _).mono ?_; rintro e w1 ⟨B, rfl, hc, hB, hb⟩
      replace HC := HC B w1 hc
      clear hc hB
      go_wp2_with fail
      refine HC.out.mono ?_; rintro e w' ⟨rfl, rfl⟩
      go_wp2_with fail
      go_ret2
      exact ⟨ret_ii HF.out.1.symm HF.out.2.symm, hb⟩

/- repeats -/
def repP (n s : Nat) (r : Nat) : Bool := decide (n ≤ bin (s + r) s)
def rep (n s : Nat) : Option Nat := lst (repP n s) 41 0
def repV : Option Nat → Int
  | some r => r
  | none => 0
def repC : Option Nat → Int
  | some _ => 0
  | none => 4
def RRep (n s : Int) : Int := if inR n s = true then repV (rep n.toNat s.toNat) else 0
def CRep (n s : Int) : Int := if inR n s = true then repC (rep n.toNat s.toNat) else 2
theorem rep_none {n s : Nat} (h : rep n s = none) : repV (rep n s) = 0 ∧ repC (rep n s) = 4 := by rw [h]; exact ⟨rfl, rfl⟩
theorem rep_some {n s r : Nat} (h : rep n s = some r) : repV (rep n s) = r ∧ repC (rep n s) = 0 := by rw [h]; exact ⟨rfl, rfl⟩

set_option maxHeartbeats 800000 in
theorem sRep (n s : Int) (w : World) : Calls Try.prog 26 #[.int .i64 n, .int .i64 s] w (II (RRep n s) (CRep n s) w) := by
  have HS := fun (W : World) => Lib.hid (sIn s 0 8 W)
  have HN := fun (W : World) => Lib.hid (sIn n 0 40 W)
  cases h1 : inB s 0 8 with
  | false =>
    have HF : Hid (RRep n s = 0 ∧ CRep n s = 2) := by constructor <;> simp [RRep, CRep, inR, h1]
    rw [h1] at HS; clear h1 HN
    go_enter Try.func26, Try.ntmps26
    go_wp2_with fail
    refine (HS _).out.mono ?_; rintro e w' ⟨rfl, rfl⟩
    go_wp2_with fail
    go_ret2
    exact ⟨ret_ii HF.out.1.symm HF.out.2.symm, Below.refl _ _⟩
  | true =>
    cases h2 : inB n 0 40 with
    | false =>
      have HF : Hid (RRep n s = 0 ∧ CRep n s = 2) := by constructor <;> simp [RRep, CRep, inR, h2]
      rw [h1] at HS; rw [h2] at HN; clear h1 h2
      go_enter Try.func26, Try.ntmps26
      go_wp2_with fail
      refine (HS _).out.mono ?_; rintro e w' ⟨rfl, rfl⟩
      go_wp2_with fail
      refine (HN _).out.mono ?_; rintro e w' ⟨rfl, rfl⟩
      go_wp2_with fail
      go_ret2
      exact ⟨ret_ii HF.out.1.symm HF.out.2.symm, Below.refl _ _⟩
    | true =>
      have HF : Hid (RRep n s = repV (rep n.toNat s.toNat) ∧ CRep n s = repC (rep n.toNat s.toNat)) := by constructor <;> simp [RRep, CRep, inR, h1, h2]
      have b1 := inB_t h1
      have b2 := inB_t h2
      rw [h1] at HS; rw [h2] at HN; clear h1 h2
      obtain ⟨s, rfl⟩ : ∃ m : Nat, s = m := ⟨s.toNat, by omega⟩
      obtain ⟨n, rfl⟩ : ∃ m : Nat, n = m := ⟨n.toNat, by omega⟩
      simp only [Int.toNat_natCast] at HF
      go_enter Try.func26, Try.ntmps26
      go_wp2_with fail
      refine (HS _).out.mono ?_; rintro e w' ⟨rfl, rfl⟩
      go_wp2_with fail
      refine (HN _).out.mono ?_; rintro e w' ⟨rfl, rfl⟩
      clear HS HN
      go_wp2_with fail
      go_loop [6] (fun q => ∃ r : Nat, r ≤ 41 ∧ q = .int .i64 r ∧ Hid (rep n s = lst (repP n s) (41 - r) r)) (fun q => 41 - (intOf q).toNat)
      case atStart => exact ⟨0, by omega, rfl, rfl⟩
      case round =>
        obtain ⟨r, hr, rfl, HX⟩ := hrel
        by_cases hlt : r < 41
        · have hi : (r : Int) ≤ 40 := by omega
          have HC := Lib.hid (sChoose (s + r) s ((s : Int) + (r : Int)) s (by omega) rfl (by omega) (by omega) w)
          cases hp : repP n s r with
          | true =>
            have HE : Hid (rep n s = some r) := by show _ = _; rw [HX.out, show 41 - r = (40 - r) + 1 from by omega]; exact lst_t hp
            have HG := Lib.hid (rep_some HE.out)
            have hd : decide ((n : Int) ≤ ((bin (s + r) s : Nat) : Int)) = true := by
              have := of_decide_eq_true hp; exact decide_eq_true (by omega)
            have hd2 : decide (n ≤ bin (s + r) s) = true := hp
            clear hp HX HE
            generalize bin (s + r) s = y at *
            go_wp2_with fail
            refine HC.out.mono ?_; rintro e w' ⟨rfl, rfl⟩
            clear HC
            go_wp2_with fail
            go_ret2
            exact ⟨ret_ii (by rw [HF.out.1, HG.out.1]) (by rw [HF.out.2, HG.out.2]), Below.refl _ _⟩
          | false =>
            have HE : Hid (rep n s = lst (repP n s) (41 - (r + 1)) (r + 1)) := by show _ = _; rw [HX.out, show 41 - r = (41 - (r + 1)) + 1 from by omega]; exact lst_f hp
            have hd : decide ((n : Int) ≤ ((bin (s + r) s : Nat) : Int)) = false := by
              have := of_decide_eq_false hp; exact decide_eq_false (by omega)
            have hd2 : decide (n ≤ bin (s + r) s) = false := hp
            clear hp HX
            generalize bin (s + r) s = y at *
            go_wp2_with fail
            refine HC.out.mono ?_; rintro e w' ⟨rfl, rfl⟩
            clear HC
            go_wp2_with fail
            go_round
            case rel => exact ⟨r + 1, by omega, by go_num, HE.out⟩
            case measure => simp [intOf]; omega
        · have hi : ¬ (r : Int) ≤ 40 := by omega
          have HE : Hid (rep n s = none) := by show _ = _; rw [HX.out, show 41 - r = 0 from by omega]; rfl
          have HG := Lib.hid (rep_none HE.out)
          clear HX HE
          go_wp2_with fail
          go_ret2
          exact ⟨ret_ii (by rw [HF.out.1, HG.out.1]) (by rw [HF.out.2, HG.out.2]), Below.refl _ _⟩


theorem rep_can0 {n s : Nat} (h : n ≤ 1) : repP n s 0 = true := by
  unfold repP; rw [Nat.add_zero, bin_self]; exact decide_eq_true h
theorem rep_can {n s : Nat} (hs : 1 ≤ s) (hn : n ≤ 40) : repP n s 39 = true := decide_eq_true (by have := bin_row s 39 hs; omega)
/-- without slots there are no repeats for two steps -/
theorem rep_not {n : Nat} (h : 1 < n) : rep n 0 = none := by
  have hp : ∀ r, repP n 0 r = false := fun r => decide_eq_false (by rw [bin_zero]; omega)
  have : ∀ f r, lst (repP n 0) f r = none := by
    intro f
    induction f with
    | zero => intro r; rfl
    | succ f ih => intro r; rw [lst_f (hp r)]; exact ih _
  exact this 41 0

set_option maxHeartbeats 800000 in
theorem iRep (n s : Int) (w : World) : Calls Try.prog 27 #[.int .i64 n, .int .i64 s] w (II (RRep n s) (CRep n s) w) := by
  have HS := fun (W : World) => Lib.hid (iIx s 9 W)
  have HN := fun (W : World) => Lib.hid (iIx n 41 W)
  simp only [inB_ix (show (8 : Int) + 1 = 9 from rfl)] at HS
  simp only [inB_ix (show (40 : Int) + 1 = 41 from rfl)] at HN
  cases h2 : inB n 0 40 with
  | false =>
    have HF : Hid (RRep n s = 0 ∧ CRep n s = 2) := by constructor <;> simp [RRep, CRep, inR, h2]
    rw [h2] at HN; clear h2 HS
    go_enter Try.func27, Try.ntmps27
    go_wp2_with fail
    refine (HN _).out.mono ?_; rintro e w' ⟨rfl, rfl⟩
    go_wp2_with fail
    go_ret2
    exact ⟨ret_ii HF.out.1.symm HF.out.2.symm, Below.refl _ _⟩
  | true =>
    cases h1 : inB s 0 8 with
    | false =>
      have HF : Hid (RRep n s = 0 ∧ CRep n s = 2) := by constructor <;> simp [RRep, CRep, inR, h1]
      rw [h1] at HS; rw [h2] at HN; clear h1 h2
      go_enter Try.func27, Try.ntmps27
      go_wp2_with fail
      refine (HN _).out.mono ?_; rintro e w' ⟨rfl, rfl⟩
      go_wp2_with fail
      refine (HS _).out.mono ?_; rintro e w' ⟨rfl, rfl⟩
      go_wp2_with fail
      go_ret2
      exact ⟨ret_ii HF.out.1.symm HF.out.2.symm, Below.refl _ _⟩
    | true =>
      have HF : Hid (RRep n s = repV (rep n.toNat s.toNat) ∧ CRep n s = repC (rep n.toNat s.toNat)) := by constructor <;> simp [RRep, CRep, inR, h1, h2]
      have b1 := inB_t h1
      have b2 := inB_t h2
      rw [h1] at HS; rw [h2] at HN; clear h1 h2
      obtain ⟨s, rfl⟩ : ∃ m : Nat, s = m := ⟨s.toNat, by omega⟩
      obtain ⟨n, rfl⟩ : ∃ m : Nat, n = m := ⟨n.toNat, by omega⟩
      simp only [Int.toNat_natCast] at HF
      have HC := fun (W : World) => Lib.hid (iCan (n : Int) (s : Int) W)
      by_cases hcan : n ≤ 1 ∨ 1 ≤ s
      rotate_left
      · have HG := Lib.hid (rep_none (show rep n s = none from by rw [show s = 0 from by omega]; exact rep_not (by omega)))
        have hz : decide ((n : Int) ≤ 1 ∨ 1 ≤ (s : Int)) = false := decide_eq_false (by omega)
        rw [hz] at HC
        clear hcan hz
        go_enter Try.func27, Try.ntmps27
        go_wp2_with fail
        refine (HN _).out.mono ?_; rintro e w' ⟨rfl, rfl⟩
        go_wp2_with fail
        refine (HS _).out.mono ?_; rintro e w' ⟨rfl, rfl⟩
        clear HS HN
        go_wp2_with fail
        refine (HC _).out.mono ?_; rintro e w' ⟨rfl, rfl⟩
        go_wp2_with fail
        go_ret2
        exact ⟨ret_ii (by rw [HF.out.1, HG.out.1]) (by rw [HF.out.2, HG.out.2]), Below.refl _ _⟩
      have hz : decide ((n : Int) ≤ 1 ∨ 1 ≤ (s : Int)) = true := decide_eq_true (by omega)
      rw [hz] at HC
      have HK : Hid (∀ r, repP n s r = false → r < 41 → r + 1 ≤ 39) := by
        intro r hr h41
        rcases hcan with h | h
        · exfalso
          have : ∀ r, repP n s r = true := fun r => decide_eq_true (Nat.le_trans h (by
            by_cases hs : 1 ≤ s
            · have := bin_row s r hs; omega
            · rw [show s = 0 from by omega, bin_zero]; omega))
          rw [this r] at hr; cases hr
        · apply Decidable.byContradiction; intro hn
          have : repP n s r = true := decide_eq_true (by have := bin_row s r h; omega)
          rw [this] at hr; cases hr
      clear hcan hz
      go_enter Try.func27, Try.ntmps27
      go_wp2_with fail
      refine (HN _).out.mono ?_; rintro e w' ⟨rfl, rfl⟩
      go_wp2_with fail
      refine (HS _).out.mono ?_; rintro e w' ⟨rfl, rfl⟩
      clear HS HN
      go_wp2_with fail
      refine (HC _).out.mono ?_; rintro e w' ⟨rfl, rfl⟩
      clear HC
      go_wp2_with fail
      refine (iWays s _).mono ?_; rintro e w1 ⟨B, rfl, hc, hB, hb⟩
      have HP := fun (r : Nat) (hr : r ≤ 40) => Lib.hid (iClos (s + r) s ((s : Int) + (r : Int)) B (by omega) (by omega) (by omega) w1 hc)
      clear hc hB
      go_wp2_with fail
      go_loop [7] (fun q => ∃ r : Nat, r ≤ 39 ∧ q = .int .i64 r ∧ Hid (rep n s = lst (repP n s) (41 - r) r)) (fun q => 41 - (intOf q).toNat)
      case atStart => exact ⟨0, by omega, rfl, rfl⟩
      case round =>
        obtain ⟨r, hr, rfl, HX⟩ := hrel
        have HC := HP r (by omega)
        clear HP
        cases hp : repP n s r with
        | true =>
          have HE : Hid (rep n s = some r) := by show _ = _; rw [HX.out, show 41 - r = (40 - r) + 1 from by omega]; exact lst_t hp
          have HG := Lib.hid (rep_some HE.out)
          have hd : ¬ ((bin (s + r) s : Nat) : Int) < (n : Int) := by have := of_decide_eq_true hp; omega
          have hd2 : ¬ bin (s + r) s < n := by have := of_decide_eq_true hp; omega
          clear hp HX HE HK
          generalize bin (s + r) s = y at *
          go_wp2_with fail
          refine HC.out.mono ?_; rintro e w' ⟨rfl, rfl⟩
          clear HC
          go_wp2_with fail
          go_ret2
          exact ⟨ret_ii (by rw [HF.out.1, HG.out.1]) (by rw [HF.out.2, HG.out.2]), hb⟩
        | false =>
          have HE : Hid (rep n s = lst (repP n s) (41 - (r + 1)) (r + 1)) := by show _ = _; rw [HX.out, show 41 - r = (41 - (r + 1)) + 1 from by omega]; exact lst_f hp
          have hd : ((bin (s + r) s : Nat) : Int) < (n : Int) := by have := of_decide_eq_false hp; omega
          have hd2 : bin (s + r) s < n := by have := of_decide_eq_false hp; omega
          have hk := HK.out r hp (by omega)
          clear hp HX HK
          generalize bin (s + r) s = y at *
          go_wp2_with fail
          refine HC.out.mono ?_; rintro e w' ⟨rfl, rfl⟩
          clear HC
          go_wp2_with fail
          go_round
          case rel => exact ⟨r + 1, by omega, by go_num, HE.out⟩
          case measure => simp [intOf]; omega

/- the formula -/
def RFor (n s : Int) : Int := if CRep n s = 0 then RRep n s * n - ((bin (s.toNat + (RRep n s).toNat) (s.toNat + 1) : Nat) : Int) else 0
theorem rep_bd {n s : Int} (h : CRep n s = 0) : (0 ≤ s ∧ s ≤ 8) ∧ (0 ≤ n ∧ n ≤ 40) ∧ 0 ≤ RRep n s ∧ RRep n s ≤ 40 := by
  unfold CRep at h
  split at h
  · rename_i hr
    have h1 := inB_t (inR_t hr).1
    have h2 := inB_t (inR_t hr).2
    unfold RRep
    rw [if_pos hr]
    cases hl : rep n.toNat s.toNat with
    | none => rw [hl] at h; cases h
    | some r => have := lst_bd hl; exact ⟨h1, h2, by show 0 ≤ (r : Int); omega, by show (r : Int) ≤ 40; omega⟩
  · cases h

set_option maxHeartbeats 800000 in
theorem sFor (n s : Int) (w : World) : Calls Try.prog 28 #[.int .i64 n, .int .i64 s] w (II (RFor n s) (CRep n s) w) := by
  have HR := Lib.hid (sRep n s w)
  by_cases hc : CRep n s = 0
  · obtain ⟨b1, b2, b3, b4⟩ := rep_bd hc
    have HF : Hid (RFor n s = RRep n s * n - ((bin (s.toNat + (RRep n s).toNat) (s.toNat + 1) : Nat) : Int)) := if_pos hc
    have HZ := Lib.hid hc
    rw [hc] at HR
    clear hc
    generalize RRep n s = r at *
    have HC := fun (W : World) => Lib.hid (sChoose (s.toNat + r.toNat) (s.toNat + 1) (s + r) (s + 1) (by omega) (by omega) (by omega) (by omega) W)
    have y0 : 0 ≤ ((bin (s.toNat + r.toNat) (s.toNat + 1) : Nat) : Int) := by omega
    have y1 : ((bin (s.toNat + r.toNat) (s.toNat + 1) : Nat) : Int) ≤ 281474976710656 := by have := bin_48 (n := s.toNat + r.toNat) (s.toNat + 1) (by omega); omega
    have m0 : 0 ≤ r * n := Int.mul_nonneg b3 b2.1
    have m1 : r * n ≤ 40 * 40 := Int.mul_le_mul b4 b2.2 b2.1 (by decide)
    generalize ((bin (s.toNat + r.toNat) (s.toNat + 1) : Nat) : Int) = y at *
    go_enter Try.func28, Try.ntmps28
    go_wp2_with fail
    refine HR.out.mono ?_; rintro e w1 ⟨rfl, hb⟩
    go_wp2_with fail
    refine (HC _).out.mono ?_; rintro e w' ⟨rfl, rfl⟩
    go_wp2_with fail
    go_ret2
    exact ⟨ret_ii HF.out.symm HZ.out.symm, hb⟩
  · have HF : Hid (RFor n s = 0) := if_neg hc
    have hne : (CRep n s != 0) = true := by simp [hc]
    clear hc
    generalize CRep n s = c at *
    generalize RRep n s = r at *
    go_enter Try.func28, Try.ntmps28
    go_wp2_with fail
    refine HR.out.mono ?_; rintro e w1 ⟨rfl, hb⟩
    go_wp2_with fail
    go_ret2
    exact ⟨ret_ii HF.out.symm rfl, hb⟩

set_option maxHeartbeats 800000 in
theorem iFor (n s : Int) (w : World) : Calls Try.prog 29 #[.int .i64 n, .int .i64 s] w (II (RFor n s) (CRep n s) w) := by
  have HR := Lib.hid (iRep n s w)
  by_cases hc : CRep n s = 0
  · obtain ⟨b1, b2, b3, b4⟩ := rep_bd hc
    have HF : Hid (RFor n s = RRep n s * n - ((bin (s.toNat + (RRep n s).toNat) (s.toNat + 1) : Nat) : Int)) := if_pos hc
    have HZ := Lib.hid hc
    rw [hc] at HR
    clear hc
    generalize RRep n s = r at *
    have es : (((s.toNat + 1 : Nat)) : Int) = s + 1 := by omega
    have HC := fun (B : Nat) (W : World) (hc : W.cell? ⟨B, 0, none⟩ = some (.int .i64 (s + 1))) => Lib.hid (iClos (s.toNat + r.toNat) (s.toNat + 1) (s + r) B (by omega) (by omega) (by omega) W (by rw [es]; exact hc))
    clear es
    have y0 : 0 ≤ ((bin (s.toNat + r.toNat) (s.toNat + 1) : Nat) : Int) := by omega
    have y1 : ((bin (s.toNat + r.toNat) (s.toNat + 1) : Nat) : Int) ≤ 281474976710656 := by have := bin_48 (n := s.toNat + r.toNat) (s.toNat + 1) (by omega); omega
    have m0 : 0 ≤ r * n := Int.mul_nonneg b3 b2.1
    have m1 : r * n ≤ 40 * 40 := Int.mul_le_mul b4 b2.2 b2.1 (by decide)
    generalize ((bin (s.toNat + r.toNat) (s.toNat + 1) : Nat) : Int) = y at *
    go_enter Try.func29, Try.ntmps29
    go_wp2_with fail
    refine HR.out.mono ?_; rintro e w1 ⟨rfl, hb⟩
    go_wp2_with fail
    refine (iWays (s + 1) _).mono ?_; rintro e w2 ⟨B, rfl, hc, hB, hb2⟩
    replace HC := HC B w2 hc
    clear hc hB
    go_wp2_with fail
    refine HC.out.mono ?_; rintro e w' ⟨rfl, rfl⟩
    go_wp2_with fail
    go_ret2
    exact ⟨ret_ii HF.out.symm HZ.out.symm, hb.trans (hb2.mono hb.size)⟩
  · have HF : Hid (RFor n s = 0) := if_neg hc
    have hne : (CRep n s != 0) = true := by simp [hc]
    clear hc
    generalize CRep n s = c at *
    generalize RRep n s = r at *
    go_enter Try.func29, Try.ntmps29
    go_wp2_with fail
    refine HR.out.mono ?_; rintro e w1 ⟨rfl, hb⟩
    go_wp2_with fail
    go_ret2
    exact ⟨ret_ii HF.out.symm rfl, hb⟩

/- the laws' contracts -/
theorem sChainReachL (s r : Int) (w : World) (h0 : -9223372036854775808 ≤ s ∧ s ≤ 9223372036854775807) (h1 : -9223372036854775808 ≤ r ∧ r ≤ 9223372036854775807) : Calls Try.prog 24 #[.int .i64 s, .int .i64 r] w (II (RReach s r) (CReach s r) w) := sReach s r w
theorem iChainReachL (s r : Int) (w : World) (h0 : -9223372036854775808 ≤ s ∧ s ≤ 9223372036854775807) (h1 : -9223372036854775808 ≤ r ∧ r ≤ 9223372036854775807) : Calls Try.prog 25 #[.int .i64 s, .int .i64 r] w (II (RReach s r) (CReach s r) w) := iReach s r w
theorem sRepeatsNeededL (s r : Int) (w : World) (h0 : -9223372036854775808 ≤ s ∧ s ≤ 9223372036854775807) (h1 : -9223372036854775808 ≤ r ∧ r ≤ 9223372036854775807) : Calls Try.prog 26 #[.int .i64 s, .int .i64 r] w (II (RRep s r) (CRep s r) w) := sRep s r w
theorem iRepeatsNeededL (s r : Int) (w : World) (h0 : -9223372036854775808 ≤ s ∧ s ≤ 9223372036854775807) (h1 : -9223372036854775808 ≤ r ∧ r ≤ 9223372036854775807) : Calls Try.prog 27 #[.int .i64 s, .int .i64 r] w (II (RRep s r) (CRep s r) w) := iRep s r w
theorem sFormulaCostL (s r : Int) (w : World) (h0 : -9223372036854775808 ≤ s ∧ s ≤ 9223372036854775807) (h1 : -9223372036854775808 ≤ r ∧ r ≤ 9223372036854775807) : Calls Try.prog 28 #[.int .i64 s, .int .i64 r] w (II (RFor s r) (CRep s r) w) := sFor s r w
theorem iFormulaCostL (s r : Int) (w : World) (h0 : -9223372036854775808 ≤ s ∧ s ≤ 9223372036854775807) (h1 : -9223372036854775808 ≤ r ∧ r ≤ 9223372036854775807) : Calls Try.prog 29 #[.int .i64 s, .int .i64 r] w (II (RFor s r) (CRep s r) w) := iFor s r w

end Go.Proofs.Ytolpbflalbfhjaa
