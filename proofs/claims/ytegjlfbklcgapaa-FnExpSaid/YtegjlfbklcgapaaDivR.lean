/- The quotient, behind the checks. -/
import Derived.Test.YtegjlfbklcgapaaDivI
namespace Go.Proofs.Ytegjlfbklcgapaa
open Go.RowKit

def resDiv (l m : List Int) : List Int := if m.getD 0 0 = 0 then [] else divl l m
def codDiv (_ m : List Int) : Int := if m.getD 0 0 = 0 then 6 else 0
def allDiv (l m : List Int) : List Int := ifTwo l m (resDiv l m)
def alcDiv (l m : List Int) : Int := if two l m = 0 then codDiv l m else two l m
theorem resDiv_len (l m : List Int) : (resDiv l m).length ≤ l.length := by
  unfold resDiv; split
  · simp
  · rw [divl_len]; exact Nat.le_refl _

set_option maxHeartbeats 800000 in
theorem iDivR (a b : Option Addr) (ca cb : Nat) (l m : List Int) (w : World) (ha : At w a l) (hb : At w b m) (h1 : Hid (okS l = true)) (h2 : Hid (okS m = true)) (hlm : Hid (m.length = l.length)) :
    Calls Try.prog 104 #[.slice a l.length ca, .slice b m.length cb] w (Res2 w (resDiv l m) (codDiv l m)) := by
  have hk := okS_rng h1
  have hm0 : 1 ≤ m.length := (okS_rng h2).2.2.1
  have hb' := hb
  obtain ⟨b2, o2, rfl, hbl2, hc2⟩ := (hb.resolve_left (by intro e; rw [e] at hm0; simp at hm0))
  have hz : w.cell? ⟨b2, o2, none⟩ = some (.int .i64 (m.getD 0 0)) := by have := hc2 0 hm0; rwa [Nat.add_zero] at this
  have hmi : (0 : Int) < (m.length : Int) := by omega
  clear hc2
  by_cases h0 : m.getD 0 0 = 0
  · have hif := Lib.hid (show ([] : List Int) = resDiv l m by unfold resDiv; rw [if_pos h0])
    have hic := Lib.hid (show (6 : Int) = codDiv l m by unfold codDiv; rw [if_pos h0])
    rw [h0] at hz
    clear h0
    go_enter Try.func104, Try.ntmps104
    go_wp2_with fail
    go_ret2
    rw [← hif.out, ← hic.out]
    exact ⟨none, 0, rfl, .inl rfl, Below.refl _ _⟩
  · have hif := Lib.hid (show divl l m = resDiv l m by unfold resDiv; rw [if_neg h0])
    have hic := Lib.hid (show (0 : Int) = codDiv l m by unfold codDiv; rw [if_neg h0])
    have hq : (m.getD 0 0 == 0) = false := by rw [beq_eq_false_iff_ne]; exact h0
    clear h0
    obtain ⟨f0, hf0⟩ : ∃ f0, m.getD 0 0 = f0 := ⟨_, rfl⟩
    rw [hf0] at hz hq
    clear hf0
    go_enter Try.func104, Try.ntmps104
    go_wp2_with fail
    refine (iquotient a _ ca cb l m _ ha hb' hk.2.2.2.2 (okS_rng h2).2.2.2.2 hlm hk.2.2.1 hk.2.1).mono ?_; rintro e w1 ⟨g, cap, rfl, ho, hbel⟩
    go_wp2_with fail
    go_ret2
    exact res2_of_fresh (c := 0) hif.out hic.out ⟨g, cap, rfl, ho, hbel⟩

set_option maxHeartbeats 800000 in
theorem sDivSeries (a b : Option Addr) (ca cb : Nat) (l m : List Int) (w : World) (ha : At w a l) (hb : At w b m) (_ : Rng l) (_ : Rng m) (hl : l.length ≤ 1048576) (hm : m.length ≤ 1048576) :
    Calls Try.prog 65 #[.slice a l.length ca, .slice b m.length cb] w (Res2 w (allDiv l m) (alcDiv l m)) := by
  by_cases h0 : two l m = 0
  · have hh : okS l = true ∧ okS m = true ∧ l.length = m.length := by
      rcases two_cases l m with h | h | h
      · exact h.2
      · omega
      · omega
    have h1 := Lib.hid hh.1
    have h2 := Lib.hid hh.2.1
    have hlm : Hid (m.length = l.length) := hh.2.2.symm
    have hk := okS_rng h1
    have hm0 : 1 ≤ m.length := (okS_rng h2).2.2.1
    have hb' := hb
    obtain ⟨b2, o2, rfl, hbl2, hc2⟩ := (hb.resolve_left (by intro e; rw [e] at hm0; simp at hm0))
    have hz : w.cell? ⟨b2, o2, none⟩ = some (.int .i64 (m.getD 0 0)) := by have := hc2 0 hm0; rwa [Nat.add_zero] at this
    have hmi : (0 : Int) < (m.length : Int) := by omega
    have H0 := Lib.hid h0
    have hal : Hid (allDiv l m = resDiv l m) := by show _ = _; unfold allDiv ifTwo; rw [if_pos h0]
    have hac : Hid (alcDiv l m = codDiv l m) := by show _ = _; unfold alcDiv; rw [if_pos h0]
    clear hc2 hh h0
    by_cases hm00 : m.getD 0 0 = 0
    · have hif := Lib.hid (show ([] : List Int) = allDiv l m by rw [hal.out]; unfold resDiv; rw [if_pos hm00])
      have hic := Lib.hid (show (6 : Int) = alcDiv l m by rw [hac.out]; unfold codDiv; rw [if_pos hm00])
      rw [hm00] at hz
      clear hm00
      go_enter Try.func65, Try.ntmps65
      go_wp2_with fail
      refine (sTwo a _ ca cb l m _ ha hb' hl hm).mono ?_; rintro e w' ⟨rfl, rfl⟩
      rw [H0.out]
      go_wp2_with fail
      go_ret2
      rw [← hif.out, ← hic.out]
      exact ⟨_, _, rfl, .inl rfl, (Below.refl _ _).alloc (Nat.le_refl _) _⟩
    · have hif := Lib.hid (show divl l m = allDiv l m by rw [hal.out]; unfold resDiv; rw [if_neg hm00])
      have hic := Lib.hid (show (0 : Int) = alcDiv l m by rw [hac.out]; unfold codDiv; rw [if_neg hm00])
      have hq : (m.getD 0 0 == 0) = false := by rw [beq_eq_false_iff_ne]; exact hm00
      clear hm00
      obtain ⟨f0, hf0⟩ : ∃ f0, m.getD 0 0 = f0 := ⟨_, rfl⟩
      rw [hf0] at hz hq
      clear hf0
      go_enter Try.func65, Try.ntmps65
      go_wp2_with fail
      refine (sTwo a _ ca cb l m _ ha hb' hl hm).mono ?_; rintro e w' ⟨rfl, rfl⟩
      rw [H0.out]
      go_wp2_with fail
      refine (sDiv a _ ca cb l m _ ha hb' hk.2.2.2.2 (okS_rng h2).2.2.2.2 hlm hk.2.2.1 hl).mono ?_; rintro e w1 ⟨g, cap, rfl, ho, hbel⟩
      go_wp2_with fail
      go_ret2
      exact res2_of_fresh (c := 0) hif.out hic.out ⟨g, cap, rfl, ho, hbel⟩
  · have hif := Lib.hid (show ([] : List Int) = allDiv l m by unfold allDiv ifTwo; rw [if_neg h0])
    have hic := Lib.hid (show two l m = alcDiv l m by unfold alcDiv; rw [if_neg h0])
    have hq : (two l m != 0) = true := by rw [bne_iff_ne]; exact h0
    clear h0
    go_enter Try.func65, Try.ntmps65
    go_wp2_with fail
    refine (sTwo a b ca cb l m _ ha hb hl hm).mono ?_; rintro e w' ⟨rfl, rfl⟩
    go_wp2_with fail
    go_ret2
    rw [← hif.out, ← hic.out]
    exact ⟨_, _, rfl, .inl rfl, (Below.refl _ _).alloc (Nat.le_refl _) _⟩

end Go.Proofs.Ytegjlfbklcgapaa
