/- The law of the ring of residues. -/
import Derived.Test.YtegjlfbklcgapaaDraw3
import Derived.Test.YtegjlfbklcgapaaFermat
namespace Go.Proofs.Ytegjlfbklcgapaa
open Go.RowKit

theorem ring1 (a b c : Int) : pls a (pls b c) = pls (pls c a) b := by unfold pls; omega
theorem ring2 (a b c : Int) : tms a (pls b c) = pls (tms b a) (tms a c) := by
  unfold tms pls
  rw [Int.mul_emod, Int.emod_emod, ← Int.mul_emod, Int.mul_add, Int.mul_comm b a, ← Int.add_emod]
theorem pwr_sq (a : Int) (q : Nat) : pwr (tms a a) q = tms (pwr a q) (pwr a q) := by
  unfold pwr tms
  rw [emod_pow, ← Int.mul_emod, Int.mul_pow]

set_option maxHeartbeats 400000 in
theorem longT (a b : Option Addr) (n ca m cb : Nat) (w : World) (h : 3000 < n ∨ 3000 < m) (hn : n ≤ 9223372036854775807) (hm : m ≤ 9223372036854775807) :
    Calls Try.prog 26 #[.slice a n ca, .slice b m cb] w fun e w' => e = .returned (.bool true) ∧ w = w' := by
  by_cases h1 : 3000 < n
  · clear h
    go_enter Try.func26, Try.ntmps26
    go_wp2
    go_ret
    exact ⟨rfl, rfl⟩
  · have h2 : 3000 < m := by omega
    have h3 : n ≤ 3000 := by omega
    clear h h1
    go_enter Try.func26, Try.ntmps26
    go_wp2
    go_ret
    exact ⟨ret_bool (by simp; omega), rfl⟩
set_option maxHeartbeats 400000 in
theorem longF (a b : Option Addr) (n ca m cb : Nat) (w : World) (h : n ≤ 3000) (h2 : m ≤ 3000) :
    Calls Try.prog 26 #[.slice a n ca, .slice b m cb] w fun e w' => e = .returned (.bool false) ∧ w = w' := by
  have hd : decide (3000 < m) = false := by simp; omega
  go_enter Try.func26, Try.ntmps26
  go_wp2
  go_ret
  exact ⟨ret_bool (by simp; omega), rfl⟩

set_option maxHeartbeats 3200000 in
theorem wFnRing (a0 : Option Addr) (len0 cap0 : Nat) (z0 : List Int) (a1 : Option Addr) (len1 cap1 : Nat) (z1 : List Int) (w : World) (w0 : IsRow .u8 w a0 len0 cap0 z0) (w1 : IsRow .u8 w a1 len1 cap1 z1) :
    Calls Try.prog 3 #[.slice a0 len0 cap0, .slice a1 len1 cap1] w fun e w' => e = .returned (.bool true) ∧ Below w.heap.size w w' := by
  obtain ⟨hb0, hn0⟩ := w0.bytes
  obtain ⟨_, hn1⟩ := w1.bytes
  clear w0 w1
  by_cases hlong : 3000 < len0 ∨ 3000 < len1
  · have HL := Lib.hid hlong
    clear hlong
    go_enter Try.func3, Try.ntmps3
    go_wp2_with fail
    refine (longT a0 a1 len0 cap0 len1 cap1 _ HL.out hn0 hn1).mono ?_; rintro e w' ⟨rfl, rfl⟩
    go_wp2_with fail
    go_ret
    exact ⟨rfl, Below.refl _ _⟩
  · have hl0 : len0 ≤ 3000 := by omega
    have hl1 : len1 ≤ 3000 := by omega
    clear hlong hn0 hn1
    go_enter Try.func3, Try.ntmps3
    go_wp2_with fail
    refine (longF a0 a1 len0 cap0 len1 cap1 _ hl0 hl1).mono ?_; rintro e w' ⟨rfl, rfl⟩
    go_wp2_with fail
    refine (sNumbers3 a0 len0 cap0 _ hb0 hl0).mono ?_
    rintro e v1 ⟨a, b, c, rfl, ha, hb, hc, HB⟩
    have bbc := pls_bd b c
    have bca := pls_bd c a
    have bba := tms_bd b a
    have bac := tms_bd a c
    have f1 : (pls a (pls b c) != pls (pls c a) b) = false := by rw [ring1]; simp
    have f2 : (tms a (pls b c) != pls (tms b a) (tms a c)) = false := by rw [ring2]; simp
    go_wp2_with fail
    refine (iPlus b c hb hc _).mono ?_; rintro e w' ⟨rfl, rfl⟩
    go_wp2_with fail
    refine (iPlus a (pls b c) ha (by omega) _).mono ?_; rintro e w' ⟨rfl, rfl⟩
    go_wp2_with fail
    refine (iPlus c a hc ha _).mono ?_; rintro e w' ⟨rfl, rfl⟩
    go_wp2_with fail
    refine (iPlus (pls c a) b (by omega) hb _).mono ?_; rintro e w' ⟨rfl, rfl⟩
    go_wp2_with fail
    refine (iPlus b c hb hc _).mono ?_; rintro e w' ⟨rfl, rfl⟩
    go_wp2_with fail
    refine (iTimes a (pls b c) ha (by omega) _).mono ?_; rintro e w' ⟨rfl, rfl⟩
    go_wp2_with fail
    refine (iTimes b a hb ha _).mono ?_; rintro e w' ⟨rfl, rfl⟩
    go_wp2_with fail
    refine (iTimes a c ha hc _).mono ?_; rintro e w' ⟨rfl, rfl⟩
    go_wp2_with fail
    refine (iPlus (tms b a) (tms a c) (by omega) (by omega) _).mono ?_; rintro e w' ⟨rfl, rfl⟩
    go_wp2_with fail
    clear f1 f2 bbc bca bba bac
    have br := res_bd a
    cases hz : (res a == 0) with
    | true =>
      have f3 : (pls (res a) 1 == 1) = true := by
        rw [beq_iff_eq] at hz ⊢; rw [hz]; rfl
      refine (iInverseZ a ha hz _).mono ?_; rintro e w' ⟨rfl, rfl⟩
      go_wp2_with fail
      refine (iResidue a ha.1 ha.2 _).mono ?_; rintro e w' ⟨rfl, rfl⟩
      go_wp2_with fail
      refine (iResidue a ha.1 ha.2 _).mono ?_; rintro e w' ⟨rfl, rfl⟩
      go_wp2_with fail
      refine (iPlus (res a) 1 (by omega) (by omega) _).mono ?_; rintro e w' ⟨rfl, rfl⟩
      go_wp2_with fail
      go_ret
      exact ⟨rfl, HB⟩
    | false =>
      have ib := pwr_bd a 1000001
      have ib2 : 0 ≤ inv a ∧ inv a < 1000003 := ib
      have f4 : (tms a (inv a) == 1) = true := by
        rw [beq_iff_eq]; exact tms_inv (by rw [beq_eq_false_iff_ne] at hz; exact hz)
      have HP := Lib.hid (show pwr a 1000001 = inv a from rfl)
      have f5 : (pwr (tms a a) 1000001 == tms (inv a) (inv a)) = true := by
        rw [beq_iff_eq]; exact pwr_sq a 1000001
      have bta := tms_bd a a
      clear ib
      refine (iInverseN a ha hz _).mono ?_; rintro e w' ⟨rfl, rfl⟩
      go_wp2_with fail
      refine (iResidue a ha.1 ha.2 _).mono ?_; rintro e w' ⟨rfl, rfl⟩
      go_wp2_with fail
      refine (iTimes a (inv a) ha (by omega) _).mono ?_; rintro e w' ⟨rfl, rfl⟩
      go_wp2_with fail
      refine (iPower a 1000001 ha (by omega) _).mono ?_; rintro e w' ⟨rfl, rfl⟩
      rw [HP.out]
      go_wp2_with fail
      refine (iTimes a a ha ha _).mono ?_; rintro e w' ⟨rfl, rfl⟩
      go_wp2_with fail
      refine (iPower (tms a a) 1000001 (by omega) (by omega) _).mono ?_; rintro e w' ⟨rfl, rfl⟩
      go_wp2_with fail
      refine (iTimes (inv a) (inv a) (by omega) (by omega) _).mono ?_; rintro e w' ⟨rfl, rfl⟩
      go_wp2_with fail
      go_ret
      exact ⟨rfl, HB⟩

end Go.Proofs.Ytegjlfbklcgapaa
