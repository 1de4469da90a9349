/- The product, behind the checks. -/
import Derived.Test.YtegjlfbklcgapaaMulI
namespace Go.Proofs.Ytegjlfbklcgapaa
open Go.RowKit

def resMul (l m : List Int) : List Int := mull l m
def codMul (_ _ : List Int) : Int := 0
def allMul (l m : List Int) : List Int := ifTwo l m (resMul l m)
def alcMul (l m : List Int) : Int := if two l m = 0 then codMul l m else two l m
theorem resMul_len (l m : List Int) : (resMul l m).length ≤ l.length := by unfold resMul; rw [mull_len]; exact Nat.le_refl _

theorem okS_rng {l : List Int} (h : Hid (okS l = true)) : Rng l ∧ l.length ≤ 1048576 ∧ 1 ≤ l.length ∧ l.length ≤ 13 ∧ Nums l := by
  have := okS_t h.out
  exact ⟨this.2.2.rng, by omega, this.1, this.2.1, this.2.2⟩

set_option maxHeartbeats 800000 in
theorem iMulR (a b : Option Addr) (ca cb : Nat) (l m : List Int) (w : World) (ha : At w a l) (hb : At w b m) (h1 : Hid (okS l = true)) (h2 : Hid (okS m = true)) (hlm : Hid (m.length = l.length)) :
    Calls Try.prog 103 #[.slice a l.length ca, .slice b m.length cb] w (Res2 w (resMul l m) (codMul l m)) := by
  go_enter Try.func103, Try.ntmps103
  go_wp2_with fail
  refine (iproduct a b ca cb l m _ ha hb (okS_rng h1).1 (okS_rng h2).1 hlm (okS_rng h1).2.1).mono ?_; rintro e w1 ⟨g, cap, rfl, ho, hbel⟩
  go_wp2_with fail
  go_ret2
  exact ⟨_, cap, rfl, ho.a, hbel⟩

set_option maxHeartbeats 800000 in
theorem sMulSeries (a b : Option Addr) (ca cb : Nat) (l m : List Int) (w : World) (ha : At w a l) (hb : At w b m) (hr : Rng l) (hr2 : Rng m) (hl : l.length ≤ 1048576) (hm : m.length ≤ 1048576) :
    Calls Try.prog 64 #[.slice a l.length ca, .slice b m.length cb] w (Res2 w (allMul l m) (alcMul l m)) := by
  by_cases h0 : two l m = 0
  · have hlm : Hid (m.length = l.length) := by
      rcases two_cases l m with h | h | h
      · exact h.2.2.2.symm
      · omega
      · omega
    have H0 := Lib.hid h0
    have hif := Lib.hid (show mull l m = allMul l m by unfold allMul ifTwo; rw [if_pos h0]; rfl)
    have hic := Lib.hid (show (0 : Int) = alcMul l m by unfold alcMul; rw [if_pos h0]; rfl)
    clear h0
    go_enter Try.func64, Try.ntmps64
    go_wp2_with fail
    refine (sTwo a b ca cb l m _ ha hb hl hm).mono ?_; rintro e w' ⟨rfl, rfl⟩
    rw [H0.out]
    go_wp2_with fail
    refine (sMul a b ca cb l m _ ha hb hr hr2 hlm hl).mono ?_; rintro e w1 ⟨g, cap, rfl, ho, hbel⟩
    go_wp2_with fail
    go_ret2
    exact res2_of_fresh (c := 0) hif.out hic.out ⟨g, cap, rfl, ho, hbel⟩
  · have hif := Lib.hid (show ([] : List Int) = allMul l m by unfold allMul ifTwo; rw [if_neg h0])
    have hic := Lib.hid (show two l m = alcMul l m by unfold alcMul; rw [if_neg h0])
    have hq : (two l m != 0) = true := by rw [bne_iff_ne]; exact h0
    clear h0
    go_enter Try.func64, Try.ntmps64
    go_wp2_with fail
    refine (sTwo a b ca cb l m _ ha hb hl hm).mono ?_; rintro e w' ⟨rfl, rfl⟩
    go_wp2_with fail
    go_ret2
    rw [← hif.out, ← hic.out]
    exact ⟨_, _, rfl, .inl rfl, (Below.refl _ _).alloc (Nat.le_refl _) _⟩

end Go.Proofs.Ytegjlfbklcgapaa
