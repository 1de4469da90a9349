/- The law on which lists are series. -/
import Derived.Test.YtegjlfbklcgapaaValid
namespace Go.Proofs.Ytegjlfbklcgapaa
open Go.RowKit

set_option maxHeartbeats 1600000 in
theorem wFnExactValidSeries (a0 : Option Addr) (len0 cap0 : Nat) (z0 : List Int) (w : World) (w0 : IsRow .i64 w a0 len0 cap0 z0) :
    Calls Try.prog 13 #[.slice a0 len0 cap0] w fun e w' => e = .returned (.bool true) ∧ Below w.heap.size w w' := by
  obtain ⟨l, rfl, hat, _, hmax⟩ := w0.open
  clear w0
  by_cases hbig : 1048576 < l.length
  · go_enter Try.func13, Try.ntmps13
    go_wp2_with fail
    go_ret
    exact ⟨rfl, Below.refl _ _⟩
  · have hlen : l.length ≤ 1048576 := by omega
    have hlen2 : l.length ≤ 9223372036854775806 := by omega
    clear hbig
    go_enter Try.func13, Try.ntmps13
    go_wp2_with fail
    refine (toInt64S a0 cap0 l _ hat hlen).mono ?_
    rintro e w1 ⟨g1, c1, rfl, o1, b1⟩
    go_wp2_with fail
    refine (sValid _ c1 l _ o1.at hlen2).mono ?_
    rintro e w' ⟨rfl, rfl⟩
    go_wp2_with fail
    have hat1 := hat.below b1 (Nat.le_refl _)
    refine (toInt64S a0 cap0 l _ hat1 hlen).mono ?_
    rintro e w2 ⟨g2, c2, rfl, o2, b2⟩
    go_wp2_with fail
    refine (iValid _ c2 l _ o2.at hlen2).mono ?_
    rintro e w' ⟨rfl, rfl⟩
    go_wp2_with fail
    have hat2 := hat1.below b2 (Nat.le_refl _)
    refine (toInt64S a0 cap0 l _ hat2 hlen).mono ?_
    rintro e w3 ⟨g3, c3, rfl, o3, b3⟩
    go_wp2_with fail
    refine (eqInt64S _ _ c2 c3 l _ (o2.kept b3 o2.base.2).at o3.at hlen2).mono ?_
    rintro e w4 ⟨rfl, b4⟩
    go_wp2_with fail
    go_ret
    exact ⟨rfl, (((b1.trans (b2.mono b1.size)).trans (b3.mono (Nat.le_trans b1.size b2.size))).trans (b4.mono (Nat.le_trans b1.size (Nat.le_trans b2.size b3.size))))⟩

end Go.Proofs.Ytegjlfbklcgapaa
