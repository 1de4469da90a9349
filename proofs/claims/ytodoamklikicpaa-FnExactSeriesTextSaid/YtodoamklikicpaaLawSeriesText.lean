/- The walk of the law FnExactSeriesText: the model and the program make the same text, and no argument turns. -/
import Derived.Test.YtodoamklikicpaaTxt
namespace Go.Proofs.Ytodoamklikicpaa
open Go.RowKit

set_option maxRecDepth 100000 in
set_option maxHeartbeats 1600000 in
theorem wFnExactSeriesText (a0 : Option Addr) (len0 cap0 : Nat) (z0 : List Int) (w : World) (w0 : IsRow .i64 w a0 len0 cap0 z0) :
    Calls Try.prog 4 #[.slice a0 len0 cap0] w fun e w' => e = .returned (.bool true) ∧ Below w.heap.size w w' := by
  obtain ⟨l, rfl, hat, hr, hmax⟩ := w0.open
  clear w0
  by_cases hbigl : 1048576 < l.length
  · go_enter Try.func4, Try.ntmps4
    go_wp2_with fail
    go_ret
    exact ⟨rfl, Below.refl _ _⟩
  have hlen : l.length ≤ 1048576 := by omega
  clear hbigl
  go_enter Try.func4, Try.ntmps4
  go_wp2_with fail
  have HB := Below.refl w.heap.size w
  refine (toInt64S a0 cap0 l _ (hat.below HB (Nat.le_refl _)) hlen).mono ?_
  rintro e v1 ⟨gT, cT, rfl, oT, b⟩
  replace HB := HB.trans (b.mono HB.size); clear b
  go_wp2_with fail
  refine (sSeriesText _ cT l _ oT.at hlen).mono ?_
  rintro e v2 ⟨rfl, b⟩
  replace HB := HB.trans (b.mono HB.size); clear b oT
  have HI := Lib.hid (fun (v : World) (a : Option Addr) (c : Nat) (h : At v a l) => iSeriesText a c l v h hlen)
  generalize strl (if okS l = true then lst l l.length else []) = s at HI ⊢
  go_wp2_with fail
  refine (toInt64S a0 cap0 l _ (hat.below HB (Nat.le_refl _)) hlen).mono ?_
  rintro e v3 ⟨gX, cX, rfl, oX, b⟩
  replace HB := HB.trans (b.mono HB.size); clear b
  replace oX := oX.a
  go_wp2_with fail
  refine (HI.out _ _ cX oX.at).mono ?_
  rintro e v4 ⟨rfl, b⟩
  replace HB := HB.trans (b.mono HB.size); replace oX := oX.below b; clear b
  go_wp2_with fail
  refine (toInt64S a0 cap0 l _ (hat.below HB (Nat.le_refl _)) hlen).mono ?_
  rintro e v5 ⟨gY, cY, rfl, oY, b⟩
  replace HB := HB.trans (b.mono HB.size); replace oX := oX.below b; clear b
  go_wp2_with fail
  refine (eqInt64S _ _ cX cY l _ oX.at oY.at (by omega)).mono ?_
  rintro e v6 ⟨rfl, b⟩
  replace HB := HB.trans (b.mono HB.size)
  go_wp2_with fail
  go_ret
  exact ⟨rfl, HB⟩

end Go.Proofs.Ytodoamklikicpaa
