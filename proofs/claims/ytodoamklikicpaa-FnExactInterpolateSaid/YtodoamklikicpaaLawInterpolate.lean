/- The walk of the law FnExactInterpolate: the model and the program answer alike, no argument turns, the answer owns its memory. -/
import Derived.Test.YtodoamklikicpaaFitW
namespace Go.Proofs.Ytodoamklikicpaa
open Go.RowKit

set_option maxRecDepth 100000 in
set_option maxHeartbeats 6400000 in
theorem wFnExactInterpolate (a0 : Option Addr) (len0 cap0 : Nat) (z0 : List Int) (w : World) (w0 : IsRow .i64 w a0 len0 cap0 z0) :
    Calls Try.prog 6 #[.slice a0 len0 cap0] w fun e w' => e = .returned (.bool true) ∧ Below w.heap.size w w' := by
  obtain ⟨l, rfl, hat, hr, hmax⟩ := w0.open
  clear w0
  by_cases hbigl : 1048576 < l.length
  · go_enter Try.func6, Try.ntmps6
    go_wp2_with fail
    go_ret
    exact ⟨rfl, Below.refl _ _⟩
  have hlen : l.length ≤ 1048576 := by omega
  clear hbigl
  have hRl : (allInterpolate l).length ≤ 1048576 := resLen_Interpolate l hlen
  go_enter Try.func6, Try.ntmps6
  go_wp2_with fail
  have HB := Below.refl w.heap.size w
  refine (toInt64S a0 cap0 l _ (hat.below HB (Nat.le_refl _)) hlen).mono ?_
  rintro e v1 ⟨gT1, cT1, rfl, oT1, b⟩
  have s1 := b.size
  replace HB := HB.trans (b.mono HB.size)
  clear b
  replace oT1 := oT1.a
  go_wp2_with fail
  refine (sInterpolate _ _ l _ oT1.at hr hlen).mono ?_
  rintro e v2 ⟨gR, cR, rfl, oR, b⟩
  have s2 := b.size
  replace HB := HB.trans (b.mono HB.size)
  clear b
  clear oT1
  go_wp2_with fail
  have uR := Lib.hid (fun g hg => (oR.lt g hg).2)
  refine (toInt64S a0 cap0 l _ (hat.below HB (Nat.le_refl _)) hlen).mono ?_
  rintro e v3 ⟨gX, cX, rfl, oX, b⟩
  have s3 := b.size
  replace HB := HB.trans (b.mono HB.size)
  replace oR := oR.below b
  clear b
  replace oX := oX.a
  go_wp2_with fail
  have uX := Lib.hid (fun g hg => (oX.lt g hg).2)
  refine (iInterpolate _ _ l _ oX.at hr hlen).mono ?_
  rintro e v4 ⟨gQ, cQ, rfl, oQ, b⟩
  have s4 := b.size
  replace HB := HB.trans (b.mono HB.size)
  replace oR := oR.below b
  replace oX := oX.below b
  clear b
  go_wp2_with fail
  refine (eqInt64S gQ gR cQ cR (allInterpolate l) _ oQ.at oR.at (by omega)).mono ?_
  rintro e v5 ⟨rfl, b⟩
  have s5 := b.size
  replace HB := HB.trans (b.mono HB.size)
  replace oR := oR.below b
  replace oX := oX.below b
  replace oQ := oQ.below b
  clear b
  go_wp2_with fail
  refine (toInt64S a0 cap0 l _ (hat.below HB (Nat.le_refl _)) hlen).mono ?_
  rintro e v6 ⟨gT3, cT3, rfl, oT3, b⟩
  have s6 := b.size
  replace HB := HB.trans (b.mono HB.size)
  replace oR := oR.below b
  replace oX := oX.below b
  replace oQ := oQ.below b
  clear b
  replace oT3 := oT3.a
  go_wp2_with fail
  refine (eqInt64S _ _ cX cT3 l _ oX.at oT3.at (by omega)).mono ?_
  rintro e v7 ⟨rfl, b⟩
  have s7 := b.size
  replace HB := HB.trans (b.mono HB.size)
  replace oR := oR.below b
  replace oX := oX.below b
  replace oQ := oQ.below b
  replace oT3 := oT3.below b
  clear b
  go_wp2_with fail
  clear oT3
  refine (markAt _ _ _ l (1) (1) _ (by omega) oX (by omega) (by omega)).mono ?_
  rintro e v8 ⟨rfl, om, hg⟩
  have HS := HB.size
  replace HB := HB.grown hg HB.size (fun g hg => Nat.le_trans (by omega) (oX.lt g hg).1)
  replace oR := oR.keptBy hg (fun g h1 h2 => by have e1 := uR.out g h1; have e2 := (oX.lt g h2).1; omega)
  replace oQ := oQ.keptBy hg (fun g h1 h2 => by have e1 := (oQ.lt g h1).1; have e2 := uX.out g h2; omega)
  clear hg HS oX uX
  clear om
  go_wp2_with fail
  refine (eqInt64S gQ gR cQ cR (allInterpolate l) _ oQ.at oR.at (by omega)).mono ?_
  rintro e v9 ⟨rfl, b⟩
  replace HB := HB.trans (b.mono HB.size)
  replace oR := oR.below b
  replace oQ := oQ.below b
  clear b
  go_wp2_with fail
  refine (markAt _ _ _ (allInterpolate l) (1) (1) _ (by omega) oQ (by omega) (by omega)).mono ?_
  rintro e v10 ⟨rfl, om, hg⟩
  have HS := HB.size
  replace HB := HB.grown hg HB.size (fun g hg => Nat.le_trans (by omega) (oQ.lt g hg).1)
  replace oR := oR.keptBy hg (fun g h1 h2 => by have e1 := uR.out g h1; have e2 := (oQ.lt g h2).1; omega)
  clear hg HS oQ
  replace oQ := om
  go_wp2_with fail
  refine (heldAt _ _ (allInterpolate l).length 1 1 _ (by omega) oQ.at (by omega) (by omega)).mono ?_
  rintro e w' ⟨rfl, rfl⟩
  go_wp2_with fail
  refine (toInt64S a0 cap0 l _ (hat.below HB (Nat.le_refl _)) hlen).mono ?_
  rintro e v11 ⟨gS1, cS1, rfl, oS1, b⟩
  replace HB := HB.trans (b.mono HB.size)
  replace oR := oR.below b
  replace oQ := oQ.below b
  clear b
  replace oS1 := oS1.a
  go_wp2_with fail
  refine (iInterpolate _ _ l _ oS1.at hr hlen).mono ?_
  rintro e v12 ⟨gH, cH, rfl, oH, b⟩
  replace HB := HB.trans (b.mono HB.size)
  replace oR := oR.below b
  replace oQ := oQ.below b
  clear b
  clear oS1
  go_wp2_with fail
  refine (eqInt64S gH gR cH cR (allInterpolate l) _ oH.at oR.at (by omega)).mono ?_
  rintro e v13 ⟨rfl, b⟩
  replace HB := HB.trans (b.mono HB.size)
  replace oR := oR.below b
  replace oQ := oQ.below b
  replace oH := oH.below b
  clear b
  go_wp2_with fail
  refine (heldAt _ _ (allInterpolate l).length 1 1 _ (by omega) oQ.at (by omega) (by omega)).mono ?_
  rintro e w' ⟨rfl, rfl⟩
  go_wp2_with fail
  go_ret
  exact ⟨rfl, HB⟩

end Go.Proofs.Ytodoamklikicpaa
