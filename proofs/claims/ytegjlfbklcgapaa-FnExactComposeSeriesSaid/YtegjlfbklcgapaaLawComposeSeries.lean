/- The walk of the law FnExactComposeSeries: the model and the program answer alike, no argument turns, the answer owns its memory. -/
import Derived.Test.YtegjlfbklcgapaaCmpT
namespace Go.Proofs.Ytegjlfbklcgapaa
open Go.RowKit

set_option maxRecDepth 100000 in
set_option maxHeartbeats 6400000 in
theorem wFnExactComposeSeries (a0 : Option Addr) (len0 cap0 : Nat) (z0 : List Int) (a1 : Option Addr) (len1 cap1 : Nat) (z1 : List Int) (w : World) (w0 : IsRow .i64 w a0 len0 cap0 z0) (w1 : IsRow .i64 w a1 len1 cap1 z1) :
    Calls Try.prog 18 #[.slice a0 len0 cap0, .slice a1 len1 cap1] w fun e w' => e = .returned (.bool true) ∧ Below w.heap.size w w' := by
  obtain ⟨l, rfl, hat, hr, hmax⟩ := w0.open
  clear w0
  obtain ⟨m, rfl, hat2, hr2, hmax2⟩ := w1.open
  clear w1
  by_cases hbigl : 1048576 < l.length
  · go_enter Try.func18, Try.ntmps18
    go_wp2_with fail
    go_ret
    exact ⟨rfl, Below.refl _ _⟩
  have hlen : l.length ≤ 1048576 := by omega
  clear hbigl
  by_cases hbigm : 1048576 < m.length
  · go_enter Try.func18, Try.ntmps18
    go_wp2_with fail
    go_ret
    exact ⟨rfl, Below.refl _ _⟩
  have hlen2 : m.length ≤ 1048576 := by omega
  clear hbigm
  have hRl : (allCompose l m).length ≤ 1048576 := resLen_ComposeSeries l m hlen hlen2
  go_enter Try.func18, Try.ntmps18
  go_wp2_with fail
  have HB := Below.refl w.heap.size w
  refine (toInt64S a0 cap0 l _ (hat.below HB (Nat.le_refl _)) hlen).mono ?_
  rintro e v1 ⟨gT1, cT1, rfl, oT1, b⟩
  have s1 := b.size
  replace HB := HB.trans (b.mono HB.size)
  clear b
  replace oT1 := oT1.a
  go_wp2_with fail
  refine (toInt64S a1 cap1 m _ (hat2.below HB (Nat.le_refl _)) hlen2).mono ?_
  rintro e v2 ⟨gT2, cT2, rfl, oT2, b⟩
  have s2 := b.size
  replace HB := HB.trans (b.mono HB.size)
  replace oT1 := oT1.below b
  clear b
  replace oT2 := oT2.a
  go_wp2_with fail
  refine (sComposeSeries _ _ _ _ l m _ oT1.at oT2.at hr hr2 hlen hlen2).mono ?_
  rintro e v3 ⟨gR, cR, rfl, oR, b⟩
  have s3 := b.size
  replace HB := HB.trans (b.mono HB.size)
  clear b
  clear oT1
  clear oT2
  go_wp2_with fail
  have uR := Lib.hid (fun g hg => (oR.lt g hg).2)
  refine (toInt64S a0 cap0 l _ (hat.below HB (Nat.le_refl _)) hlen).mono ?_
  rintro e v4 ⟨gX, cX, rfl, oX, b⟩
  have s4 := b.size
  replace HB := HB.trans (b.mono HB.size)
  replace oR := oR.below b
  clear b
  replace oX := oX.a
  go_wp2_with fail
  have uX := Lib.hid (fun g hg => (oX.lt g hg).2)
  refine (toInt64S a1 cap1 m _ (hat2.below HB (Nat.le_refl _)) hlen2).mono ?_
  rintro e v5 ⟨gY, cY, rfl, oY, b⟩
  have s5 := b.size
  replace HB := HB.trans (b.mono HB.size)
  replace oR := oR.below b
  replace oX := oX.below b
  clear b
  replace oY := oY.a
  go_wp2_with fail
  have uY := Lib.hid (fun g hg => (oY.lt g hg).2)
  refine (iComposeSeries _ _ _ _ l m _ oX.at oY.at hr hr2 hlen hlen2).mono ?_
  rintro e v6 ⟨gQ, cQ, rfl, oQ, b⟩
  have s6 := b.size
  replace HB := HB.trans (b.mono HB.size)
  replace oR := oR.below b
  replace oX := oX.below b
  replace oY := oY.below b
  clear b
  go_wp2_with fail
  refine (eqInt64S gQ gR cQ cR (allCompose l m) _ oQ.at oR.at (by omega)).mono ?_
  rintro e v7 ⟨rfl, b⟩
  have s7 := b.size
  replace HB := HB.trans (b.mono HB.size)
  replace oR := oR.below b
  replace oX := oX.below b
  replace oY := oY.below b
  replace oQ := oQ.below b
  clear b
  go_wp2_with fail
  refine (toInt64S a0 cap0 l _ (hat.below HB (Nat.le_refl _)) hlen).mono ?_
  rintro e v8 ⟨gT3, cT3, rfl, oT3, b⟩
  have s8 := b.size
  replace HB := HB.trans (b.mono HB.size)
  replace oR := oR.below b
  replace oX := oX.below b
  replace oY := oY.below b
  replace oQ := oQ.below b
  clear b
  replace oT3 := oT3.a
  go_wp2_with fail
  refine (eqInt64S _ _ cX cT3 l _ oX.at oT3.at (by omega)).mono ?_
  rintro e v9 ⟨rfl, b⟩
  replace HB := HB.trans (b.mono HB.size)
  replace oR := oR.below b
  replace oX := oX.below b
  replace oY := oY.below b
  replace oQ := oQ.below b
  replace oT3 := oT3.below b
  clear b
  go_wp2_with fail
  clear oT3
  refine (toInt64S a1 cap1 m _ (hat2.below HB (Nat.le_refl _)) hlen2).mono ?_
  rintro e v10 ⟨gT4, cT4, rfl, oT4, b⟩
  replace HB := HB.trans (b.mono HB.size)
  replace oR := oR.below b
  replace oX := oX.below b
  replace oY := oY.below b
  replace oQ := oQ.below b
  clear b
  replace oT4 := oT4.a
  go_wp2_with fail
  refine (eqInt64S _ _ cY cT4 m _ oY.at oT4.at (by omega)).mono ?_
  rintro e v11 ⟨rfl, b⟩
  replace HB := HB.trans (b.mono HB.size)
  replace oR := oR.below b
  replace oX := oX.below b
  replace oY := oY.below b
  replace oQ := oQ.below b
  replace oT4 := oT4.below b
  clear b
  go_wp2_with fail
  clear oT4
  refine (markAt _ _ _ l (1) (1) _ (by omega) oX (by omega) (by omega)).mono ?_
  rintro e v12 ⟨rfl, om, hg⟩
  have HS := HB.size
  replace HB := HB.grown hg HB.size (fun g hg => Nat.le_trans (by omega) (oX.lt g hg).1)
  replace oR := oR.keptBy hg (fun g h1 h2 => by have e1 := uR.out g h1; have e2 := (oX.lt g h2).1; omega)
  replace oY := oY.keptBy hg (fun g h1 h2 => by have e1 := (oY.lt g h1).1; have e2 := uX.out g h2; omega)
  replace oQ := oQ.keptBy hg (fun g h1 h2 => by have e1 := (oQ.lt g h1).1; have e2 := uX.out g h2; omega)
  clear hg HS oX uX
  clear om
  go_wp2_with fail
  refine (markAt _ _ _ m (1 + l.length) (1 + (l.length : Int)) _ (by omega) oY (by omega) (by omega)).mono ?_
  rintro e v13 ⟨rfl, om, hg⟩
  have HS := HB.size
  replace HB := HB.grown hg HB.size (fun g hg => Nat.le_trans (by omega) (oY.lt g hg).1)
  replace oR := oR.keptBy hg (fun g h1 h2 => by have e1 := uR.out g h1; have e2 := (oY.lt g h2).1; omega)
  replace oQ := oQ.keptBy hg (fun g h1 h2 => by have e1 := (oQ.lt g h1).1; have e2 := uY.out g h2; omega)
  clear hg HS oY uY
  clear om
  go_wp2_with fail
  refine (eqInt64S gQ gR cQ cR (allCompose l m) _ oQ.at oR.at (by omega)).mono ?_
  rintro e v14 ⟨rfl, b⟩
  replace HB := HB.trans (b.mono HB.size)
  replace oR := oR.below b
  replace oQ := oQ.below b
  clear b
  go_wp2_with fail
  refine (markAt _ _ _ (allCompose l m) (1) (1) _ (by omega) oQ (by omega) (by omega)).mono ?_
  rintro e v15 ⟨rfl, om, hg⟩
  have HS := HB.size
  replace HB := HB.grown hg HB.size (fun g hg => Nat.le_trans (by omega) (oQ.lt g hg).1)
  replace oR := oR.keptBy hg (fun g h1 h2 => by have e1 := uR.out g h1; have e2 := (oQ.lt g h2).1; omega)
  clear hg HS oQ
  replace oQ := om
  go_wp2_with fail
  refine (heldAt _ _ (allCompose l m).length 1 1 _ (by omega) oQ.at (by omega) (by omega)).mono ?_
  rintro e w' ⟨rfl, rfl⟩
  go_wp2_with fail
  refine (toInt64S a0 cap0 l _ (hat.below HB (Nat.le_refl _)) hlen).mono ?_
  rintro e v16 ⟨gS1, cS1, rfl, oS1, b⟩
  replace HB := HB.trans (b.mono HB.size)
  replace oR := oR.below b
  replace oQ := oQ.below b
  clear b
  replace oS1 := oS1.a
  go_wp2_with fail
  refine (toInt64S a1 cap1 m _ (hat2.below HB (Nat.le_refl _)) hlen2).mono ?_
  rintro e v17 ⟨gS2, cS2, rfl, oS2, b⟩
  replace HB := HB.trans (b.mono HB.size)
  replace oR := oR.below b
  replace oQ := oQ.below b
  replace oS1 := oS1.below b
  clear b
  replace oS2 := oS2.a
  go_wp2_with fail
  refine (iComposeSeries _ _ _ _ l m _ oS1.at oS2.at hr hr2 hlen hlen2).mono ?_
  rintro e v18 ⟨gH, cH, rfl, oH, b⟩
  replace HB := HB.trans (b.mono HB.size)
  replace oR := oR.below b
  replace oQ := oQ.below b
  clear b
  clear oS1
  clear oS2
  go_wp2_with fail
  refine (eqInt64S gH gR cH cR (allCompose l m) _ oH.at oR.at (by omega)).mono ?_
  rintro e v19 ⟨rfl, b⟩
  replace HB := HB.trans (b.mono HB.size)
  replace oR := oR.below b
  replace oQ := oQ.below b
  replace oH := oH.below b
  clear b
  go_wp2_with fail
  refine (heldAt _ _ (allCompose l m).length 1 1 _ (by omega) oQ.at (by omega) (by omega)).mono ?_
  rintro e w' ⟨rfl, rfl⟩
  go_wp2_with fail
  go_ret
  exact ⟨rfl, HB⟩

end Go.Proofs.Ytegjlfbklcgapaa
