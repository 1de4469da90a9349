/- The walk of the law FnExactTapeReverse: the model and the program answer alike, no argument turns, the answer owns its memory. -/
import Derived.Deep.RegionHeld3
import Derived.Test.YtggojffmfjeikaaTal
import Derived.Test.YtggojffmfjeikaaTsj
import Derived.Test.YtggojffmfjeikaaTsl
namespace Go.Proofs.Ytggojffmfjeikaa
open Go.RowKit
set_option linter.unusedVariables false

set_option maxRecDepth 100000 in
set_option maxHeartbeats 6400000 in
theorem wFnExactTapeReverse (v0 v1 v2 : Value) (w : World) (h0 : IsTape w v0) (h1 : IsI64s w v1) (h2 : IsI64s w v2) :
    Calls Try.prog 7 #[v0, v1, v2] w fun e w' => e = .returned (.bool true) ∧ Below w.heap.size w w' := by
  obtain ⟨t, ac, cc, ag, cg, ao, co, rfl, hP, hT⟩ := h0
  obtain ⟨al0, cl0, l0, rfl, hAl0, hRl0, hMl0⟩ := h1
  obtain ⟨al1, cl1, l1, rfl, hAl1, hRl1, hMl1⟩ := h2
  unfold tpv
  by_cases hbigl0 : 1048576 < l0.length
  · go_enter Try.func7, Try.ntmps7
    go_wp2_with fail
    go_ret
    exact ⟨rfl, (Below.refl _ _).alloc (Nat.le_refl _) _⟩
  have hLl0 : l0.length ≤ 1048576 := by omega
  clear hbigl0 hMl0
  by_cases hbigl1 : 1048576 < l1.length
  · go_enter Try.func7, Try.ntmps7
    go_wp2_with fail
    go_ret
    exact ⟨rfl, (Below.refl _ _).alloc (Nat.le_refl _) _⟩
  have hLl1 : l1.length ≤ 1048576 := by omega
  clear hbigl1 hMl1
  obtain ⟨w0, hw0⟩ : ∃ w0, w0 = w.alloc (.cells #[.int .i64 t.inputs, .slice ac t.code.length cc, .slice ag t.guards.length cg, .slice ao t.outs.length co] 46) := ⟨_, rfl⟩
  have HB : Below w.heap.size w w0 := by rw [hw0]; exact (Below.refl _ _).alloc (Nat.le_refl _) _
  have hC : Tcl w0 w.heap.size t ac cc ag cg ao co := by rw [hw0]; exact tcl_new w t ac cc ag cg ao co 46
  have z0 : w0.heap.size = w.heap.size + 1 := by rw [hw0]; simp
  obtain ⟨c0, c1, c2, c3⟩ := id hC
  by_cases hs : tpSize t ≤ 1048576
  rotate_left
  · have HZ := Lib.hid (szTape_f t ac cc ag cg ao co 1048576 w0 (by omega) (by omega) (by omega) hT)
    clear hT hP
    go_enter Try.func7, Try.ntmps7
    go_wp2_with fail
    rw [← hw0]
    refine HZ.out.mono ?_; rintro e w1 ⟨rfl, b⟩
    go_wp2_with fail
    go_ret
    exact ⟨rfl, HB.trans (b.mono HB.size)⟩
  have HZ := Lib.hid (szTape_t t ac cc ag cg ao co 1048576 w0 (by omega) (by omega))
  have hy : 0 ≤ 1048576 - ((tpSize t : Nat) : Int) := by omega
  have hd : decide (1048576 - ((tpSize t : Nat) : Int) < 0) = false := decide_eq_false (by omega)
  generalize 1048576 - ((tpSize t : Nat) : Int) = lv at HZ hy hd
  clear hT
  go_enter Try.func7, Try.ntmps7
  go_wp2_with fail
  rw [← hw0]
  clear hw0
  refine HZ.out.mono ?_; rintro e w1 ⟨rfl, b⟩
  clear HZ c0 c1 c2 c3
  have s1 := b.size
  replace HB := HB.trans (b.mono HB.size)
  replace hC := hC.next b
  clear b
  obtain ⟨c0, c1, c2, c3⟩ := id hC
  go_wp2_with fail
  refine (toTape t ac cc ag cg ao co _ ((hP.below HB).mono (Nat.le_refl _) HB.size) hs).mono ?_
  rintro e v2 ⟨n1, n2, n3, m3, rfl, hX, _, _, _, b⟩
  have s2 := b.size
  replace HB := HB.trans (b.mono HB.size)
  replace hC := hC.next b
  clear b
  clear c0 c1 c2 c3
  replace hX := hX.mono (Nat.zero_le _) (Nat.le_refl _)
  go_wp2_with fail
  refine (toInt64S al0 cl0 l0 _ (hAl0.below HB (Nat.le_refl _)) hLl0).mono ?_
  rintro e v3 ⟨gTl0, kTl0, rfl, oTl0, b⟩
  have s3 := b.size
  replace HB := HB.trans (b.mono HB.size)
  replace hC := hC.next b
  replace hX := hX.next b
  clear b
  replace oTl0 := oTl0.a
  go_wp2_with fail
  refine (toInt64S al1 cl1 l1 _ (hAl1.below HB (Nat.le_refl _)) hLl1).mono ?_
  rintro e v4 ⟨gTl1, kTl1, rfl, oTl1, b⟩
  have s4 := b.size
  replace HB := HB.trans (b.mono HB.size)
  replace hC := hC.next b
  replace hX := hX.next b
  replace oTl0 := oTl0.below b
  clear b
  replace oTl1 := oTl1.a
  go_wp2_with fail
  refine (sTapeReverse t _ _ _ _ _ _ _ _ l0 _ _ l1 _ hX (oTl0.at) hRl0 hLl0 (oTl1.at) hRl1 hLl1 hs).mono ?_
  rintro e v5 ⟨gR, kR, rfl, oR, b⟩
  have s5 := b.size
  replace HB := HB.trans (b.mono HB.size)
  replace hC := hC.next b
  replace hX := hX.next b
  replace oTl0 := oTl0.below b
  replace oTl1 := oTl1.below b
  clear b
  clear hX oTl0 oTl1
  obtain ⟨c0, c1, c2, c3⟩ := id hC
  go_wp2_with fail
  have uR := Lib.hid (fun g hg => (oR.lt g hg).2)
  refine (toTape t ac cc ag cg ao co _ ((hP.below HB).mono (Nat.le_refl _) HB.size) hs).mono ?_
  rintro e v6 ⟨n1, n2, n3, m3, rfl, hX0, wr1, wr2, wr3, b⟩
  have s6 := b.size
  replace HB := HB.trans (b.mono HB.size)
  replace hC := hC.next b
  replace oR := oR.below b
  clear b
  clear c0 c1 c2 c3
  have hX := TapW.mk (Nat.le_refl v6.heap.size) hX0 wr1 wr2 wr3
  clear hX0 wr1 wr2 wr3
  obtain ⟨vx, hvx⟩ : ∃ vx, vx = v6.alloc (.cells #[.int .i64 t.inputs, .slice (some ⟨n1, 0, none⟩) t.code.length t.code.length, .slice (some ⟨n2, 0, none⟩) t.guards.length t.guards.length, .slice (some ⟨n3, 0, none⟩) t.outs.length m3] 53) := ⟨_, rfl⟩
  have b : Below v6.heap.size v6 vx := by rw [hvx]; exact (Below.refl _ _).alloc (Nat.le_refl _) _
  have hD : Tcl vx v6.heap.size t (some ⟨n1, 0, none⟩) t.code.length (some ⟨n2, 0, none⟩) t.guards.length (some ⟨n3, 0, none⟩) m3 := by rw [hvx]; exact tcl_new _ t _ _ _ _ _ _ 53
  have sx := b.size
  replace HB := HB.trans (b.mono HB.size)
  replace hC := hC.next b
  replace oR := oR.below b
  replace hX := hX.next b
  clear b
  go_wp2_with fail
  rw [← hvx]
  clear hvx
  refine (toInt64S al0 cl0 l0 _ (hAl0.below HB (Nat.le_refl _)) hLl0).mono ?_
  rintro e v7 ⟨gXl0, kXl0, rfl, oXl0, b⟩
  have s7 := b.size
  replace HB := HB.trans (b.mono HB.size)
  replace hC := hC.next b
  replace oR := oR.below b
  replace hX := hX.next b
  replace hD := hD.next b
  clear b
  replace oXl0 := oXl0.a
  have uXl0 := Lib.hid (fun g hg => (oXl0.lt g hg).2)
  go_wp2_with fail
  refine (toInt64S al1 cl1 l1 _ (hAl1.below HB (Nat.le_refl _)) hLl1).mono ?_
  rintro e v8 ⟨gXl1, kXl1, rfl, oXl1, b⟩
  have s8 := b.size
  replace HB := HB.trans (b.mono HB.size)
  replace hC := hC.next b
  replace oR := oR.below b
  replace hX := hX.next b
  replace hD := hD.next b
  replace oXl0 := oXl0.below b
  clear b
  replace oXl1 := oXl1.a
  have uXl1 := Lib.hid (fun g hg => (oXl1.lt g hg).2)
  obtain ⟨d0, d1, d2, d3⟩ := id hD
  go_wp2_with fail
  refine (iTapeReverse t _ _ _ _ _ _ _ _ l0 _ _ l1 _ hX.zero (oXl0.at) hRl0 hLl0 (oXl1.at) hRl1 hLl1 hs).mono ?_
  rintro e v9 ⟨gQ, kQ, rfl, oQ, b⟩
  have s9 := b.size
  replace HB := HB.trans (b.mono HB.size)
  replace hC := hC.next b
  replace oR := oR.below b
  replace hX := hX.next b
  replace hD := hD.next b
  replace oXl0 := oXl0.below b
  replace oXl1 := oXl1.below b
  clear b
  clear d0 d1 d2 d3
  have hRl : (RTapeReverse t l0 l1).length ≤ 1048576 := RTapeReverse_len t l0 l1 hs hLl0 hLl1
  have hne2 : ((CTapeReverse t l0 l1) != (CTapeReverse t l0 l1)) = false := by simp
  go_wp2_with fail
  refine (eqInt64S gQ gR kQ kR (RTapeReverse t l0 l1) _ oQ.at oR.at (by omega)).mono ?_
  rintro e v10 ⟨rfl, b⟩
  have s10 := b.size
  replace HB := HB.trans (b.mono HB.size)
  replace hC := hC.next b
  replace oR := oR.below b
  replace hX := hX.next b
  replace hD := hD.next b
  replace oXl0 := oXl0.below b
  replace oXl1 := oXl1.below b
  replace oQ := oQ.below b
  clear b
  go_wp2_with fail
  obtain ⟨c0, c1, c2, c3⟩ := id hC
  obtain ⟨d0, d1, d2, d3⟩ := id hD
  have lc := hC.lt
  have ld := hD.lt
  have HT := fun (W : World) (hW : Below v10.heap.size v10 W) => Lib.hid (toTape t ac cc ag cg ao co W (((hP.below HB).mono (Nat.le_refl _) HB.size).next hW) hs)
  have HX := Lib.hid hX.zero
  go_region_held3 (fun w' => w'.cell? ⟨w.heap.size, 0, none⟩ = some (.int .i64 t.inputs) ∧ w'.cell? ⟨w.heap.size, 1, none⟩ = some (.slice ac t.code.length cc) ∧ w'.cell? ⟨w.heap.size, 2, none⟩ = some (.slice ag t.guards.length cg) ∧ w'.cell? ⟨w.heap.size, 3, none⟩ = some (.slice ao t.outs.length co) ∧ w'.cell? ⟨v6.heap.size, 0, none⟩ = some (.int .i64 t.inputs) ∧ w'.cell? ⟨v6.heap.size, 1, none⟩ = some (.slice (some ⟨n1, 0, none⟩) t.code.length t.code.length) ∧ w'.cell? ⟨v6.heap.size, 2, none⟩ = some (.slice (some ⟨n2, 0, none⟩) t.guards.length t.guards.length) ∧ w'.cell? ⟨v6.heap.size, 3, none⟩ = some (.slice (some ⟨n3, 0, none⟩) t.outs.length m3))
    (first
      | exact ⟨c0, c1, c2, c3, d0, d1, d2, d3⟩
      | exact ⟨(hb9.cell (p := ⟨w.heap.size, 0, none⟩) lc).trans c0, (hb9.cell (p := ⟨w.heap.size, 1, none⟩) lc).trans c1, (hb9.cell (p := ⟨w.heap.size, 2, none⟩) lc).trans c2, (hb9.cell (p := ⟨w.heap.size, 3, none⟩) lc).trans c3, (hb9.cell (p := ⟨v6.heap.size, 0, none⟩) ld).trans d0, (hb9.cell (p := ⟨v6.heap.size, 1, none⟩) ld).trans d1, (hb9.cell (p := ⟨v6.heap.size, 2, none⟩) ld).trans d2, (hb9.cell (p := ⟨v6.heap.size, 3, none⟩) ld).trans d3⟩
      | exact ⟨(hb8.cell (p := ⟨w.heap.size, 0, none⟩) lc).trans c0, (hb8.cell (p := ⟨w.heap.size, 1, none⟩) lc).trans c1, (hb8.cell (p := ⟨w.heap.size, 2, none⟩) lc).trans c2, (hb8.cell (p := ⟨w.heap.size, 3, none⟩) lc).trans c3, (hb8.cell (p := ⟨v6.heap.size, 0, none⟩) ld).trans d0, (hb8.cell (p := ⟨v6.heap.size, 1, none⟩) ld).trans d1, (hb8.cell (p := ⟨v6.heap.size, 2, none⟩) ld).trans d2, (hb8.cell (p := ⟨v6.heap.size, 3, none⟩) ld).trans d3⟩
      | go_keep)
    (first
      | (go_at_call 24; refine (HT _ (tbdrew (Below.refl _ _))).out.mono ?_; rintro e w8 ⟨p1, p2, p3, q3, rfl, hQ8, _, _, _, hb8'⟩; have hb8 : Below v10.heap.size v10 w8 := ⟨hb8'.os, hb8'.tape, hb8'.output, hb8'.size, hb8'.block⟩)
      | (go_at_call 26; refine (eqTape t _ _ _ _ _ _ _ _ _ _ _ _ _ (HX.out.next hb8) (hQ8.mono (Nat.zero_le _) (Nat.le_refl _)) hs).mono ?_; rintro e w9 ⟨rfl, hb9'⟩; have b : Below v10.heap.size v10 w9 := hb8.trans (hb9'.mono hb8.size); have hb9 := b))
  all_goals
    clear HT HX lc ld c0 c1 c2 c3 d0 d1 d2 d3 hb9 hb8 hb8' hb9' hQ8
    have s90 := b.size
    replace HB := HB.trans (b.mono HB.size)
    replace hC := hC.next b
    replace oR := oR.below b
    replace hX := hX.next b
    replace hD := hD.next b
    replace oXl0 := oXl0.below b
    replace oXl1 := oXl1.below b
    replace oQ := oQ.below b
    clear b
    go_wp2_with fail
    refine (toInt64S al0 cl0 l0 _ (hAl0.below HB (Nat.le_refl _)) hLl0).mono ?_
    rintro e v11 ⟨g, k, rfl, o, b⟩
    have s11 := b.size
    replace HB := HB.trans (b.mono HB.size)
    replace hC := hC.next b
    replace oR := oR.below b
    replace hX := hX.next b
    replace hD := hD.next b
    replace oXl0 := oXl0.below b
    replace oXl1 := oXl1.below b
    replace oQ := oQ.below b
    clear b
    go_wp2_with fail
    refine (eqInt64S _ _ _ _ l0 _ oXl0.at o.at (by omega)).mono ?_
    rintro e v12 ⟨rfl, b⟩
    clear o
    have s12 := b.size
    replace HB := HB.trans (b.mono HB.size)
    replace hC := hC.next b
    replace oR := oR.below b
    replace hX := hX.next b
    replace hD := hD.next b
    replace oXl0 := oXl0.below b
    replace oXl1 := oXl1.below b
    replace oQ := oQ.below b
    clear b
    go_wp2_with fail
    refine (toInt64S al1 cl1 l1 _ (hAl1.below HB (Nat.le_refl _)) hLl1).mono ?_
    rintro e v13 ⟨g, k, rfl, o, b⟩
    have s13 := b.size
    replace HB := HB.trans (b.mono HB.size)
    replace hC := hC.next b
    replace oR := oR.below b
    replace hX := hX.next b
    replace hD := hD.next b
    replace oXl0 := oXl0.below b
    replace oXl1 := oXl1.below b
    replace oQ := oQ.below b
    clear b
    go_wp2_with fail
    refine (eqInt64S _ _ _ _ l1 _ oXl1.at o.at (by omega)).mono ?_
    rintro e v14 ⟨rfl, b⟩
    clear o
    have s14 := b.size
    replace HB := HB.trans (b.mono HB.size)
    replace hC := hC.next b
    replace oR := oR.below b
    replace hX := hX.next b
    replace hD := hD.next b
    replace oXl0 := oXl0.below b
    replace oXl1 := oXl1.below b
    replace oQ := oQ.below b
    clear b
    obtain ⟨d0, d1, d2, d3⟩ := id hD
    go_wp2_with fail
    refine (markTape _ _ t n1 n2 n3 _ _ _ _ hX.wr1 hX.wr2 hX.wr3 hX.le hs).mono ?_
    rintro e v15 ⟨⟨x, hx, rfl⟩, T⟩
    clear d0 d1 d2 d3
    have sT := T.size
    replace HB := HB.trans ((T.below (by omega)).mono (by omega))
    replace hC := hC.trn T (by omega)
    replace oR := oR.trnU T (fun g hg => by have e1 := uR.out g hg; omega)
    replace oQ := oQ.trnU T (fun g hg => by have e1 := (oQ.lt g hg).1; omega)
    replace oXl0 := oXl0.trnU T (fun g hg => by have e1 := (oXl0.lt g hg).1; omega)
    replace oXl1 := oXl1.trnU T (fun g hg => by have e1 := (oXl1.lt g hg).1; omega)
    clear T hX hD
    go_wp2_with fail
    refine (markAt _ _ _ l0 (x) (((x : Nat) : Int)) _ (by omega) oXl0 (by omega) (by omega)).mono ?_
    rintro e v16 ⟨rfl, om, hg⟩
    have HS := HB.size
    have hCn := hC.grown hg (fun e => by have e1 := (oXl0.lt _ e).1; omega)
    clear hC
    have hC := hCn
    clear hCn
    replace HB := HB.grown hg HB.size (fun g hg => Nat.le_trans (by omega) (oXl0.lt g hg).1)
    replace oR := oR.keptBy hg (fun g h1 h2 => by have e1 := uR.out g h1; have e2 := (oXl0.lt g h2).1; omega)
    replace oQ := oQ.keptBy hg (fun g h1 h2 => by have e1 := (oQ.lt g h1).1; have e2 := uXl0.out g h2; omega)
    replace oXl1 := oXl1.keptBy hg (fun g h1 h2 => by have e1 := (oXl1.lt g h1).1; have e2 := uXl0.out g h2; omega)
    clear hg HS oXl0 uXl0
    clear om
    go_wp2_with fail
    refine (markAt _ _ _ l1 (x + l0.length) (((x : Nat) : Int) + (l0.length : Int)) _ (by omega) oXl1 (by omega) (by omega)).mono ?_
    rintro e v17 ⟨rfl, om, hg⟩
    have HS := HB.size
    have hCn := hC.grown hg (fun e => by have e1 := (oXl1.lt _ e).1; omega)
    clear hC
    have hC := hCn
    clear hCn
    replace HB := HB.grown hg HB.size (fun g hg => Nat.le_trans (by omega) (oXl1.lt g hg).1)
    replace oR := oR.keptBy hg (fun g h1 h2 => by have e1 := uR.out g h1; have e2 := (oXl1.lt g h2).1; omega)
    replace oQ := oQ.keptBy hg (fun g h1 h2 => by have e1 := (oQ.lt g h1).1; have e2 := uXl1.out g h2; omega)
    clear hg HS oXl1 uXl1
    clear om
    go_wp2_with fail
    refine (eqInt64S gQ gR kQ kR (RTapeReverse t l0 l1) _ oQ.at oR.at (by omega)).mono ?_
    rintro e v18 ⟨rfl, b⟩
    have s18 := b.size
    replace HB := HB.trans (b.mono HB.size)
    replace hC := hC.next b
    replace oR := oR.below b
    replace oQ := oQ.below b
    clear b
    go_wp2_with fail
    refine (markAt _ _ _ (RTapeReverse t l0 l1) (1) (1) _ (by omega) oQ (by omega) (by omega)).mono ?_
    rintro e v19 ⟨rfl, om, hg⟩
    have HS := HB.size
    have hCn := hC.grown hg (fun e => by have e1 := (oQ.lt _ e).1; omega)
    clear hC
    have hC := hCn
    clear hCn
    replace HB := HB.grown hg HB.size (fun g hg => Nat.le_trans (by omega) (oQ.lt g hg).1)
    replace oR := oR.keptBy hg (fun g h1 h2 => by have e1 := uR.out g h1; have e2 := (oQ.lt g h2).1; omega)
    clear hg HS oQ
    replace oQ := om
    go_wp2_with fail
    refine (heldAt _ _ (RTapeReverse t l0 l1).length 1 1 _ (by omega) oQ.at (by omega) (by omega)).mono ?_
    rintro e w' ⟨rfl, rfl⟩
    obtain ⟨c0, c1, c2, c3⟩ := id hC
    go_wp2_with fail
    refine (toTape t ac cc ag cg ao co _ ((hP.below HB).mono (Nat.le_refl _) HB.size) hs).mono ?_
    rintro e v20 ⟨p1, p2, p3, q3, rfl, hX0, _, _, _, b⟩
    have s20 := b.size
    replace HB := HB.trans (b.mono HB.size)
    replace hC := hC.next b
    replace oR := oR.below b
    replace oQ := oQ.below b
    clear b
    clear c0 c1 c2 c3
    have hX := hX0.mono (Nat.zero_le _) (Nat.le_refl _)
    clear hX0
    go_wp2_with fail
    refine (toInt64S al0 cl0 l0 _ (hAl0.below HB (Nat.le_refl _)) hLl0).mono ?_
    rintro e v21 ⟨gSl0, kSl0, rfl, oSl0, b⟩
    have s21 := b.size
    replace HB := HB.trans (b.mono HB.size)
    replace hC := hC.next b
    replace oR := oR.below b
    replace oQ := oQ.below b
    replace hX := hX.next b
    clear b
    replace oSl0 := oSl0.a
    go_wp2_with fail
    refine (toInt64S al1 cl1 l1 _ (hAl1.below HB (Nat.le_refl _)) hLl1).mono ?_
    rintro e v22 ⟨gSl1, kSl1, rfl, oSl1, b⟩
    have s22 := b.size
    replace HB := HB.trans (b.mono HB.size)
    replace hC := hC.next b
    replace oR := oR.below b
    replace oQ := oQ.below b
    replace hX := hX.next b
    replace oSl0 := oSl0.below b
    clear b
    replace oSl1 := oSl1.a
    go_wp2_with fail
    refine (iTapeReverse t _ _ _ _ _ _ _ _ l0 _ _ l1 _ hX (oSl0.at) hRl0 hLl0 (oSl1.at) hRl1 hLl1 hs).mono ?_
    rintro e v23 ⟨gH, kH, rfl, oH, b⟩
    have s23 := b.size
    replace HB := HB.trans (b.mono HB.size)
    replace hC := hC.next b
    replace oR := oR.below b
    replace oQ := oQ.below b
    replace hX := hX.next b
    replace oSl0 := oSl0.below b
    replace oSl1 := oSl1.below b
    clear b
    clear hX oSl0 oSl1
    go_wp2_with fail
    refine (eqInt64S gH gR kH kR (RTapeReverse t l0 l1) _ oH.at oR.at (by omega)).mono ?_
    rintro e v24 ⟨rfl, b⟩
    have s24 := b.size
    replace HB := HB.trans (b.mono HB.size)
    replace hC := hC.next b
    replace oR := oR.below b
    replace oQ := oQ.below b
    replace oH := oH.below b
    clear b
    go_wp2_with fail
    refine (heldAt _ _ (RTapeReverse t l0 l1).length 1 1 _ (by omega) oQ.at (by omega) (by omega)).mono ?_
    rintro e w' ⟨rfl, rfl⟩
    go_wp2_with fail
    go_ret
    exact ⟨rfl, HB⟩

end Go.Proofs.Ytggojffmfjeikaa
