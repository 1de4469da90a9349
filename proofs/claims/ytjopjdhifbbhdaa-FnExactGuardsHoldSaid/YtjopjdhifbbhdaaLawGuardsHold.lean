/- The walk of the law FnExactGuardsHold: the model and the program answer alike, no argument turns, the answer owns its memory. -/
import Derived.Deep.RegionHeld3
import Derived.Test.YtjopjdhifbbhdaaTal
import Derived.Test.YtjopjdhifbbhdaaTgh
namespace Go.Proofs.Ytjopjdhifbbhdaa
open Go.RowKit
set_option linter.unusedVariables false

set_option maxRecDepth 100000 in
set_option maxHeartbeats 6400000 in
theorem wFnExactGuardsHold (v0 v1 : Value) (w : World) (h0 : IsTape w v0) (h1 : IsI64s w v1) :
    Calls Try.prog 9 #[v0, v1] w fun e w' => e = .returned (.bool true) ∧ Below w.heap.size w w' := by
  obtain ⟨t, ac, cc, ag, cg, ao, co, rfl, hP, hT⟩ := h0
  obtain ⟨al0, cl0, l0, rfl, hAl0, hRl0, hMl0⟩ := h1
  unfold tpv
  by_cases hbigl0 : 1048576 < l0.length
  · go_enter Try.func9, Try.ntmps9
    go_wp2_with fail
    go_ret
    exact ⟨rfl, (Below.refl _ _).alloc (Nat.le_refl _) _⟩
  have hLl0 : l0.length ≤ 1048576 := by omega
  clear hbigl0 hMl0
  obtain ⟨w0, hw0⟩ : ∃ w0, w0 = w.alloc (.cells #[.int .i64 t.inputs, .slice ac t.code.length cc, .slice ag t.guards.length cg, .slice ao t.outs.length co] 26) := ⟨_, rfl⟩
  have HB : Below w.heap.size w w0 := by rw [hw0]; exact (Below.refl _ _).alloc (Nat.le_refl _) _
  have hC : Tcl w0 w.heap.size t ac cc ag cg ao co := by rw [hw0]; exact tcl_new w t ac cc ag cg ao co 26
  have z0 : w0.heap.size = w.heap.size + 1 := by rw [hw0]; simp
  obtain ⟨c0, c1, c2, c3⟩ := id hC
  by_cases hs : tpSize t ≤ 1048576
  rotate_left
  · have HZ := Lib.hid (szTape_f t ac cc ag cg ao co 1048576 w0 (by omega) (by omega) (by omega) hT)
    clear hT hP
    go_enter Try.func9, Try.ntmps9
    go_wp2_with fail
    rw [← hw0]
    refine HZ.out.mono ?_; rintro e w1 ⟨rfl, b⟩
    go_wp2_with fail
    go_ret
    exact ⟨rfl, HB.trans (b.mono HB.size)⟩
  have HZ := Lib.hid (szTape_t t ac cc ag cg ao co 1048576 w0 (by omega) (by omega))
  have hy : 0 ≤ 1048576 - ((tpSize t : Nat) : Int) := by omega
  have hd : decide (1048576 - ((tpSize t : Nat) : Int) < 0) = false := decide_eq_false (by omega)
  generalize 1048576 - ((tpSize t : Nat) : Int) = lv at HZ hy hd
  clear hT
  go_enter Try.func9, Try.ntmps9
  go_wp2_with fail
  rw [← hw0]
  clear hw0
  refine HZ.out.mono ?_; rintro e w1 ⟨rfl, b⟩
  clear HZ c0 c1 c2 c3
  have s1 := b.size
  replace HB := HB.trans (b.mono HB.size)
  replace hC := hC.next b
  clear b
  obtain ⟨c0, c1, c2, c3⟩ := id hC
  go_wp2_with fail
  refine (toTape t ac cc ag cg ao co _ ((hP.below HB).mono (Nat.le_refl _) HB.size) hs).mono ?_
  rintro e v2 ⟨n1, n2, n3, m3, rfl, hX, _, _, _, b⟩
  have s2 := b.size
  replace HB := HB.trans (b.mono HB.size)
  replace hC := hC.next b
  clear b
  clear c0 c1 c2 c3
  replace hX := hX.mono (Nat.zero_le _) (Nat.le_refl _)
  go_wp2_with fail
  refine (toInt64S al0 cl0 l0 _ (hAl0.below HB (Nat.le_refl _)) hLl0).mono ?_
  rintro e v3 ⟨gTl0, kTl0, rfl, oTl0, b⟩
  have s3 := b.size
  replace HB := HB.trans (b.mono HB.size)
  replace hC := hC.next b
  replace hX := hX.next b
  clear b
  replace oTl0 := oTl0.a
  go_wp2_with fail
  refine (sGuardsHold t _ _ _ _ _ _ _ _ l0 _ hX (oTl0.at) hRl0 hLl0 hs).mono ?_
  rintro e v4 ⟨rfl, b⟩
  have s4 := b.size
  replace HB := HB.trans (b.mono HB.size)
  replace hC := hC.next b
  replace hX := hX.next b
  replace oTl0 := oTl0.below b
  clear b
  clear hX oTl0
  obtain ⟨c0, c1, c2, c3⟩ := id hC
  go_wp2_with fail
  refine (toTape t ac cc ag cg ao co _ ((hP.below HB).mono (Nat.le_refl _) HB.size) hs).mono ?_
  rintro e v5 ⟨n1, n2, n3, m3, rfl, hX0, wr1, wr2, wr3, b⟩
  have s5 := b.size
  replace HB := HB.trans (b.mono HB.size)
  replace hC := hC.next b
  clear b
  clear c0 c1 c2 c3
  have hX := TapW.mk (Nat.le_refl v5.heap.size) hX0 wr1 wr2 wr3
  clear hX0 wr1 wr2 wr3
  obtain ⟨vx, hvx⟩ : ∃ vx, vx = v5.alloc (.cells #[.int .i64 t.inputs, .slice (some ⟨n1, 0, none⟩) t.code.length t.code.length, .slice (some ⟨n2, 0, none⟩) t.guards.length t.guards.length, .slice (some ⟨n3, 0, none⟩) t.outs.length m3] 32) := ⟨_, rfl⟩
  have b : Below v5.heap.size v5 vx := by rw [hvx]; exact (Below.refl _ _).alloc (Nat.le_refl _) _
  have hD : Tcl vx v5.heap.size t (some ⟨n1, 0, none⟩) t.code.length (some ⟨n2, 0, none⟩) t.guards.length (some ⟨n3, 0, none⟩) m3 := by rw [hvx]; exact tcl_new _ t _ _ _ _ _ _ 32
  have sx := b.size
  replace HB := HB.trans (b.mono HB.size)
  replace hC := hC.next b
  replace hX := hX.next b
  clear b
  go_wp2_with fail
  rw [← hvx]
  clear hvx
  refine (toInt64S al0 cl0 l0 _ (hAl0.below HB (Nat.le_refl _)) hLl0).mono ?_
  rintro e v6 ⟨gXl0, kXl0, rfl, oXl0, b⟩
  have s6 := b.size
  replace HB := HB.trans (b.mono HB.size)
  replace hC := hC.next b
  replace hX := hX.next b
  replace hD := hD.next b
  clear b
  replace oXl0 := oXl0.a
  obtain ⟨d0, d1, d2, d3⟩ := id hD
  go_wp2_with fail
  have uXl0 := Lib.hid (fun g hg => (oXl0.lt g hg).2)
  refine (iGuardsHold t _ _ _ _ _ _ _ _ l0 _ hX.zero (oXl0.at) hRl0 hLl0 hs).mono ?_
  rintro e v7 ⟨rfl, b⟩
  have s7 := b.size
  replace HB := HB.trans (b.mono HB.size)
  replace hC := hC.next b
  replace hX := hX.next b
  replace hD := hD.next b
  replace oXl0 := oXl0.below b
  clear b
  clear d0 d1 d2 d3
  have hne : ((RGuardsHold t l0) != (RGuardsHold t l0)) = false := by simp
  have hne2 : ((CGuardsHold t l0) != (CGuardsHold t l0)) = false := by simp
  go_wp2_with fail
  obtain ⟨c0, c1, c2, c3⟩ := id hC
  obtain ⟨d0, d1, d2, d3⟩ := id hD
  have lc := hC.lt
  have ld := hD.lt
  have HT := fun (W : World) (hW : Below v7.heap.size v7 W) => Lib.hid (toTape t ac cc ag cg ao co W (((hP.below HB).mono (Nat.le_refl _) HB.size).next hW) hs)
  have HX := Lib.hid hX.zero
  go_region_held3 (fun w' => w'.cell? ⟨w.heap.size, 0, none⟩ = some (.int .i64 t.inputs) ∧ w'.cell? ⟨w.heap.size, 1, none⟩ = some (.slice ac t.code.length cc) ∧ w'.cell? ⟨w.heap.size, 2, none⟩ = some (.slice ag t.guards.length cg) ∧ w'.cell? ⟨w.heap.size, 3, none⟩ = some (.slice ao t.outs.length co) ∧ w'.cell? ⟨v5.heap.size, 0, none⟩ = some (.int .i64 t.inputs) ∧ w'.cell? ⟨v5.heap.size, 1, none⟩ = some (.slice (some ⟨n1, 0, none⟩) t.code.length t.code.length) ∧ w'.cell? ⟨v5.heap.size, 2, none⟩ = some (.slice (some ⟨n2, 0, none⟩) t.guards.length t.guards.length) ∧ w'.cell? ⟨v5.heap.size, 3, none⟩ = some (.slice (some ⟨n3, 0, none⟩) t.outs.length m3))
    (first
      | exact ⟨c0, c1, c2, c3, d0, d1, d2, d3⟩
      | exact ⟨(hb9.cell (p := ⟨w.heap.size, 0, none⟩) lc).trans c0, (hb9.cell (p := ⟨w.heap.size, 1, none⟩) lc).trans c1, (hb9.cell (p := ⟨w.heap.size, 2, none⟩) lc).trans c2, (hb9.cell (p := ⟨w.heap.size, 3, none⟩) lc).trans c3, (hb9.cell (p := ⟨v5.heap.size, 0, none⟩) ld).trans d0, (hb9.cell (p := ⟨v5.heap.size, 1, none⟩) ld).trans d1, (hb9.cell (p := ⟨v5.heap.size, 2, none⟩) ld).trans d2, (hb9.cell (p := ⟨v5.heap.size, 3, none⟩) ld).trans d3⟩
      | exact ⟨(hb8.cell (p := ⟨w.heap.size, 0, none⟩) lc).trans c0, (hb8.cell (p := ⟨w.heap.size, 1, none⟩) lc).trans c1, (hb8.cell (p := ⟨w.heap.size, 2, none⟩) lc).trans c2, (hb8.cell (p := ⟨w.heap.size, 3, none⟩) lc).trans c3, (hb8.cell (p := ⟨v5.heap.size, 0, none⟩) ld).trans d0, (hb8.cell (p := ⟨v5.heap.size, 1, none⟩) ld).trans d1, (hb8.cell (p := ⟨v5.heap.size, 2, none⟩) ld).trans d2, (hb8.cell (p := ⟨v5.heap.size, 3, none⟩) ld).trans d3⟩
      | go_keep)
    (first
      | (go_at_call 14; refine (HT _ (tbdrew (Below.refl _ _))).out.mono ?_; rintro e w8 ⟨p1, p2, p3, q3, rfl, hQ8, _, _, _, hb8'⟩; have hb8 : Below v7.heap.size v7 w8 := ⟨hb8'.os, hb8'.tape, hb8'.output, hb8'.size, hb8'.block⟩)
      | (go_at_call 16; refine (eqTape t _ _ _ _ _ _ _ _ _ _ _ _ _ (HX.out.next hb8) (hQ8.mono (Nat.zero_le _) (Nat.le_refl _)) hs).mono ?_; rintro e w9 ⟨rfl, hb9'⟩; have b : Below v7.heap.size v7 w9 := hb8.trans (hb9'.mono hb8.size); have hb9 := b))
  all_goals
    clear HT HX lc ld c0 c1 c2 c3 d0 d1 d2 d3 hb9 hb8 hb8' hb9' hQ8
    have s90 := b.size
    replace HB := HB.trans (b.mono HB.size)
    replace hC := hC.next b
    replace hX := hX.next b
    replace hD := hD.next b
    replace oXl0 := oXl0.below b
    clear b
    go_wp2_with fail
    refine (toInt64S al0 cl0 l0 _ (hAl0.below HB (Nat.le_refl _)) hLl0).mono ?_
    rintro e v8 ⟨g, k, rfl, o, b⟩
    have s8 := b.size
    replace HB := HB.trans (b.mono HB.size)
    replace hC := hC.next b
    replace hX := hX.next b
    replace hD := hD.next b
    replace oXl0 := oXl0.below b
    clear b
    go_wp2_with fail
    refine (eqInt64S _ _ _ _ l0 _ oXl0.at o.at (by omega)).mono ?_
    rintro e v9 ⟨rfl, b⟩
    clear o
    have s9 := b.size
    replace HB := HB.trans (b.mono HB.size)
    replace hC := hC.next b
    replace hX := hX.next b
    replace hD := hD.next b
    replace oXl0 := oXl0.below b
    clear b
    go_wp2_with fail
    go_ret
    exact ⟨rfl, HB⟩

end Go.Proofs.Ytjopjdhifbbhdaa
