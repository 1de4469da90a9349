/- The walk of the law FnExactPolyValue: the model and the program answer alike, no argument turns, the answer owns its memory. -/
import Derived.Deep.RegionHeld3
import Derived.Test.YtggojffmfjeikaaPyl
import Derived.Test.YtggojffmfjeikaaPyz
namespace Go.Proofs.Ytggojffmfjeikaa
open Go.RowKit
set_option linter.unusedVariables false

set_option maxRecDepth 100000 in
set_option maxHeartbeats 6400000 in
theorem wFnExactPolyValue (v0 v1 : Value) (w : World) (h0 : IsPoly w v0) (h1 : IsI64s w v1) :
    Calls Try.prog 5 #[v0, v1] w fun e w' => e = .returned (.bool true) ∧ Below w.heap.size w w' := by
  obtain ⟨q, aq, cq, rfl, hP, hI, hm⟩ := h0
  obtain ⟨al0, cl0, l0, rfl, hAl0, hRl0, hMl0⟩ := h1
  unfold pyv
  by_cases hbigl0 : 1048576 < l0.length
  · go_enter Try.func5, Try.ntmps5
    go_wp2_with fail
    go_ret
    exact ⟨rfl, (Below.refl _ _).alloc (Nat.le_refl _) _⟩
  have hLl0 : l0.length ≤ 1048576 := by omega
  clear hbigl0 hMl0
  obtain ⟨w0, hw0⟩ : ∃ w0, w0 = w.alloc (.cells #[.int .i64 q.vars, .slice aq q.terms.length cq] 24) := ⟨_, rfl⟩
  have HB : Below w.heap.size w w0 := by rw [hw0]; exact (Below.refl _ _).alloc (Nat.le_refl _) _
  have hC : Pcl w0 w.heap.size q aq cq := by rw [hw0]; exact pcl_new w q aq cq 24
  have z0 : w0.heap.size = w.heap.size + 1 := by rw [hw0]; simp
  obtain ⟨c0, c1⟩ := id hC
  have HZ := Lib.hid (szPoly q aq cq 1048576 w0 ((hP.below HB).mono (Nat.le_refl _) HB.size) hm (by omega) (by omega))
  by_cases hs : tmSize q.terms ≤ 1048576
  rotate_left
  · rw [szv_f (by omega)] at HZ
    clear hP
    go_enter Try.func5, Try.ntmps5
    go_wp2_with fail
    rw [← hw0]
    refine HZ.out.mono ?_; rintro e w1 ⟨rfl, b⟩
    go_wp2_with fail
    go_ret
    exact ⟨rfl, HB.trans (b.mono HB.size)⟩
  rw [szv_t (by omega)] at HZ
  have hy : 0 ≤ 1048576 - ((tmSize q.terms : Nat) : Int) := by omega
  have hd : decide (1048576 - ((tmSize q.terms : Nat) : Int) < 0) = false := decide_eq_false (by omega)
  generalize 1048576 - ((tmSize q.terms : Nat) : Int) = lv at HZ hy hd
  go_enter Try.func5, Try.ntmps5
  go_wp2_with fail
  rw [← hw0]
  clear hw0
  refine HZ.out.mono ?_; rintro e w1 ⟨rfl, b⟩
  clear HZ c0 c1
  have s1 := b.size
  replace HB := HB.trans (b.mono HB.size)
  replace hC := hC.next b
  clear b
  obtain ⟨c0, c1⟩ := id hC
  go_wp2_with fail
  refine (toPoly q aq cq _ ((hP.below HB).mono (Nat.le_refl _) HB.size) hs).mono ?_
  rintro e v2 ⟨n1, m1, rfl, hX, b⟩
  have s2 := b.size
  replace HB := HB.trans (b.mono HB.size)
  replace hC := hC.next b
  clear b
  clear c0 c1
  go_wp2_with fail
  refine (toInt64S al0 cl0 l0 _ (hAl0.below HB (Nat.le_refl _)) hLl0).mono ?_
  rintro e v3 ⟨gTl0, kTl0, rfl, oTl0, b⟩
  have s3 := b.size
  replace HB := HB.trans (b.mono HB.size)
  replace hC := hC.next b
  replace hX := hX.next b
  clear b
  replace oTl0 := oTl0.a
  go_wp2_with fail
  refine (sPolyValue q _ _ _ _ l0 _ hX.zero (oTl0.at) hRl0 hLl0 hs).mono ?_
  rintro e v4 ⟨rfl, b⟩
  have s4 := b.size
  replace HB := HB.trans (b.mono HB.size)
  replace hC := hC.next b
  replace hX := hX.next b
  replace oTl0 := oTl0.below b
  clear b
  clear hX oTl0
  obtain ⟨c0, c1⟩ := id hC
  go_wp2_with fail
  refine (toPoly q aq cq _ ((hP.below HB).mono (Nat.le_refl _) HB.size) hs).mono ?_
  rintro e v5 ⟨n1, m1, rfl, hX, b⟩
  have s5 := b.size
  replace HB := HB.trans (b.mono HB.size)
  replace hC := hC.next b
  clear b
  clear c0 c1
  obtain ⟨vx, hvx⟩ : ∃ vx, vx = v5.alloc (.cells #[.int .i64 q.vars, .slice (some ⟨n1, 0, none⟩) q.terms.length q.terms.length] 29) := ⟨_, rfl⟩
  have b : Below v5.heap.size v5 vx := by rw [hvx]; exact (Below.refl _ _).alloc (Nat.le_refl _) _
  have hD : Pcl vx v5.heap.size q (some ⟨n1, 0, none⟩) q.terms.length := by rw [hvx]; exact pcl_new _ q _ _ 29
  have sx := b.size
  replace HB := HB.trans (b.mono HB.size)
  replace hC := hC.next b
  replace hX := hX.next b
  clear b
  go_wp2_with fail
  rw [← hvx]
  clear hvx
  refine (toInt64S al0 cl0 l0 _ (hAl0.below HB (Nat.le_refl _)) hLl0).mono ?_
  rintro e v6 ⟨gXl0, kXl0, rfl, oXl0, b⟩
  have s6 := b.size
  replace HB := HB.trans (b.mono HB.size)
  replace hC := hC.next b
  replace hX := hX.next b
  replace hD := hD.next b
  clear b
  replace oXl0 := oXl0.a
  obtain ⟨d0, d1⟩ := id hD
  go_wp2_with fail
  refine (iPolyValue q _ _ _ _ l0 _ hX.zero (oXl0.at) hRl0 hLl0 hs).mono ?_
  rintro e v7 ⟨rfl, b⟩
  have s7 := b.size
  replace HB := HB.trans (b.mono HB.size)
  replace hC := hC.next b
  replace hX := hX.next b
  replace hD := hD.next b
  replace oXl0 := oXl0.below b
  clear b
  clear d0 d1
  have hne : ((RPolyValue q l0) != (RPolyValue q l0)) = false := by simp
  have hne2 : ((CPolyValue q l0) != (CPolyValue q l0)) = false := by simp
  go_wp2_with fail
  obtain ⟨c0, c1⟩ := id hC
  obtain ⟨d0, d1⟩ := id hD
  have lc := hC.lt
  have ld := hD.lt
  have HT := fun (W : World) (hW : Below v7.heap.size v7 W) => Lib.hid (toPoly q aq cq W (((hP.below HB).mono (Nat.le_refl _) HB.size).next hW) hs)
  have HX := Lib.hid hX.zero
  go_region_held3 (fun w' => w'.cell? ⟨w.heap.size, 0, none⟩ = some (.int .i64 q.vars) ∧ w'.cell? ⟨w.heap.size, 1, none⟩ = some (.slice aq q.terms.length cq) ∧ w'.cell? ⟨v5.heap.size, 0, none⟩ = some (.int .i64 q.vars) ∧ w'.cell? ⟨v5.heap.size, 1, none⟩ = some (.slice (some ⟨n1, 0, none⟩) q.terms.length q.terms.length))
    (first
      | exact ⟨(hb9.cell (p := ⟨w.heap.size, 0, none⟩) lc).trans c0, (hb9.cell (p := ⟨w.heap.size, 1, none⟩) lc).trans c1, (hb9.cell (p := ⟨v5.heap.size, 0, none⟩) ld).trans d0, (hb9.cell (p := ⟨v5.heap.size, 1, none⟩) ld).trans d1⟩
      | exact ⟨(hb8.cell (p := ⟨w.heap.size, 0, none⟩) lc).trans c0, (hb8.cell (p := ⟨w.heap.size, 1, none⟩) lc).trans c1, (hb8.cell (p := ⟨v5.heap.size, 0, none⟩) ld).trans d0, (hb8.cell (p := ⟨v5.heap.size, 1, none⟩) ld).trans d1⟩
      | exact ⟨c0, c1, d0, d1⟩
      | go_keep)
    (first
      | (go_at_call 13; refine (eqPoly q _ _ _ _ _ (HX.out.next hb8) hQ8.zero hs).mono ?_; rintro e w9 ⟨rfl, hb9'⟩; have b : Below v7.heap.size v7 w9 := hb8.trans (hb9'.mono hb8.size); have hb9 := b)
      | (go_at_call 11; refine (HT _ (tbdrew (Below.refl _ _))).out.mono ?_; rintro e w8 ⟨p1, p2, rfl, hQ8, hb8'⟩; have hb8 : Below v7.heap.size v7 w8 := ⟨hb8'.os, hb8'.tape, hb8'.output, hb8'.size, hb8'.block⟩))
  all_goals
    clear HT HX lc ld c0 c1 d0 d1 hb9 hb8 hb8' hb9' hQ8
    have s90 := b.size
    replace HB := HB.trans (b.mono HB.size)
    replace hC := hC.next b
    replace hX := hX.next b
    replace hD := hD.next b
    replace oXl0 := oXl0.below b
    clear b
    go_wp2_with fail
    refine (toInt64S al0 cl0 l0 _ (hAl0.below HB (Nat.le_refl _)) hLl0).mono ?_
    rintro e v8 ⟨g, k, rfl, o, b⟩
    have s8 := b.size
    replace HB := HB.trans (b.mono HB.size)
    replace hC := hC.next b
    replace hX := hX.next b
    replace hD := hD.next b
    replace oXl0 := oXl0.below b
    clear b
    go_wp2_with fail
    refine (eqInt64S _ _ _ _ l0 _ oXl0.at o.at (by omega)).mono ?_
    rintro e v9 ⟨rfl, b⟩
    clear o
    have s9 := b.size
    replace HB := HB.trans (b.mono HB.size)
    replace hC := hC.next b
    replace hX := hX.next b
    replace hD := hD.next b
    replace oXl0 := oXl0.below b
    clear b
    go_wp2_with fail
    go_ret
    exact ⟨rfl, HB⟩

end Go.Proofs.Ytggojffmfjeikaa
