/- The walk of the law FnExactSameTape. -/
import Derived.Deep.RegionHeld3
import Derived.Test.YtjopjdhifbbhdaaTss
namespace Go.Proofs.Ytjopjdhifbbhdaa
open Go.RowKit
set_option linter.unusedVariables false

set_option maxRecDepth 100000 in
set_option maxHeartbeats 6400000 in
theorem wFnExactSameTape (v0 v1 : Value) (w : World) (h0 : IsTape w v0) (h1 : IsTape w v1) :
    Calls Try.prog 4 #[v0, v1] w fun e w' => e = .returned (.bool true) ∧ Below w.heap.size w w' := by
  obtain ⟨t, ac, cc, ag, cg, ao, co, rfl, hP, hT⟩ := h0
  obtain ⟨u, ac2, cc2, ag2, cg2, ao2, co2, rfl, hQ, hU⟩ := h1
  unfold tpv
  obtain ⟨w0, hw0⟩ : ∃ w0, w0 = w.alloc (.cells #[.int .i64 t.inputs, .slice ac t.code.length cc, .slice ag t.guards.length cg, .slice ao t.outs.length co] 26) := ⟨_, rfl⟩
  obtain ⟨wb, hwb⟩ : ∃ wb, wb = w0.alloc (.cells #[.int .i64 u.inputs, .slice ac2 u.code.length cc2, .slice ag2 u.guards.length cg2, .slice ao2 u.outs.length co2] 26) := ⟨_, rfl⟩
  have A0 : Below w.heap.size w w0 := by rw [hw0]; exact (Below.refl _ _).alloc (Nat.le_refl _) _
  have Ab : Below w0.heap.size w0 wb := by rw [hwb]; exact (Below.refl _ _).alloc (Nat.le_refl _) _
  have HB := A0.trans (Ab.mono A0.size)
  have hC : Tcl wb w.heap.size t ac cc ag cg ao co := Tcl.next (by rw [hw0]; exact tcl_new w t ac cc ag cg ao co 26) Ab
  have hE : Tcl wb w0.heap.size u ac2 cc2 ag2 cg2 ao2 co2 := by rw [hwb]; exact tcl_new w0 u ac2 cc2 ag2 cg2 ao2 co2 26
  have z0 : w0.heap.size = w.heap.size + 1 := by rw [hw0]; simp
  have zl := hE.lt
  obtain ⟨c0, c1, c2, c3⟩ := id hC
  obtain ⟨e0, e1, e2, e3⟩ := id hE
  clear Ab
  by_cases hs : tpSize t ≤ 1048576
  rotate_left
  · have HZ := Lib.hid (szTape_f t ac cc ag cg ao co 1048576 wb (by omega) (by omega) (by omega) hT)
    clear hT hP hQ hU
    go_enter Try.func4, Try.ntmps4
    go_wp2_with fail
    rw [← hw0, ← hwb]
    refine HZ.out.mono ?_; rintro e w1 ⟨rfl, b⟩
    clear c0 c1 c2 c3 e0 e1 e2 e3
    go_wp2_with fail
    go_ret
    exact ⟨rfl, HB.trans (b.mono HB.size)⟩
  have HZ := Lib.hid (szTape_t t ac cc ag cg ao co 1048576 wb (by omega) (by omega))
  by_cases hs2 : tpSize u ≤ 1048576 - tpSize t
  rotate_left
  · have HZ2 := fun W => Lib.hid (szTape_f u ac2 cc2 ag2 cg2 ao2 co2 (1048576 - ((tpSize t : Nat) : Int)) W (by omega) (by omega) (by omega) hU)
    have hd : decide (1048576 - ((tpSize t : Nat) : Int) < 0) = false := decide_eq_false (by omega)
    generalize 1048576 - ((tpSize t : Nat) : Int) = lv at HZ HZ2 hd
    clear hT hP hQ hU hs hs2
    go_enter Try.func4, Try.ntmps4
    go_wp2_with fail
    rw [← hw0, ← z0, ← hwb]
    clear z0 hw0 hwb
    refine HZ.out.mono ?_; rintro e w1 ⟨rfl, b⟩
    clear c0 c1 c2 c3 e0 e1 e2 e3
    obtain ⟨e0, e1, e2, e3⟩ := hE.next b
    have H1 := HB.trans (b.mono HB.size)
    clear HB hC hE
    go_wp2_with fail
    refine (HZ2 _).out.mono ?_; rintro e w2 ⟨rfl, b2⟩
    clear e0 e1 e2 e3
    go_wp2_with fail
    go_ret
    exact ⟨rfl, H1.trans (b2.mono H1.size)⟩
  have HZ2 := fun W => Lib.hid (szTape_t u ac2 cc2 ag2 cg2 ao2 co2 (1048576 - ((tpSize t : Nat) : Int)) W (by omega) (by omega))
  have hd : decide (1048576 - ((tpSize t : Nat) : Int) < 0) = false := decide_eq_false (by omega)
  have hd2 : decide (1048576 - ((tpSize t : Nat) : Int) - ((tpSize u : Nat) : Int) < 0) = false := decide_eq_false (by omega)
  have hs3 : tpSize u ≤ 1048576 := by omega
  generalize 1048576 - ((tpSize t : Nat) : Int) - ((tpSize u : Nat) : Int) = lv2 at HZ2 hd2
  generalize 1048576 - ((tpSize t : Nat) : Int) = lv at HZ HZ2 hd
  clear hT hU hs2
  go_enter Try.func4, Try.ntmps4
  go_wp2_with fail
  rw [← hw0, ← z0, ← hwb]
  clear hw0 hwb A0
  have z1 : w.heap.size < w0.heap.size := by omega
  clear z0
  refine HZ.out.mono ?_; rintro e v1 ⟨rfl, b⟩
  clear HZ c0 c1 c2 c3 e0 e1 e2 e3
  have s1 := b.size
  replace HB := HB.trans (b.mono HB.size)
  replace hC := hC.next b
  replace hE := hE.next b
  clear b
  obtain ⟨e0, e1, e2, e3⟩ := id hE
  go_wp2_with fail
  refine (HZ2 _).out.mono ?_; rintro e v2 ⟨rfl, b⟩
  clear HZ2 e0 e1 e2 e3
  have s2 := b.size
  replace HB := HB.trans (b.mono HB.size)
  replace hC := hC.next b
  replace hE := hE.next b
  clear b
  go_wp2_with fail
  obtain ⟨c0, c1, c2, c3⟩ := id hC
  obtain ⟨e0, e1, e2, e3⟩ := id hE
  have lc := hC.lt
  have le := hE.lt
  have HTa := fun (W : World) (hW : Below v2.heap.size v2 W) => Lib.hid (toTape t ac cc ag cg ao co W (((hP.below HB).mono (Nat.le_refl _) HB.size).next hW) hs)
  have HTb := fun (W : World) (hW : Below v2.heap.size v2 W) => Lib.hid (toTape u ac2 cc2 ag2 cg2 ao2 co2 W (((hQ.below HB).mono (Nat.le_refl _) HB.size).next hW) hs3)
  go_region_held3 (fun w' => w'.cell? ⟨w.heap.size, 0, none⟩ = some (.int .i64 t.inputs) ∧ w'.cell? ⟨w.heap.size, 1, none⟩ = some (.slice ac t.code.length cc) ∧ w'.cell? ⟨w.heap.size, 2, none⟩ = some (.slice ag t.guards.length cg) ∧ w'.cell? ⟨w.heap.size, 3, none⟩ = some (.slice ao t.outs.length co) ∧ w'.cell? ⟨w0.heap.size, 0, none⟩ = some (.int .i64 u.inputs) ∧ w'.cell? ⟨w0.heap.size, 1, none⟩ = some (.slice ac2 u.code.length cc2) ∧ w'.cell? ⟨w0.heap.size, 2, none⟩ = some (.slice ag2 u.guards.length cg2) ∧ w'.cell? ⟨w0.heap.size, 3, none⟩ = some (.slice ao2 u.outs.length co2))
    (first
      | exact ⟨(hb9.cell (p := ⟨w.heap.size, 0, none⟩) lc).trans c0, (hb9.cell (p := ⟨w.heap.size, 1, none⟩) lc).trans c1, (hb9.cell (p := ⟨w.heap.size, 2, none⟩) lc).trans c2, (hb9.cell (p := ⟨w.heap.size, 3, none⟩) lc).trans c3, (hb9.cell (p := ⟨w0.heap.size, 0, none⟩) le).trans e0, (hb9.cell (p := ⟨w0.heap.size, 1, none⟩) le).trans e1, (hb9.cell (p := ⟨w0.heap.size, 2, none⟩) le).trans e2, (hb9.cell (p := ⟨w0.heap.size, 3, none⟩) le).trans e3⟩
      | exact ⟨(hb8.cell (p := ⟨w.heap.size, 0, none⟩) lc).trans c0, (hb8.cell (p := ⟨w.heap.size, 1, none⟩) lc).trans c1, (hb8.cell (p := ⟨w.heap.size, 2, none⟩) lc).trans c2, (hb8.cell (p := ⟨w.heap.size, 3, none⟩) lc).trans c3, (hb8.cell (p := ⟨w0.heap.size, 0, none⟩) le).trans e0, (hb8.cell (p := ⟨w0.heap.size, 1, none⟩) le).trans e1, (hb8.cell (p := ⟨w0.heap.size, 2, none⟩) le).trans e2, (hb8.cell (p := ⟨w0.heap.size, 3, none⟩) le).trans e3⟩
      | exact ⟨(hb7.cell (p := ⟨w.heap.size, 0, none⟩) lc).trans c0, (hb7.cell (p := ⟨w.heap.size, 1, none⟩) lc).trans c1, (hb7.cell (p := ⟨w.heap.size, 2, none⟩) lc).trans c2, (hb7.cell (p := ⟨w.heap.size, 3, none⟩) lc).trans c3, (hb7.cell (p := ⟨w0.heap.size, 0, none⟩) le).trans e0, (hb7.cell (p := ⟨w0.heap.size, 1, none⟩) le).trans e1, (hb7.cell (p := ⟨w0.heap.size, 2, none⟩) le).trans e2, (hb7.cell (p := ⟨w0.heap.size, 3, none⟩) le).trans e3⟩
      | exact ⟨c0, c1, c2, c3, e0, e1, e2, e3⟩
      | go_keep)
    (first
      | (go_at_call 17; refine (sSameTape t u _ _ _ _ _ _ _ _ _ _ _ _ _ ((hX7.mono (Nat.zero_le _) (Nat.le_refl _)).next hb8') (hX8.mono (Nat.zero_le _) (Nat.le_refl _)) hs hs3).mono ?_; rintro e w9 ⟨rfl, hb9'⟩; have b : Below v2.heap.size v2 w9 := hb8.trans (hb9'.mono hb8.size); have hb9 := b)
      | (go_at_call 14; refine (HTb _ hb7).out.mono ?_; rintro e w8 ⟨r1, r2, r3, t3, rfl, hX8, _, _, _, hb8'⟩; have hb8 : Below v2.heap.size v2 w8 := hb7.trans (hb8'.mono hb7.size))
      | (go_at_call 14; refine (HTa _ (tbdrew (Below.refl _ _))).out.mono ?_; rintro e w7 ⟨p1, p2, p3, q3, rfl, hX7, _, _, _, hb7'⟩; have hb7 : Below v2.heap.size v2 w7 := ⟨hb7'.os, hb7'.tape, hb7'.output, hb7'.size, hb7'.block⟩))
  all_goals
    clear HTa HTb lc le c0 c1 c2 c3 e0 e1 e2 e3 hb9 hb8 hb7 hb7' hb8' hb9' hX7 hX8
    have s9 := b.size
    replace HB := HB.trans (b.mono HB.size)
    replace hC := hC.next b
    replace hE := hE.next b
    clear b
    obtain ⟨c0, c1, c2, c3⟩ := id hC
    go_wp2_with fail
    refine (toTape t ac cc ag cg ao co _ ((hP.below HB).mono (Nat.le_refl _) HB.size) hs).mono ?_
    rintro e v4 ⟨n1, n2, n3, m3, rfl, hX0, wr1, wr2, wr3, b⟩
    have s4 := b.size
    replace HB := HB.trans (b.mono HB.size)
    replace hC := hC.next b
    replace hE := hE.next b
    clear b c0 c1 c2 c3
    have hX := TapW.mk (Nat.le_refl v4.heap.size) hX0 wr1 wr2 wr3
    clear hX0 wr1 wr2 wr3
    obtain ⟨vx, hvx⟩ : ∃ vx, vx = v4.alloc (.cells #[.int .i64 t.inputs, .slice (some ⟨n1, 0, none⟩) t.code.length t.code.length, .slice (some ⟨n2, 0, none⟩) t.guards.length t.guards.length, .slice (some ⟨n3, 0, none⟩) t.outs.length m3] 32) := ⟨_, rfl⟩
    have b : Below v4.heap.size v4 vx := by rw [hvx]; exact (Below.refl _ _).alloc (Nat.le_refl _) _
    have hD : Tcl vx v4.heap.size t (some ⟨n1, 0, none⟩) t.code.length (some ⟨n2, 0, none⟩) t.guards.length (some ⟨n3, 0, none⟩) m3 := by rw [hvx]; exact tcl_new _ t _ _ _ _ _ _ 32
    have sx := b.size
    replace HB := HB.trans (b.mono HB.size)
    replace hC := hC.next b
    replace hE := hE.next b
    replace hX := hX.next b
    clear b
    obtain ⟨e0, e1, e2, e3⟩ := id hE
    have q1 : (v4.alloc (.cells #[.int .i64 t.inputs, .slice (some ⟨n1, 0, none⟩) t.code.length t.code.length, .slice (some ⟨n2, 0, none⟩) t.guards.length t.guards.length, .slice (some ⟨n3, 0, none⟩) t.outs.length m3] 32)).cell? ⟨w0.heap.size, 0, none⟩ = some (.int .i64 u.inputs) := by rw [← hvx]; exact e0
    have q2 : (v4.alloc (.cells #[.int .i64 t.inputs, .slice (some ⟨n1, 0, none⟩) t.code.length t.code.length, .slice (some ⟨n2, 0, none⟩) t.guards.length t.guards.length, .slice (some ⟨n3, 0, none⟩) t.outs.length m3] 32)).cell? ⟨w0.heap.size, 1, none⟩ = some (.slice ac2 u.code.length cc2) := by rw [← hvx]; exact e1
    have q3 : (v4.alloc (.cells #[.int .i64 t.inputs, .slice (some ⟨n1, 0, none⟩) t.code.length t.code.length, .slice (some ⟨n2, 0, none⟩) t.guards.length t.guards.length, .slice (some ⟨n3, 0, none⟩) t.outs.length m3] 32)).cell? ⟨w0.heap.size, 2, none⟩ = some (.slice ag2 u.guards.length cg2) := by rw [← hvx]; exact e2
    have q4 : (v4.alloc (.cells #[.int .i64 t.inputs, .slice (some ⟨n1, 0, none⟩) t.code.length t.code.length, .slice (some ⟨n2, 0, none⟩) t.guards.length t.guards.length, .slice (some ⟨n3, 0, none⟩) t.outs.length m3] 32)).cell? ⟨w0.heap.size, 3, none⟩ = some (.slice ao2 u.outs.length co2) := by rw [← hvx]; exact e3
    go_wp2_with fail
    rw [← hvx]
    clear hvx q1 q2 q3 q4 e0 e1 e2 e3
    refine (toTape u ac2 cc2 ag2 cg2 ao2 co2 _ ((hQ.below HB).mono (Nat.le_refl _) HB.size) hs3).mono ?_
    rintro e v5 ⟨k1, k2, k3, l3, rfl, hY0, wr1, wr2, wr3, b⟩
    have s5 := b.size
    replace HB := HB.trans (b.mono HB.size)
    replace hC := hC.next b
    replace hE := hE.next b
    replace hX := hX.next b
    replace hD := hD.next b
    clear b
    have hY := TapW.mk (Nat.le_refl v5.heap.size) hY0 wr1 wr2 wr3
    clear hY0 wr1 wr2 wr3
    obtain ⟨vy, hvy⟩ : ∃ vy, vy = v5.alloc (.cells #[.int .i64 u.inputs, .slice (some ⟨k1, 0, none⟩) u.code.length u.code.length, .slice (some ⟨k2, 0, none⟩) u.guards.length u.guards.length, .slice (some ⟨k3, 0, none⟩) u.outs.length l3] 32) := ⟨_, rfl⟩
    have b : Below v5.heap.size v5 vy := by rw [hvy]; exact (Below.refl _ _).alloc (Nat.le_refl _) _
    have hF : Tcl vy v5.heap.size u (some ⟨k1, 0, none⟩) u.code.length (some ⟨k2, 0, none⟩) u.guards.length (some ⟨k3, 0, none⟩) l3 := by rw [hvy]; exact tcl_new _ u _ _ _ _ _ _ 32
    have sy := b.size
    replace HB := HB.trans (b.mono HB.size)
    replace hC := hC.next b
    replace hE := hE.next b
    replace hX := hX.next b
    replace hD := hD.next b
    replace hY := hY.next b
    clear b
    obtain ⟨d0, d1, d2, d3⟩ := id hD
    have q1 : (v5.alloc (.cells #[.int .i64 u.inputs, .slice (some ⟨k1, 0, none⟩) u.code.length u.code.length, .slice (some ⟨k2, 0, none⟩) u.guards.length u.guards.length, .slice (some ⟨k3, 0, none⟩) u.outs.length l3] 32)).cell? ⟨v4.heap.size, 0, none⟩ = some (.int .i64 t.inputs) := by rw [← hvy]; exact d0
    have q2 : (v5.alloc (.cells #[.int .i64 u.inputs, .slice (some ⟨k1, 0, none⟩) u.code.length u.code.length, .slice (some ⟨k2, 0, none⟩) u.guards.length u.guards.length, .slice (some ⟨k3, 0, none⟩) u.outs.length l3] 32)).cell? ⟨v4.heap.size, 1, none⟩ = some (.slice (some ⟨n1, 0, none⟩) t.code.length t.code.length) := by rw [← hvy]; exact d1
    have q3 : (v5.alloc (.cells #[.int .i64 u.inputs, .slice (some ⟨k1, 0, none⟩) u.code.length u.code.length, .slice (some ⟨k2, 0, none⟩) u.guards.length u.guards.length, .slice (some ⟨k3, 0, none⟩) u.outs.length l3] 32)).cell? ⟨v4.heap.size, 2, none⟩ = some (.slice (some ⟨n2, 0, none⟩) t.guards.length t.guards.length) := by rw [← hvy]; exact d2
    have q4 : (v5.alloc (.cells #[.int .i64 u.inputs, .slice (some ⟨k1, 0, none⟩) u.code.length u.code.length, .slice (some ⟨k2, 0, none⟩) u.guards.length u.guards.length, .slice (some ⟨k3, 0, none⟩) u.outs.length l3] 32)).cell? ⟨v4.heap.size, 3, none⟩ = some (.slice (some ⟨n3, 0, none⟩) t.outs.length m3) := by rw [← hvy]; exact d3
    go_wp2_with fail
    rw [← hvy]
    clear hvy q1 q2 q3 q4 d0 d1 d2 d3
    refine (iSameTape t u _ _ _ _ _ _ _ _ _ _ _ _ _ hX.zero hY.zero hs hs3).mono ?_
    rintro e v6 ⟨rfl, b⟩
    have s6 := b.size
    replace HB := HB.trans (b.mono HB.size)
    replace hC := hC.next b
    replace hE := hE.next b
    replace hX := hX.next b
    replace hD := hD.next b
    replace hY := hY.next b
    replace hF := hF.next b
    clear b
    have hne : ((RSameTape t u) != (RSameTape t u)) = false := by simp
    go_wp2_with fail
    obtain ⟨c0, c1, c2, c3⟩ := id hC
    obtain ⟨d0, d1, d2, d3⟩ := id hD
    have lc := hC.lt
    have ld := hD.lt
    have HT := fun (W : World) (hW : Below v6.heap.size v6 W) => Lib.hid (toTape t ac cc ag cg ao co W (((hP.below HB).mono (Nat.le_refl _) HB.size).next hW) hs)
    have HX := Lib.hid hX.zero
    go_region_held3 (fun w' => w'.cell? ⟨w.heap.size, 0, none⟩ = some (.int .i64 t.inputs) ∧ w'.cell? ⟨w.heap.size, 1, none⟩ = some (.slice ac t.code.length cc) ∧ w'.cell? ⟨w.heap.size, 2, none⟩ = some (.slice ag t.guards.length cg) ∧ w'.cell? ⟨w.heap.size, 3, none⟩ = some (.slice ao t.outs.length co) ∧ w'.cell? ⟨v4.heap.size, 0, none⟩ = some (.int .i64 t.inputs) ∧ w'.cell? ⟨v4.heap.size, 1, none⟩ = some (.slice (some ⟨n1, 0, none⟩) t.code.length t.code.length) ∧ w'.cell? ⟨v4.heap.size, 2, none⟩ = some (.slice (some ⟨n2, 0, none⟩) t.guards.length t.guards.length) ∧ w'.cell? ⟨v4.heap.size, 3, none⟩ = some (.slice (some ⟨n3, 0, none⟩) t.outs.length m3))
      (first
        | exact ⟨(hb9.cell (p := ⟨w.heap.size, 0, none⟩) lc).trans c0, (hb9.cell (p := ⟨w.heap.size, 1, none⟩) lc).trans c1, (hb9.cell (p := ⟨w.heap.size, 2, none⟩) lc).trans c2, (hb9.cell (p := ⟨w.heap.size, 3, none⟩) lc).trans c3, (hb9.cell (p := ⟨v4.heap.size, 0, none⟩) ld).trans d0, (hb9.cell (p := ⟨v4.heap.size, 1, none⟩) ld).trans d1, (hb9.cell (p := ⟨v4.heap.size, 2, none⟩) ld).trans d2, (hb9.cell (p := ⟨v4.heap.size, 3, none⟩) ld).trans d3⟩
        | exact ⟨(hb8.cell (p := ⟨w.heap.size, 0, none⟩) lc).trans c0, (hb8.cell (p := ⟨w.heap.size, 1, none⟩) lc).trans c1, (hb8.cell (p := ⟨w.heap.size, 2, none⟩) lc).trans c2, (hb8.cell (p := ⟨w.heap.size, 3, none⟩) lc).trans c3, (hb8.cell (p := ⟨v4.heap.size, 0, none⟩) ld).trans d0, (hb8.cell (p := ⟨v4.heap.size, 1, none⟩) ld).trans d1, (hb8.cell (p := ⟨v4.heap.size, 2, none⟩) ld).trans d2, (hb8.cell (p := ⟨v4.heap.size, 3, none⟩) ld).trans d3⟩
        | exact ⟨c0, c1, c2, c3, d0, d1, d2, d3⟩
        | go_keep)
      (first
        | (go_at_call 16; refine (eqTape t _ _ _ _ _ _ _ _ _ _ _ _ _ (HX.out.next hb8) (hQ8.mono (Nat.zero_le _) (Nat.le_refl _)) hs).mono ?_; rintro e w9 ⟨rfl, hb9'⟩; have b : Below v6.heap.size v6 w9 := hb8.trans (hb9'.mono hb8.size); have hb9 := b)
        | (go_at_call 14; refine (HT _ (tbdrew (Below.refl _ _))).out.mono ?_; rintro e w8 ⟨p1, p2, p3, q3, rfl, hQ8, _, _, _, hb8'⟩; have hb8 : Below v6.heap.size v6 w8 := ⟨hb8'.os, hb8'.tape, hb8'.output, hb8'.size, hb8'.block⟩))
    all_goals
      clear HT HX lc ld c0 c1 c2 c3 d0 d1 d2 d3 hb9 hb8 hb8' hb9' hQ8
      have s90 := b.size
      replace HB := HB.trans (b.mono HB.size)
      replace hC := hC.next b
      replace hE := hE.next b
      replace hY := hY.next b
      replace hF := hF.next b
      clear b hX hD hC
      go_wp2_with fail
      obtain ⟨e0, e1, e2, e3⟩ := id hE
      obtain ⟨f0, f1, f2, f3⟩ := id hF
      have le := hE.lt
      have lf := hF.lt
      have HT := fun (W : World) (hW : Below w9.heap.size w9 W) => Lib.hid (toTape u ac2 cc2 ag2 cg2 ao2 co2 W (((hQ.below HB).mono (Nat.le_refl _) HB.size).next hW) hs3)
      have HX := Lib.hid hY.zero
      go_region_held3 (fun w' => w'.cell? ⟨w0.heap.size, 0, none⟩ = some (.int .i64 u.inputs) ∧ w'.cell? ⟨w0.heap.size, 1, none⟩ = some (.slice ac2 u.code.length cc2) ∧ w'.cell? ⟨w0.heap.size, 2, none⟩ = some (.slice ag2 u.guards.length cg2) ∧ w'.cell? ⟨w0.heap.size, 3, none⟩ = some (.slice ao2 u.outs.length co2) ∧ w'.cell? ⟨v5.heap.size, 0, none⟩ = some (.int .i64 u.inputs) ∧ w'.cell? ⟨v5.heap.size, 1, none⟩ = some (.slice (some ⟨k1, 0, none⟩) u.code.length u.code.length) ∧ w'.cell? ⟨v5.heap.size, 2, none⟩ = some (.slice (some ⟨k2, 0, none⟩) u.guards.length u.guards.length) ∧ w'.cell? ⟨v5.heap.size, 3, none⟩ = some (.slice (some ⟨k3, 0, none⟩) u.outs.length l3))
        (first
          | exact ⟨(hbc.cell (p := ⟨w0.heap.size, 0, none⟩) le).trans e0, (hbc.cell (p := ⟨w0.heap.size, 1, none⟩) le).trans e1, (hbc.cell (p := ⟨w0.heap.size, 2, none⟩) le).trans e2, (hbc.cell (p := ⟨w0.heap.size, 3, none⟩) le).trans e3, (hbc.cell (p := ⟨v5.heap.size, 0, none⟩) lf).trans f0, (hbc.cell (p := ⟨v5.heap.size, 1, none⟩) lf).trans f1, (hbc.cell (p := ⟨v5.heap.size, 2, none⟩) lf).trans f2, (hbc.cell (p := ⟨v5.heap.size, 3, none⟩) lf).trans f3⟩
          | exact ⟨(hba.cell (p := ⟨w0.heap.size, 0, none⟩) le).trans e0, (hba.cell (p := ⟨w0.heap.size, 1, none⟩) le).trans e1, (hba.cell (p := ⟨w0.heap.size, 2, none⟩) le).trans e2, (hba.cell (p := ⟨w0.heap.size, 3, none⟩) le).trans e3, (hba.cell (p := ⟨v5.heap.size, 0, none⟩) lf).trans f0, (hba.cell (p := ⟨v5.heap.size, 1, none⟩) lf).trans f1, (hba.cell (p := ⟨v5.heap.size, 2, none⟩) lf).trans f2, (hba.cell (p := ⟨v5.heap.size, 3, none⟩) lf).trans f3⟩
          | exact ⟨e0, e1, e2, e3, f0, f1, f2, f3⟩
          | go_keep)
        (first
          | (go_at_call 16; refine (eqTape u _ _ _ _ _ _ _ _ _ _ _ _ _ (HX.out.next hba) (hQa.mono (Nat.zero_le _) (Nat.le_refl _)) hs3).mono ?_; rintro e wc ⟨rfl, hbc'⟩; have b : Below w9.heap.size w9 wc := hba.trans (hbc'.mono hba.size); have hbc := b)
          | (go_at_call 14; refine (HT _ (tbdrew (Below.refl _ _))).out.mono ?_; rintro e wa ⟨p1, p2, p3, q3, rfl, hQa, _, _, _, hba'⟩; have hba : Below w9.heap.size w9 wa := ⟨hba'.os, hba'.tape, hba'.output, hba'.size, hba'.block⟩))
      all_goals
        clear HT HX le lf e0 e1 e2 e3 f0 f1 f2 f3 hba hba' hbc hbc' hQa
        have HB2 := HB.trans (b.mono HB.size)
        go_wp2_with fail
        go_ret
        exact ⟨rfl, HB2⟩

end Go.Proofs.Ytjopjdhifbbhdaa
