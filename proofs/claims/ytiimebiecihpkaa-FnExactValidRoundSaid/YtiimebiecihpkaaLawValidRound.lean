/- The law on rounds. -/
import Derived.Deep.RegionHeld3
import Derived.Test.YtiimebiecihpkaaVr
namespace Go.Proofs.Ytiimebiecihpkaa
open Go.RowKit
set_option linter.unusedVariables false

set_option maxRecDepth 100000 in
set_option maxHeartbeats 3200000 in
theorem wFnExactValidRound (v0 v1 : Value) (w : World) (h0 : IsProg w v0) (h1 : IsI64 w v1) :
    Calls Try.prog 10 #[v0, v1] w fun e w' => e = .returned (.bool true) ∧ Below w.heap.size w w' := by
  obtain ⟨a, cap, l, rfl, hP, hlen⟩ := h0
  obtain ⟨f, rfl, hf0⟩ := h1
  obtain ⟨w0, hw0⟩ : ∃ w0, w0 = w.alloc (.cells #[.slice a l.length cap] 40) := ⟨_, rfl⟩
  have hb0 : Below w.heap.size w w0 := by rw [hw0]; exact (Below.refl _ _).alloc (Nat.le_refl _) _
  have z0 : w0.heap.size = w.heap.size + 1 := by rw [hw0]; simp
  have c0 : w0.cell? ⟨w.heap.size, 0, none⟩ = some (.slice a l.length cap) := by rw [hw0]; simp [go_sem]
  have hP0 : Pat w0 0 w0.heap.size l a := (hP.below hb0).mono (Nat.le_refl _) hb0.size
  have hlm : l.length ≤ maxLen := hlen
  have HZ := Lib.hid (szProgram l a cap 1048576 w0 hP0 hlm (by omega) (by omega))
  by_cases hs : ((pgSize l : Nat) : Int) ≤ 1048576
  · have hsz : pgSize l ≤ 1048576 := by omega
    rw [szv_t hs] at HZ
    have hy : 0 ≤ 1048576 - ((pgSize l : Nat) : Int) := by omega
    have hd : decide (1048576 - ((pgSize l : Nat) : Int) < 0) = false := decide_eq_false (by omega)
    have hll : l.length ≤ 1048576 := by unfold pgSize at hsz; omega
    generalize 1048576 - ((pgSize l : Nat) : Int) = lv at HZ hy hd
    go_enter Try.func10, Try.ntmps10
    go_wp2_with fail
    rw [← hw0]
    clear hw0 hs
    refine (HZ.out).mono ?_; rintro e w1 ⟨rfl, hb1⟩
    have c1 := (hb1.cell (p := ⟨w.heap.size, 0, none⟩) (by show w.heap.size < _; omega)).trans c0
    have z1 := hb1.size
    have hP1 := (hP0.below hb1).mono (Nat.le_refl _) hb1.size
    clear HZ
    go_wp2_with fail
    refine (toProgram l a cap _ hP1 hsz).mono ?_; rintro e w2 ⟨g2, rfl, hQ2, hb2⟩
    have c2 := (hb2.cell (p := ⟨w.heap.size, 0, none⟩) (by show w.heap.size < _; omega)).trans c1
    have z2 := hb2.size
    have hP2 := (hP1.below hb2).mono (Nat.le_refl _) hb2.size
    clear c1 hP1
    go_wp2_with fail
    refine (sValidRound l _ l.length f _ (hQ2.mono (Nat.zero_le _) (Nat.le_refl _)) hsz).mono ?_; rintro e w3 ⟨rfl, hb3⟩
    have c3 := (hb3.cell (p := ⟨w.heap.size, 0, none⟩) (by show w.heap.size < _; omega)).trans c2
    have z3 := hb3.size
    have hP3 := (hP2.below hb3).mono (Nat.le_refl _) hb3.size
    clear c2 hP2
    go_wp2_with fail
    refine (toProgram l a cap _ hP3 hsz).mono ?_; rintro e w4 ⟨g4, rfl, hQ4, hb4⟩
    have c4 := (hb4.cell (p := ⟨w.heap.size, 0, none⟩) (by show w.heap.size < _; omega)).trans c3
    have z4 := hb4.size
    have hP4 := (hP3.below hb4).mono (Nat.le_refl _) hb4.size
    obtain ⟨w5, hw5⟩ : ∃ w5, w5 = w4.alloc (.cells #[.slice (some ⟨g4, 0, none⟩) l.length l.length] 49) := ⟨_, rfl⟩
    have hb5 : Below w4.heap.size w4 w5 := by rw [hw5]; exact (Below.refl _ _).alloc (Nat.le_refl _) _
    have z5 : w5.heap.size = w4.heap.size + 1 := by rw [hw5]; simp
    have c5 := (hb5.cell (p := ⟨w.heap.size, 0, none⟩) (by show w.heap.size < _; omega)).trans c4
    have x5 : w5.cell? ⟨w4.heap.size, 0, none⟩ = some (.slice (some ⟨g4, 0, none⟩) l.length l.length) := by rw [hw5]; simp [go_sem]
    have hP5 := (hP4.below hb5).mono (Nat.le_refl _) hb5.size
    have hQ5 := (hQ4.below hb5).mono (Nat.zero_le _) hb5.size
    clear c3 hP3 hP4 hQ4 hQ2
    have lw : w.heap.size < w4.heap.size := by omega
    go_wp2_with fail
    rw [← hw5]
    clear hw5 c4
    refine (iValidRound l _ l.length f _ hQ5 hsz (Nat.le_refl _) hll).mono ?_; rintro e w6 ⟨rfl, hb6⟩
    have z6 := hb6.size
    have c6 := (hb6.cell (p := ⟨w.heap.size, 0, none⟩) (by show w.heap.size < _; omega)).trans c5
    have x6 := (hb6.cell (p := ⟨w4.heap.size, 0, none⟩) (by show w4.heap.size < _; omega)).trans x5
    have hP6 := (hP5.below hb6).mono (Nat.le_refl _) hb6.size
    have hQ6 := (hQ5.below hb6).mono (Nat.le_refl _) hb6.size
    have hne : (vrdB l f != vrdB l f) = false := by simp
    have hB6 : Below w.heap.size w w6 := ((((hb0.trans (hb1.mono (by omega))).trans (hb2.mono (by omega))).trans (hb3.mono (by omega))).trans (hb4.mono (by omega))).trans ((hb5.trans (hb6.mono (by omega))).mono (by omega))
    have HT := fun (W : World) (hW : Below w6.heap.size w6 W) => Lib.hid (toProgram l a cap W ((hP6.below hW).mono (Nat.le_refl _) hW.size) hsz)
    generalize vrdB l f = pb at hne
    clear c5 x5 hP5 hQ5
    go_wp2_with fail
    have l1 : w.heap.size < w6.heap.size := by omega
    have l2 : w4.heap.size < w6.heap.size := by omega
    go_region_held3 (fun w' => w'.cell? ⟨w.heap.size, 0, none⟩ = some (.slice a l.length cap) ∧ w'.cell? ⟨w4.heap.size, 0, none⟩ = some (.slice (some ⟨g4, 0, none⟩) l.length l.length))
      (first
        | exact ⟨c6, x6⟩
        | exact ⟨(hb9.cell (p := ⟨w.heap.size, 0, none⟩) l1).trans c6, (hb9.cell (p := ⟨w4.heap.size, 0, none⟩) l2).trans x6⟩
        | exact ⟨(hb7.cell (p := ⟨w.heap.size, 0, none⟩) l1).trans c6, (hb7.cell (p := ⟨w4.heap.size, 0, none⟩) l2).trans x6⟩
        | go_keep)
      (first
        | (go_at_call 33; refine (HT _ (below_drew (Below.refl _ _))).out.mono ?_; rintro e w7 ⟨g7, rfl, hQ7, hb7'⟩; have hb7 : Below w6.heap.size w6 w7 := ⟨hb7'.os, hb7'.tape, hb7'.output, hb7'.size, hb7'.block⟩)
        | (go_at_call 36; refine (eqProgram l _ _ _ _ _ ((hQ6.below hb7).mono (Nat.le_refl _) hb7.size) (hQ7.mono (Nat.zero_le _) (Nat.le_refl _)) hlm).mono ?_; rintro e w8 ⟨rfl, hb8⟩; have hb9 : Below w6.heap.size w6 w8 := hb7.trans (hb8.mono hb7.size)))
    all_goals go_wp2_with fail
    all_goals go_ret
    all_goals exact ⟨rfl, hB6.trans (hb9.mono hB6.size)⟩
  · rw [szv_f hs] at HZ
    go_enter Try.func10, Try.ntmps10
    go_wp2_with fail
    rw [← hw0]
    clear hw0 hs
    refine (HZ.out).mono ?_; rintro e w1 ⟨rfl, hb1⟩
    go_wp2_with fail
    go_ret
    exact ⟨rfl, hb0.trans (hb1.mono (by omega))⟩

end Go.Proofs.Ytiimebiecihpkaa
