/- The choices that are read from bytes: the state, and one choice. -/
import Derived.Test.YtegjlfbklcgapaaValid
import Derived.Test.YtegjlfbklcgapaaValue
import Derived.Laws.Pointers
import Derived.Laws.Bits64b
namespace Go.Proofs.Ytegjlfbklcgapaa
open Go.RowKit

/-- The state of the choices lies in block p: the bytes, how many have been read, a number. -/
structure Src (w : World) (p : Nat) (a : Option Addr) (n c t : Nat) : Prop where
  c0 : w.cell? ⟨p, 0, none⟩ = some (.slice a n c)
  c1 : w.cell? ⟨p, 1, none⟩ = some (.int .i64 t)
  c2 : ∃ z : Int, w.cell? ⟨p, 2, none⟩ = some (.int .u64 z) ∧ 0 ≤ z ∧ z < 18446744073709551616
  f1 : w.frozen? ⟨p, 1, none⟩ = false
  f2 : w.frozen? ⟨p, 2, none⟩ = false

/-- The bytes can be read, and do not lie in block p. -/
def Bts (w : World) (p : Nat) (a : Option Addr) (n : Nat) : Prop :=
  n = 0 ∨ ∃ b off, a = some ⟨b, off, none⟩ ∧ b ≠ p ∧ b < w.heap.size ∧ ∀ k, k < n → ∃ v : Int, 0 ≤ v ∧ v ≤ 255 ∧ w.cell? ⟨b, off + k, none⟩ = some (.int .u8 v)

def Pick (w : World) (p : Nat) (a : Option Addr) (n c t hi : Nat) (e : Ending) (w' : World) : Prop :=
  ∃ (r : Nat) (t' : Nat), e = .returned (.int .i64 r) ∧ r < hi ∧ t' ≤ t ∧ Src w' p a n c t' ∧ w.grownBy w' (some p)

theorem cset {w : World} {p i j : Nat} {v : Value} (h : i ≠ j) : (w.setCell ⟨p, i, none⟩ v).cell? ⟨p, j, none⟩ = w.cell? ⟨p, j, none⟩ := by
  apply World.cell?_setCell_other
  intro e
  injection e
  exact h (by assumption)
theorem csame {w : World} {p i : Nat} {u v : Value} (h : w.cell? ⟨p, i, none⟩ = some u) : (w.setCell ⟨p, i, none⟩ v).cell? ⟨p, i, none⟩ = some v := by
  apply World.cell?_setCell_same
  exact h

theorem src_step {w : World} {p n c t : Nat} {a : Option Addr} (h : Src w p a n c t) (q : Int) (hq : 0 ≤ q ∧ q < 18446744073709551616) (i j : Nat) :
    Src ((((w.drewN i).setCell ⟨p, 1, none⟩ (.int .i64 ((t : Int) + 1))).setCell ⟨p, 2, none⟩ (.int .u64 q)).drewN j) p a n c (t + 1) ∧
    w.grownBy ((((w.drewN i).setCell ⟨p, 1, none⟩ (.int .i64 ((t : Int) + 1))).setCell ⟨p, 2, none⟩ (.int .u64 q)).drewN j) (some p) := by
  obtain ⟨c0, c1, ⟨z, c2, _⟩, f1, f2⟩ := h
  constructor
  · refine ⟨?_, ?_, ⟨q, ?_, hq⟩, ?_, ?_⟩
    · rw [World.cell?_drewN, cset (by omega), cset (by omega), World.cell?_drewN]; exact c0
    · rw [World.cell?_drewN, cset (by omega), Int.natCast_add]
      exact csame (u := .int .i64 t) c1
    · rw [World.cell?_drewN]
      exact csame (u := .int .u64 z) (by rw [cset (by omega)]; exact c2)
    · rw [World.frozen?_drewN, World.frozen?_setCell, World.frozen?_setCell]; exact f1
    · rw [World.frozen?_drewN, World.frozen?_setCell, World.frozen?_setCell]; exact f2
  · have g1 := grownBy_set (w.drewN i) p 1 (.int .i64 ((t : Int) + 1))
    have g2 := grownBy_set ((w.drewN i).setCell ⟨p, 1, none⟩ (.int .i64 ((t : Int) + 1))) p 2 (.int .u64 q)
    exact grownBy_trans (b := w.drewN i) ⟨rfl, rfl, rfl, Nat.le_refl _, fun _ _ _ => rfl⟩ (grownBy_trans (grownBy_trans g1 g2) ⟨rfl, rfl, rfl, Nat.le_refl _, fun _ _ _ => rfl⟩)

theorem and255 (x : Int) (h0 : 0 ≤ x) (h1 : x < 18446744073709551616) : ∃ r : Nat, bits BinOp.and IntKind.u64 x 255 = (r : Int) ∧ r ≤ 255 := by
  obtain ⟨n, rfl⟩ := Int.eq_ofNat_of_zero_le h0
  exact ⟨n &&& 255, bits_and_u64_nat n 255 (by omega) (by omega), Nat.and_le_right⟩

theorem wf_u64w (x : Int) : 0 ≤ IntKind.u64.wrap x ∧ IntKind.u64.wrap x < 18446744073709551616 := by
  unfold IntKind.wrap
  simp [IntKind.bits, IntKind.signed]
  omega

theorem u64_bd (x : Int) : 0 ≤ IntKind.u64.wrap x ∧ IntKind.u64.wrap x < 18446744073709551616 := by
  have h := wf_u64w x
  exact h

def Picked (w : World) (p : Nat) (a : Option Addr) (n c t hi : Nat) (e : Ending) (w' : World) : Prop :=
  ∃ r : Nat, e = .returned (.int .i64 r) ∧ r < hi ∧ Src w' p a n c t ∧ w.grownBy w' (some p)

set_option maxRecDepth 100000 in
set_option maxHeartbeats 3200000 in
theorem sNextIn (p : Nat) (b off n c t : Nat) (v : Nat) (w : World) (hlt : t < n) (hn : n ≤ 1048576) (hs : Src w p (some ⟨b, off, none⟩) n c t)
    (hc : w.cell? ⟨b, off + t, none⟩ = some (.int .u8 v)) (hv1 : v ≤ 255) :
    Calls Try.prog 101 #[.pointer (some ⟨p, 0, none⟩)] w (Picked w p (some ⟨b, off, none⟩) n c (t + 1) 256) := by
  have hst := src_step hs
  obtain ⟨c0, c1, ⟨z, c2, _⟩, f1, f2⟩ := hs
  have hi1 : (t : Int) < (n : Int) := by omega
  have hi2 : (t : Int) + 1 ≤ (n : Int) := by omega
  have hi0 : (0 : Int) ≤ (t : Int) := by omega
  have HS := Lib.hid hst
  clear hst
  go_enter Try.func101, Try.ntmps101
  go_wp2
  go_quiet (fail)
  go_wp2
  go_quiet (fail)
  go_wp2
  have hb := u64_bd (IntKind.u64.wrap (IntKind.u64.wrap (z * 6364136223846793005) + v) + 1442695040888963407)
  generalize IntKind.u64.wrap (IntKind.u64.wrap (IntKind.u64.wrap (z * 6364136223846793005) + v) + 1442695040888963407) = q at hb ⊢
  have HQ := Lib.hid hb
  clear hb
  go_quiet (fail)
  go_wp2
  go_ret
  exact ⟨v, rfl, by omega, (HS.out q HQ.out _ _).1, (HS.out q HQ.out _ _).2⟩

set_option maxRecDepth 100000 in
set_option maxHeartbeats 3200000 in
theorem sNextOut (p : Nat) (a : Option Addr) (n c t : Nat) (w : World) (hlt : n ≤ t) (hn : t ≤ 1048576) (hs : Src w p a n c t) :
    Calls Try.prog 101 #[.pointer (some ⟨p, 0, none⟩)] w (Picked w p a n c (t + 1) 256) := by
  have hst := src_step hs
  obtain ⟨c0, c1, ⟨z, c2, _⟩, f1, f2⟩ := hs
  have hi1 : (n : Int) ≤ (t : Int) := by omega
  have hi0 : (0 : Int) ≤ (t : Int) := by omega
  have hd1 : decide ((t : Int) < (n : Int)) = false := by simp; omega
  have hd2 : decide ((t : Int) + 1 ≤ (n : Int)) = false := by simp; omega
  have HS := Lib.hid hst
  clear hst
  go_enter Try.func101, Try.ntmps101
  go_wp2
  go_quiet (fail)
  go_wp2
  have hb := u64_bd (IntKind.u64.wrap (IntKind.u64.wrap (z * 6364136223846793005)) + 1442695040888963407)
  generalize IntKind.u64.wrap (IntKind.u64.wrap (IntKind.u64.wrap (z * 6364136223846793005)) + 1442695040888963407) = q at hb ⊢
  have HQ := Lib.hid hb
  have q0 : 0 ≤ q := hb.1
  have q1 : q < 18446744073709551616 := hb.2
  clear hb
  go_quiet (fail)
  go_wp2
  go_ret
  have hq2 := and255 (q / 1099511627776) (by omega) (by omega)
  obtain ⟨r, hr, hr2⟩ := hq2
  exact ⟨r, ret_int (by rw [hr]; exact IntWalk.wrap64_in _ (by omega)), by omega, (HS.out q HQ.out _ _).1, (HS.out q HQ.out _ _).2⟩

end Go.Proofs.Ytegjlfbklcgapaa
