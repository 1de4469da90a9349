/- The choices that are read from bytes: numbers below a bound, residues, integers. -/
import Derived.Test.YtegjlfbklcgapaaDraw
namespace Go.Proofs.Ytegjlfbklcgapaa
open Go.RowKit

/-- The state lies in block p, and its bytes can be read. -/
structure St (w : World) (p : Nat) (a : Option Addr) (n c t : Nat) : Prop where
  src : Src w p a n c t
  bts : Bts w p a n
  lt : p < w.heap.size
  small : n ≤ 1048576

theorem Bts.kept {w w' : World} {p : Nat} {a : Option Addr} {n : Nat} (h : Bts w p a n) (hg : w.grownBy w' (some p)) : Bts w' p a n := by
  rcases h with h | ⟨b, off, h1, h2, h3, h4⟩
  · exact .inl h
  · refine .inr ⟨b, off, h1, h2, Nat.lt_of_lt_of_le h3 hg.size, fun k hk => ?_⟩
    obtain ⟨v, v0, v1, hv⟩ := h4 k hk
    exact ⟨v, v0, v1, (World.cell?_of_block (w := w) (a := ⟨b, off + k, none⟩) (hg.block b h3 (by intro e; cases e; exact h2 rfl))).trans hv⟩

/-- The call answers a number with P, after at most t bytes in all; of what was there only the state has turned. -/
def Drew (w : World) (p : Nat) (a : Option Addr) (n c t : Nat) (P : Int → Prop) (e : Ending) (w' : World) : Prop :=
  ∃ (v : Int) (t' : Nat), e = .returned (.int .i64 v) ∧ P v ∧ t' ≤ t ∧ St w' p a n c t' ∧ w.grownBy w' (some p)

theorem sNext (p : Nat) (a : Option Addr) (n c t : Nat) (w : World) (h : St w p a n c t) (ht : t ≤ 1048575) :
    Calls Try.prog 101 #[.pointer (some ⟨p, 0, none⟩)] w (Drew w p a n c (t + 1) (fun v => 0 ≤ v ∧ v ≤ 255)) := by
  have fin : ∀ (e : Ending) (w' : World), Picked w p a n c (t + 1) 256 e w' → Drew w p a n c (t + 1) (fun v => 0 ≤ v ∧ v ≤ 255) e w' := by
    rintro e w' ⟨r, he, hr, hs, hg⟩
    exact ⟨r, t + 1, he, by omega, Nat.le_refl _, ⟨hs, h.bts.kept hg, Nat.lt_of_lt_of_le h.lt hg.size, h.small⟩, hg⟩
  by_cases hlt : t < n
  · obtain ⟨b, off, rfl, h2, h3, h4⟩ := h.bts.resolve_left (by omega)
    obtain ⟨v, v0, v1, hv⟩ := h4 t hlt
    obtain ⟨v, rfl⟩ := Int.eq_ofNat_of_zero_le v0
    exact (sNextIn p b off n c t v w hlt h.small h.src hv (by omega)).mono fin
  · exact (sNextOut p a n c t w (by omega) (by omega) h.src).mono fin

set_option maxHeartbeats 800000 in
theorem sPick (m : Nat) (p : Nat) (a : Option Addr) (n c t : Nat) (w : World) (hm : 2 ≤ m) (hm2 : m ≤ 65536) (h : St w p a n c t) (ht : t ≤ 1000000) :
    Calls Try.prog 79 #[.pointer (some ⟨p, 0, none⟩), .int .i64 m] w (Drew w p a n c (t + 2) (fun v => 0 ≤ v ∧ v < (m : Int))) := by
  have hm0 : (2 : Int) ≤ (m : Int) := by omega
  have hm1 : (m : Int) ≤ 65536 := by omega
  by_cases hb : m ≤ 200
  · have hb' : (m : Int) ≤ 200 := by omega
    go_enter Try.func79, Try.ntmps79
    go_wp2_with fail
    refine (sNext p a n c t _ h (by omega)).mono ?_
    rintro e w1 ⟨v, t1, rfl, hv, ht1, h1, hg1⟩
    obtain ⟨v0, v1⟩ := hv
    have hr0 : 0 ≤ v % (m : Int) := Int.emod_nonneg _ (by omega)
    have hr1 : v % (m : Int) < (m : Int) := Int.emod_lt_of_pos _ (by omega)
    go_wp2_with fail
    go_ret
    exact ⟨_, t1, rfl, ⟨hr0, hr1⟩, by omega, h1, hg1⟩
  · have hb' : (200 : Int) < (m : Int) := by omega
    go_enter Try.func79, Try.ntmps79
    go_wp2_with fail
    refine (sNext p a n c t _ h (by omega)).mono ?_
    rintro e w1 ⟨v, t1, rfl, hv, ht1, h1, hg1⟩
    obtain ⟨v0, v1⟩ := hv
    go_wp2_with fail
    refine (sNext p a n c t1 _ h1 (by omega)).mono ?_
    rintro e w2 ⟨u, t2, rfl, hu, ht2, h2, hg2⟩
    obtain ⟨u0, u1⟩ := hu
    have hr0 : 0 ≤ (v * 256 + u) % (m : Int) := Int.emod_nonneg _ (by omega)
    have hr1 : (v * 256 + u) % (m : Int) < (m : Int) := Int.emod_lt_of_pos _ (by omega)
    go_wp2_with fail
    go_ret
    exact ⟨_, t2, rfl, ⟨hr0, hr1⟩, by omega, h2, grownBy_trans hg1 hg2⟩

set_option maxHeartbeats 1600000 in
theorem sAny (p : Nat) (a : Option Addr) (n c t : Nat) (w : World) (h : St w p a n c t) (ht : t ≤ 900000) :
    Calls Try.prog 100 #[.pointer (some ⟨p, 0, none⟩)] w (Drew w p a n c (t + 8) (fun v => 0 ≤ v ∧ v < 1000003)) := by
  go_enter Try.func100, Try.ntmps100
  go_wp2_with fail
  refine (sPick 6 p a n c t _ (by omega) (by omega) h (by omega)).mono ?_
  rintro e w1 ⟨v, t1, rfl, hv, ht1, h1, hg1⟩
  obtain ⟨v0, v1⟩ := hv
  by_cases c0 : v = 0
  · subst c0
    go_wp2_with fail
    refine (sPick 3 p a n c t1 _ (by omega) (by omega) h1 (by omega)).mono ?_
    rintro e w2 ⟨u, t2, rfl, hu, ht2, h2, hg2⟩
    obtain ⟨u0, u1⟩ := hu
    go_wp2_with fail
    go_ret
    exact ⟨_, t2, rfl, by omega, by omega, h2, grownBy_trans hg1 hg2⟩
  · by_cases c1 : v = 1
    · subst c1
      go_wp2_with fail
      refine (sPick 256 p a n c t1 _ (by omega) (by omega) h1 (by omega)).mono ?_
      rintro e w2 ⟨u, t2, rfl, hu, ht2, h2, hg2⟩
      obtain ⟨u0, u1⟩ := hu
      go_wp2_with fail
      refine (sPick 256 p a n c t2 _ (by omega) (by omega) h2 (by omega)).mono ?_
      rintro e w3 ⟨x, t3, rfl, hx, ht3, h3, hg3⟩
      obtain ⟨x0, x1⟩ := hx
      go_wp2_with fail
      refine (sPick 256 p a n c t3 _ (by omega) (by omega) h3 (by omega)).mono ?_
      rintro e w4 ⟨y, t4, rfl, hy, ht4, h4, hg4⟩
      obtain ⟨y0, y1⟩ := hy
      go_wp2_with fail
      go_ret
      exact ⟨_, t4, rfl, by omega, by omega, h4, grownBy_trans (grownBy_trans hg1 hg2) (grownBy_trans hg3 hg4)⟩
    · have d0 : (v == 0) = false := by rw [beq_eq_false_iff_ne]; exact c0
      have d1 : (v == 1) = false := by rw [beq_eq_false_iff_ne]; exact c1
      clear c0 c1
      go_wp2_with fail
      refine (sPick 7 p a n c t1 _ (by omega) (by omega) h1 (by omega)).mono ?_
      rintro e w2 ⟨u, t2, rfl, hu, ht2, h2, hg2⟩
      obtain ⟨u0, u1⟩ := hu
      go_wp2_with fail
      go_ret
      exact ⟨_, t2, rfl, by omega, by omega, h2, grownBy_trans hg1 hg2⟩

end Go.Proofs.Ytegjlfbklcgapaa
