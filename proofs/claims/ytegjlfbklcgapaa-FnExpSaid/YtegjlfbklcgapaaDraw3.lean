/- Integers of any size that are drawn; three of them. -/
import Derived.Test.YtegjlfbklcgapaaDraw2
namespace Go.Proofs.Ytegjlfbklcgapaa
open Go.RowKit

theorem St.alloc {w : World} {p : Nat} {a : Option Addr} {n c t : Nat} (h : St w p a n c t) (o : Obj) : St (w.alloc o) p a n c t := by
  have hb := (Below.refl w.heap.size w).alloc (Nat.le_refl _) o
  obtain ⟨⟨c0, c1, ⟨z, c2, hz⟩, f1, f2⟩, hbt, hlt, hs⟩ := h
  refine ⟨⟨(hb.cell (p := ⟨p, 0, none⟩) hlt).trans c0, (hb.cell (p := ⟨p, 1, none⟩) hlt).trans c1, ⟨z, (hb.cell (p := ⟨p, 2, none⟩) hlt).trans c2, hz⟩, (hb.frozen (p := ⟨p, 1, none⟩) hlt).trans f1, (hb.frozen (p := ⟨p, 2, none⟩) hlt).trans f2⟩, ?_, Nat.lt_of_lt_of_le hlt hb.size, hs⟩
  rcases hbt with hbt | ⟨b, off, h1, h2, h3, h4⟩
  · exact .inl hbt
  · refine .inr ⟨b, off, h1, h2, Nat.lt_of_lt_of_le h3 hb.size, fun k hk => ?_⟩
    obtain ⟨v, v0, v1, hv⟩ := h4 k hk
    exact ⟨v, v0, v1, (hb.cell (p := ⟨b, off + k, none⟩) h3).trans hv⟩

set_option maxHeartbeats 800000 in
theorem sAmong (b m : Nat) (p : Nat) (a : Option Addr) (n c t : Nat) (w : World) (hm : 2 ≤ m) (hm2 : m ≤ 65536) (hbp : b ≠ p) (hbs : b < w.heap.size)
    (hc : ∀ k, k < m → ∃ v : Int, (-9223372036854775808 ≤ v ∧ v ≤ 9223372036854775807) ∧ w.cell? ⟨b, k, none⟩ = some (.int .i64 v)) (h : St w p a n c t) (ht : t ≤ 1000000) :
    Calls Try.prog 99 #[.pointer (some ⟨p, 0, none⟩), .slice (some ⟨b, 0, none⟩) m m] w (Drew w p a n c (t + 2) (fun v => -9223372036854775808 ≤ v ∧ v ≤ 9223372036854775807)) := by
  have HC := Lib.hid hc
  clear hc
  go_enter Try.func99, Try.ntmps99
  go_wp2_with fail
  refine (sPick m p a n c t _ hm hm2 h (by omega)).mono ?_
  rintro e w1 ⟨v, t1, rfl, hv, ht1, h1, hg1⟩
  obtain ⟨k, rfl⟩ := Int.eq_ofNat_of_zero_le hv.1
  have hkm : k < m := by omega
  have hi : (k : Int) < (m : Int) := by omega
  obtain ⟨x, hx, hcx⟩ := HC.out k hkm
  have hcx1 : w1.cell? ⟨b, k, none⟩ = some (.int .i64 x) := (World.cell?_of_block (w := w) (a := ⟨b, k, none⟩) (hg1.block b hbs (by intro e; cases e; exact hbp rfl))).trans hcx
  clear hcx hv
  go_wp2_with fail
  go_ret
  exact ⟨x, t1, rfl, hx, by omega, h1, hg1⟩

theorem grownBy_alloc2 {w w' : World} {o : Obj} {p : Nat} (h : (w.alloc o).grownBy w' (some p)) : w.grownBy w' (some p) :=
  grownBy_trans (World.grownBy_alloc w o (some p)) h

set_option maxHeartbeats 1600000 in
theorem sRaw (p : Nat) (a : Option Addr) (n c t : Nat) (w : World) (h : St w p a n c t) (ht : t ≤ 800000) :
    Calls Try.prog 77 #[.pointer (some ⟨p, 0, none⟩)] w (Drew w p a n c (t + 20) (fun v => -9223372036854775808 ≤ v ∧ v ≤ 9223372036854775807)) := by
  go_enter Try.func77, Try.ntmps77
  go_wp2_with fail
  refine (sPick 5 p a n c t _ (by omega) (by omega) h (by omega)).mono ?_
  rintro e w1 ⟨v, t1, rfl, hv, ht1, h1, hg1⟩
  obtain ⟨v0, v1⟩ := hv
  by_cases c0 : v = 0
  · subst c0
    go_wp2_with fail
    refine (sAmong w1.heap.size 7 p a n c t1 _ (by omega) (by omega) (by have := h1.lt; omega) (by simp) ?hc (h1.alloc _) (by omega)).mono ?_
    case hc =>
      intro k hk
      rcases (show k = 0 ∨ k = 1 ∨ k = 2 ∨ k = 3 ∨ k = 4 ∨ k = 5 ∨ k = 6 by omega) with rfl | rfl | rfl | rfl | rfl | rfl | rfl
      · exact ⟨-9223372036854775808, by omega, by rw [World.cell?_alloc_new]; rfl⟩
      · exact ⟨9223372036854775807, by omega, by rw [World.cell?_alloc_new]; rfl⟩
      · exact ⟨1000003, by omega, by rw [World.cell?_alloc_new]; rfl⟩
      · exact ⟨-1000003, by omega, by rw [World.cell?_alloc_new]; rfl⟩
      · exact ⟨1000006000009, by omega, by rw [World.cell?_alloc_new]; rfl⟩
      · exact ⟨-1, by omega, by rw [World.cell?_alloc_new]; rfl⟩
      · exact ⟨0, by omega, by rw [World.cell?_alloc_new]; rfl⟩
    rintro e w2 ⟨u, t2, rfl, hu, ht2, h2, hg2⟩
    go_wp2_with fail
    go_ret
    exact ⟨_, t2, rfl, hu, by omega, h2, grownBy_trans hg1 (grownBy_alloc2 hg2)⟩
  · by_cases c1 : v = 1
    · subst c1
      go_wp2_with fail
      refine (sAny p a n c t1 _ h1 (by omega)).mono ?_
      rintro e w2 ⟨u, t2, rfl, hu, ht2, h2, hg2⟩
      obtain ⟨u0, u1⟩ := hu
      go_wp2_with fail
      go_ret
      exact ⟨_, t2, rfl, by omega, by omega, h2, grownBy_trans hg1 hg2⟩
    · have d0 : (v == 0) = false := by rw [beq_eq_false_iff_ne]; exact c0
      have d1 : (v == 1) = false := by rw [beq_eq_false_iff_ne]; exact c1
      by_cases c2 : v = 2
      · subst c2
        clear c0 c1
        go_wp2_with fail
        refine (sAny p a n c t1 _ h1 (by omega)).mono ?_
        rintro e w2 ⟨u, t2, rfl, hu, ht2, h2, hg2⟩
        obtain ⟨u0, u1⟩ := hu
        go_wp2_with fail
        refine (sAny p a n c t2 _ h2 (by omega)).mono ?_
        rintro e w3 ⟨x, t3, rfl, hx, ht3, h3, hg3⟩
        obtain ⟨x0, x1⟩ := hx
        have hm : 0 ≤ u * (x + 1) ∧ u * (x + 1) ≤ 1000006000009 := by
          refine ⟨Int.mul_nonneg u0 (by omega), ?_⟩
          calc u * (x + 1) ≤ 1000003 * (x + 1) := Int.mul_le_mul_of_nonneg_right (by omega) (by omega)
            _ ≤ 1000006000009 := by omega
        go_wp2_with fail
        go_ret
        exact ⟨_, t3, rfl, by omega, by omega, h3, grownBy_trans hg1 (grownBy_trans hg2 hg3)⟩
      · have d2 : (v == 2) = false := by rw [beq_eq_false_iff_ne]; exact c2
        clear c0 c1 c2
        go_wp2_with fail
        refine (sAny p a n c t1 _ h1 (by omega)).mono ?_
        rintro e w2 ⟨u, t2, rfl, hu, ht2, h2, hg2⟩
        obtain ⟨u0, u1⟩ := hu
        go_wp2_with fail
        go_ret
        exact ⟨_, t2, rfl, by omega, by omega, h2, grownBy_trans hg1 hg2⟩

/-- What the walk is told of bytes that came in. -/
def Bytes (w : World) (a : Option Addr) (n : Nat) : Prop :=
  n = 0 ∨ ∃ b off, a = some ⟨b, off, none⟩ ∧ b < w.heap.size ∧ ∀ k, k < n → ∃ v : Int, 0 ≤ v ∧ v ≤ 255 ∧ w.cell? ⟨b, off + k, none⟩ = some (.int .u8 v)
theorem IsRow.bytes {w : World} {a : Option Addr} {len cap : Nat} {zs : List Int} (h : IsRow .u8 w a len cap zs) : Bytes w a len ∧ len ≤ 9223372036854775807 := by
  rcases h with ⟨rfl, rfl, rfl, rfl⟩ | ⟨x, rfl, hl, hm, hz, hcell, hwz⟩
  · exact ⟨.inl rfl, by omega⟩
  · refine ⟨?_, by unfold maxLen at hm; omega⟩
    by_cases hn : len = 0
    · exact .inl hn
    · obtain ⟨b, off, spot⟩ := x
      have hc := hcell 0 (by omega)
      have hspot : spot = none := by simpa [Addr.add] using World.cell?_spot hc
      subst hspot
      have h0 : w.cell? ⟨b, off, none⟩ = some (.int .u8 (zs.getD 0 0)) := by simpa [Addr.add] using hc
      refine .inr ⟨b, off, rfl, cell_lt h0, fun k hk => ?_⟩
      have hck := hcell k (by omega)
      have e : (⟨b, off, none⟩ : Addr).add k = ⟨b, off + k, none⟩ := by cases k <;> simp [Addr.add]
      rw [e] at hck
      have hb := bounds_u8 (hwz _ (getD_mem (l := zs) (k := k) (by omega)))
      exact ⟨_, hb.1, hb.2, hck⟩

set_option maxHeartbeats 800000 in
theorem sFrom (a : Option Addr) (n c : Nat) (w : World) (h : Bytes w a n) (hn : n ≤ 3000) :
    Calls Try.prog 76 #[.slice a n c] w fun e w' => e = .returned (.pointer (some ⟨w.heap.size, 0, none⟩)) ∧ St w' w.heap.size a n c 0 ∧ Below w.heap.size w w' := by
  go_enter Try.func76, Try.ntmps76
  go_wp2
  go_ret
  have hb := (Below.refl w.heap.size w).alloc (Nat.le_refl _) (.cells #[.slice a n c, .int .i64 0, .int .u64 0] 66)
  refine ⟨rfl, ⟨⟨by rw [World.cell?_alloc_new]; rfl, by rw [World.cell?_alloc_new]; rfl, ⟨0, by rw [World.cell?_alloc_new]; rfl, by omega⟩, ?_, ?_⟩, ?_, by simp, by omega⟩, hb⟩
  · rw [frozen?_alloc_cells]; simp [World.frozen?]
  · rw [frozen?_alloc_cells]; simp [World.frozen?]
  · rcases h with h | ⟨b, off, h1, h3, h4⟩
    · exact .inl h
    · refine .inr ⟨b, off, h1, by omega, by simp; omega, fun k hk => ?_⟩
      obtain ⟨v, v0, v1, hv⟩ := h4 k hk
      exact ⟨v, v0, v1, (hb.cell (p := ⟨b, off + k, none⟩) h3).trans hv⟩

def Three (w : World) (e : Ending) (w' : World) : Prop :=
  ∃ x y z : Int, e = .returned (.tuple #[.int .i64 x, .int .i64 y, .int .i64 z]) ∧ (-9223372036854775808 ≤ x ∧ x ≤ 9223372036854775807) ∧ (-9223372036854775808 ≤ y ∧ y ≤ 9223372036854775807) ∧ (-9223372036854775808 ≤ z ∧ z ≤ 9223372036854775807) ∧ Below w.heap.size w w'

set_option maxHeartbeats 800000 in
theorem sNumbers3 (a : Option Addr) (n c : Nat) (w : World) (h : Bytes w a n) (hn : n ≤ 3000) :
    Calls Try.prog 27 #[.slice a n c] w (Three w) := by
  go_enter Try.func27, Try.ntmps27
  go_wp2_with fail
  refine (sFrom a n c _ h hn).mono ?_
  rintro e w1 ⟨rfl, h1, hb1⟩
  go_wp2_with fail
  refine (sRaw _ a n c 0 _ h1 (by omega)).mono ?_
  rintro e w2 ⟨x, t2, rfl, hx, ht2, h2, hg2⟩
  go_wp2_with fail
  refine (sRaw _ a n c t2 _ h2 (by omega)).mono ?_
  rintro e w3 ⟨y, t3, rfl, hy, ht3, h3, hg3⟩
  go_wp2_with fail
  refine (sRaw _ a n c t3 _ h3 (by omega)).mono ?_
  rintro e w4 ⟨z, t4, rfl, hz, ht4, h4, hg4⟩
  go_wp2_with fail
  go_ret3
  exact ⟨x, y, z, rfl, hx, hy, hz, hb1.grown (grownBy_trans hg2 (grownBy_trans hg3 hg4)) hb1.size (by intro k hk; cases hk; exact Nat.le_refl _)⟩

end Go.Proofs.Ytegjlfbklcgapaa
