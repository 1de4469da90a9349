/- The choices that are read from bytes: the state, and one choice. The choices that are read from bytes: numbers below a bound, residues, integers. Integers of any size that are drawn; three of them. The law of the ring of residues. Series that are drawn. The law of the ring of series. The laws' own helpers: a list with another first number, a sum, equal fronts. -/
import Derived.Laws.Pointers
import Derived.Laws.Bits64b
import Derived.StillTailTactics
import Derived.Test.YtodoamklikicpaaPol
namespace Go.Proofs.Ytodoamklikicpaa
open Go.RowKit

/-- The state of the choices lies in block p: the bytes, how many have been read, a number. -/
structure Src (w : World) (p : Nat) (a : Option Addr) (n c t : Nat) : Prop where
  c0 : w.cell? ⟨p, 0, none⟩ = some (.slice a n c)
  c1 : w.cell? ⟨p, 1, none⟩ = some (.int .i64 t)
  c2 : ∃ z : Int, w.cell? ⟨p, 2, none⟩ = some (.int .u64 z) ∧ 0 ≤ z ∧ z < 18446744073709551616
  f1 : w.frozen? ⟨p, 1, none⟩ = false
  f2 : w.frozen? ⟨p, 2, none⟩ = false

/-- The bytes can be read, and do not lie in block p. -/
def Bts (w : World) (p : Nat) (a : Option Addr) (n : Nat) : Prop :=
  n = 0 ∨ ∃ b off, a = some ⟨b, off, none⟩ ∧ b ≠ p ∧ b < w.heap.size ∧ ∀ k, k < n → ∃ v : Int, 0 ≤ v ∧ v ≤ 255 ∧ w.cell? ⟨b, off + k, none⟩ = some (.int .u8 v)

def Pick (w : World) (p : Nat) (a : Option Addr) (n c t hi : Nat) (e : Ending) (w' : World) : Prop :=
  ∃ (r : Nat) (t' : Nat), e = .returned (.int .i64 r) ∧ r < hi ∧ t' ≤ t ∧ Src w' p a n c t' ∧ w.grownBy w' (some p)

theorem cset {w : World} {p i j : Nat} {v : Value} (h : i ≠ j) : (w.setCell ⟨p, i, none⟩ v).cell? ⟨p, j, none⟩ = w.cell? ⟨p, j, none⟩ := by
  apply World.cell?_setCell_other
  intro e
  injection e
  exact h (by assumption)
theorem csame {w : World} {p i : Nat} {u v : Value} (h : w.cell? ⟨p, i, none⟩ = some u) : (w.setCell ⟨p, i, none⟩ v).cell? ⟨p, i, none⟩ = some v := by
  apply World.cell?_setCell_same
  exact h

theorem src_step {w : World} {p n c t : Nat} {a : Option Addr} (h : Src w p a n c t) (q : Int) (hq : 0 ≤ q ∧ q < 18446744073709551616) (i j : Nat) :
    Src ((((w.drewN i).setCell ⟨p, 1, none⟩ (.int .i64 ((t : Int) + 1))).setCell ⟨p, 2, none⟩ (.int .u64 q)).drewN j) p a n c (t + 1) ∧
    w.grownBy ((((w.drewN i).setCell ⟨p, 1, none⟩ (.int .i64 ((t : Int) + 1))).setCell ⟨p, 2, none⟩ (.int .u64 q)).drewN j) (some p) := by
  obtain ⟨c0, c1, ⟨z, c2, _⟩, f1, f2⟩ := h
  constructor
  · refine ⟨?_, ?_, ⟨q, ?_, hq⟩, ?_, ?_⟩
    · rw [World.cell?_drewN, cset (by omega), cset (by omega), World.cell?_drewN]; exact c0
    · rw [World.cell?_drewN, cset (by omega), Int.natCast_add]
      exact csame (u := .int .i64 t) c1
    · rw [World.cell?_drewN]
      exact csame (u := .int .u64 z) (by rw [cset (by omega)]; exact c2)
    · rw [World.frozen?_drewN, World.frozen?_setCell, World.frozen?_setCell]; exact f1
    · rw [World.frozen?_drewN, World.frozen?_setCell, World.frozen?_setCell]; exact f2
  · have g1 := grownBy_set (w.drewN i) p 1 (.int .i64 ((t : Int) + 1))
    have g2 := grownBy_set ((w.drewN i).setCell ⟨p, 1, none⟩ (.int .i64 ((t : Int) + 1))) p 2 (.int .u64 q)
    exact grownBy_trans (b := w.drewN i) ⟨rfl, rfl, rfl, Nat.le_refl _, fun _ _ _ => rfl⟩ (grownBy_trans (grownBy_trans g1 g2) ⟨rfl, rfl, rfl, Nat.le_refl _, fun _ _ _ => rfl⟩)

theorem and255 (x : Int) (h0 : 0 ≤ x) (h1 : x < 18446744073709551616) : ∃ r : Nat, bits BinOp.and IntKind.u64 x 255 = (r : Int) ∧ r ≤ 255 := by
  obtain ⟨n, rfl⟩ := Int.eq_ofNat_of_zero_le h0
  exact ⟨n &&& 255, bits_and_u64_nat n 255 (by omega) (by omega), Nat.and_le_right⟩

theorem wf_u64w (x : Int) : 0 ≤ IntKind.u64.wrap x ∧ IntKind.u64.wrap x < 18446744073709551616 := by
  unfold IntKind.wrap
  simp [IntKind.bits, IntKind.signed]
  omega

theorem u64_bd (x : Int) : 0 ≤ IntKind.u64.wrap x ∧ IntKind.u64.wrap x < 18446744073709551616 := by
  have h := wf_u64w x
  exact h

def Picked (w : World) (p : Nat) (a : Option Addr) (n c t hi : Nat) (e : Ending) (w' : World) : Prop :=
  ∃ r : Nat, e = .returned (.int .i64 r) ∧ r < hi ∧ Src w' p a n c t ∧ w.grownBy w' (some p)

set_option maxRecDepth 100000 in
set_option maxHeartbeats 3200000 in
theorem sNextIn (p : Nat) (b off n c t : Nat) (v : Nat) (w : World) (hlt : t < n) (hn : n ≤ 1048576) (hs : Src w p (some ⟨b, off, none⟩) n c t)
    (hc : w.cell? ⟨b, off + t, none⟩ = some (.int .u8 v)) (hv1 : v ≤ 255) :
    Calls Try.prog 37 #[.pointer (some ⟨p, 0, none⟩)] w (Picked w p (some ⟨b, off, none⟩) n c (t + 1) 256) := by
  have hst := src_step hs
  obtain ⟨c0, c1, ⟨z, c2, _⟩, f1, f2⟩ := hs
  have hi1 : (t : Int) < (n : Int) := by omega
  have hi2 : (t : Int) + 1 ≤ (n : Int) := by omega
  have hi0 : (0 : Int) ≤ (t : Int) := by omega
  have HS := Lib.hid hst
  clear hst
  go_enter Try.func37, Try.ntmps37
  go_wp2
  go_quiet (fail)
  go_wp2
  go_quiet (fail)
  go_wp2
  have hb := u64_bd (IntKind.u64.wrap (IntKind.u64.wrap (z * 6364136223846793005) + v) + 1442695040888963407)
  generalize IntKind.u64.wrap (IntKind.u64.wrap (IntKind.u64.wrap (z * 6364136223846793005) + v) + 1442695040888963407) = q at hb ⊢
  have HQ := Lib.hid hb
  clear hb
  go_quiet (fail)
  go_wp2
  go_ret
  exact ⟨v, rfl, by omega, (HS.out q HQ.out _ _).1, (HS.out q HQ.out _ _).2⟩

set_option maxRecDepth 100000 in
set_option maxHeartbeats 3200000 in
theorem sNextOut (p : Nat) (a : Option Addr) (n c t : Nat) (w : World) (hlt : n ≤ t) (hn : t ≤ 1048576) (hs : Src w p a n c t) :
    Calls Try.prog 37 #[.pointer (some ⟨p, 0, none⟩)] w (Picked w p a n c (t + 1) 256) := by
  have hst := src_step hs
  obtain ⟨c0, c1, ⟨z, c2, _⟩, f1, f2⟩ := hs
  have hi1 : (n : Int) ≤ (t : Int) := by omega
  have hi0 : (0 : Int) ≤ (t : Int) := by omega
  have hd1 : decide ((t : Int) < (n : Int)) = false := by simp; omega
  have hd2 : decide ((t : Int) + 1 ≤ (n : Int)) = false := by simp; omega
  have HS := Lib.hid hst
  clear hst
  go_enter Try.func37, Try.ntmps37
  go_wp2
  go_quiet (fail)
  go_wp2
  have hb := u64_bd (IntKind.u64.wrap (IntKind.u64.wrap (z * 6364136223846793005)) + 1442695040888963407)
  generalize IntKind.u64.wrap (IntKind.u64.wrap (IntKind.u64.wrap (z * 6364136223846793005)) + 1442695040888963407) = q at hb ⊢
  have HQ := Lib.hid hb
  have q0 : 0 ≤ q := hb.1
  have q1 : q < 18446744073709551616 := hb.2
  clear hb
  go_quiet (fail)
  go_wp2
  go_ret
  have hq2 := and255 (q / 1099511627776) (by omega) (by omega)
  obtain ⟨r, hr, hr2⟩ := hq2
  exact ⟨r, ret_int (by rw [hr]; exact IntWalk.wrap64_in _ (by omega)), by omega, (HS.out q HQ.out _ _).1, (HS.out q HQ.out _ _).2⟩

end Go.Proofs.Ytodoamklikicpaa

namespace Go.Proofs.Ytodoamklikicpaa
open Go.RowKit

/-- The state lies in block p, and its bytes can be read. -/
structure St (w : World) (p : Nat) (a : Option Addr) (n c t : Nat) : Prop where
  src : Src w p a n c t
  bts : Bts w p a n
  lt : p < w.heap.size
  small : n ≤ 1048576

theorem Bts.kept {w w' : World} {p : Nat} {a : Option Addr} {n : Nat} (h : Bts w p a n) (hg : w.grownBy w' (some p)) : Bts w' p a n := by
  rcases h with h | ⟨b, off, h1, h2, h3, h4⟩
  · exact .inl h
  · refine .inr ⟨b, off, h1, h2, Nat.lt_of_lt_of_le h3 hg.size, fun k hk => ?_⟩
    obtain ⟨v, v0, v1, hv⟩ := h4 k hk
    exact ⟨v, v0, v1, (World.cell?_of_block (w := w) (a := ⟨b, off + k, none⟩) (hg.block b h3 (by intro e; cases e; exact h2 rfl))).trans hv⟩

/-- The call answers a number with P, after at most t bytes in all; of what was there only the state has turned. -/
def Drew (w : World) (p : Nat) (a : Option Addr) (n c t : Nat) (P : Int → Prop) (e : Ending) (w' : World) : Prop :=
  ∃ (v : Int) (t' : Nat), e = .returned (.int .i64 v) ∧ P v ∧ t' ≤ t ∧ St w' p a n c t' ∧ w.grownBy w' (some p)

theorem sNext (p : Nat) (a : Option Addr) (n c t : Nat) (w : World) (h : St w p a n c t) (ht : t ≤ 1048575) :
    Calls Try.prog 37 #[.pointer (some ⟨p, 0, none⟩)] w (Drew w p a n c (t + 1) (fun v => 0 ≤ v ∧ v ≤ 255)) := by
  have fin : ∀ (e : Ending) (w' : World), Picked w p a n c (t + 1) 256 e w' → Drew w p a n c (t + 1) (fun v => 0 ≤ v ∧ v ≤ 255) e w' := by
    rintro e w' ⟨r, he, hr, hs, hg⟩
    exact ⟨r, t + 1, he, by omega, Nat.le_refl _, ⟨hs, h.bts.kept hg, Nat.lt_of_lt_of_le h.lt hg.size, h.small⟩, hg⟩
  by_cases hlt : t < n
  · obtain ⟨b, off, rfl, h2, h3, h4⟩ := h.bts.resolve_left (by omega)
    obtain ⟨v, v0, v1, hv⟩ := h4 t hlt
    obtain ⟨v, rfl⟩ := Int.eq_ofNat_of_zero_le v0
    exact (sNextIn p b off n c t v w hlt h.small h.src hv (by omega)).mono fin
  · exact (sNextOut p a n c t w (by omega) (by omega) h.src).mono fin

set_option maxHeartbeats 800000 in
theorem sPick (m : Nat) (p : Nat) (a : Option Addr) (n c t : Nat) (w : World) (hm : 2 ≤ m) (hm2 : m ≤ 65536) (h : St w p a n c t) (ht : t ≤ 1000000) :
    Calls Try.prog 27 #[.pointer (some ⟨p, 0, none⟩), .int .i64 m] w (Drew w p a n c (t + 2) (fun v => 0 ≤ v ∧ v < (m : Int))) := by
  have hm0 : (2 : Int) ≤ (m : Int) := by omega
  have hm1 : (m : Int) ≤ 65536 := by omega
  by_cases hb : m ≤ 200
  · have hb' : (m : Int) ≤ 200 := by omega
    go_enter Try.func27, Try.ntmps27
    go_wp2_with fail
    refine (sNext p a n c t _ h (by omega)).mono ?_
    rintro e w1 ⟨v, t1, rfl, hv, ht1, h1, hg1⟩
    obtain ⟨v0, v1⟩ := hv
    have hr0 : 0 ≤ v % (m : Int) := Int.emod_nonneg _ (by omega)
    have hr1 : v % (m : Int) < (m : Int) := Int.emod_lt_of_pos _ (by omega)
    go_wp2_with fail
    go_ret
    exact ⟨_, t1, rfl, ⟨hr0, hr1⟩, by omega, h1, hg1⟩
  · have hb' : (200 : Int) < (m : Int) := by omega
    go_enter Try.func27, Try.ntmps27
    go_wp2_with fail
    refine (sNext p a n c t _ h (by omega)).mono ?_
    rintro e w1 ⟨v, t1, rfl, hv, ht1, h1, hg1⟩
    obtain ⟨v0, v1⟩ := hv
    go_wp2_with fail
    refine (sNext p a n c t1 _ h1 (by omega)).mono ?_
    rintro e w2 ⟨u, t2, rfl, hu, ht2, h2, hg2⟩
    obtain ⟨u0, u1⟩ := hu
    have hr0 : 0 ≤ (v * 256 + u) % (m : Int) := Int.emod_nonneg _ (by omega)
    have hr1 : (v * 256 + u) % (m : Int) < (m : Int) := Int.emod_lt_of_pos _ (by omega)
    go_wp2_with fail
    go_ret
    exact ⟨_, t2, rfl, ⟨hr0, hr1⟩, by omega, h2, grownBy_trans hg1 hg2⟩

set_option maxHeartbeats 1600000 in
theorem sAny (p : Nat) (a : Option Addr) (n c t : Nat) (w : World) (h : St w p a n c t) (ht : t ≤ 900000) :
    Calls Try.prog 38 #[.pointer (some ⟨p, 0, none⟩)] w (Drew w p a n c (t + 8) (fun v => 0 ≤ v ∧ v < 1000003)) := by
  go_enter Try.func38, Try.ntmps38
  go_wp2_with fail
  refine (sPick 6 p a n c t _ (by omega) (by omega) h (by omega)).mono ?_
  rintro e w1 ⟨v, t1, rfl, hv, ht1, h1, hg1⟩
  obtain ⟨v0, v1⟩ := hv
  by_cases c0 : v = 0
  · subst c0
    go_wp2_with fail
    refine (sPick 3 p a n c t1 _ (by omega) (by omega) h1 (by omega)).mono ?_
    rintro e w2 ⟨u, t2, rfl, hu, ht2, h2, hg2⟩
    obtain ⟨u0, u1⟩ := hu
    go_wp2_with fail
    go_ret
    exact ⟨_, t2, rfl, by omega, by omega, h2, grownBy_trans hg1 hg2⟩
  · by_cases c1 : v = 1
    · subst c1
      go_wp2_with fail
      refine (sPick 256 p a n c t1 _ (by omega) (by omega) h1 (by omega)).mono ?_
      rintro e w2 ⟨u, t2, rfl, hu, ht2, h2, hg2⟩
      obtain ⟨u0, u1⟩ := hu
      go_wp2_with fail
      refine (sPick 256 p a n c t2 _ (by omega) (by omega) h2 (by omega)).mono ?_
      rintro e w3 ⟨x, t3, rfl, hx, ht3, h3, hg3⟩
      obtain ⟨x0, x1⟩ := hx
      go_wp2_with fail
      refine (sPick 256 p a n c t3 _ (by omega) (by omega) h3 (by omega)).mono ?_
      rintro e w4 ⟨y, t4, rfl, hy, ht4, h4, hg4⟩
      obtain ⟨y0, y1⟩ := hy
      go_wp2_with fail
      go_ret
      exact ⟨_, t4, rfl, by omega, by omega, h4, grownBy_trans (grownBy_trans hg1 hg2) (grownBy_trans hg3 hg4)⟩
    · have d0 : (v == 0) = false := by rw [beq_eq_false_iff_ne]; exact c0
      have d1 : (v == 1) = false := by rw [beq_eq_false_iff_ne]; exact c1
      clear c0 c1
      go_wp2_with fail
      refine (sPick 7 p a n c t1 _ (by omega) (by omega) h1 (by omega)).mono ?_
      rintro e w2 ⟨u, t2, rfl, hu, ht2, h2, hg2⟩
      obtain ⟨u0, u1⟩ := hu
      go_wp2_with fail
      go_ret
      exact ⟨_, t2, rfl, by omega, by omega, h2, grownBy_trans hg1 hg2⟩

end Go.Proofs.Ytodoamklikicpaa

namespace Go.Proofs.Ytodoamklikicpaa
open Go.RowKit

theorem St.alloc {w : World} {p : Nat} {a : Option Addr} {n c t : Nat} (h : St w p a n c t) (o : Obj) : St (w.alloc o) p a n c t := by
  have hb := (Below.refl w.heap.size w).alloc (Nat.le_refl _) o
  obtain ⟨⟨c0, c1, ⟨z, c2, hz⟩, f1, f2⟩, hbt, hlt, hs⟩ := h
  refine ⟨⟨(hb.cell (p := ⟨p, 0, none⟩) hlt).trans c0, (hb.cell (p := ⟨p, 1, none⟩) hlt).trans c1, ⟨z, (hb.cell (p := ⟨p, 2, none⟩) hlt).trans c2, hz⟩, (hb.frozen (p := ⟨p, 1, none⟩) hlt).trans f1, (hb.frozen (p := ⟨p, 2, none⟩) hlt).trans f2⟩, ?_, Nat.lt_of_lt_of_le hlt hb.size, hs⟩
  rcases hbt with hbt | ⟨b, off, h1, h2, h3, h4⟩
  · exact .inl hbt
  · refine .inr ⟨b, off, h1, h2, Nat.lt_of_lt_of_le h3 hb.size, fun k hk => ?_⟩
    obtain ⟨v, v0, v1, hv⟩ := h4 k hk
    exact ⟨v, v0, v1, (hb.cell (p := ⟨b, off + k, none⟩) h3).trans hv⟩

theorem grownBy_alloc2 {w w' : World} {o : Obj} {p : Nat} (h : (w.alloc o).grownBy w' (some p)) : w.grownBy w' (some p) :=
  grownBy_trans (World.grownBy_alloc w o (some p)) h

/-- What the walk is told of bytes that came in. -/
def Bytes (w : World) (a : Option Addr) (n : Nat) : Prop :=
  n = 0 ∨ ∃ b off, a = some ⟨b, off, none⟩ ∧ b < w.heap.size ∧ ∀ k, k < n → ∃ v : Int, 0 ≤ v ∧ v ≤ 255 ∧ w.cell? ⟨b, off + k, none⟩ = some (.int .u8 v)
theorem IsRow.bytes {w : World} {a : Option Addr} {len cap : Nat} {zs : List Int} (h : IsRow .u8 w a len cap zs) : Bytes w a len ∧ len ≤ 9223372036854775807 := by
  rcases h with ⟨rfl, rfl, rfl, rfl⟩ | ⟨x, rfl, hl, hm, hz, hcell, hwz⟩
  · exact ⟨.inl rfl, by omega⟩
  · refine ⟨?_, by unfold maxLen at hm; omega⟩
    by_cases hn : len = 0
    · exact .inl hn
    · obtain ⟨b, off, spot⟩ := x
      have hc := hcell 0 (by omega)
      have hspot : spot = none := by simpa [Addr.add] using World.cell?_spot hc
      subst hspot
      have h0 : w.cell? ⟨b, off, none⟩ = some (.int .u8 (zs.getD 0 0)) := by simpa [Addr.add] using hc
      refine .inr ⟨b, off, rfl, cell_lt h0, fun k hk => ?_⟩
      have hck := hcell k (by omega)
      have e : (⟨b, off, none⟩ : Addr).add k = ⟨b, off + k, none⟩ := by cases k <;> simp [Addr.add]
      rw [e] at hck
      have hb := bounds_u8 (hwz _ (getD_mem (l := zs) (k := k) (by omega)))
      exact ⟨_, hb.1, hb.2, hck⟩

set_option maxHeartbeats 800000 in
theorem sFrom (a : Option Addr) (n c : Nat) (w : World) (h : Bytes w a n) (hn : n ≤ 3000) :
    Calls Try.prog 26 #[.slice a n c] w fun e w' => e = .returned (.pointer (some ⟨w.heap.size, 0, none⟩)) ∧ St w' w.heap.size a n c 0 ∧ Below w.heap.size w w' := by
  go_enter Try.func26, Try.ntmps26
  go_wp2
  go_ret
  have hb := (Below.refl w.heap.size w).alloc (Nat.le_refl _) (.cells #[.slice a n c, .int .i64 0, .int .u64 0] 48)
  refine ⟨rfl, ⟨⟨by rw [World.cell?_alloc_new]; rfl, by rw [World.cell?_alloc_new]; rfl, ⟨0, by rw [World.cell?_alloc_new]; rfl, by omega⟩, ?_, ?_⟩, ?_, by simp, by omega⟩, hb⟩
  · rw [frozen?_alloc_cells]; simp [World.frozen?]
  · rw [frozen?_alloc_cells]; simp [World.frozen?]
  · rcases h with h | ⟨b, off, h1, h3, h4⟩
    · exact .inl h
    · refine .inr ⟨b, off, h1, by omega, by simp; omega, fun k hk => ?_⟩
      obtain ⟨v, v0, v1, hv⟩ := h4 k hk
      exact ⟨v, v0, v1, (hb.cell (p := ⟨b, off + k, none⟩) h3).trans hv⟩

def Three (w : World) (e : Ending) (w' : World) : Prop :=
  ∃ x y z : Int, e = .returned (.tuple #[.int .i64 x, .int .i64 y, .int .i64 z]) ∧ (-9223372036854775808 ≤ x ∧ x ≤ 9223372036854775807) ∧ (-9223372036854775808 ≤ y ∧ y ≤ 9223372036854775807) ∧ (-9223372036854775808 ≤ z ∧ z ≤ 9223372036854775807) ∧ Below w.heap.size w w'

end Go.Proofs.Ytodoamklikicpaa

namespace Go.Proofs.Ytodoamklikicpaa
open Go.RowKit

theorem ring1 (a b c : Int) : pls a (pls b c) = pls (pls c a) b := by unfold pls; omega
theorem ring2 (a b c : Int) : tms a (pls b c) = pls (tms b a) (tms a c) := by
  unfold tms pls
  rw [Int.mul_emod, Int.emod_emod, ← Int.mul_emod, Int.mul_add, Int.mul_comm b a, ← Int.add_emod]
theorem pwr_sq (a : Int) (q : Nat) : pwr (tms a a) q = tms (pwr a q) (pwr a q) := by
  unfold pwr tms
  rw [emod_pow, ← Int.mul_emod, Int.mul_pow]

set_option maxHeartbeats 400000 in
theorem longT (a b : Option Addr) (n ca m cb : Nat) (w : World) (h : 3000 < n ∨ 3000 < m) (hn : n ≤ 9223372036854775807) (hm : m ≤ 9223372036854775807) :
    Calls Try.prog 7 #[.slice a n ca, .slice b m cb] w fun e w' => e = .returned (.bool true) ∧ w = w' := by
  by_cases h1 : 3000 < n
  · clear h
    go_enter Try.func7, Try.ntmps7
    go_wp2
    go_ret
    exact ⟨rfl, rfl⟩
  · have h2 : 3000 < m := by omega
    have h3 : n ≤ 3000 := by omega
    clear h h1
    go_enter Try.func7, Try.ntmps7
    go_wp2
    go_ret
    exact ⟨ret_bool (by simp; omega), rfl⟩
set_option maxHeartbeats 400000 in
theorem longF (a b : Option Addr) (n ca m cb : Nat) (w : World) (h : n ≤ 3000) (h2 : m ≤ 3000) :
    Calls Try.prog 7 #[.slice a n ca, .slice b m cb] w fun e w' => e = .returned (.bool false) ∧ w = w' := by
  have hd : decide (3000 < m) = false := by simp; omega
  go_enter Try.func7, Try.ntmps7
  go_wp2
  go_ret
  exact ⟨ret_bool (by simp; omega), rfl⟩

end Go.Proofs.Ytodoamklikicpaa

namespace Go.Proofs.Ytodoamklikicpaa
open Go.RowKit

theorem grownBy_far {w x y : World} {p g : Nat} (h : w.grownBy x (some p)) (k : x.grownBy y (some g)) (hg : w.heap.size ≤ g) : w.grownBy y (some p) :=
  ⟨k.os.trans h.os, k.tape.trans h.tape, k.output.trans h.output, Nat.le_trans h.size k.size, fun i hi hn => (k.block i (Nat.lt_of_lt_of_le hi h.size) (by intro e; cases e; omega)).trans (h.block i hi hn)⟩

theorem Bts.far {w w' : World} {p g : Nat} {a : Option Addr} {n B : Nat} (h : Bts w p a n) (hg : w.grownBy w' (some g)) (hB : ∀ b off, a = some ⟨b, off, none⟩ → n ≠ 0 → b < B) (hgB : B ≤ g) : Bts w' p a n := by
  by_cases h0 : n = 0
  · exact .inl h0
  · obtain ⟨b, off, h1, h2, h3, h4⟩ := h.resolve_left h0
    have hb := hB b off h1 h0
    refine .inr ⟨b, off, h1, h2, Nat.lt_of_lt_of_le h3 hg.size, fun k hk => ?_⟩
    obtain ⟨v, v0, v1, hv⟩ := h4 k hk
    exact ⟨v, v0, v1, (World.cell?_of_block (w := w) (a := ⟨b, off + k, none⟩) (hg.block b h3 (by intro e; cases e; omega))).trans hv⟩

/-- The bytes lie below block B. -/
def Low (a : Option Addr) (n B : Nat) : Prop := ∀ b off, a = some ⟨b, off, none⟩ → n ≠ 0 → b < B
theorem St.low {w : World} {p : Nat} {a : Option Addr} {n c t : Nat} (h : St w p a n c t) : Low a n w.heap.size := by
  intro b off hb hn
  obtain ⟨b', off', h1, h2, h3, h4⟩ := h.bts.resolve_left hn
  rw [h1] at hb
  cases hb
  exact h3
theorem St.far {w w' : World} {p g : Nat} {a : Option Addr} {n c t B : Nat} (h : St w p a n c t) (hg : w.grownBy w' (some g)) (hL : Low a n B) (hp : p < B) (hgB : B ≤ g) : St w' p a n c t := by
  obtain ⟨⟨c0, c1, ⟨z, c2, hz⟩, f1, f2⟩, hbt, hlt, hs⟩ := h
  have hb : w'.heap[p]? = w.heap[p]? := hg.block p hlt (by intro e; cases e; omega)
  exact ⟨⟨(World.cell?_of_block (w := w) (a := ⟨p, 0, none⟩) hb).trans c0, (World.cell?_of_block (w := w) (a := ⟨p, 1, none⟩) hb).trans c1, ⟨z, (World.cell?_of_block (w := w) (a := ⟨p, 2, none⟩) hb).trans c2, hz⟩,
    (World.frozen?_of_block (w := w) (a := ⟨p, 1, none⟩) hb).trans f1, (World.frozen?_of_block (w := w) (a := ⟨p, 2, none⟩) hb).trans f2⟩, hbt.far hg hL hgB, Nat.lt_of_lt_of_le hlt hg.size, hs⟩

def DrewL (w : World) (p : Nat) (a : Option Addr) (n c t m : Nat) (e : Ending) (w' : World) : Prop :=
  ∃ (g cap t' : Nat) (l : List Int), e = .returned (.slice (some ⟨g, 0, none⟩) l.length cap) ∧ l.length = m ∧ Nums l ∧ Own w.heap.size w' g cap l ∧ t' ≤ t ∧ St w' p a n c t' ∧ w.grownBy w' (some p)

set_option maxRecDepth 100000 in
set_option maxHeartbeats 3200000 in
theorem sDraw (m : Nat) (q : Int) (hq : Hid ((m : Int) = q)) (p : Nat) (a : Option Addr) (n c t : Nat) (w : World) (hm : m ≤ 1000) (h : St w p a n c t) (ht : t ≤ 500000) :
    Calls Try.prog 28 #[.pointer (some ⟨p, 0, none⟩), .int .i64 q] w (DrewL w p a n c (t + 8 * m) m) := by
  obtain ⟨i0, hi, hz0, hz1, hz2⟩ := info_parts info64
  have hq' := hq.out
  subst hq'
  clear hq
  have hG0 := World.grownBy_alloc w (.cells #[] 2) (some p)
  have hO0 := own_none w w.heap.size (Nat.le_refl _)
  have hS0 := h.alloc (.cells #[] 2)
  have hL := Lib.hid h.low
  have hpl := h.lt
  clear h
  go_enter Try.func28, Try.ntmps28
  go_wp2
  go_loopw [5, 6] (fun v i wr => ∃ (k g cap t1 : Nat) (xs : List Int), k ≤ m ∧ i = .int .i64 k ∧ v = .slice (some ⟨g, 0, none⟩) xs.length cap ∧ xs.length = k ∧ Nums xs ∧ Own w.heap.size wr g cap xs ∧ t1 ≤ t + 8 * k ∧ St wr p a n c t1 ∧ w.grownBy wr (some p)) (fun _ i _ => m - (intOf i).toNat)
  case atStart => exact ⟨0, w.heap.size, 0, t, [], Nat.zero_le _, rfl, rfl, rfl, (fun n hn => by simp at hn), hO0, by omega, hS0, hG0⟩
  case round =>
    obtain ⟨k, g, cap, t1, xs, hk, rfl, rfl, hxl, hxn, ho, ht1, hS, hG⟩ := hrel
    by_cases hlt : k < m
    · have HX := Lib.hid hxl
      have hxl2 : xs.length ≤ 1000 := by omega
      clear hxl hO0 hS0 hG0
      go_wp2_with fail
      refine (sAny p a n c t1 _ hS (by omega)).mono ?_
      rintro e w1 ⟨v, t2, rfl, ⟨v0, v1⟩, ht2, hS1, hG1⟩
      have hgb := ho.base
      have ho1 : w1.ownsRow w.heap.size 2 1 (.slice (some ⟨g, 0, none⟩) xs.length cap) xs.length (xs.map (Value.int .i64)) := ho.keptBy hG1 (by intro e; cases e; omega)
      have hG2 := grownBy_trans hG hG1
      have hsz := hG2.size
      clear ho hS hG hG1
      go_wp2_with (at_builtin; refine wpList_append_lies _ rfl _ _ _ rfl w.heap.size 2 i0 _ 1 8 Try.underlying24 hi hz0 hz1 hz2 rfl (by omega) (.slice (some ⟨g, 0, none⟩) xs.length cap) xs.length (xs.map (Value.int .i64)) rfl (ho1.alloc _) ⟨w1.heap.size, 0, none⟩ 1 1 [.int .i64 v] rfl rfl (World.news_of_block (cs := #[.int .i64 v]) (t := 2) (fr := (0, 0)) (heap_alloc_new w1 _)) (by simp [Value.oneCell']) (by omega) (by unfold maxLen; omega) (by omega) (by simp; omega) (w1.heap.size + 1) (by simp) ?_; intro gg cc w2 hown1 hgrow hat hlt1)
      have hgrow' : (w1.alloc (.cells #[.int .i64 v] 2)).grownBy w2 (some g) := hgrow
      have ho3 := own_appended hown1
      have hS2 := (hS1.alloc (.cells #[.int .i64 v] 2)).far hgrow' hL.out hpl hgb.1
      have hG3 := grownBy_far (grownBy_trans hG2 (World.grownBy_alloc w1 (.cells #[.int .i64 v] 2) (some p))) hgrow' hgb.1
      have hn2 : Nums (xs ++ [v]) := nms_snoc hxn ⟨v0, v1⟩
      have hl2 : Hid ((xs ++ [v]).length = k + 1) := by show _ = _; simp [HX.out]
      clear hgrow hgrow' hown1 ho1 hS1 hG2
      go_wp2
      go_roundw
      case rel => exact ⟨k + 1, gg, cc, t2, xs ++ [v], by omega, by go_num, by simp, hl2.out, hn2, ho3, by omega, hS2, hG3⟩
      case measure => simp [intOf]; omega
    · have hkk : k = m := by omega
      have HX := Lib.hid (hxl.trans hkk)
      clear hxl
      go_wp2
      go_ret
      exact ⟨g, cap, t1, xs, rfl, HX.out, hxn, ho, by omega, hS, hG⟩

def ThreeL (w : World) (e : Ending) (w' : World) : Prop :=
  ∃ (m g1 c1 g2 c2 g3 c3 : Nat) (x y z : List Int), 1 ≤ m ∧ m ≤ 13 ∧ x.length = m ∧ y.length = m ∧ z.length = m ∧ Nums x ∧ Nums y ∧ Nums z ∧
    e = .returned (.tuple #[.slice (some ⟨g1, 0, none⟩) m c1, .slice (some ⟨g2, 0, none⟩) m c2, .slice (some ⟨g3, 0, none⟩) m c3]) ∧
    Own w.heap.size w' g1 c1 x ∧ Own w.heap.size w' g2 c2 y ∧ Own w.heap.size w' g3 c3 z ∧ Below w.heap.size w w'

set_option maxHeartbeats 1600000 in
theorem sSeries3 (a : Option Addr) (n c : Nat) (w : World) (h : Bytes w a n) (hn : n ≤ 3000) :
    Calls Try.prog 8 #[.slice a n c] w (ThreeL w) := by
  go_enter Try.func8, Try.ntmps8
  go_wp2_with fail
  refine (sFrom a n c _ h hn).mono ?_
  rintro e w1 ⟨rfl, h1, hb1⟩
  go_wp2_with fail
  refine (sPick 13 _ a n c 0 _ (by omega) (by omega) h1 (by omega)).mono ?_
  rintro e w2 ⟨v, t2, rfl, hv, ht2, h2, hg2⟩
  obtain ⟨k, rfl⟩ := Int.eq_ofNat_of_zero_le hv.1
  have hk : k < 13 := by omega
  clear hv
  go_wp2_with fail
  refine (sDraw (1 + k) (1 + (k : Int)) (by show _ = _; omega) _ a n c t2 _ (by omega) h2 (by omega)).mono ?_
  rintro e w3 ⟨g1, c1, t3, x, rfl, hx, nx, ox, ht3, h3, hg3⟩
  rw [hx]
  go_wp2_with fail
  refine (sDraw (1 + k) (1 + (k : Int)) (by show _ = _; omega) _ a n c t3 _ (by omega) h3 (by omega)).mono ?_
  rintro e w4 ⟨g2, c2, t4, y, rfl, hy, ny, oy, ht4, h4, hg4⟩
  rw [hy]
  go_wp2_with fail
  refine (sDraw (1 + k) (1 + (k : Int)) (by show _ = _; omega) _ a n c t4 _ (by omega) h4 (by omega)).mono ?_
  rintro e w5 ⟨g3, c3, t5, z, rfl, hz, nz, oz, ht5, h5, hg5⟩
  rw [hz]
  have hsz1 := hb1.size
  have hp := h1.lt
  have s2 := hg2.size
  have s3 := hg3.size
  have s4 := hg4.size
  have ex := ox.base
  have ey := oy.base
  have ox5 := (ox.keptBy hg4 (by intro e; cases e; omega)).keptBy hg5 (by intro e; cases e; omega)
  have oy5 := oy.keptBy hg5 (by intro e; cases e; omega)
  have hB := hb1.grown (grownBy_trans hg2 (grownBy_trans hg3 (grownBy_trans hg4 hg5))) hb1.size (by intro k hk; cases hk; exact Nat.le_refl _)
  have HX := Lib.hid hx
  have HY := Lib.hid hy
  have HZ := Lib.hid hz
  clear hx hy hz
  go_wp2_with fail
  go_ret3
  exact ⟨1 + k, g1, c1, g2, c2, g3, c3, x, y, z, by omega, by omega, HX.out, HY.out, HZ.out, nx, ny, nz, rfl, ox5.mono (by omega), oy5.mono (by omega), oz.mono (by omega), hB⟩

end Go.Proofs.Ytodoamklikicpaa

namespace Go.Proofs.Ytodoamklikicpaa
open Go.RowKit

set_option maxHeartbeats 800000 in
theorem a2Same (a b : Option Addr) (ca cb : Nat) (l : List Int) (w : World) (ha : At w a l) (hb : At w b l) (hl : l.length ≤ 9223372036854775806) :
    Calls Try.prog 11 #[.slice a l.length ca, .slice b l.length cb] w fun e w' => e = .returned (.bool true) ∧ Below w.heap.size w w' := by
  go_enter Try.func11, Try.ntmps11
  go_wp2
  go_loopw [5] (fun i wr => ∃ k : Nat, k ≤ l.length ∧ i = .int .i64 k ∧ Below w.heap.size w wr) (fun i _ => l.length - (intOf i).toNat)
  case atStart => exact ⟨0, Nat.zero_le _, rfl, Below.refl _ _⟩
  case round =>
    obtain ⟨k, hk, rfl, hw⟩ := hrel
    by_cases hlt : k < l.length
    · obtain ⟨b1, o1, rfl, hbl1, hc1⟩ := (ha.resolve_left (by intro e; rw [e] at hlt; simp at hlt))
      obtain ⟨b2, o2, rfl, hbl2, hc2⟩ := (hb.resolve_left (by intro e; rw [e] at hlt; simp at hlt))
      have h1 : wr.cell? ⟨b1, o1 + k, none⟩ = some (.int .i64 (l.getD k 0)) := (hw.cell (p := ⟨b1, o1 + k, none⟩) hbl1).trans (hc1 k hlt)
      have h2 : wr.cell? ⟨b2, o2 + k, none⟩ = some (.int .i64 (l.getD k 0)) := (hw.cell (p := ⟨b2, o2 + k, none⟩) hbl2).trans (hc2 k hlt)
      clear hc1 hc2 ha hb
      generalize l.getD k 0 = x at h1 h2
      have hi : (k : Int) < (l.length : Int) := by omega
      go_wp2
      go_quiet (fail)
      go_wp2
      go_roundw
      case rel => exact ⟨k + 1, by omega, by go_num, below_drewN hw _⟩
      case measure => simp [intOf]; omega
    · go_wp2
      go_ret
      exact ⟨rfl, hw⟩


/-- The call answers a slice of n numbers that reads as l, and a code; nothing that was there has turned. -/
def ResN (w : World) (n : Nat) (l : List Int) (c : Int) (e : Ending) (w' : World) : Prop :=
  ∃ a cap, e = .returned (.tuple #[.slice a n cap, .int .i64 c]) ∧ Hid (l.length = n) ∧ OwnA w.heap.size w' a cap l ∧ Below w.heap.size w w'
theorem resN_of {w w1 : World} {n : Nat} {l l' : List Int} {c c' : Int} {e : Ending} (h : Res2 w l c e w1) (hl : l = l') (hc : c = c') (hn : l'.length = n) : ResN w n l' c' e w1 := by
  subst hl; subst hc; subst hn
  obtain ⟨a, cap, he, ho, hb⟩ := h
  exact ⟨a, cap, he, rfl, ho, hb⟩
theorem okS_of {l : List Int} {n : Nat} (h : Hid (l.length = n)) (h1 : 1 ≤ n) (h2 : n ≤ 13) (hn : Nums l) : okS l = true := nums_okS (by rw [h.out]; exact h1) (by rw [h.out]; exact h2) hn
theorem two_of {l m : List Int} {n : Nat} (h : Hid (l.length = n)) (h' : Hid (m.length = n)) (h1 : 1 ≤ n) (h2 : n ≤ 13) (hn : Nums l) (hn' : Nums m) : two l m = 0 :=
  two_ok (okS_of h h1 h2 hn) (okS_of h' h1 h2 hn') (h.out.trans h'.out.symm)

theorem mulN (n : Nat) (a b : Option Addr) (ca cb : Nat) (l m : List Int) (w : World) (ha : At w a l) (hb : At w b m) (h : Hid (l.length = n)) (h' : Hid (m.length = n)) (h1 : 1 ≤ n) (h2 : n ≤ 13) (hn : Nums l) (hn' : Nums m) :
    Calls Try.prog 13 #[.slice a n ca, .slice b n cb] w (ResN w n (mull l m) 0) := by
  have t := two_of h h' h1 h2 hn hn'
  have e1 := h.out
  have e2 := h'.out
  have k := iMulSeries a b ca cb l m w ha hb hn.rng hn'.rng (by omega) (by omega)
  rw [e1, e2] at k
  exact k.mono fun _ _ r => resN_of r (by unfold allMul ifTwo; rw [if_pos t]; rfl) (by unfold alcMul; rw [if_pos t]; rfl) (by rw [mull_len]; exact e1)
theorem addl_nms (a b : List Int) : Nums (addl a b) := tab_nms _ fun _ => pls_bd _ _
theorem sameN (n : Nat) (a b : Option Addr) (ca cb : Nat) (l : List Int) (w : World) (ha : At w a l) (hb : At w b l) (h : Hid (l.length = n)) (h2 : n ≤ 13) :
    Calls Try.prog 11 #[.slice a n ca, .slice b n cb] w fun e w' => e = .returned (.bool true) ∧ Below w.heap.size w w' := by
  have e1 := h.out
  have k := a2Same a b ca cb l w ha hb (by omega)
  rw [e1] at k
  exact k

end Go.Proofs.Ytodoamklikicpaa

namespace Go.Proofs.Ytodoamklikicpaa
open Go.RowKit
attribute [local go_sem ↓] Go.wp_at_zero Go.wp_at_succ

theorem At.take {w : World} {a : Option Addr} {l : List Int} (h : At w a l) (c : Nat) : At w a (l.take c) := by
  rcases h with h | ⟨b, off, h1, h2, h3⟩
  · exact .inl (by rw [h]; simp)
  · refine .inr ⟨b, off, h1, h2, fun k hk => ?_⟩
    have hk' : k < c ∧ k < l.length := by simp at hk; omega
    rw [show (l.take c).getD k 0 = l.getD k 0 from by simp [List.getD_eq_getElem?_getD, hk'.1]]
    exact h3 k hk'.2

set_option maxRecDepth 100000 in
set_option maxHeartbeats 1600000 in
theorem a2Front (n c g1 g2 ca cb : Nat) (l m : List Int) (w : World) (ha : At w (some ⟨g1, 0, none⟩) l) (hb : At w (some ⟨g2, 0, none⟩) m) (hcn : c ≤ n) (hn : n ≤ 1000)
    (hca : n ≤ ca) (hcb : n ≤ cb) (hl : Hid ((l.take c).length = c)) (he : Hid (l.take c = m.take c)) :
    Calls Try.prog 14 #[.slice (some ⟨g1, 0, none⟩) n ca, .slice (some ⟨g2, 0, none⟩) n cb, .int .i64 c] w fun e w' => e = .returned (.bool true) ∧ Below w.heap.size w w' := by
  have h1 : At w (some ⟨g1, 0, none⟩) (l.take c) := ha.take c
  have h2 : At w (some ⟨g2, 0, none⟩) (l.take c) := by rw [he.out]; exact hb.take c
  have i1 : (c : Int) ≤ (ca : Int) := by omega
  have i2 : (c : Int) ≤ (cb : Int) := by omega
  have i3 : c ≤ ca := by omega
  have i4 : c ≤ cb := by omega
  have d1 : decide ((n : Int) < (c : Int)) = false := by simp; omega
  have d2 : decide (n < c) = false := by simp; omega
  clear ha hb
  go_enter Try.func14, Try.ntmps14
  go_wp2
  refine wp_region_still_tail 6 (by kernel_rfl) (by kernel_rfl) ?_
  simp only [List.take_succ_cons, List.take_zero, List.drop_succ_cons, List.drop_zero]
  repeat still_step
  refine wpStill_nil ?_
  change wpList _ _ _ _ _ w.drew
  go_wp2_with fail
  have k := a2Same (some ⟨g1, 0, none⟩) (some ⟨g2, 0, none⟩) ca cb (l.take c) w.drew h1 h2 (by rw [hl.out]; omega)
  rw [hl.out] at k
  refine k.mono ?_
  rintro e w' ⟨rfl, b⟩
  go_wp2_with fail
  go_ret
  exact ⟨rfl, (Below.refl _ _).drew.trans b⟩

theorem begin_facts {w w1 : World} {g cc n : Nat} {l : List Int} (hl : Hid (l.length = n)) (h1 : 1 ≤ n)
    (hown : w1.ownsRow w.heap.size 2 1 (.slice (some ⟨g, 0, none⟩) (0 + n) cc) (0 + n) ([] ++ l.map (Value.int .i64)))
    (hgrow : (w.alloc (.cells #[] 2)).grownBy w1 (Value.slice (some ⟨w.heap.size, 0, none⟩) 0 0).ownBlock) (x : Int) :
    (∃ y, w1.cell? ⟨g, 0, none⟩ = some (.int .i64 y)) ∧ w1.frozen? ⟨g, 0, none⟩ = false ∧ Own w.heap.size (w1.setCell ⟨g, 0, none⟩ (.int .i64 x)) g cc (l.set 0 x) ∧ Below w.heap.size w (w1.setCell ⟨g, 0, none⟩ (.int .i64 x)) := by
  have hB0 := (Below.refl w.heap.size w).alloc (Nat.le_refl _) (.cells #[] 2)
  have hw2 : Below w.heap.size w w1 := hB0.grown hgrow (by simp) (by intro q hq; simp [Value.ownBlock] at hq; omega)
  have ho3 : Own w.heap.size w1 g cc l := by
    unfold Own
    rw [hl.out]
    simpa using hown
  exact ⟨⟨_, ho3.cellAt 0 (by rw [hl.out]; omega)⟩, ho3.frz 0, ho3.set 0 x, hw2.setCell (p := ⟨g, 0, none⟩) ho3.base.1 (.int .i64 x)⟩

set_option maxRecDepth 100000 in
set_option maxHeartbeats 1600000 in
theorem a2Begin (n : Nat) (x : Int) (a : Option Addr) (ca : Nat) (l : List Int) (w : World) (ha : At w a l) (hl : Hid (l.length = n)) (h1 : 1 ≤ n) (h2 : n ≤ 13) :
    Calls Try.prog 9 #[.slice a n ca, .int .i64 x] w fun e w' => ∃ g cap, e = .returned (.slice (some ⟨g, 0, none⟩) n cap) ∧ Own w.heap.size w' g cap (l.set 0 x) ∧ Below w.heap.size w w' := by
  obtain ⟨i0, hi, hz0, hz1, hz2⟩ := info_parts info64
  obtain ⟨b1, o1, rfl, hbl1, hc1⟩ := (ha.resolve_left (by intro e; have := hl.out; rw [e] at this; simp at this; omega))
  have hB0 := (Below.refl w.heap.size w).alloc (Nat.le_refl _) (.cells #[] 2)
  have hO0 : (w.alloc (.cells #[] 2)).ownsRow w.heap.size 2 1 (.slice (some ⟨w.heap.size, 0, none⟩) 0 0) 0 [] := World.ownsRow_made w #[] 0 (Nat.le_refl _) (by unfold maxLen; omega) rfl
  have hnews : ∀ (j : Nat) (u : Value), (l.map (Value.int .i64))[j]? = some u → (w.alloc (.cells #[] 2)).cell? ((⟨b1, o1, none⟩ : Addr).add j) = some u := by
    intro j u hj
    rw [List.getElem?_map] at hj
    have hjl : j < l.length := by
      apply Nat.lt_of_not_le
      intro hge
      rw [List.getElem?_eq_none hge] at hj
      cases hj
    have e : (⟨b1, o1, none⟩ : Addr).add j = ⟨b1, o1 + j, none⟩ := by cases j <;> simp [Addr.add]
    rw [e, (hB0.cell (p := ⟨b1, o1 + j, none⟩) hbl1), hc1 j hjl, ← hj, List.getElem?_eq_getElem hjl, List.getD_eq_getElem?_getD, List.getElem?_eq_getElem hjl]
    rfl
  have HN := Lib.hid hnews
  have hin : 0 < n := by omega
  have hii : (0 : Int) < (n : Int) := by omega
  have hone : Hid (∀ u ∈ l.map (Value.int .i64), u.oneCell' = true) := ints_oneCell .i64 l
  clear hc1 hnews ha
  go_enter Try.func9, Try.ntmps9
  go_wp2_with (at_builtin; refine wpList_append_lies _ rfl _ _ _ rfl w.heap.size 2 i0 _ 1 8 Try.underlying24 hi hz0 hz1 hz2 rfl (by omega) (.slice (some ⟨w.heap.size, 0, none⟩) 0 0) 0 [] rfl hO0 ⟨b1, o1, none⟩ n ca (l.map (Value.int .i64)) rfl (by rw [List.length_map, hl.out, Nat.mul_one]) HN.out hone.out (by omega) (by unfold maxLen; omega) (by omega) (by simp) (w.heap.size + 1) (by simp) ?_; intro g cc w1 hown1 hgrow hat hlt1; obtain ⟨⟨y, hcs⟩, hfr, hset, hb4⟩ := begin_facts hl h1 hown1 hgrow x; clear hown1 hgrow hat)
  go_ret
  exact ⟨_, _, rfl, hset, hb4⟩

end Go.Proofs.Ytodoamklikicpaa
