/- Marks written into copies by the laws. -/
import Derived.Test.YtemmbacdilepgaaGreatTo
namespace Go.Proofs.YtemmbacdilepgaaGreat
open Go.RowKit
set_option linter.unusedVariables false

/-- The shape of a tree that may be written: whatever its numbers are. -/
def Shp (w : World) (L B : Nat) : Fo → Nat → Nat → Prop
  | .nil, _, _ => True
  | .cons _ _ _ _ ks r, b, j => ∃ b' cap, (L ≤ b ∧ b < B) ∧ (∀ o, w.frozen? ⟨b, o, none⟩ = false) ∧ ks.len ≤ maxLen ∧
      (∃ x : Int, w.cell? ⟨b, j * 5, none⟩ = some (.int .i64 x)) ∧ (∃ x : Int, w.cell? ⟨b, j * 5 + 1, none⟩ = some (.int .i64 x)) ∧ (∃ x : Int, w.cell? ⟨b, j * 5 + 2, none⟩ = some (.int .i64 x)) ∧ (∃ x : Int, w.cell? ⟨b, j * 5 + 3, none⟩ = some (.int .i64 x)) ∧
      w.cell? ⟨b, j * 5 + 4, none⟩ = some (.slice (some ⟨b', 0, none⟩) ks.len cap) ∧ Shp w L B ks b' 0 ∧ Shp w L B r b (j + 1)
theorem Wat.shp {w : World} {L B : Nat} {f : Fo} : ∀ {b j : Nat}, Wat w L B f b j → Shp w L B f b j := by
  induction f with
  | nil => intro b j _; trivial
  | cons k n p c ks r ihk ihr =>
    intro b j h
    obtain ⟨b', cap, hb, hf, hr, hl, h0, h1, h2, h3, h4, hk, hr'⟩ := h
    exact ⟨b', cap, hb, hf, hl, ⟨_, h0⟩, ⟨_, h1⟩, ⟨_, h2⟩, ⟨_, h3⟩, h4, ihk hk, ihr hr'⟩

/-- Only numbers in trees have turned, in blocks from L on and ahead of B. -/
structure Mk (L B : Nat) (w w' : World) : Prop where
  os : w'.os = w.os
  tape : w'.tape = w.tape
  output : w'.output = w.output
  size : w'.heap.size = w.heap.size
  block : ∀ k, ¬ (L ≤ k ∧ k < B) → w'.heap[k]? = w.heap[k]?
  frz : ∀ b o, w'.frozen? ⟨b, o, none⟩ = w.frozen? ⟨b, o, none⟩
  kids : ∀ b j v, w.cell? ⟨b, j * 5 + 4, none⟩ = some v → w'.cell? ⟨b, j * 5 + 4, none⟩ = some v
  ints : ∀ b o, (∃ x : Int, w.cell? ⟨b, o, none⟩ = some (.int .i64 x)) → ∃ x : Int, w'.cell? ⟨b, o, none⟩ = some (.int .i64 x)
theorem Mk.refl (L B : Nat) (w : World) : Mk L B w w := ⟨rfl, rfl, rfl, rfl, fun _ _ => rfl, fun _ _ => rfl, fun _ _ _ h => h, fun _ _ h => h⟩
theorem Mk.trans {L B : Nat} {a b c : World} (h : Mk L B a b) (k : Mk L B b c) : Mk L B a c :=
  ⟨k.os.trans h.os, k.tape.trans h.tape, k.output.trans h.output, k.size.trans h.size, fun i hi => (k.block i hi).trans (h.block i hi), fun x o => (k.frz x o).trans (h.frz x o), fun x j v hv => k.kids x j v (h.kids x j v hv), fun x o hx => k.ints x o (h.ints x o hx)⟩
theorem Mk.set {L B : Nat} {w : World} {b o : Nat} {x : Int} (hb : L ≤ b ∧ b < B) (ho : o % 5 ≠ 4) (hx : ∃ y : Int, w.cell? ⟨b, o, none⟩ = some (.int .i64 y)) : Mk L B w (w.setCell ⟨b, o, none⟩ (.int .i64 x)) := by
  obtain ⟨y, hy⟩ := hx
  refine ⟨rfl, rfl, rfl, by simp, fun k hk => Below.heap_setCell _ _ _ _ (by show k ≠ b; omega), fun c q => by simp, fun c j v hv => ?_, fun c q hq => ?_⟩
  · rw [World.cell?_setCell_other _ _ _ _ (by intro e; simp only [Addr.mk.injEq] at e; omega)]; exact hv
  · by_cases he : (⟨c, q, none⟩ : Addr) = ⟨b, o, none⟩
    · rw [he]; exact ⟨x, World.cell?_setCell_same _ _ _ hy⟩
    · rw [World.cell?_setCell_other _ _ _ _ (fun e => he e.symm)]; exact hq
theorem Shp.mk {w w' : World} {L B L' B' : Nat} (h : Mk L' B' w w') {f : Fo} : ∀ {b j : Nat}, Shp w L B f b j → Shp w' L B f b j := by
  induction f with
  | nil => intro b j _; trivial
  | cons k n p c ks r ihk ihr =>
    intro b j g
    obtain ⟨b', cap, hb, hf, hl, h0, h1, h2, h3, h4, hk, hr'⟩ := g
    exact ⟨b', cap, hb, fun o => (h.frz b o).trans (hf o), hl, h.ints _ _ h0, h.ints _ _ h1, h.ints _ _ h2, h.ints _ _ h3, h.kids _ _ _ h4, ihk hk, ihr hr'⟩
theorem Shp.drop {w : World} {L B : Nat} {f : Fo} : ∀ {i b j : Nat}, Shp w L B f b j → i ≤ f.len → Shp w L B (Fo.drop i f) b (j + i) := by
  induction f with
  | nil => intro i b j _ _; rw [Fo.drop_nil]; trivial
  | cons k n p c ks r _ ihr =>
    intro i b j h hi
    cases i with
    | zero => rw [Fo.drop_zero, Nat.add_zero]; exact h
    | succ i =>
      obtain ⟨b', cap, hb, hf, hl, h0, h1, h2, h3, h4, hk, hr'⟩ := h
      have := ihr (i := i) hr' (by simp only [Fo.len] at hi; omega)
      rw [show j + (i + 1) = j + 1 + i from by omega]
      exact this

set_option maxRecDepth 100000 in
set_option maxHeartbeats 3200000 in
theorem markExprS_all (L B : Nat) : ∀ (m : Nat) (f : Fo), f.size < m → ∀ (b cap : Nat) (k0 : Int) (w : World), Shp w L B f b 0 → f.size ≤ 1048576 → 0 ≤ k0 → k0 + 4 * (f.size : Int) ≤ 1099511627776 →
    Calls Tryz.prog 114 #[.slice (some ⟨b, 0, none⟩) f.len cap, .int .i64 k0] w fun e w' => e = .returned (.int .i64 (k0 + 4 * (f.size : Int))) ∧ Mk L B w w' := by
  intro m
  induction m with
  | zero => intro f hf; omega
  | succ m ih =>
    intro f hf b cap k0 w hS hsz hk0 hk1
    have hlen : f.len ≤ 1048576 := by have := Fo.len_le f; omega
    have H0 : Hid (k0 + 4 * (f.size : Int) = k0 + 4 * ((Fo.drop 0 f).size : Int)) := by show _ = _; rw [Fo.drop_zero]
    have hS0 := Lib.hid hS
    have hM0 : Mk L B w w := Mk.refl _ _ _
    go_enter Tryz.func114, Tryz.ntmps114
    go_wp2_with fail
    go_loopw [1, 5] (fun q i wr => ∃ (t : Nat) (x : Int), t ≤ f.len ∧ i = .int .i64 t ∧ q = .int .i64 x ∧ 0 ≤ x ∧ Hid (k0 + 4 * (f.size : Int) = x + 4 * ((Fo.drop t f).size : Int)) ∧ Mk L B w wr) (fun _ i _ => f.len - (intOf i).toNat)
    case atStart => exact ⟨0, k0, Nat.zero_le _, rfl, rfl, hk0, H0, hM0⟩
    case round =>
      obtain ⟨t, x, ht, rfl, rfl, hx0, HX, hM⟩ := hrel
      clear H0 hM0
      by_cases hlt : t < f.len
      · have hti : (t : Int) < (f.len : Int) := by omega
        obtain ⟨k1, n1, p1, c1, ks, hdr⟩ := Fo.drop_at hlt
        have hlt' := Fo.kid_lt hdr
        have hSr : Shp wr L B (Fo.drop t f) b (0 + t) := (hS0.out.mk hM).drop (by omega)
        have hU : (Fo.drop t f).size = ks.size + 1 + (Fo.drop (t + 1) f).size := by rw [hdr]; show ks.size + _ + 1 = _; omega
        rw [hdr, Nat.zero_add] at hSr
        obtain ⟨b', cap', hb, hf', hl, ⟨x0, g0⟩, ⟨x1, g1⟩, ⟨x2, g2⟩, ⟨x3, g3⟩, g4, hk, _⟩ := hSr
        have hsum : x + 4 * ((ks.size : Int) + 1 + ((Fo.drop (t + 1) f).size : Int)) ≤ 1099511627776 := by
          have := HX.out
          omega
        have HX2 : Hid (k0 + 4 * (f.size : Int) = x + 1 + 1 + 1 + 1 + 4 * (ks.size : Int) + 4 * ((Fo.drop (t + 1) f).size : Int)) := by
          show _ = _
          have := HX.out
          omega
        have hkl : ks.size ≤ 1048576 := by omega
        have hxx : x + 4 + 4 * (ks.size : Int) ≤ 1099511627776 := by omega
        have q0 := hf' (t * 5)
        have q1 := hf' (t * 5 + 1)
        have q2 := hf' (t * 5 + 2)
        have q3 := hf' (t * 5 + 3)
        have hM4 : Mk L B wr ((((wr.setCell ⟨b, t * 5, none⟩ (.int .i64 x)).setCell ⟨b, t * 5 + 1, none⟩ (.int .i64 (x + 1))).setCell ⟨b, t * 5 + 2, none⟩ (.int .i64 (x + 1 + 1))).setCell ⟨b, t * 5 + 3, none⟩ (.int .i64 (x + 1 + 1 + 1))) := by
          have s0 := Mk.set (w := wr) (o := t * 5) (x := x) hb (by omega) ⟨x0, g0⟩
          have s1 := s0.trans (Mk.set (o := t * 5 + 1) (x := x + 1) hb (by omega) (s0.ints b _ ⟨x1, g1⟩))
          have s2 := s1.trans (Mk.set (o := t * 5 + 2) (x := x + 1 + 1) hb (by omega) (s1.ints b _ ⟨x2, g2⟩))
          exact s2.trans (Mk.set (o := t * 5 + 3) (x := x + 1 + 1 + 1) hb (by omega) (s2.ints b _ ⟨x3, g3⟩))
        have HC := Lib.hid (ih ks (by omega) b' cap' (x + 1 + 1 + 1 + 1) _ (hk.mk hM4) hkl (by omega) (by omega))
        clear hU hdr hlt' hk HX ih
        go_wp2_with fail
        refine (HC.out).mono ?_; rintro e w' ⟨rfl, hM5⟩
        have hM6 := hM.trans (hM4.trans hM5)
        have hy0 : 0 ≤ x + 1 + 1 + 1 + 1 + 4 * (ks.size : Int) := by omega
        clear HC hM4 hM5 q0 q1 q2 q3 g0 g1 g2 g3 g4
        generalize x + 1 + 1 + 1 + 1 + 4 * (ks.size : Int) = y at HX2 hy0
        go_wp2_with fail
        go_roundw
        case rel => exact ⟨t + 1, y, by omega, by go_num, rfl, hy0, HX2, hM6⟩
        case measure => simp [intOf]; omega
      · have hti : ¬ (t : Int) < (f.len : Int) := by omega
        have HX2 : Hid (k0 + 4 * (f.size : Int) = x) := by
          show _ = _
          rw [HX.out, Fo.drop_end (by omega)]
          show x + 4 * (0 : Int) = x
          omega
        clear HX
        go_wp2_with fail
        go_ret
        exact ⟨ret_int HX2.out.symm, hM⟩

end Go.Proofs.YtemmbacdilepgaaGreat
