/- Series that are drawn. -/
import Derived.Test.YtegjlfbklcgapaaDraw3
import Derived.Test.YtegjlfbklcgapaaAdd
namespace Go.Proofs.Ytegjlfbklcgapaa
open Go.RowKit

theorem grownBy_far {w x y : World} {p g : Nat} (h : w.grownBy x (some p)) (k : x.grownBy y (some g)) (hg : w.heap.size ≤ g) : w.grownBy y (some p) :=
  ⟨k.os.trans h.os, k.tape.trans h.tape, k.output.trans h.output, Nat.le_trans h.size k.size, fun i hi hn => (k.block i (Nat.lt_of_lt_of_le hi h.size) (by intro e; cases e; omega)).trans (h.block i hi hn)⟩

theorem Bts.far {w w' : World} {p g : Nat} {a : Option Addr} {n B : Nat} (h : Bts w p a n) (hg : w.grownBy w' (some g)) (hB : ∀ b off, a = some ⟨b, off, none⟩ → n ≠ 0 → b < B) (hgB : B ≤ g) : Bts w' p a n := by
  by_cases h0 : n = 0
  · exact .inl h0
  · obtain ⟨b, off, h1, h2, h3, h4⟩ := h.resolve_left h0
    have hb := hB b off h1 h0
    refine .inr ⟨b, off, h1, h2, Nat.lt_of_lt_of_le h3 hg.size, fun k hk => ?_⟩
    obtain ⟨v, v0, v1, hv⟩ := h4 k hk
    exact ⟨v, v0, v1, (World.cell?_of_block (w := w) (a := ⟨b, off + k, none⟩) (hg.block b h3 (by intro e; cases e; omega))).trans hv⟩

/-- The bytes lie below block B. -/
def Low (a : Option Addr) (n B : Nat) : Prop := ∀ b off, a = some ⟨b, off, none⟩ → n ≠ 0 → b < B
theorem St.low {w : World} {p : Nat} {a : Option Addr} {n c t : Nat} (h : St w p a n c t) : Low a n w.heap.size := by
  intro b off hb hn
  obtain ⟨b', off', h1, h2, h3, h4⟩ := h.bts.resolve_left hn
  rw [h1] at hb
  cases hb
  exact h3
theorem St.far {w w' : World} {p g : Nat} {a : Option Addr} {n c t B : Nat} (h : St w p a n c t) (hg : w.grownBy w' (some g)) (hL : Low a n B) (hp : p < B) (hgB : B ≤ g) : St w' p a n c t := by
  obtain ⟨⟨c0, c1, ⟨z, c2, hz⟩, f1, f2⟩, hbt, hlt, hs⟩ := h
  have hb : w'.heap[p]? = w.heap[p]? := hg.block p hlt (by intro e; cases e; omega)
  exact ⟨⟨(World.cell?_of_block (w := w) (a := ⟨p, 0, none⟩) hb).trans c0, (World.cell?_of_block (w := w) (a := ⟨p, 1, none⟩) hb).trans c1, ⟨z, (World.cell?_of_block (w := w) (a := ⟨p, 2, none⟩) hb).trans c2, hz⟩,
    (World.frozen?_of_block (w := w) (a := ⟨p, 1, none⟩) hb).trans f1, (World.frozen?_of_block (w := w) (a := ⟨p, 2, none⟩) hb).trans f2⟩, hbt.far hg hL hgB, Nat.lt_of_lt_of_le hlt hg.size, hs⟩

def DrewL (w : World) (p : Nat) (a : Option Addr) (n c t m : Nat) (e : Ending) (w' : World) : Prop :=
  ∃ (g cap t' : Nat) (l : List Int), e = .returned (.slice (some ⟨g, 0, none⟩) l.length cap) ∧ l.length = m ∧ Nums l ∧ Own w.heap.size w' g cap l ∧ t' ≤ t ∧ St w' p a n c t' ∧ w.grownBy w' (some p)

set_option maxRecDepth 100000 in
set_option maxHeartbeats 3200000 in
theorem sDraw (m : Nat) (q : Int) (hq : Hid ((m : Int) = q)) (p : Nat) (a : Option Addr) (n c t : Nat) (w : World) (hm : m ≤ 1000) (h : St w p a n c t) (ht : t ≤ 500000) :
    Calls Try.prog 80 #[.pointer (some ⟨p, 0, none⟩), .int .i64 q] w (DrewL w p a n c (t + 8 * m) m) := by
  obtain ⟨i0, hi, hz0, hz1, hz2⟩ := info_parts info64
  have hq' := hq.out
  subst hq'
  clear hq
  have hG0 := World.grownBy_alloc w (.cells #[] 2) (some p)
  have hO0 := own_none w w.heap.size (Nat.le_refl _)
  have hS0 := h.alloc (.cells #[] 2)
  have hL := Lib.hid h.low
  have hpl := h.lt
  clear h
  go_enter Try.func80, Try.ntmps80
  go_wp2
  go_loopw [5, 6] (fun v i wr => ∃ (k g cap t1 : Nat) (xs : List Int), k ≤ m ∧ i = .int .i64 k ∧ v = .slice (some ⟨g, 0, none⟩) xs.length cap ∧ xs.length = k ∧ Nums xs ∧ Own w.heap.size wr g cap xs ∧ t1 ≤ t + 8 * k ∧ St wr p a n c t1 ∧ w.grownBy wr (some p)) (fun _ i _ => m - (intOf i).toNat)
  case atStart => exact ⟨0, w.heap.size, 0, t, [], Nat.zero_le _, rfl, rfl, rfl, (fun n hn => by simp at hn), hO0, by omega, hS0, hG0⟩
  case round =>
    obtain ⟨k, g, cap, t1, xs, hk, rfl, rfl, hxl, hxn, ho, ht1, hS, hG⟩ := hrel
    by_cases hlt : k < m
    · have HX := Lib.hid hxl
      have hxl2 : xs.length ≤ 1000 := by omega
      clear hxl hO0 hS0 hG0
      go_wp2_with fail
      refine (sAny p a n c t1 _ hS (by omega)).mono ?_
      rintro e w1 ⟨v, t2, rfl, ⟨v0, v1⟩, ht2, hS1, hG1⟩
      have hgb := ho.base
      have ho1 : w1.ownsRow w.heap.size 2 1 (.slice (some ⟨g, 0, none⟩) xs.length cap) xs.length (xs.map (Value.int .i64)) := ho.keptBy hG1 (by intro e; cases e; omega)
      have hG2 := grownBy_trans hG hG1
      have hsz := hG2.size
      clear ho hS hG hG1
      go_wp2_with (at_builtin; refine wpList_append_lies _ rfl _ _ _ rfl w.heap.size 2 i0 _ 1 8 Try.underlying30 hi hz0 hz1 hz2 rfl (by omega) (.slice (some ⟨g, 0, none⟩) xs.length cap) xs.length (xs.map (Value.int .i64)) rfl (ho1.alloc _) ⟨w1.heap.size, 0, none⟩ 1 1 [.int .i64 v] rfl rfl (World.news_of_block (cs := #[.int .i64 v]) (t := 2) (fr := (0, 0)) (heap_alloc_new w1 _)) (by simp [Value.oneCell']) (by omega) (by unfold maxLen; omega) (by omega) (by simp; omega) (w1.heap.size + 1) (by simp) ?_; intro gg cc w2 hown1 hgrow hat hlt1)
      have hgrow' : (w1.alloc (.cells #[.int .i64 v] 2)).grownBy w2 (some g) := hgrow
      have ho3 := own_appended hown1
      have hS2 := (hS1.alloc (.cells #[.int .i64 v] 2)).far hgrow' hL.out hpl hgb.1
      have hG3 := grownBy_far (grownBy_trans hG2 (World.grownBy_alloc w1 (.cells #[.int .i64 v] 2) (some p))) hgrow' hgb.1
      have hn2 : Nums (xs ++ [v]) := nms_snoc hxn ⟨v0, v1⟩
      have hl2 : Hid ((xs ++ [v]).length = k + 1) := by show _ = _; simp [HX.out]
      clear hgrow hgrow' hown1 ho1 hS1 hG2
      go_wp2
      go_roundw
      case rel => exact ⟨k + 1, gg, cc, t2, xs ++ [v], by omega, by go_num, by simp, hl2.out, hn2, ho3, by omega, hS2, hG3⟩
      case measure => simp [intOf]; omega
    · have hkk : k = m := by omega
      have HX := Lib.hid (hxl.trans hkk)
      clear hxl
      go_wp2
      go_ret
      exact ⟨g, cap, t1, xs, rfl, HX.out, hxn, ho, by omega, hS, hG⟩

def ThreeL (w : World) (e : Ending) (w' : World) : Prop :=
  ∃ (m g1 c1 g2 c2 g3 c3 : Nat) (x y z : List Int), 1 ≤ m ∧ m ≤ 13 ∧ x.length = m ∧ y.length = m ∧ z.length = m ∧ Nums x ∧ Nums y ∧ Nums z ∧
    e = .returned (.tuple #[.slice (some ⟨g1, 0, none⟩) m c1, .slice (some ⟨g2, 0, none⟩) m c2, .slice (some ⟨g3, 0, none⟩) m c3]) ∧
    Own w.heap.size w' g1 c1 x ∧ Own w.heap.size w' g2 c2 y ∧ Own w.heap.size w' g3 c3 z ∧ Below w.heap.size w w'

set_option maxHeartbeats 1600000 in
theorem sSeries3 (a : Option Addr) (n c : Nat) (w : World) (h : Bytes w a n) (hn : n ≤ 3000) :
    Calls Try.prog 33 #[.slice a n c] w (ThreeL w) := by
  go_enter Try.func33, Try.ntmps33
  go_wp2_with fail
  refine (sFrom a n c _ h hn).mono ?_
  rintro e w1 ⟨rfl, h1, hb1⟩
  go_wp2_with fail
  refine (sPick 13 _ a n c 0 _ (by omega) (by omega) h1 (by omega)).mono ?_
  rintro e w2 ⟨v, t2, rfl, hv, ht2, h2, hg2⟩
  obtain ⟨k, rfl⟩ := Int.eq_ofNat_of_zero_le hv.1
  have hk : k < 13 := by omega
  clear hv
  go_wp2_with fail
  refine (sDraw (1 + k) (1 + (k : Int)) (by show _ = _; omega) _ a n c t2 _ (by omega) h2 (by omega)).mono ?_
  rintro e w3 ⟨g1, c1, t3, x, rfl, hx, nx, ox, ht3, h3, hg3⟩
  rw [hx]
  go_wp2_with fail
  refine (sDraw (1 + k) (1 + (k : Int)) (by show _ = _; omega) _ a n c t3 _ (by omega) h3 (by omega)).mono ?_
  rintro e w4 ⟨g2, c2, t4, y, rfl, hy, ny, oy, ht4, h4, hg4⟩
  rw [hy]
  go_wp2_with fail
  refine (sDraw (1 + k) (1 + (k : Int)) (by show _ = _; omega) _ a n c t4 _ (by omega) h4 (by omega)).mono ?_
  rintro e w5 ⟨g3, c3, t5, z, rfl, hz, nz, oz, ht5, h5, hg5⟩
  rw [hz]
  have hsz1 := hb1.size
  have hp := h1.lt
  have s2 := hg2.size
  have s3 := hg3.size
  have s4 := hg4.size
  have ex := ox.base
  have ey := oy.base
  have ox5 := (ox.keptBy hg4 (by intro e; cases e; omega)).keptBy hg5 (by intro e; cases e; omega)
  have oy5 := oy.keptBy hg5 (by intro e; cases e; omega)
  have hB := hb1.grown (grownBy_trans hg2 (grownBy_trans hg3 (grownBy_trans hg4 hg5))) hb1.size (by intro k hk; cases hk; exact Nat.le_refl _)
  have HX := Lib.hid hx
  have HY := Lib.hid hy
  have HZ := Lib.hid hz
  clear hx hy hz
  go_wp2_with fail
  go_ret3
  exact ⟨1 + k, g1, c1, g2, c2, g3, c3, x, y, z, by omega, by omega, HX.out, HY.out, HZ.out, nx, ny, nz, rfl, ox5.mono (by omega), oy5.mono (by omega), oz.mono (by omega), hB⟩

end Go.Proofs.Ytegjlfbklcgapaa
