/- Copies of expressions and programs, as the laws make them. Expressions and programs compared by the laws. -/
import Derived.StillTailTactics
import Derived.Test.YtoedccgiahegnaaGreatSz
namespace Go.Proofs.YtoedccgiahegnaaGreat
open Go.RowKit
set_option linter.unusedVariables false

set_option maxRecDepth 100000 in
theorem infoExpr : (Tryz.prog.info? 137).map (fun i => (i.zero, i.size, i.bytes)) = some (some (.agg #[.int .i64 0, .int .i64 0, .int .i64 0, .int .i64 0, .slice none 0 0]), 5, 56) := by kernel_rfl

/-- The expressions lie one behind the other in a block that may be written, from the element j on; so do all their kids, each list at the head of a block. -/
def Wat (w : World) (L B : Nat) : Fo → Nat → Nat → Prop
  | .nil, _, _ => True
  | .cons k n p c ks r, b, j => ∃ b' cap, (L ≤ b ∧ b < B) ∧ (∀ o, w.frozen? ⟨b, o, none⟩ = false) ∧ R4 k n p c ∧ ks.len ≤ maxLen ∧
      w.cell? ⟨b, j * 5, none⟩ = some (.int .i64 k) ∧ w.cell? ⟨b, j * 5 + 1, none⟩ = some (.int .i64 n) ∧ w.cell? ⟨b, j * 5 + 2, none⟩ = some (.int .i64 p) ∧ w.cell? ⟨b, j * 5 + 3, none⟩ = some (.int .i64 c) ∧
      w.cell? ⟨b, j * 5 + 4, none⟩ = some (.slice (some ⟨b', 0, none⟩) ks.len cap) ∧ Wat w L B ks b' 0 ∧ Wat w L B r b (j + 1)
theorem Wat.agree {w w' : World} {L B : Nat} (hb : ∀ k, L ≤ k → k < B → w'.heap[k]? = w.heap[k]?) {f : Fo} : ∀ {b j : Nat}, Wat w L B f b j → Wat w' L B f b j := by
  induction f with
  | nil => intro b j _; trivial
  | cons k n p c ks r ihk ihr =>
    intro b j h
    obtain ⟨b', cap, hB, hf, hr, hl, h0, h1, h2, h3, h4, hk, hr'⟩ := h
    have cl : ∀ o v, w.cell? ⟨b, o, none⟩ = some v → w'.cell? ⟨b, o, none⟩ = some v := fun o v h => (World.cell?_of_block (a := ⟨b, o, none⟩) (hb b hB.1 hB.2)).trans h
    exact ⟨b', cap, hB, fun o => (World.frozen?_of_block (a := ⟨b, o, none⟩) (hb b hB.1 hB.2)).trans (hf o), hr, hl, cl _ _ h0, cl _ _ h1, cl _ _ h2, cl _ _ h3, cl _ _ h4, ihk hk, ihr hr'⟩
theorem Wat.mono {w : World} {L L' B B' : Nat} (hL : L' ≤ L) (hB : B ≤ B') {f : Fo} : ∀ {b j : Nat}, Wat w L B f b j → Wat w L' B' f b j := by
  induction f with
  | nil => intro b j _; trivial
  | cons k n p c ks r ihk ihr =>
    intro b j h
    obtain ⟨b', cap, hb, hf, hr, hl, h0, h1, h2, h3, h4, hk, hr'⟩ := h
    exact ⟨b', cap, ⟨Nat.le_trans hL hb.1, Nat.lt_of_lt_of_le hb.2 hB⟩, hf, hr, hl, h0, h1, h2, h3, h4, ihk hk, ihr hr'⟩
theorem Wat.fat {w : World} {L B : Nat} {f : Fo} : ∀ {b j : Nat}, Wat w L B f b j → Fat w L B f (some ⟨b, j * 5, none⟩) := by
  induction f with
  | nil => intro b j _; trivial
  | cons k n p c ks r ihk ihr =>
    intro b j h
    obtain ⟨b', cap, hb, hf, hr, hl, h0, h1, h2, h3, h4, hk, hr'⟩ := h
    have e1 := ihk hk
    have e2 := ihr hr'
    rw [Nat.zero_mul] at e1
    rw [Nat.succ_mul] at e2
    exact ⟨b, j * 5, _, cap, rfl, hb, hr, hl, h0, h1, h2, h3, h4, e1, e2⟩
theorem Wat.fat0 {w : World} {L B : Nat} {f : Fo} {b : Nat} (h : Wat w L B f b 0) : Fat w L B f (some ⟨b, 0, none⟩) := by have := h.fat; rw [Nat.zero_mul] at this; exact this
theorem wat_of {w : World} {L B b : Nat} (hB : L ≤ b ∧ b < B) (hf : ∀ o, w.frozen? ⟨b, o, none⟩ = false) {f : Fo} : ∀ (j : Nat), (∀ i, i < f.len → ∃ k n p c ks b' cap, Fo.drop i f = .cons k n p c ks (Fo.drop (i + 1) f) ∧ R4 k n p c ∧ ks.len ≤ maxLen ∧
      w.cell? ⟨b, (j + i) * 5, none⟩ = some (.int .i64 k) ∧ w.cell? ⟨b, (j + i) * 5 + 1, none⟩ = some (.int .i64 n) ∧ w.cell? ⟨b, (j + i) * 5 + 2, none⟩ = some (.int .i64 p) ∧ w.cell? ⟨b, (j + i) * 5 + 3, none⟩ = some (.int .i64 c) ∧
      w.cell? ⟨b, (j + i) * 5 + 4, none⟩ = some (.slice (some ⟨b', 0, none⟩) ks.len cap) ∧ Wat w L B ks b' 0) → Wat w L B f b j := by
  induction f with
  | nil => intro _ _; trivial
  | cons k n p c ks r _ ih =>
    intro j h
    obtain ⟨k', n', p', c', ks', b', cap, hd, hr, hl, h0, h1, h2, h3, h4, hk⟩ := h 0 (by simp [Fo.len])
    rw [Fo.drop_zero] at hd
    simp only [Fo.cons.injEq] at hd
    obtain ⟨rfl, rfl, rfl, rfl, rfl, _⟩ := hd
    simp only [Nat.add_zero] at h0 h1 h2 h3 h4
    refine ⟨b', cap, hB, hf, hr, hl, h0, h1, h2, h3, h4, hk, ih (j + 1) (fun i hi => ?_)⟩
    have := h (i + 1) (by simp only [Fo.len]; omega)
    rw [show j + (i + 1) = j + 1 + i from by omega] at this
    exact this

/-- The call answers a copy in blocks of its own; nothing that was there has turned. -/
def FreshF (w : World) (f : Fo) (e : Ending) (w' : World) : Prop :=
  ∃ g, e = .returned (.slice (some ⟨g, 0, none⟩) f.len f.len) ∧ Fat w' w.heap.size w'.heap.size f (some ⟨g, 0, none⟩) ∧ Below w.heap.size w w'
def FreshFW (w : World) (f : Fo) (e : Ending) (w' : World) : Prop :=
  ∃ g, e = .returned (.slice (some ⟨g, 0, none⟩) f.len f.len) ∧ Wat w' w.heap.size w'.heap.size f g 0 ∧ Below w.heap.size w w'
theorem FreshFW.f {w : World} {f : Fo} {e : Ending} {w' : World} (h : FreshFW w f e w') : FreshF w f e w' := by obtain ⟨g, h1, h2, h3⟩ := h; exact ⟨g, h1, h2.fat0, h3⟩

/-- The call answers a copy of an expression whose kids lie in blocks of their own. -/
def FreshE (w : World) (k n p c : Int) (ks : Fo) (e : Ending) (w' : World) : Prop :=
  ∃ g, e = .returned (.agg #[.int .i64 k, .int .i64 n, .int .i64 p, .int .i64 c, .slice (some ⟨g, 0, none⟩) ks.len ks.len]) ∧ Fat w' w.heap.size w'.heap.size ks (some ⟨g, 0, none⟩) ∧ Below w.heap.size w w'
def FreshEW (w : World) (k n p c : Int) (ks : Fo) (e : Ending) (w' : World) : Prop :=
  ∃ g, e = .returned (.agg #[.int .i64 k, .int .i64 n, .int .i64 p, .int .i64 c, .slice (some ⟨g, 0, none⟩) ks.len ks.len]) ∧ Wat w' w.heap.size w'.heap.size ks g 0 ∧ Below w.heap.size w w'
theorem FreshEW.f {w : World} {k n p c : Int} {ks : Fo} {e : Ending} {w' : World} (h : FreshEW w k n p c ks e w') : FreshE w k n p c ks e w' := by obtain ⟨g, h1, h2, h3⟩ := h; exact ⟨g, h1, h2.fat0, h3⟩

theorem bcell {W w1 : World} (hb : Below W.heap.size W w1) : (∀ b o, b < W.heap.size → w1.cell? ⟨b, o, none⟩ = W.cell? ⟨b, o, none⟩) ∧ (∀ b o, b < W.heap.size → w1.frozen? ⟨b, o, none⟩ = W.frozen? ⟨b, o, none⟩) :=
  ⟨fun b o h => hb.cell (p := ⟨b, o, none⟩) h, fun b o h => hb.frozen (p := ⟨b, o, none⟩) h⟩

set_option maxRecDepth 100000 in
set_option maxHeartbeats 1600000 in
theorem toExpr_of (ks : Fo) (ih : ∀ (a : Option Addr) (cap : Nat) (w : World), Fat w 0 w.heap.size ks a → Calls Tryz.prog 94 #[.slice a ks.len cap] w (FreshFW w ks))
    (k n p c : Int) (a : Option Addr) (cap : Nat) (w : World) (hF : Fat w 0 w.heap.size ks a) :
    Calls Tryz.prog 112 #[.agg #[.int .i64 k, .int .i64 n, .int .i64 p, .int .i64 c, .slice a ks.len cap]] w (FreshEW w k n p c ks) := by
  have B1 : ∀ o, Below w.heap.size w (w.alloc o) := fun o => (Below.refl _ _).alloc (Nat.le_refl _) o
  go_enter Tryz.func112, Tryz.ntmps112
  go_wp2_with fail
  refine (ih a cap _ ((hF.below (((B1 _).alloc (by simp) _).alloc (by simp; omega) _)).mono (Nat.le_refl _) (by simp; omega))).mono ?_; rintro e w' ⟨g, rfl, hk, hb⟩
  obtain ⟨hc, hf⟩ := bcell hb
  have hz := hb.size
  simp at hz
  go_wp2_with fail
  have hB := (((B1 (Obj.cells #[Value.int .i64 k, Value.int .i64 n, Value.int .i64 p, Value.int .i64 c, Value.slice a ks.len cap] 158)).alloc (by simp) (Obj.cells #[Value.int .i64 0, Value.int .i64 0, Value.int .i64 0, Value.int .i64 0, Value.slice none 0 0] 137)).alloc (by simp; omega) (Obj.cells #[Value.int .i64 k, Value.int .i64 n, Value.int .i64 p, Value.int .i64 c, Value.slice none 0 0] 137)).trans (hb.mono (by simp; omega))
  refine bodyPost_ret (v := .agg #[.int .i64 k, .int .i64 n, .int .i64 p, .int .i64 c, .slice (some ⟨g, 0, none⟩) ks.len ks.len]) (by simp [results, Tryz.results112, go_sem, hc]) rfl ⟨g, rfl, ?_, ?_⟩
  · simp at hk
    refine (hk.agree (w' := _) (fun j h1 h2 => ?_)).mono (by omega) (by simp)
    iterate 5 rw [Below.heap_setCell _ _ _ _ (by show j ≠ w.heap.size + 1; omega)]
    rw [Below.heap_setCell _ _ _ _ (by show j ≠ w.heap.size + 1 + 1; omega)]
  · exact (((((hB.setCell (by simp; omega) _).setCell (by simp) _).setCell (by simp) _).setCell (by simp) _).setCell (by simp) _).setCell (by simp) _

/-- The first k elements of a row are copied. -/
def Half (w : World) (L : Nat) (f : Fo) (xs : List Value) (k : Nat) : Prop :=
  ∀ i, i < k → ∃ q n p c ks b' cap, Fo.drop i f = .cons q n p c ks (Fo.drop (i + 1) f) ∧ R4 q n p c ∧ ks.len ≤ maxLen ∧
    xs[i * 5]? = some (.int .i64 q) ∧ xs[i * 5 + 1]? = some (.int .i64 n) ∧ xs[i * 5 + 2]? = some (.int .i64 p) ∧ xs[i * 5 + 3]? = some (.int .i64 c) ∧
    xs[i * 5 + 4]? = some (.slice (some ⟨b', 0, none⟩) ks.len cap) ∧ Wat w (L + 1) w.heap.size ks b' 0

def put5 (xs : List Value) (i : Nat) (q n p c : Int) (v : Value) : List Value :=
  ((((xs.set (i * 5) (.int .i64 q)).set (i * 5 + 1) (.int .i64 n)).set (i * 5 + 2) (.int .i64 p)).set (i * 5 + 3) (.int .i64 c)).set (i * 5 + 4) v
theorem put5_old {xs : List Value} {i : Nat} {q n p c : Int} {v : Value} {j : Nat} (h : j < i * 5) : (put5 xs i q n p c v)[j]? = xs[j]? := by
  unfold put5
  iterate 5 rw [List.getElem?_set_ne (by omega)]
theorem put5_new {xs : List Value} {i : Nat} {q n p c : Int} {v : Value} (h : i * 5 + 4 < xs.length) : (put5 xs i q n p c v)[i * 5]? = some (.int .i64 q) ∧ (put5 xs i q n p c v)[i * 5 + 1]? = some (.int .i64 n) ∧
    (put5 xs i q n p c v)[i * 5 + 2]? = some (.int .i64 p) ∧ (put5 xs i q n p c v)[i * 5 + 3]? = some (.int .i64 c) ∧ (put5 xs i q n p c v)[i * 5 + 4]? = some v := by
  unfold put5
  refine ⟨?_, ?_, ?_, ?_, ?_⟩ <;> simp (disch := omega) [List.getElem?_set] <;> omega
theorem half_step {wr w' w'' : World} {L : Nat} {f : Fo} {xs : List Value} {k : Nat} {q n p c : Int} {ks : Fo} {b' : Nat} {cap : Nat} (H : Half wr L f xs k) (hb : Below wr.heap.size wr w') (hL : L < wr.heap.size)
    (hw : ∀ j, j ≠ L → w''.heap[j]? = w'.heap[j]?) (hz : w''.heap.size = w'.heap.size) (hlen : k * 5 + 4 < xs.length)
    (hd : Fo.drop k f = .cons q n p c ks (Fo.drop (k + 1) f)) (hr : R4 q n p c) (hl : ks.len ≤ maxLen) (hF : Wat w' wr.heap.size w'.heap.size ks b' 0) : Half w'' L f (put5 xs k q n p c (.slice (some ⟨b', 0, none⟩) ks.len cap)) (k + 1) := by
  intro i hi
  by_cases hik : i = k
  · subst hik
    obtain ⟨h0, h1, h2, h3, h4⟩ := put5_new (xs := xs) (i := i) (q := q) (n := n) (p := p) (c := c) (v := .slice (some ⟨b', 0, none⟩) ks.len cap) hlen
    refine ⟨q, n, p, c, ks, b', cap, hd, hr, hl, h0, h1, h2, h3, h4, ?_⟩
    rw [hz]
    exact (hF.agree (fun j h1 _ => hw j (by omega))).mono (by omega) (Nat.le_refl _)
  · obtain ⟨q', n', p', c', ks', a1, cap1, hd', hr', hl', h0, h1, h2, h3, h4, hF'⟩ := H i (by omega)
    refine ⟨q', n', p', c', ks', a1, cap1, hd', hr', hl', (put5_old (by omega)).trans h0, (put5_old (by omega)).trans h1, (put5_old (by omega)).trans h2, (put5_old (by omega)).trans h3, (put5_old (by omega)).trans h4, ?_⟩
    rw [hz]
    exact (hF'.agree (fun j h1 h2 => (hw j (by omega)).trans (hb.block j h2))).mono (Nat.le_refl _) hb.size

set_option maxRecDepth 100000 in
set_option maxHeartbeats 1600000 in
theorem toExprS_all : ∀ (m : Nat) (f : Fo), f.size < m → ∀ (a : Option Addr) (cap : Nat) (w : World), Fat w 0 w.heap.size f a → f.size ≤ 1048576 →
    Calls Tryz.prog 94 #[.slice a f.len cap] w (FreshFW w f) := by
  intro m
  induction m with
  | zero => intro f hf; omega
  | succ m ih =>
    intro f hf a cap w hF hs
    have hll := Fo.len_le f
    have hlen2 : f.len ≤ 1048576 := by omega
    obtain ⟨i0, hi, hz0, hz1, hz2⟩ := info_parts infoExpr
    go_enter Tryz.func94, Tryz.ntmps94
    go_wp2_with (refine wpList_make_full _ rfl _ _ 61 rfl w.heap.size 137 i0 _ 5 Tryz.underlying61 hi hz0 hz1 .i64 .i64 _ _ f.len rfl rfl rfl rfl ?c2 ?c3 (Nat.le_refl _) ?_)
    case c2 => rw [hz2]; omega
    case c3 => unfold maxLen; omega
    intro w1 ho1 hg1
    have hb1 := (Below.refl w.heap.size w).grown hg1 (Nat.le_refl _) (by intro k hk; cases hk)
    have hg : w.heap.size < w1.heap.size := (World.ownsRow.lt ho1 _ rfl).2
    obtain ⟨xs0, ho2⟩ : ∃ xs, w1.ownsRow w.heap.size 137 5 (.slice (some ⟨w.heap.size, 0, none⟩) f.len f.len) f.len xs := ⟨_, ho1⟩
    clear ho1 hg1 hi hz0 hz1 hz2
    go_wp2
    go_loopw [4] (fun i wr => ∃ (k : Nat) (xs : List Value), k ≤ f.len ∧ i = .int .i64 k ∧ wr.ownsRow w.heap.size 137 5 (.slice (some ⟨w.heap.size, 0, none⟩) f.len f.len) f.len xs ∧ Hid (Half wr w.heap.size f xs k) ∧ w.heap.size < wr.heap.size ∧ Below w.heap.size w wr) (fun i _ => f.len - (intOf i).toNat)
    case atStart => exact ⟨0, xs0, Nat.zero_le _, rfl, ho2, (fun i hi => by omega), hg, hb1⟩
    case round =>
      obtain ⟨k, xs, hk, rfl, ho, HH, hgr, hb⟩ := hrel
      clear ho2 hb1 hg
      by_cases hlt : k < f.len
      · obtain ⟨b, off, rfl, hbB⟩ := hF.blk (by omega)
        obtain ⟨k1, n1, p1, c1, ks, a', cap', hdr, hr, hkl, c0, d1, d2, d3, d4, hk'⟩ := (hF.below hb).node hlt
        have hlt' := Fo.kid_lt hdr
        have HC := Lib.hid (toExpr_of ks (fun a cap w h1 => ih ks (by omega) a cap w h1 (by omega)) k1 n1 p1 c1 a' cap' wr (hk'.mono (Nat.le_refl _) hb.size))
        have hi : (k : Int) < (f.len : Int) := by omega
        clear hk' hF hlt' ih hs hll
        go_wp2_with fail
        refine (HC.out).mono ?_; rintro e w' ⟨g, rfl, hkf, hb2⟩
        clear HC c0 d1 d2 d3 d4
        have ho' := World.ownsRow.kept ho (below_grownBy hb2) (.inr (by simp [Value.ownBlock]))
        have hxl : xs.length = f.len * 5 := ho.1
        have s0 := ho'.cellAt (k * 5) (by omega)
        have s1 := ho'.cellAt (k * 5 + 1) (by omega)
        have s2 := ho'.cellAt (k * 5 + 2) (by omega)
        have s3 := ho'.cellAt (k * 5 + 3) (by omega)
        have s4 := ho'.cellAt (k * 5 + 4) (by omega)
        rw [List.getElem?_eq_getElem (by omega)] at s0 s1 s2 s3 s4
        have t0 := ho'.frozenAt (k * 5)
        have t1 := ho'.frozenAt (k * 5 + 1)
        have t2 := ho'.frozenAt (k * 5 + 2)
        have t3 := ho'.frozenAt (k * 5 + 3)
        have t4 := ho'.frozenAt (k * 5 + 4)
        generalize xs[k * 5]'(by omega) = v0 at s0
        generalize xs[k * 5 + 1]'(by omega) = v1 at s1
        generalize xs[k * 5 + 2]'(by omega) = v2 at s2
        generalize xs[k * 5 + 3]'(by omega) = v3 at s3
        generalize xs[k * 5 + 4]'(by omega) = v4 at s4
        have HO := Lib.hid ho'
        have HD := Lib.hid hdr
        have HX := Lib.hid hxl
        have hw2 := hb.trans (hb2.mono hb.size)
        have hsz := hb2.size
        clear ho ho' hdr hxl hb
        go_wp2_with fail
        have hset : (((((w'.setCell ⟨w.heap.size, k * 5, none⟩ (.int .i64 k1)).setCell ⟨w.heap.size, k * 5 + 1, none⟩ (.int .i64 n1)).setCell ⟨w.heap.size, k * 5 + 2, none⟩ (.int .i64 p1)).setCell ⟨w.heap.size, k * 5 + 3, none⟩ (.int .i64 c1)).setCell ⟨w.heap.size, k * 5 + 4, none⟩ (.slice (some ⟨g, 0, none⟩) ks.len ks.len)).ownsRow w.heap.size 137 5 (.slice (some ⟨w.heap.size, 0, none⟩) f.len f.len) f.len (put5 xs k k1 n1 p1 c1 (.slice (some ⟨g, 0, none⟩) ks.len ks.len)) :=
          (World.ownsRow.stored (World.ownsRow.stored (World.ownsRow.stored (World.ownsRow.stored (World.ownsRow.stored HO.out (k * 5) _).1 (k * 5 + 1) _).1 (k * 5 + 2) _).1 (k * 5 + 3) _).1 (k * 5 + 4) _).1
        refine ⟨⟨k + 1, put5 xs k k1 n1 p1 c1 (.slice (some ⟨g, 0, none⟩) ks.len ks.len), by omega, by go_num, hset, ?_, by simp; omega, ?_⟩, by simp [intOf]; omega⟩
        · refine half_step HH.out hb2 hgr (fun j hj => ?_) (by simp) (by rw [HX.out]; omega) HD.out hr hkl hkf
          iterate 5 rw [Below.heap_setCell _ _ _ _ (by show j ≠ w.heap.size; omega)]
        · exact ((((hw2.setCell (Nat.le_refl _) _).setCell (Nat.le_refl _) _).setCell (Nat.le_refl _) _).setCell (Nat.le_refl _) _).setCell (Nat.le_refl _) _
      · have hkk : k = f.len := by omega
        subst hkk
        have hi : ¬ ((f.len : Int) < (f.len : Int)) := by omega
        have HO := Lib.hid ho
        clear ho hF
        go_wp2_with fail
        go_ret
        refine ⟨_, rfl, wat_of ⟨Nat.le_refl _, hgr⟩ (fun o => HO.out.frozenAt o) 0 (fun i hi => ?_), hb⟩
        obtain ⟨q, n, p, c, ks, a', cap', hd, hr, hl, h0, h1, h2, h3, h4, hk⟩ := HH.out i hi
        rw [Nat.zero_add]
        exact ⟨q, n, p, c, ks, a', cap', hd, hr, hl, (HO.out.cellAt _ (by omega)).trans h0, (HO.out.cellAt _ (by omega)).trans h1, (HO.out.cellAt _ (by omega)).trans h2, (HO.out.cellAt _ (by omega)).trans h3, (HO.out.cellAt _ (by omega)).trans h4, hk.mono (Nat.le_succ _) (Nat.le_refl _)⟩

theorem toExprS (f : Fo) (a : Option Addr) (cap : Nat) (w : World) (hF : Fat w 0 w.heap.size f a) (hs : f.size ≤ 1048576) : Calls Tryz.prog 94 #[.slice a f.len cap] w (FreshF w f) :=
  (toExprS_all (f.size + 1) f (by omega) a cap w hF hs).mono fun _ _ h => h.f
theorem toExprSW (f : Fo) (a : Option Addr) (cap : Nat) (w : World) (hF : Fat w 0 w.heap.size f a) (hs : f.size ≤ 1048576) : Calls Tryz.prog 94 #[.slice a f.len cap] w (FreshFW w f) :=
  toExprS_all (f.size + 1) f (by omega) a cap w hF hs
theorem toExpr (ks : Fo) (k n p c : Int) (a : Option Addr) (cap : Nat) (w : World) (hF : Fat w 0 w.heap.size ks a) (hs : ks.size ≤ 1048576) :
    Calls Tryz.prog 112 #[.agg #[.int .i64 k, .int .i64 n, .int .i64 p, .int .i64 c, .slice a ks.len cap]] w (FreshE w k n p c ks) :=
  (toExpr_of ks (fun a cap w h => toExprSW ks a cap w h hs) k n p c a cap w hF).mono fun _ _ h => h.f
theorem toExprW (ks : Fo) (k n p c : Int) (a : Option Addr) (cap : Nat) (w : World) (hF : Fat w 0 w.heap.size ks a) (hs : ks.size ≤ 1048576) :
    Calls Tryz.prog 112 #[.agg #[.int .i64 k, .int .i64 n, .int .i64 p, .int .i64 c, .slice a ks.len cap]] w (FreshEW w k n p c ks) :=
  toExpr_of ks (fun a cap w h => toExprSW ks a cap w h hs) k n p c a cap w hF

set_option maxRecDepth 100000 in
theorem infoFunc : (Tryz.prog.info? 63).map (fun i => (i.zero, i.size, i.bytes)) = some (some (.agg #[.string ⟨#[]⟩, .int .i64 0, .slice none 0 0]), 3, 48) := by kernel_rfl

def FreshFn (w : World) (f : Fn) (e : Ending) (w' : World) : Prop :=
  ∃ g, e = .returned (.agg #[.string f.name, .int .i64 f.params, .slice (some ⟨g, 0, none⟩) f.outs.len f.outs.len]) ∧ Wat w' w.heap.size w'.heap.size f.outs g 0 ∧ Below w.heap.size w w'

set_option maxRecDepth 100000 in
set_option maxHeartbeats 1600000 in
theorem toFunc (f : Fn) (a : Option Addr) (cap : Nat) (w : World) (hF : Fat w 0 w.heap.size f.outs a) (hs : f.outs.size ≤ 1048576) :
    Calls Tryz.prog 70 #[.agg #[.string f.name, .int .i64 f.params, .slice a f.outs.len cap]] w (FreshFn w f) := by
  have B1 : ∀ o, Below w.heap.size w (w.alloc o) := fun o => (Below.refl _ _).alloc (Nat.le_refl _) o
  go_enter Tryz.func70, Tryz.ntmps70
  go_wp2_with fail
  refine (toExprSW f.outs a cap _ ((hF.below (((B1 _).alloc (by simp) _).alloc (by simp; omega) _)).mono (Nat.le_refl _) (by simp; omega)) hs).mono ?_; rintro e w' ⟨g, rfl, hk, hb⟩
  obtain ⟨hc, hf⟩ := bcell hb
  have hz := hb.size
  simp at hz
  go_wp2_with fail
  have hB := (((B1 (Obj.cells #[Value.string f.name, Value.int .i64 f.params, Value.slice a f.outs.len cap] 97)).alloc (by simp) (Obj.cells #[Value.string ⟨#[]⟩, Value.int .i64 0, Value.slice none 0 0] 63)).alloc (by simp; omega) (Obj.cells #[Value.string f.name, Value.int .i64 f.params, Value.slice none 0 0] 63)).trans (hb.mono (by simp; omega))
  refine bodyPost_ret (v := .agg #[.string f.name, .int .i64 f.params, .slice (some ⟨g, 0, none⟩) f.outs.len f.outs.len]) (by simp [results, Tryz.results70, go_sem, hc]) rfl ⟨g, rfl, ?_, ?_⟩
  · simp at hk
    refine (hk.agree (w' := _) (fun j h1 h2 => ?_)).mono (by omega) (by simp)
    iterate 3 rw [Below.heap_setCell _ _ _ _ (by show j ≠ w.heap.size + 1; omega)]
    rw [Below.heap_setCell _ _ _ _ (by show j ≠ w.heap.size + 1 + 1; omega)]
  · exact (((hB.setCell (by simp; omega) _).setCell (by simp) _).setCell (by simp) _).setCell (by simp) _

/-- The first k functions of a row are copied. -/
def Half3 (w : World) (L : Nat) (l : List Fn) (xs : List Value) (k : Nat) : Prop :=
  ∀ i, i < k → RF (l.getD i noFn) ∧ ∃ b' cap, xs[i * 3]? = some (.string (l.getD i noFn).name) ∧ xs[i * 3 + 1]? = some (.int .i64 (l.getD i noFn).params) ∧
    xs[i * 3 + 2]? = some (.slice (some ⟨b', 0, none⟩) (l.getD i noFn).outs.len cap) ∧ Wat w (L + 1) w.heap.size (l.getD i noFn).outs b' 0
def put3 (xs : List Value) (i : Nat) (s : ByteArray) (p : Int) (v : Value) : List Value :=
  ((xs.set (i * 3) (.string s)).set (i * 3 + 1) (.int .i64 p)).set (i * 3 + 2) v
theorem put3_old {xs : List Value} {i : Nat} {s : ByteArray} {p : Int} {v : Value} {j : Nat} (h : j < i * 3) : (put3 xs i s p v)[j]? = xs[j]? := by
  unfold put3
  iterate 3 rw [List.getElem?_set_ne (by omega)]
theorem put3_new {xs : List Value} {i : Nat} {s : ByteArray} {p : Int} {v : Value} (h : i * 3 + 2 < xs.length) : (put3 xs i s p v)[i * 3]? = some (.string s) ∧ (put3 xs i s p v)[i * 3 + 1]? = some (.int .i64 p) ∧
    (put3 xs i s p v)[i * 3 + 2]? = some v := by
  unfold put3
  refine ⟨?_, ?_, ?_⟩ <;> simp (disch := omega) [List.getElem?_set] <;> omega
theorem half3_step {wr w' w'' : World} {L : Nat} {l : List Fn} {xs : List Value} {k : Nat} {b' : Nat} {cap : Nat} (H : Half3 wr L l xs k) (hb : Below wr.heap.size wr w') (hL : L < wr.heap.size)
    (hw : ∀ j, j ≠ L → w''.heap[j]? = w'.heap[j]?) (hz : w''.heap.size = w'.heap.size) (hlen : k * 3 + 2 < xs.length)
    (hr : RF (l.getD k noFn)) (hF : Wat w' wr.heap.size w'.heap.size (l.getD k noFn).outs b' 0) : Half3 w'' L l (put3 xs k (l.getD k noFn).name (l.getD k noFn).params (.slice (some ⟨b', 0, none⟩) (l.getD k noFn).outs.len cap)) (k + 1) := by
  intro i hi
  by_cases hik : i = k
  · subst hik
    obtain ⟨h0, h1, h2⟩ := put3_new (xs := xs) (i := i) (s := (l.getD i noFn).name) (p := (l.getD i noFn).params) (v := .slice (some ⟨b', 0, none⟩) (l.getD i noFn).outs.len cap) hlen
    refine ⟨hr, b', cap, h0, h1, h2, ?_⟩
    rw [hz]
    exact (hF.agree (fun j h1 _ => hw j (by omega))).mono (by omega) (Nat.le_refl _)
  · obtain ⟨hr', a1, cap1, h0, h1, h2, hF'⟩ := H i (by omega)
    refine ⟨hr', a1, cap1, (put3_old (by omega)).trans h0, (put3_old (by omega)).trans h1, (put3_old (by omega)).trans h2, ?_⟩
    rw [hz]
    exact (hF'.agree (fun j h1 h2 => (hw j (by omega)).trans (hb.block j h2))).mono (Nat.le_refl _) hb.size

/-- The call answers a copy of functions in blocks of its own. -/
def Wpt (w : World) (L B : Nat) (l : List Fn) (b : Nat) : Prop :=
  (L ≤ b ∧ b < B) ∧ (∀ o, w.frozen? ⟨b, o, none⟩ = false) ∧ ∀ i, i < l.length → RF (l.getD i noFn) ∧ ∃ b' cap,
    w.cell? ⟨b, i * 3, none⟩ = some (.string (l.getD i noFn).name) ∧ w.cell? ⟨b, i * 3 + 1, none⟩ = some (.int .i64 (l.getD i noFn).params) ∧
    w.cell? ⟨b, i * 3 + 2, none⟩ = some (.slice (some ⟨b', 0, none⟩) (l.getD i noFn).outs.len cap) ∧ Wat w (b + 1) B (l.getD i noFn).outs b' 0
theorem Wpt.pat {w : World} {L B : Nat} {l : List Fn} {b : Nat} (h : Wpt w L B l b) : Pat w L B l (some ⟨b, 0, none⟩) := by
  obtain ⟨hb, _, h⟩ := h
  refine .inr ⟨b, 0, rfl, hb, fun i hi => ?_⟩
  obtain ⟨hr, b', cap, h0, h1, h2, h3⟩ := h i hi
  rw [Nat.zero_add]
  exact ⟨hr, _, cap, h0, h1, h2, h3.fat0.mono (by omega) (Nat.le_refl _)⟩
theorem Wpt.agree {w w' : World} {L B : Nat} {l : List Fn} {b : Nat} (h : Wpt w L B l b) (hb : ∀ k, L ≤ k → k < B → w'.heap[k]? = w.heap[k]?) : Wpt w' L B l b := by
  obtain ⟨hB, hf, h⟩ := h
  have hbb := hb b hB.1 hB.2
  refine ⟨hB, fun o => (World.frozen?_of_block (a := ⟨b, o, none⟩) hbb).trans (hf o), fun i hi => ?_⟩
  obtain ⟨hr, b', cap, h0, h1, h2, h3⟩ := h i hi
  have cl : ∀ o v, w.cell? ⟨b, o, none⟩ = some v → w'.cell? ⟨b, o, none⟩ = some v := fun o v h => (World.cell?_of_block (a := ⟨b, o, none⟩) hbb).trans h
  exact ⟨hr, b', cap, cl _ _ h0, cl _ _ h1, cl _ _ h2, h3.agree (fun k hk hk2 => hb k (by omega) hk2)⟩
theorem Wpt.mono {w : World} {L L' B B' : Nat} (hL : L' ≤ L) (hB : B ≤ B') {l : List Fn} {b : Nat} (h : Wpt w L B l b) : Wpt w L' B' l b := by
  obtain ⟨hb, hf, h⟩ := h
  refine ⟨by omega, hf, fun i hi => ?_⟩
  obtain ⟨hr, b', cap, h0, h1, h2, h3⟩ := h i hi
  exact ⟨hr, b', cap, h0, h1, h2, h3.mono (Nat.le_refl _) hB⟩
def FreshP (w : World) (l : List Fn) (e : Ending) (w' : World) : Prop :=
  ∃ g, e = .returned (.slice (some ⟨g, 0, none⟩) l.length l.length) ∧ Wpt w' w.heap.size w'.heap.size l g ∧ Below w.heap.size w w'

theorem fnsSize_le {l : List Fn} {k : Nat} (h : k < l.length) : (l.getD k noFn).size ≤ fnsSize l := by
  induction l generalizing k with
  | nil => simp at h
  | cons f r ih =>
    cases k with
    | zero => show f.size ≤ f.size + fnsSize r; omega
    | succ k => have := ih (k := k) (by simp at h; omega); show (r.getD k noFn).size ≤ f.size + fnsSize r; omega

set_option maxRecDepth 100000 in
set_option maxHeartbeats 1600000 in
theorem toFuncS (l : List Fn) (a : Option Addr) (cap : Nat) (w : World) (hP : Pat w 0 w.heap.size l a) (hs : pgSize l ≤ 1048576) :
    Calls Tryz.prog 38 #[.slice a l.length cap] w (FreshP w l) := by
  have hlen2 : l.length ≤ 1048576 := by unfold pgSize at hs; omega
  have hall2 : ∀ k, k < l.length → (l.getD k noFn).outs.size ≤ 1048576 := fun k hk => by have := fnsSize_le hk; unfold pgSize at hs; unfold Fn.size at this; omega
  obtain ⟨i0, hi, hz0, hz1, hz2⟩ := info_parts infoFunc
  go_enter Tryz.func38, Tryz.ntmps38
  go_wp2_with (refine wpList_make_full _ rfl _ _ 29 rfl w.heap.size 63 i0 _ 3 Tryz.underlying29 hi hz0 hz1 .i64 .i64 _ _ l.length rfl rfl rfl rfl ?c2 ?c3 (Nat.le_refl _) ?_)
  case c2 => rw [hz2]; omega
  case c3 => unfold maxLen; omega
  intro w1 ho1 hg1
  have hb1 := (Below.refl w.heap.size w).grown hg1 (Nat.le_refl _) (by intro k hk; cases hk)
  have hg : w.heap.size < w1.heap.size := (World.ownsRow.lt ho1 _ rfl).2
  obtain ⟨xs0, ho2⟩ : ∃ xs, w1.ownsRow w.heap.size 63 3 (.slice (some ⟨w.heap.size, 0, none⟩) l.length l.length) l.length xs := ⟨_, ho1⟩
  have HA := Lib.hid hall2
  clear ho1 hg1 hi hz0 hz1 hz2 hall2
  go_wp2
  go_loopw [4] (fun i wr => ∃ (k : Nat) (xs : List Value), k ≤ l.length ∧ i = .int .i64 k ∧ wr.ownsRow w.heap.size 63 3 (.slice (some ⟨w.heap.size, 0, none⟩) l.length l.length) l.length xs ∧ Hid (Half3 wr w.heap.size l xs k) ∧ w.heap.size < wr.heap.size ∧ Below w.heap.size w wr) (fun i _ => l.length - (intOf i).toNat)
  case atStart => exact ⟨0, xs0, Nat.zero_le _, rfl, ho2, (fun i hi => by omega), hg, hb1⟩
  case round =>
    obtain ⟨k, xs, hk, rfl, ho, HH, hgr, hb⟩ := hrel
    clear ho2 hb1 hg
    by_cases hlt : k < l.length
    · obtain ⟨b, off, rfl, hbB, hall⟩ := (hP.resolve_left (by intro e; rw [e] at hlt; simp at hlt))
      obtain ⟨hr, a', cap', d0, d1, d2, hF⟩ := hall k hlt
      have c0 : wr.cell? ⟨b, off + k * 3, none⟩ = some (.string (l.getD k noFn).name) := (hb.cell (p := ⟨b, off + k * 3, none⟩) hbB.2).trans d0
      have c1 : wr.cell? ⟨b, off + k * 3 + 1, none⟩ = some (.int .i64 (l.getD k noFn).params) := (hb.cell (p := ⟨b, off + k * 3 + 1, none⟩) hbB.2).trans d1
      have c2 : wr.cell? ⟨b, off + k * 3 + 2, none⟩ = some (.slice a' (l.getD k noFn).outs.len cap') := (hb.cell (p := ⟨b, off + k * 3 + 2, none⟩) hbB.2).trans d2
      have HC := Lib.hid (toFunc (l.getD k noFn) a' cap' wr ((hF.below hb).mono (Nat.le_refl _) hb.size) (HA.out k hlt))
      have hi : (k : Int) < (l.length : Int) := by omega
      have HS : Hid (∀ {w' w'' : World} {g : Nat}, Below wr.heap.size wr w' → (∀ j, j ≠ w.heap.size → w''.heap[j]? = w'.heap[j]?) → w''.heap.size = w'.heap.size → k * 3 + 2 < xs.length → Wat w' wr.heap.size w'.heap.size (l.getD k noFn).outs g 0 →
        Half3 w'' w.heap.size l (put3 xs k (l.getD k noFn).name (l.getD k noFn).params (.slice (some ⟨g, 0, none⟩) (l.getD k noFn).outs.len (l.getD k noFn).outs.len)) (k + 1)) :=
        fun h1 h2 h3 h4 h5 => half3_step HH.out h1 hgr h2 h3 h4 hr h5
      clear d0 d1 d2 hF hall hP hs HA HH hr
      generalize l.getD k noFn = f at c0 c1 c2 HC HS
      go_wp2_with fail
      refine (HC.out).mono ?_; rintro e w' ⟨g, rfl, hkf, hb2⟩
      clear HC c0 c1 c2
      have ho' := World.ownsRow.kept ho (below_grownBy hb2) (.inr (by simp [Value.ownBlock]))
      have hxl : xs.length = l.length * 3 := ho.1
      have s0 := ho'.cellAt (k * 3) (by omega)
      have s1 := ho'.cellAt (k * 3 + 1) (by omega)
      have s2 := ho'.cellAt (k * 3 + 2) (by omega)
      rw [List.getElem?_eq_getElem (by omega)] at s0 s1 s2
      have t0 := ho'.frozenAt (k * 3)
      have t1 := ho'.frozenAt (k * 3 + 1)
      have t2 := ho'.frozenAt (k * 3 + 2)
      generalize xs[k * 3]'(by omega) = v0 at s0
      generalize xs[k * 3 + 1]'(by omega) = v1 at s1
      generalize xs[k * 3 + 2]'(by omega) = v2 at s2
      have HO := Lib.hid ho'
      have HX := Lib.hid hxl
      have hw2 := hb.trans (hb2.mono hb.size)
      have hsz := hb2.size
      clear ho ho' hxl hb
      go_wp2_with fail
      have hset : (((w'.setCell ⟨w.heap.size, k * 3, none⟩ (.string f.name)).setCell ⟨w.heap.size, k * 3 + 1, none⟩ (.int .i64 f.params)).setCell ⟨w.heap.size, k * 3 + 2, none⟩ (.slice (some ⟨g, 0, none⟩) f.outs.len f.outs.len)).ownsRow w.heap.size 63 3 (.slice (some ⟨w.heap.size, 0, none⟩) l.length l.length) l.length (put3 xs k f.name f.params (.slice (some ⟨g, 0, none⟩) f.outs.len f.outs.len)) :=
        (World.ownsRow.stored (World.ownsRow.stored (World.ownsRow.stored HO.out (k * 3) _).1 (k * 3 + 1) _).1 (k * 3 + 2) _).1
      refine ⟨⟨k + 1, put3 xs k f.name f.params (.slice (some ⟨g, 0, none⟩) f.outs.len f.outs.len), by omega, by go_num, hset, ?_, by simp; omega, ?_⟩, by simp [intOf]; omega⟩
      · refine HS.out hb2 (fun j hj => ?_) (by simp) (by rw [HX.out]; omega) hkf
        iterate 3 rw [Below.heap_setCell _ _ _ _ (by show j ≠ w.heap.size; omega)]
      · exact ((hw2.setCell (Nat.le_refl _) _).setCell (Nat.le_refl _) _).setCell (Nat.le_refl _) _
    · have hkk : k = l.length := by omega
      subst hkk
      have hi : ¬ ((l.length : Int) < (l.length : Int)) := by omega
      have HO := Lib.hid ho
      clear ho hP
      go_wp2_with fail
      go_ret
      refine ⟨_, rfl, ⟨⟨Nat.le_refl _, hgr⟩, fun o => HO.out.frozenAt o, fun i hi => ?_⟩, hb⟩
      obtain ⟨hr, a', cap', h0, h1, h2, hk⟩ := HH.out i hi
      exact ⟨hr, a', cap', (HO.out.cellAt _ (by omega)).trans h0, (HO.out.cellAt _ (by omega)).trans h1, (HO.out.cellAt _ (by omega)).trans h2, hk⟩

/-- The call answers a copy of a program in blocks of its own. -/
def FreshG (w : World) (l : List Fn) (e : Ending) (w' : World) : Prop :=
  ∃ g, e = .returned (.agg #[.slice (some ⟨g, 0, none⟩) l.length l.length]) ∧ Pat w' w.heap.size w'.heap.size l (some ⟨g, 0, none⟩) ∧ Below w.heap.size w w'
def FreshGW (w : World) (l : List Fn) (e : Ending) (w' : World) : Prop :=
  ∃ g, e = .returned (.agg #[.slice (some ⟨g, 0, none⟩) l.length l.length]) ∧ Wpt w' w.heap.size w'.heap.size l g ∧ Below w.heap.size w w'

set_option maxRecDepth 100000 in
set_option maxHeartbeats 1600000 in
theorem toProgramW (l : List Fn) (a : Option Addr) (cap : Nat) (w : World) (hP : Pat w 0 w.heap.size l a) (hs : pgSize l ≤ 1048576) :
    Calls Tryz.prog 12 #[.agg #[.slice a l.length cap]] w (FreshGW w l) := by
  have B1 : ∀ o, Below w.heap.size w (w.alloc o) := fun o => (Below.refl _ _).alloc (Nat.le_refl _) o
  go_enter Tryz.func12, Tryz.ntmps12
  go_wp2_with fail
  refine (toFuncS l a cap _ ((hP.below (((B1 _).alloc (by simp) _).alloc (by simp; omega) _)).mono (Nat.le_refl _) (by simp; omega)) hs).mono ?_; rintro e w' ⟨g, rfl, hk, hb⟩
  obtain ⟨hc, hf⟩ := bcell hb
  have hz := hb.size
  simp at hz
  go_wp2_with fail
  have hB := (((B1 (Obj.cells #[Value.slice a l.length cap] 24)).alloc (by simp) (Obj.cells #[Value.slice none 0 0] 31)).alloc (by simp; omega) (Obj.cells #[Value.slice none 0 0] 31)).trans (hb.mono (by simp; omega))
  refine bodyPost_ret (v := .agg #[.slice (some ⟨g, 0, none⟩) l.length l.length]) (by simp [results, Tryz.results12, go_sem, hc]) rfl ⟨g, rfl, ?_, ?_⟩
  · simp at hk
    refine (hk.agree (w' := _) (fun j h1 h2 => ?_)).mono (by omega) (by simp)
    rw [Below.heap_setCell _ _ _ _ (by show j ≠ w.heap.size + 1; omega)]
    rw [Below.heap_setCell _ _ _ _ (by show j ≠ w.heap.size + 1 + 1; omega)]
  · exact (hB.setCell (by simp; omega) _).setCell (by simp) _

theorem toProgram (l : List Fn) (a : Option Addr) (cap : Nat) (w : World) (hP : Pat w 0 w.heap.size l a) (hs : pgSize l ≤ 1048576) :
    Calls Tryz.prog 12 #[.agg #[.slice a l.length cap]] w (FreshG w l) := (toProgramW l a cap w hP hs).mono fun _ _ ⟨g, h1, h2, h3⟩ => ⟨g, h1, h2.pat, h3⟩

end Go.Proofs.YtoedccgiahegnaaGreat

namespace Go.Proofs.YtoedccgiahegnaaGreat
open Go.RowKit
set_option linter.unusedVariables false

set_option maxRecDepth 100000 in
set_option maxHeartbeats 1600000 in
theorem eqExpr_of (ks : Fo) (ih : ∀ (a b : Option Addr) (ca cb : Nat) (w : World), Fat w 0 w.heap.size ks a → Fat w 0 w.heap.size ks b → Calls Tryz.prog 97 #[.slice a ks.len ca, .slice b ks.len cb] w fun e w' => e = .returned (.bool true) ∧ Below w.heap.size w w')
    (k n p c : Int) (a b : Option Addr) (ca cb : Nat) (w : World) (hF : Fat w 0 w.heap.size ks a) (hG : Fat w 0 w.heap.size ks b) :
    Calls Tryz.prog 121 #[.agg #[.int .i64 k, .int .i64 n, .int .i64 p, .int .i64 c, .slice a ks.len ca], .agg #[.int .i64 k, .int .i64 n, .int .i64 p, .int .i64 c, .slice b ks.len cb]] w fun e w' => e = .returned (.bool true) ∧ Below w.heap.size w w' := by
  have B1 : ∀ o, Below w.heap.size w (w.alloc o) := fun o => (Below.refl _ _).alloc (Nat.le_refl _) o
  have e0 : (k != k) = false := by simp
  have e1 : (n != n) = false := by simp
  have e2 : (p != p) = false := by simp
  have e3 : (c != c) = false := by simp
  go_enter Tryz.func121, Tryz.ntmps121
  go_wp2_with fail
  refine (ih a b ca cb _ ((hF.below ((B1 _).alloc (by simp) _)).mono (Nat.le_refl _) (by simp; omega)) ((hG.below ((B1 _).alloc (by simp) _)).mono (Nat.le_refl _) (by simp; omega))).mono ?_; rintro e w' ⟨rfl, hb⟩
  have hB := ((B1 _).alloc (by simp) _).trans (hb.mono (by simp; omega))
  go_wp2_with fail
  go_ret
  exact ⟨rfl, hB⟩

set_option maxRecDepth 100000 in
set_option maxHeartbeats 1600000 in
theorem eqExprS_all : ∀ (m : Nat) (f : Fo), f.size < m → ∀ (a b : Option Addr) (ca cb : Nat) (w : World), Fat w 0 w.heap.size f a → Fat w 0 w.heap.size f b → f.len ≤ maxLen →
    Calls Tryz.prog 97 #[.slice a f.len ca, .slice b f.len cb] w fun e w' => e = .returned (.bool true) ∧ Below w.heap.size w w' := by
  intro m
  induction m with
  | zero => intro f hf; omega
  | succ m ih =>
    intro f hf a b ca cb w hF hG hlen
    unfold maxLen at hlen
    have hlen2 : f.len ≤ 9223372036854775807 := by omega
    clear hlen
    go_enter Tryz.func97, Tryz.ntmps97
    go_wp2_with fail
    go_loopw [5] (fun i wr => ∃ k : Nat, k ≤ f.len ∧ i = .int .i64 k ∧ Below w.heap.size w wr) (fun i _ => f.len - (intOf i).toNat)
    case atStart => exact ⟨0, Nat.zero_le _, rfl, Below.refl _ _⟩
    case round =>
      obtain ⟨k, hk, rfl, hw⟩ := hrel
      by_cases hlt : k < f.len
      · obtain ⟨b1, o1, rfl, hbB1⟩ := hF.blk (by omega)
        obtain ⟨b2, o2, rfl, hbB2⟩ := hG.blk (by omega)
        obtain ⟨k1, n1, p1, c1, ks, a', cap', hdr, hr, hkl, c0, d1, d2, d3, d4, hk1⟩ := (hF.below hw).node hlt
        obtain ⟨k2, n2, p2, c2, ks2, a2', cap2', hdr2, hr2, hkl2, f0, f1, f2, f3, f4, hk2⟩ := (hG.below hw).node hlt
        have hlt' := Fo.kid_lt hdr
        rw [hdr] at hdr2
        simp only [Fo.cons.injEq, and_true] at hdr2
        obtain ⟨rfl, rfl, rfl, rfl, rfl⟩ := hdr2
        have HC := Lib.hid (fun W (hW : Below wr.heap.size wr W) => eqExpr_of ks (fun a b ca cb w h1 h2 => ih ks (by omega) a b ca cb w h1 h2 hkl) k1 n1 p1 c1 a' a2' cap' cap2' W ((hk1.mono (Nat.le_refl _) hw.size).below hW |>.mono (Nat.le_refl _) hW.size) ((hk2.mono (Nat.le_refl _) hw.size).below hW |>.mono (Nat.le_refl _) hW.size))
        have hi : (k : Int) < (f.len : Int) := by omega
        clear hk1 hk2 hF hG hdr hr hkl hr2 hkl2 hlt' ih
        go_wp2_with fail
        go_still_tail 8, (by kernel_rfl)
        change wpList _ _ _ _ _ wr.drew
        have hdw : Below wr.heap.size wr wr.drew := ⟨rfl, rfl, rfl, Nat.le_refl _, fun _ _ => rfl⟩
        have HC2 := Lib.hid (HC.out _ hdw)
        clear HC
        generalize wr.drew = w2 at hdw HC2 ⊢
        clear c0 d1 d2 d3 d4 f0 f1 f2 f3 f4
        go_wp2_with fail
        refine (HC2.out).mono ?_; rintro e w' ⟨rfl, hb⟩
        have hw2 := (hw.trans (hdw.mono hw.size)).trans (hb.mono (Nat.le_trans hw.size hdw.size))
        clear HC2
        go_wp2_with fail
        go_roundw
        case rel => exact ⟨k + 1, by omega, by go_num, hw2⟩
        case measure => simp [intOf]; omega
      · have hi : ¬ (k : Int) < (f.len : Int) := by omega
        go_wp2_with fail
        go_ret
        exact ⟨rfl, hw⟩

theorem eqExprS (f : Fo) (a b : Option Addr) (ca cb : Nat) (w : World) (hF : Fat w 0 w.heap.size f a) (hG : Fat w 0 w.heap.size f b) (hl : f.len ≤ maxLen) :
    Calls Tryz.prog 97 #[.slice a f.len ca, .slice b f.len cb] w fun e w' => e = .returned (.bool true) ∧ Below w.heap.size w w' :=
  eqExprS_all (f.size + 1) f (by omega) a b ca cb w hF hG hl
theorem eqExpr (ks : Fo) (k n p c : Int) (a b : Option Addr) (ca cb : Nat) (w : World) (hF : Fat w 0 w.heap.size ks a) (hG : Fat w 0 w.heap.size ks b) (hl : ks.len ≤ maxLen) :
    Calls Tryz.prog 121 #[.agg #[.int .i64 k, .int .i64 n, .int .i64 p, .int .i64 c, .slice a ks.len ca], .agg #[.int .i64 k, .int .i64 n, .int .i64 p, .int .i64 c, .slice b ks.len cb]] w fun e w' => e = .returned (.bool true) ∧ Below w.heap.size w w' :=
  eqExpr_of ks (fun a b ca cb w h1 h2 => eqExprS ks a b ca cb w h1 h2 hl) k n p c a b ca cb w hF hG

set_option maxRecDepth 100000 in
set_option maxHeartbeats 1600000 in
theorem eqFunc (f : Fn) (a b : Option Addr) (ca cb : Nat) (w : World) (hF : Fat w 0 w.heap.size f.outs a) (hG : Fat w 0 w.heap.size f.outs b) (hl : f.outs.len ≤ maxLen) :
    Calls Tryz.prog 74 #[.agg #[.string f.name, .int .i64 f.params, .slice a f.outs.len ca], .agg #[.string f.name, .int .i64 f.params, .slice b f.outs.len cb]] w fun e w' => e = .returned (.bool true) ∧ Below w.heap.size w w' := by
  have B1 : ∀ o, Below w.heap.size w (w.alloc o) := fun o => (Below.refl _ _).alloc (Nat.le_refl _) o
  have e1 : (f.params != f.params) = false := by simp
  go_enter Tryz.func74, Tryz.ntmps74
  go_wp2_with fail
  refine (eqExprS f.outs a b ca cb _ ((hF.below ((B1 _).alloc (by simp) _)).mono (Nat.le_refl _) (by simp; omega)) ((hG.below ((B1 _).alloc (by simp) _)).mono (Nat.le_refl _) (by simp; omega)) hl).mono ?_; rintro e w' ⟨rfl, hb⟩
  have hB := ((B1 _).alloc (by simp) _).trans (hb.mono (by simp; omega))
  go_wp2_with fail
  go_ret
  exact ⟨rfl, hB⟩

set_option maxRecDepth 100000 in
set_option maxHeartbeats 1600000 in
theorem eqFuncS (l : List Fn) (a b : Option Addr) (ca cb : Nat) (w : World) (hP : Pat w 0 w.heap.size l a) (hQ : Pat w 0 w.heap.size l b) (hlen : l.length ≤ maxLen) :
    Calls Tryz.prog 41 #[.slice a l.length ca, .slice b l.length cb] w fun e w' => e = .returned (.bool true) ∧ Below w.heap.size w w' := by
  unfold maxLen at hlen
  have hlen2 : l.length ≤ 9223372036854775807 := by omega
  clear hlen
  go_enter Tryz.func41, Tryz.ntmps41
  go_wp2_with fail
  go_loopw [5] (fun i wr => ∃ k : Nat, k ≤ l.length ∧ i = .int .i64 k ∧ Below w.heap.size w wr) (fun i _ => l.length - (intOf i).toNat)
  case atStart => exact ⟨0, Nat.zero_le _, rfl, Below.refl _ _⟩
  case round =>
    obtain ⟨k, hk, rfl, hw⟩ := hrel
    by_cases hlt : k < l.length
    · obtain ⟨b1, o1, rfl, hbB1, hall1⟩ := ((hP.below hw).resolve_left (by intro e; rw [e] at hlt; simp at hlt))
      obtain ⟨b2, o2, rfl, hbB2, hall2⟩ := ((hQ.below hw).resolve_left (by intro e; rw [e] at hlt; simp at hlt))
      obtain ⟨hr, a', cap', c0, c1, c2, hk1⟩ := hall1 k hlt
      obtain ⟨_, a2', cap2', f0, f1, f2, hk2⟩ := hall2 k hlt
      have HC := Lib.hid (fun W (hW : Below wr.heap.size wr W) => eqFunc (l.getD k noFn) a' a2' cap' cap2' W ((hk1.mono (Nat.le_refl _) hw.size).below hW |>.mono (Nat.le_refl _) hW.size) ((hk2.mono (Nat.le_refl _) hw.size).below hW |>.mono (Nat.le_refl _) hW.size) hr.2.2)
      have hi : (k : Int) < (l.length : Int) := by omega
      clear hk1 hk2 hall1 hall2 hP hQ hr
      generalize l.getD k noFn = f at c0 c1 c2 f0 f1 f2 HC
      go_wp2_with fail
      go_still_tail 8, (by kernel_rfl)
      change wpList _ _ _ _ _ wr.drew
      have hdw : Below wr.heap.size wr wr.drew := ⟨rfl, rfl, rfl, Nat.le_refl _, fun _ _ => rfl⟩
      have HC2 := Lib.hid (HC.out _ hdw)
      clear HC
      generalize wr.drew = w2 at hdw HC2 ⊢
      clear c0 c1 c2 f0 f1 f2
      go_wp2_with fail
      refine (HC2.out).mono ?_; rintro e w' ⟨rfl, hb⟩
      have hw2 := (hw.trans (hdw.mono hw.size)).trans (hb.mono (Nat.le_trans hw.size hdw.size))
      clear HC2
      go_wp2_with fail
      go_roundw
      case rel => exact ⟨k + 1, by omega, by go_num, hw2⟩
      case measure => simp [intOf]; omega
    · have hi : ¬ (k : Int) < (l.length : Int) := by omega
      go_wp2_with fail
      go_ret
      exact ⟨rfl, hw⟩

set_option maxRecDepth 100000 in
set_option maxHeartbeats 1600000 in
theorem eqProgram (l : List Fn) (a b : Option Addr) (ca cb : Nat) (w : World) (hP : Pat w 0 w.heap.size l a) (hQ : Pat w 0 w.heap.size l b) (hl : l.length ≤ maxLen) :
    Calls Tryz.prog 16 #[.agg #[.slice a l.length ca], .agg #[.slice b l.length cb]] w fun e w' => e = .returned (.bool true) ∧ Below w.heap.size w w' := by
  have B1 : ∀ o, Below w.heap.size w (w.alloc o) := fun o => (Below.refl _ _).alloc (Nat.le_refl _) o
  go_enter Tryz.func16, Tryz.ntmps16
  go_wp2_with fail
  refine (eqFuncS l a b ca cb _ ((hP.below ((B1 _).alloc (by simp) _)).mono (Nat.le_refl _) (by simp; omega)) ((hQ.below ((B1 _).alloc (by simp) _)).mono (Nat.le_refl _) (by simp; omega)) hl).mono ?_; rintro e w' ⟨rfl, hb⟩
  have hB := ((B1 _).alloc (by simp) _).trans (hb.mono (by simp; omega))
  go_wp2_with fail
  go_ret
  exact ⟨rfl, hB⟩

end Go.Proofs.YtoedccgiahegnaaGreat
