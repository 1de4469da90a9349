/- Marks written into copies by the laws. Marks written into programs by the laws. -/
import Derived.Deep.RegionWith
import Derived.Laws.Concat
import Derived.Laws.BytesString
import Derived.Laws.IdiomStrings
import Derived.Laws.Cover4
import Derived.StillTailTactics
import Derived.IntWalk
import Derived.Test.YtoedccgiahegnaaGreatEq
namespace Go.Proofs.YtoedccgiahegnaaGreat
open Go.RowKit
set_option linter.unusedVariables false

/-- The shape of a tree that may be written: whatever its numbers are. -/
def Shp (w : World) (L B : Nat) : Fo → Nat → Nat → Prop
  | .nil, _, _ => True
  | .cons _ _ _ _ ks r, b, j => ∃ b' cap, (L ≤ b ∧ b < B) ∧ (∀ o, w.frozen? ⟨b, o, none⟩ = false) ∧ ks.len ≤ maxLen ∧
      (∃ x : Int, w.cell? ⟨b, j * 5, none⟩ = some (.int .i64 x)) ∧ (∃ x : Int, w.cell? ⟨b, j * 5 + 1, none⟩ = some (.int .i64 x)) ∧ (∃ x : Int, w.cell? ⟨b, j * 5 + 2, none⟩ = some (.int .i64 x)) ∧ (∃ x : Int, w.cell? ⟨b, j * 5 + 3, none⟩ = some (.int .i64 x)) ∧
      w.cell? ⟨b, j * 5 + 4, none⟩ = some (.slice (some ⟨b', 0, none⟩) ks.len cap) ∧ Shp w L B ks b' 0 ∧ Shp w L B r b (j + 1)
theorem Wat.shp {w : World} {L B : Nat} {f : Fo} : ∀ {b j : Nat}, Wat w L B f b j → Shp w L B f b j := by
  induction f with
  | nil => intro b j _; trivial
  | cons k n p c ks r ihk ihr =>
    intro b j h
    obtain ⟨b', cap, hb, hf, hr, hl, h0, h1, h2, h3, h4, hk, hr'⟩ := h
    exact ⟨b', cap, hb, hf, hl, ⟨_, h0⟩, ⟨_, h1⟩, ⟨_, h2⟩, ⟨_, h3⟩, h4, ihk hk, ihr hr'⟩

/-- Only numbers in trees have turned, in blocks from L on and ahead of B. -/
structure Mk (L B : Nat) (w w' : World) : Prop where
  os : w'.os = w.os
  tape : w'.tape = w.tape
  output : w'.output = w.output
  size : w'.heap.size = w.heap.size
  block : ∀ k, ¬ (L ≤ k ∧ k < B) → w'.heap[k]? = w.heap[k]?
  frz : ∀ b o, w'.frozen? ⟨b, o, none⟩ = w.frozen? ⟨b, o, none⟩
  kids : ∀ b j v, w.cell? ⟨b, j * 5 + 4, none⟩ = some v → w'.cell? ⟨b, j * 5 + 4, none⟩ = some v
  ints : ∀ b o, (∃ x : Int, w.cell? ⟨b, o, none⟩ = some (.int .i64 x)) → ∃ x : Int, w'.cell? ⟨b, o, none⟩ = some (.int .i64 x)
theorem Mk.refl (L B : Nat) (w : World) : Mk L B w w := ⟨rfl, rfl, rfl, rfl, fun _ _ => rfl, fun _ _ => rfl, fun _ _ _ h => h, fun _ _ h => h⟩
theorem Mk.trans {L B : Nat} {a b c : World} (h : Mk L B a b) (k : Mk L B b c) : Mk L B a c :=
  ⟨k.os.trans h.os, k.tape.trans h.tape, k.output.trans h.output, k.size.trans h.size, fun i hi => (k.block i hi).trans (h.block i hi), fun x o => (k.frz x o).trans (h.frz x o), fun x j v hv => k.kids x j v (h.kids x j v hv), fun x o hx => k.ints x o (h.ints x o hx)⟩
theorem Mk.set {L B : Nat} {w : World} {b o : Nat} {x : Int} (hb : L ≤ b ∧ b < B) (ho : o % 5 ≠ 4) (hx : ∃ y : Int, w.cell? ⟨b, o, none⟩ = some (.int .i64 y)) : Mk L B w (w.setCell ⟨b, o, none⟩ (.int .i64 x)) := by
  obtain ⟨y, hy⟩ := hx
  refine ⟨rfl, rfl, rfl, by simp, fun k hk => Below.heap_setCell _ _ _ _ (by show k ≠ b; omega), fun c q => by simp, fun c j v hv => ?_, fun c q hq => ?_⟩
  · rw [World.cell?_setCell_other _ _ _ _ (by intro e; simp only [Addr.mk.injEq] at e; omega)]; exact hv
  · by_cases he : (⟨c, q, none⟩ : Addr) = ⟨b, o, none⟩
    · rw [he]; exact ⟨x, World.cell?_setCell_same _ _ _ hy⟩
    · rw [World.cell?_setCell_other _ _ _ _ (fun e => he e.symm)]; exact hq
theorem Shp.mk {w w' : World} {L B L' B' : Nat} (h : Mk L' B' w w') {f : Fo} : ∀ {b j : Nat}, Shp w L B f b j → Shp w' L B f b j := by
  induction f with
  | nil => intro b j _; trivial
  | cons k n p c ks r ihk ihr =>
    intro b j g
    obtain ⟨b', cap, hb, hf, hl, h0, h1, h2, h3, h4, hk, hr'⟩ := g
    exact ⟨b', cap, hb, fun o => (h.frz b o).trans (hf o), hl, h.ints _ _ h0, h.ints _ _ h1, h.ints _ _ h2, h.ints _ _ h3, h.kids _ _ _ h4, ihk hk, ihr hr'⟩
theorem Shp.drop {w : World} {L B : Nat} {f : Fo} : ∀ {i b j : Nat}, Shp w L B f b j → i ≤ f.len → Shp w L B (Fo.drop i f) b (j + i) := by
  induction f with
  | nil => intro i b j _ _; rw [Fo.drop_nil]; trivial
  | cons k n p c ks r _ ihr =>
    intro i b j h hi
    cases i with
    | zero => rw [Fo.drop_zero, Nat.add_zero]; exact h
    | succ i =>
      obtain ⟨b', cap, hb, hf, hl, h0, h1, h2, h3, h4, hk, hr'⟩ := h
      have := ihr (i := i) hr' (by simp only [Fo.len] at hi; omega)
      rw [show j + (i + 1) = j + 1 + i from by omega]
      exact this

set_option maxRecDepth 100000 in
set_option maxHeartbeats 3200000 in
theorem markExprS_all (L B : Nat) : ∀ (m : Nat) (f : Fo), f.size < m → ∀ (b cap : Nat) (k0 : Int) (w : World), Shp w L B f b 0 → f.size ≤ 1048576 → 0 ≤ k0 → k0 + 4 * (f.size : Int) ≤ 1099511627776 →
    Calls Tryz.prog 76 #[.slice (some ⟨b, 0, none⟩) f.len cap, .int .i64 k0] w fun e w' => e = .returned (.int .i64 (k0 + 4 * (f.size : Int))) ∧ Mk L B w w' := by
  intro m
  induction m with
  | zero => intro f hf; omega
  | succ m ih =>
    intro f hf b cap k0 w hS hsz hk0 hk1
    have hlen : f.len ≤ 1048576 := by have := Fo.len_le f; omega
    have H0 : Hid (k0 + 4 * (f.size : Int) = k0 + 4 * ((Fo.drop 0 f).size : Int)) := by show _ = _; rw [Fo.drop_zero]
    have hS0 := Lib.hid hS
    have hM0 : Mk L B w w := Mk.refl _ _ _
    go_enter Tryz.func76, Tryz.ntmps76
    go_wp2_with fail
    go_loopw [1, 5] (fun q i wr => ∃ (t : Nat) (x : Int), t ≤ f.len ∧ i = .int .i64 t ∧ q = .int .i64 x ∧ 0 ≤ x ∧ Hid (k0 + 4 * (f.size : Int) = x + 4 * ((Fo.drop t f).size : Int)) ∧ Mk L B w wr) (fun _ i _ => f.len - (intOf i).toNat)
    case atStart => exact ⟨0, k0, Nat.zero_le _, rfl, rfl, hk0, H0, hM0⟩
    case round =>
      obtain ⟨t, x, ht, rfl, rfl, hx0, HX, hM⟩ := hrel
      clear H0 hM0
      by_cases hlt : t < f.len
      · have hti : (t : Int) < (f.len : Int) := by omega
        obtain ⟨k1, n1, p1, c1, ks, hdr⟩ := Fo.drop_at hlt
        have hlt' := Fo.kid_lt hdr
        have hSr : Shp wr L B (Fo.drop t f) b (0 + t) := (hS0.out.mk hM).drop (by omega)
        have hU : (Fo.drop t f).size = ks.size + 1 + (Fo.drop (t + 1) f).size := by rw [hdr]; show ks.size + _ + 1 = _; omega
        rw [hdr, Nat.zero_add] at hSr
        obtain ⟨b', cap', hb, hf', hl, ⟨x0, g0⟩, ⟨x1, g1⟩, ⟨x2, g2⟩, ⟨x3, g3⟩, g4, hk, _⟩ := hSr
        have hsum : x + 4 * ((ks.size : Int) + 1 + ((Fo.drop (t + 1) f).size : Int)) ≤ 1099511627776 := by
          have := HX.out
          omega
        have HX2 : Hid (k0 + 4 * (f.size : Int) = x + 1 + 1 + 1 + 1 + 4 * (ks.size : Int) + 4 * ((Fo.drop (t + 1) f).size : Int)) := by
          show _ = _
          have := HX.out
          omega
        have hkl : ks.size ≤ 1048576 := by omega
        have hxx : x + 4 + 4 * (ks.size : Int) ≤ 1099511627776 := by omega
        have q0 := hf' (t * 5)
        have q1 := hf' (t * 5 + 1)
        have q2 := hf' (t * 5 + 2)
        have q3 := hf' (t * 5 + 3)
        have hM4 : Mk L B wr ((((wr.setCell ⟨b, t * 5, none⟩ (.int .i64 x)).setCell ⟨b, t * 5 + 1, none⟩ (.int .i64 (x + 1))).setCell ⟨b, t * 5 + 2, none⟩ (.int .i64 (x + 1 + 1))).setCell ⟨b, t * 5 + 3, none⟩ (.int .i64 (x + 1 + 1 + 1))) := by
          have s0 := Mk.set (w := wr) (o := t * 5) (x := x) hb (by omega) ⟨x0, g0⟩
          have s1 := s0.trans (Mk.set (o := t * 5 + 1) (x := x + 1) hb (by omega) (s0.ints b _ ⟨x1, g1⟩))
          have s2 := s1.trans (Mk.set (o := t * 5 + 2) (x := x + 1 + 1) hb (by omega) (s1.ints b _ ⟨x2, g2⟩))
          exact s2.trans (Mk.set (o := t * 5 + 3) (x := x + 1 + 1 + 1) hb (by omega) (s2.ints b _ ⟨x3, g3⟩))
        have HC := Lib.hid (ih ks (by omega) b' cap' (x + 1 + 1 + 1 + 1) _ (hk.mk hM4) hkl (by omega) (by omega))
        clear hU hdr hlt' hk HX ih
        go_wp2_with fail
        refine (HC.out).mono ?_; rintro e w' ⟨rfl, hM5⟩
        have hM6 := hM.trans (hM4.trans hM5)
        have hy0 : 0 ≤ x + 1 + 1 + 1 + 1 + 4 * (ks.size : Int) := by omega
        clear HC hM4 hM5 q0 q1 q2 q3 g0 g1 g2 g3 g4
        generalize x + 1 + 1 + 1 + 1 + 4 * (ks.size : Int) = y at HX2 hy0
        go_wp2_with fail
        go_roundw
        case rel => exact ⟨t + 1, y, by omega, by go_num, rfl, hy0, HX2, hM6⟩
        case measure => simp [intOf]; omega
      · have hti : ¬ (t : Int) < (f.len : Int) := by omega
        have HX2 : Hid (k0 + 4 * (f.size : Int) = x) := by
          show _ = _
          rw [HX.out, Fo.drop_end (by omega)]
          show x + 4 * (0 : Int) = x
          omega
        clear HX
        go_wp2_with fail
        go_ret
        exact ⟨ret_int HX2.out.symm, hM⟩

end Go.Proofs.YtoedccgiahegnaaGreat

namespace Go.Proofs.YtoedccgiahegnaaGreat
open Go.RowKit
set_option linter.unusedVariables false

def mtDig (n : Nat) : UInt8 := UInt8.ofNat (48 + n)
def mtStr (l : List UInt8) : ByteArray := ⟨l.toArray⟩
theorem mtStr_size (l : List UInt8) : (mtStr l).size = l.length := by simp [mtStr, ByteArray.size]
theorem mt_conv {n : Nat} (h : n < 10) (v : World) (b : Nat) (hc : v.cell? ⟨b, 0, none⟩ = some (.int .u8 (48 + (n : Int)))) :
    (convert 143 9 (.slice (some ⟨b, 0, none⟩) 1 1)).run Tryz.prog v = .ok (.string (mtStr [mtDig n])) v := by
  refine run_convert_bytes_back _ _ _ 5 ⟨b, 0, none⟩ 1 [mtDig n] Tryz.underlying143 Tryz.underlying5 Tryz.underlying9 ?_
  intro j hj
  have hj0 : j = 0 := by simpa using hj
  subst hj0
  have e : ((⟨b, 0, none⟩ : Addr).add 0) = ⟨b, 0, none⟩ := rfl
  have e1 : (mtDig n).toNat = 48 + n := by unfold mtDig; simp; omega
  rw [e, hc]
  show some (Value.int .u8 (48 + (n : Int))) = some (Value.int .u8 ((mtDig n).toNat : Int))
  rw [e1]; congr 2
theorem mt_u8 {x : Int} (h0 : 0 ≤ x) (h1 : x < 256) : IntKind.u8.wrap x = x := by
  have e : IntKind.u8.wrap x = x % 256 := rfl
  rw [e]; omega

def TextRes (k : Nat) (w : World) (e : Ending) (w' : World) : Prop := ∃ s : ByteArray, e = .returned (.string s) ∧ s.size ≤ k + 2 ∧ Below w.heap.size w w'

set_option maxRecDepth 100000 in
set_option maxHeartbeats 1600000 in
theorem markText (k : Nat) (w : World) (hk : k ≤ 1099511627776) : Calls Tryz.prog 75 #[.int .i64 k] w (TextRes k w) := by
  by_cases h0 : k = 0
  · subst h0
    go_enter Tryz.func75, Tryz.ntmps75
    go_wp2_with fail
    go_ret
    exact ⟨_, rfl, by simp [ByteArray.size], Below.refl _ _⟩
  · have hki : ¬ (k : Int) ≤ 0 := by omega
    go_enter Tryz.func75, Tryz.ntmps75
    go_wp2_with fail
    go_loopw [0, 3] (fun q t wr => ∃ (x : Nat) (s : ByteArray), q = .int .i64 x ∧ t = .string s ∧ s.size + x ≤ k ∧ Below w.heap.size w wr) (fun q _ _ => (intOf q).toNat)
    case atStart => exact ⟨k, ⟨#[]⟩, rfl, rfl, by simp [ByteArray.size], Below.refl _ _⟩
    case round =>
      obtain ⟨x, s, rfl, rfl, hsx, hw⟩ := hrel
      by_cases hx : 0 < x
      · have hxi : (0 : Int) < (x : Int) := by omega
        obtain ⟨q, hq⟩ : ∃ q : Nat, q = x / 10 := ⟨_, rfl⟩
        obtain ⟨r, hr⟩ : ∃ r : Nat, r = x % 10 := ⟨_, rfl⟩
        have hlt : r < 10 := by omega
        have hcv := mt_conv hlt
        have q1 : (x : Int) / 10 = (q : Int) := by omega
        have q2 : (x : Int).tdiv 10 = (q : Int) := by rw [Int.tdiv_eq_ediv_of_nonneg (by omega)]; exact q1
        have r1 : (x : Int) % 10 = (r : Int) := by omega
        have r2 : (x : Int).tmod 10 = (r : Int) := by rw [Int.tmod_eq_emod_of_nonneg (by omega)]; exact r1
        have w3 : IntKind.u8.wrap (48 + (r : Int)) = 48 + (r : Int) := mt_u8 (by omega) (by omega)
        have hs2 : (mtStr [mtDig r]).size ≤ 1 := by rw [mtStr_size]; exact Nat.le_refl _
        have hs3 : s.size ≤ 1099511627776 := by omega
        have hqx : q < x := by omega
        have hsq : s.size + 1 + q ≤ k := by omega
        clear hq hr hsx
        generalize mtStr [mtDig r] = s2 at hcv hs2
        go_wp2_with fail
        exact ⟨⟨q, s2 ++ s, rfl, rfl, by rw [ByteArray.size_append]; omega, hw.alloc hw.size _⟩, by simp [intOf]; omega⟩
      · have hxi : ¬ (0 : Int) < (x : Int) := by omega
        have hs3 : s.size ≤ 1099511627776 := by omega
        go_wp2_with fail
        go_ret
        exact ⟨_, rfl, by rw [ByteArray.size_append]; show 1 + s.size ≤ k + 2; omega, hw⟩

/-- The shape of functions that may be written. -/
def Spt (w : World) (L B : Nat) (l : List Fn) (b : Nat) : Prop :=
  (L ≤ b ∧ b < B) ∧ (∀ o, w.frozen? ⟨b, o, none⟩ = false) ∧ ∀ i, i < l.length → (l.getD i noFn).outs.size ≤ 1048576 ∧ ∃ b' cap,
    (∃ s, w.cell? ⟨b, i * 3, none⟩ = some (.string s)) ∧ (∃ x : Int, w.cell? ⟨b, i * 3 + 1, none⟩ = some (.int .i64 x)) ∧
    w.cell? ⟨b, i * 3 + 2, none⟩ = some (.slice (some ⟨b', 0, none⟩) (l.getD i noFn).outs.len cap) ∧ Shp w (b + 1) B (l.getD i noFn).outs b' 0
theorem Wpt.spt {w : World} {L B : Nat} {l : List Fn} {b : Nat} (h : Wpt w L B l b) (hs : pgSize l ≤ 1048576) : Spt w L B l b := by
  obtain ⟨hb, hf, h⟩ := h
  refine ⟨hb, hf, fun i hi => ?_⟩
  obtain ⟨hr, b', cap, h0, h1, h2, h3⟩ := h i hi
  have h4 := fnsSize_le hi
  refine ⟨by unfold pgSize at hs; unfold Fn.size at h4; omega, b', cap, ⟨_, h0⟩, ⟨_, h1⟩, h2, h3.shp⟩

/-- Only blocks from L on and ahead of B have turned, and new ones. -/
structure Out (L B : Nat) (w w' : World) : Prop where
  os : w'.os = w.os
  tape : w'.tape = w.tape
  output : w'.output = w.output
  size : w.heap.size ≤ w'.heap.size
  block : ∀ k, k < w.heap.size → ¬ (L ≤ k ∧ k < B) → w'.heap[k]? = w.heap[k]?
theorem Out.trans {L B : Nat} {a b c : World} (h : Out L B a b) (k : Out L B b c) : Out L B a c :=
  ⟨k.os.trans h.os, k.tape.trans h.tape, k.output.trans h.output, Nat.le_trans h.size k.size, fun i hi hn => (k.block i (Nat.lt_of_lt_of_le hi h.size) hn).trans (h.block i hi hn)⟩
theorem Out.of_below {L B : Nat} {a b : World} (h : Below a.heap.size a b) : Out L B a b := ⟨h.os, h.tape, h.output, h.size, fun i hi _ => h.block i hi⟩
theorem Out.of_mk {L L' B : Nat} {a b : World} (h : Mk L' B a b) (hL : L ≤ L') : Out L B a b := ⟨h.os, h.tape, h.output, by rw [h.size]; exact Nat.le_refl _, fun i _ hn => h.block i (by omega)⟩
theorem Out.set {L B : Nat} {a : World} {p : Addr} {v : Value} (h : L ≤ p.block ∧ p.block < B) : Out L B a (a.setCell p v) :=
  ⟨rfl, rfl, rfl, by simp, fun i _ hn => Below.heap_setCell _ _ _ _ (by intro e; exact hn (e ▸ h))⟩

/-- What of a block of functions stays while marks are written: which cells are strings, which numbers, and the lists. -/
structure Mp (L B b : Nat) (w w' : World) : Prop where
  out : Out L B w w'
  frz : ∀ c o, c < w.heap.size → w'.frozen? ⟨c, o, none⟩ = w.frozen? ⟨c, o, none⟩
  outs : ∀ j v, w.cell? ⟨b, j * 3 + 2, none⟩ = some v → w'.cell? ⟨b, j * 3 + 2, none⟩ = some v
  strs : ∀ j, (∃ s, w.cell? ⟨b, j * 3, none⟩ = some (.string s)) → ∃ s, w'.cell? ⟨b, j * 3, none⟩ = some (.string s)
  ints : ∀ j, (∃ x : Int, w.cell? ⟨b, j * 3 + 1, none⟩ = some (.int .i64 x)) → ∃ x : Int, w'.cell? ⟨b, j * 3 + 1, none⟩ = some (.int .i64 x)
  trees : ∀ {f : Fo} {c i : Nat}, Shp w (b + 1) B f c i → Shp w' (b + 1) B f c i
theorem Mp.refl (L B b : Nat) (w : World) : Mp L B b w w := ⟨⟨rfl, rfl, rfl, Nat.le_refl _, fun _ _ _ => rfl⟩, fun _ _ _ => rfl, fun _ _ h => h, fun _ h => h, fun _ h => h, fun h => h⟩
theorem Mp.trans {L B b : Nat} {x y z : World} (h : Mp L B b x y) (k : Mp L B b y z) : Mp L B b x z :=
  ⟨h.out.trans k.out, fun c o hc => (k.frz c o (Nat.lt_of_lt_of_le hc h.out.size)).trans (h.frz c o hc), fun j v hv => k.outs j v (h.outs j v hv), fun j hj => k.strs j (h.strs j hj), fun j hj => k.ints j (h.ints j hj), fun ht => k.trees (h.trees ht)⟩
theorem Shp.agree {w w' : World} {L B : Nat} (hb : ∀ k, L ≤ k → k < B → w'.heap[k]? = w.heap[k]?) {f : Fo} : ∀ {b j : Nat}, Shp w L B f b j → Shp w' L B f b j := by
  induction f with
  | nil => intro b j _; trivial
  | cons k n p c ks r ihk ihr =>
    intro b j h
    obtain ⟨b', cap, hB, hf, hl, ⟨x0, h0⟩, ⟨x1, h1⟩, ⟨x2, h2⟩, ⟨x3, h3⟩, h4, hk, hr'⟩ := h
    have cl : ∀ o v, w.cell? ⟨b, o, none⟩ = some v → w'.cell? ⟨b, o, none⟩ = some v := fun o v h => (World.cell?_of_block (a := ⟨b, o, none⟩) (hb b hB.1 hB.2)).trans h
    exact ⟨b', cap, hB, fun o => (World.frozen?_of_block (a := ⟨b, o, none⟩) (hb b hB.1 hB.2)).trans (hf o), hl, ⟨x0, cl _ _ h0⟩, ⟨x1, cl _ _ h1⟩, ⟨x2, cl _ _ h2⟩, ⟨x3, cl _ _ h3⟩, cl _ _ h4, ihk hk, ihr hr'⟩
theorem Mp.of_below {L B b : Nat} {x y : World} (h : Below x.heap.size x y) (hB : B ≤ x.heap.size) (hb : b < B) : Mp L B b x y := by
  have cl : ∀ o v, x.cell? ⟨b, o, none⟩ = some v → y.cell? ⟨b, o, none⟩ = some v := fun o v hv => (h.cell (p := ⟨b, o, none⟩) (by show b < _; omega)).trans hv
  exact ⟨Out.of_below h, fun c o hc => h.frozen (p := ⟨c, o, none⟩) hc, fun j v hv => cl _ _ hv, fun j ⟨s, hs⟩ => ⟨s, cl _ _ hs⟩, fun j ⟨s, hs⟩ => ⟨s, cl _ _ hs⟩, fun ht => ht.agree (fun k _ hk => h.block k (by omega))⟩
theorem Mp.of_mk {L B b : Nat} {x y : World} (h : Mk (b + 1) B x y) (hL : L ≤ b) : Mp L B b x y := by
  have cl : ∀ o v, x.cell? ⟨b, o, none⟩ = some v → y.cell? ⟨b, o, none⟩ = some v := fun o v hv => (World.cell?_of_block (a := ⟨b, o, none⟩) (h.block b (by omega))).trans hv
  exact ⟨Out.of_mk h (by omega), fun c o _ => h.frz c o, fun j v hv => cl _ _ hv, fun j ⟨s, hs⟩ => ⟨s, cl _ _ hs⟩, fun j ⟨s, hs⟩ => ⟨s, cl _ _ hs⟩, fun ht => ht.mk h⟩
theorem Mp.setS {L B b j : Nat} {x : World} {s : ByteArray} (hb : L ≤ b ∧ b < B) (hs : ∃ t, x.cell? ⟨b, j * 3, none⟩ = some (.string t)) : Mp L B b x (x.setCell ⟨b, j * 3, none⟩ (.string s)) := by
  obtain ⟨t, ht⟩ := hs
  refine ⟨Out.set hb, fun c o _ => by simp, fun i v hv => ?_, fun i hi => ?_, fun i hi => ?_, fun hT => hT.agree (fun k hk _ => Below.heap_setCell _ _ _ _ (by show k ≠ b; omega))⟩
  · rw [World.cell?_setCell_other _ _ _ _ (by intro e; simp only [Addr.mk.injEq] at e; omega)]; exact hv
  · by_cases he : i = j
    · subst he; exact ⟨s, World.cell?_setCell_same _ _ _ ht⟩
    · rw [World.cell?_setCell_other _ _ _ _ (by intro e; simp only [Addr.mk.injEq] at e; omega)]; exact hi
  · rw [World.cell?_setCell_other _ _ _ _ (by intro e; simp only [Addr.mk.injEq] at e; omega)]; exact hi
theorem Mp.setI {L B b j : Nat} {x : World} {n : Int} (hb : L ≤ b ∧ b < B) (hs : ∃ t : Int, x.cell? ⟨b, j * 3 + 1, none⟩ = some (.int .i64 t)) : Mp L B b x (x.setCell ⟨b, j * 3 + 1, none⟩ (.int .i64 n)) := by
  obtain ⟨t, ht⟩ := hs
  refine ⟨Out.set hb, fun c o _ => by simp, fun i v hv => ?_, fun i hi => ?_, fun i hi => ?_, fun hT => hT.agree (fun k hk _ => Below.heap_setCell _ _ _ _ (by show k ≠ b; omega))⟩
  · rw [World.cell?_setCell_other _ _ _ _ (by intro e; simp only [Addr.mk.injEq] at e; omega)]; exact hv
  · rw [World.cell?_setCell_other _ _ _ _ (by intro e; simp only [Addr.mk.injEq] at e; omega)]; exact hi
  · by_cases he : i = j
    · subst he; exact ⟨n, World.cell?_setCell_same _ _ _ ht⟩
    · rw [World.cell?_setCell_other _ _ _ _ (by intro e; simp only [Addr.mk.injEq] at e; omega)]; exact hi

def MarkRes (L B b : Nat) (M : Int) (w : World) (e : Ending) (w' : World) : Prop := ∃ x : Nat, e = .returned (.int .i64 x) ∧ (x : Int) ≤ M ∧ Mp L B b w w'

set_option maxRecDepth 100000 in
set_option maxHeartbeats 3200000 in
theorem markFuncS (L B : Nat) (l : List Fn) (b cap : Nat) (k0 : Nat) (w : World) (hS : Spt w L B l b) (hB : B ≤ w.heap.size) (hs : pgSize l ≤ 1048576) (hk : k0 ≤ 1048576) :
    Calls Tryz.prog 42 #[.slice (some ⟨b, 0, none⟩) l.length cap, .int .i64 k0] w (MarkRes L B b ((k0 : Int) + 4 * (pgSize l : Int)) w) := by
  have hl : l.length ≤ 1048576 := by unfold pgSize at hs; omega
  obtain ⟨hb, hfz, hall⟩ := hS
  have HA := Lib.hid hall
  clear hall
  have H0 : (k0 : Int) + 4 * ((fnsSize (l.drop 0) : Int) + ((l.length : Int) - (0 : Nat))) ≤ (k0 : Int) + 4 * (pgSize l : Int) := by rw [List.drop_zero]; unfold pgSize; omega
  have hM : (k0 : Int) + 4 * (pgSize l : Int) ≤ 8388608 := by omega
  have hM0 : Mp L B b w w := Mp.refl _ _ _ _
  generalize (k0 : Int) + 4 * (pgSize l : Int) = M at H0 hM
  go_enter Tryz.func42, Tryz.ntmps42
  go_wp2_with fail
  go_loopw [1, 5] (fun q i wr => ∃ (t x : Nat), t ≤ l.length ∧ i = .int .i64 t ∧ q = .int .i64 x ∧ (x : Int) + 4 * ((fnsSize (l.drop t) : Int) + ((l.length : Int) - (t : Int))) ≤ M ∧ Mp L B b w wr) (fun _ i _ => l.length - (intOf i).toNat)
  case atStart => exact ⟨0, k0, Nat.zero_le _, rfl, rfl, H0, hM0⟩
  case round =>
    obtain ⟨t, x, ht, rfl, rfl, hx, hMp⟩ := hrel
    clear H0 hM0
    by_cases hlt : t < l.length
    · have hti : (t : Int) < (l.length : Int) := by omega
      obtain ⟨hos, b', cap', hs0, hi0, g2, hsh⟩ := HA.out t hlt
      have hfd := fnsSize_drop hlt
      have hx2 : (x : Int) + 1 + 1 + 4 * ((l.getD t noFn).outs.size : Int) + 4 * ((fnsSize (l.drop (t + 1)) : Int) + ((l.length : Int) - ((t + 1 : Nat) : Int))) ≤ M := by
        unfold Fn.size at hfd
        omega
      have hxs : x ≤ 8388608 := by omega
      have HT := fun W => Lib.hid (markText x W (by omega))
      have q2 := hMp.outs _ _ g2
      have qs := hMp.strs _ hs0
      have qi := hMp.ints _ hi0
      have qt := hMp.trees hsh
      have hBw : B ≤ wr.heap.size := Nat.le_trans hB hMp.out.size
      have fr0 : ∀ o, wr.frozen? ⟨b, o, none⟩ = false := fun o => (hMp.frz b o (by omega)).trans (hfz o)
      clear hfd hs0 hi0 g2 hsh hx
      generalize (l.getD t noFn).outs = ou at hos q2 qt hx2
      go_wp2_with fail
      refine (HT _).out.mono ?_; rintro e w1 ⟨s, rfl, hss, hb1⟩
      have hP1 : Mp L B b wr w1 := Mp.of_below hb1 hBw hb.2
      obtain ⟨s0, c0⟩ := hP1.strs _ qs
      obtain ⟨x0, c1⟩ := hP1.ints _ qi
      have c2 := hP1.outs _ _ q2
      have f0 : w1.frozen? ⟨b, t * 3, none⟩ = false := (hP1.frz b _ (by omega)).trans (fr0 _)
      have f1 : w1.frozen? ⟨b, t * 3 + 1, none⟩ = false := (hP1.frz b _ (by omega)).trans (fr0 _)
      have hP2 : Mp L B b w1 ((w1.setCell ⟨b, t * 3, none⟩ (.string s)).setCell ⟨b, t * 3 + 1, none⟩ (.int .i64 ((x : Int) + 1))) := by
        have a1 := Mp.setS (x := w1) (s := s) hb ⟨s0, c0⟩
        exact a1.trans (Mp.setI (n := (x : Int) + 1) hb (a1.ints _ ⟨x0, c1⟩))
      have hP12 := hP1.trans hP2
      have qt2 := hP12.trees qt
      have HC := Lib.hid (markExprS_all (b + 1) B (ou.size + 1) ou (by omega) b' cap' ((x : Int) + 1 + 1) _ qt2 hos (by omega) (by omega))
      clear HT qt q2 qs qi fr0
      go_wp2_with fail
      refine (HC.out).mono ?_; rintro e w2 ⟨rfl, hM2⟩
      have hMp2 := hMp.trans (hP12.trans (Mp.of_mk hM2 hb.1))
      obtain ⟨y, hy⟩ : ∃ y : Nat, (y : Int) = (x : Int) + 1 + 1 + 4 * (ou.size : Int) := ⟨x + 1 + 1 + 4 * ou.size, by omega⟩
      rw [← hy] at hx2 ⊢
      clear hy HC c0 c1 c2 f0 f1 qt2
      go_wp2_with fail
      go_roundw
      case rel => exact ⟨t + 1, y, by omega, by go_num, rfl, hx2, hMp2⟩
      case measure => simp [intOf]; omega
    · have hti : ¬ (t : Int) < (l.length : Int) := by omega
      have hxM : (x : Int) ≤ M := by omega
      clear hx
      go_wp2_with fail
      go_ret
      exact ⟨x, rfl, hxM, hMp⟩

set_option maxRecDepth 100000 in
set_option maxHeartbeats 3200000 in
theorem markProgram (L B : Nat) (l : List Fn) (b cap : Nat) (k0 : Nat) (w : World) (hS : Spt w L B l b) (hB : B ≤ w.heap.size) (hs : pgSize l ≤ 1048576) (hk : k0 ≤ 1048576) :
    Calls Tryz.prog 17 #[.agg #[.slice (some ⟨b, 0, none⟩) l.length cap], .int .i64 k0] w (MarkRes L B b ((k0 : Int) + 4 * (pgSize l : Int)) w) := by
  have hb0 : Below w.heap.size w (w.alloc (.cells #[.slice (some ⟨b, 0, none⟩) l.length cap] 31)) := (Below.refl _ _).alloc (Nat.le_refl _) _
  have hbB := hS.1
  have hP0 : Mp L B b w (w.alloc (.cells #[.slice (some ⟨b, 0, none⟩) l.length cap] 31)) := Mp.of_below hb0 hB hbB.2
  have hS0 : Spt (w.alloc (.cells #[.slice (some ⟨b, 0, none⟩) l.length cap] 31)) L B l b := by
    obtain ⟨h1, h2, h3⟩ := hS
    refine ⟨h1, fun o => (hP0.frz b o (by omega)).trans (h2 o), fun i hi => ?_⟩
    obtain ⟨g0, b', cap', g1, g2, g3, g4⟩ := h3 i hi
    exact ⟨g0, b', cap', hP0.strs _ g1, hP0.ints _ g2, hP0.outs _ _ g3, hP0.trees g4⟩
  have HC := Lib.hid (markFuncS L B l b cap k0 _ hS0 (by simp; omega) hs hk)
  clear hS hS0
  go_enter Tryz.func17, Tryz.ntmps17
  go_wp2_with fail
  refine (HC.out).mono ?_; rintro e w1 ⟨x, rfl, hx, hM⟩
  have hM2 := hP0.trans hM
  clear HC
  go_wp2_with fail
  go_ret
  exact ⟨x, rfl, hx, hM2⟩

end Go.Proofs.YtoedccgiahegnaaGreat
