/- Arguments, read as data: what a walk is told of each. Expressions as trees, and where they lie in memory. Programs, and where they lie in memory. Names: the model's and the program's. Which programs are valid: plain functions on trees. What is left of a number of places. Sizes of expressions and programs, as the laws count them. -/
import Derived.ProofKit
import Derived.OpenShut
import Derived.ShutString
import Derived.ChangeOld
import Derived.Test.YtoedccgiahegnaaGreatBase
namespace Go.Proofs.YtoedccgiahegnaaGreat
open Go.ChangeShapes Go.WideShapes Go.ChangeAt Go.RowKit

/-- a string that came in -/
def IsStr (_ : World) (v : Value) : Prop := ∃ s : ByteArray, v = .string s ∧ s.size ≤ maxLen
set_option maxRecDepth 100000 in
theorem openStr {H : Type} {enc : TypeId × Value → H} {W : World} {base : Nat} {v : Value} {d : DataW H} {p : List MemPlace} (hw : Value.okWide Tryz.prog W .any base 9 v) (h : DataW.Trod enc Tryz.prog W 0 (fun _ => true) true 9 v d p) : IsStr W v := by
  obtain ⟨s, hv, _, _, hs⟩ := Go.ChangeMaps.open_string Tryz.underlying9 hw h
  exact ⟨s, hv, hs⟩
/-- an integer that came in -/
def IsI64 (_ : World) (v : Value) : Prop := ∃ n : Int, v = .int .i64 n ∧ -9223372036854775808 ≤ n ∧ n ≤ 9223372036854775807
set_option maxRecDepth 100000 in
theorem openI64 {H : Type} {enc : TypeId × Value → H} {W : World} {base : Nat} {v : Value} {d : DataW H} {p : List MemPlace} (hw : Value.okWide Tryz.prog W .any base 2 v) (h : DataW.Trod enc Tryz.prog W 0 (fun _ => true) true 2 v d p) : IsI64 W v := by
  obtain ⟨n, hv, _, _, hs⟩ := open_int Tryz.underlying2 hw h
  exact ⟨n, hv, bounds_i64 hs⟩
/-- a slice of integers that came in -/
def IsI64s (W : World) (v : Value) : Prop := ∃ a cap l, v = .slice a l.length cap ∧ At W a l ∧ Rng l ∧ l.length ≤ 9223372036854775807
set_option maxRecDepth 100000 in
theorem openI64s {H : Type} {enc : TypeId × Value → H} {W : World} {base : Nat} {v : Value} {d : DataW H} {p : List MemPlace} (hw : Value.okWide Tryz.prog W .any base 25 v) (h : DataW.Trod enc Tryz.prog W 0 (fun _ => true) true 25 v d p) : IsI64s W v := by
  obtain ⟨a0, len0, cap0, rfl⟩ := okWide_slice Tryz.underlying25 hw
  obtain ⟨z0, w0⟩ : ∃ zs, IsRow .i64 W a0 len0 cap0 zs := by
    obtain ⟨fuel, hf⟩ := h
    rcases open_ints Tryz.underlying25 Tryz.underlying2 (by kernel_rfl) hf with ⟨hcs, _⟩ | ⟨x, l, c, zs, hcs, _, hl, hm, hz, _, hcell, hwz⟩
    · simp [Value.cells] at hcs
      obtain ⟨rfl, rfl, rfl⟩ := hcs
      exact ⟨[], .inl ⟨rfl, rfl, rfl, rfl⟩⟩
    · simp [Value.cells] at hcs
      obtain ⟨rfl, rfl, rfl⟩ := hcs
      exact ⟨zs, .inr ⟨_, rfl, hl, hm, by simpa using hz, hcell, hwz⟩⟩
  obtain ⟨l, h1, h2, h3, h4⟩ := w0.open
  exact ⟨a0, cap0, l, by rw [h1], h2, h3, by rw [h1]; exact h4⟩

end Go.Proofs.YtoedccgiahegnaaGreat

namespace Go.Proofs.YtoedccgiahegnaaGreat
open Go.ChangeShapes Go.WideShapes Go.ChangeAt Go.RowKit

/-- A list of expressions: the four numbers and the kids of the first one, and the rest. -/
inductive Fo where
  | nil
  | cons (k n p c : Int) (kids rest : Fo)

def Fo.len : Fo → Nat
  | .nil => 0
  | .cons _ _ _ _ _ r => r.len + 1
/-- how many nodes -/
def Fo.size : Fo → Nat
  | .nil => 0
  | .cons _ _ _ _ ks r => ks.size + r.size + 1
def Fo.drop : Nat → Fo → Fo
  | 0, f => f
  | _ + 1, .nil => .nil
  | i + 1, .cons _ _ _ _ _ r => Fo.drop i r

theorem Fo.drop_zero (f : Fo) : Fo.drop 0 f = f := by cases f <;> rfl
theorem Fo.drop_nil (i : Nat) : Fo.drop i .nil = .nil := by cases i <;> rfl
theorem Fo.drop_at {f : Fo} {i : Nat} (h : i < f.len) : ∃ k n p c ks, Fo.drop i f = .cons k n p c ks (Fo.drop (i + 1) f) := by
  induction f generalizing i with
  | nil => simp [Fo.len] at h
  | cons k n p c ks r _ ih =>
    cases i with
    | zero => exact ⟨k, n, p, c, ks, by simp [Fo.drop]⟩
    | succ i =>
      obtain ⟨k', n', p', c', ks', h'⟩ := ih (i := i) (by simp [Fo.len] at h; omega)
      exact ⟨k', n', p', c', ks', h'⟩
theorem Fo.len_drop (f : Fo) (i : Nat) : (Fo.drop i f).len = f.len - i := by
  induction f generalizing i with
  | nil => rw [Fo.drop_nil]; simp [Fo.len]
  | cons k n p c ks r _ ih =>
    cases i with
    | zero => rfl
    | succ i => show (Fo.drop i r).len = _; rw [ih]; simp [Fo.len]
theorem Fo.drop_end {f : Fo} {i : Nat} (h : f.len ≤ i) : Fo.drop i f = .nil := by
  have := Fo.len_drop f i
  cases hf : Fo.drop i f with
  | nil => rfl
  | cons k n p c ks r => rw [hf] at this; simp [Fo.len] at this; omega
theorem Fo.len_le (f : Fo) : f.len ≤ f.size := by
  induction f with
  | nil => exact Nat.le_refl _
  | cons k n p c ks r _ ih => simp only [Fo.len, Fo.size]; omega
theorem Fo.size_drop (f : Fo) (i : Nat) : (Fo.drop i f).size ≤ f.size := by
  induction f generalizing i with
  | nil => rw [Fo.drop_nil]; exact Nat.le_refl _
  | cons k n p c ks r _ ih =>
    cases i with
    | zero => exact Nat.le_refl _
    | succ i => have := ih i; simp only [Fo.size]; show (Fo.drop i r).size ≤ _; omega
theorem Fo.kid_lt {f : Fo} {i : Nat} {k n p c : Int} {ks r : Fo} (h : Fo.drop i f = .cons k n p c ks r) : ks.size < f.size := by
  have := Fo.size_drop f i
  rw [h] at this
  simp only [Fo.size] at this
  omega

/-- four numbers that fit -/
def R4 (k n p c : Int) : Prop := (-9223372036854775808 ≤ k ∧ k ≤ 9223372036854775807) ∧ (-9223372036854775808 ≤ n ∧ n ≤ 9223372036854775807) ∧ (-9223372036854775808 ≤ p ∧ p ≤ 9223372036854775807) ∧ (-9223372036854775808 ≤ c ∧ c ≤ 9223372036854775807)

/-- The expressions lie one behind the other from the address on, in blocks from L on and ahead of B. -/
def Fat (w : World) (L B : Nat) : Fo → Option Addr → Prop
  | .nil, _ => True
  | .cons k n p c ks r, a => ∃ b off a' cap, a = some ⟨b, off, none⟩ ∧ (L ≤ b ∧ b < B) ∧ R4 k n p c ∧ ks.len ≤ maxLen ∧
      w.cell? ⟨b, off, none⟩ = some (.int .i64 k) ∧ w.cell? ⟨b, off + 1, none⟩ = some (.int .i64 n) ∧ w.cell? ⟨b, off + 2, none⟩ = some (.int .i64 p) ∧ w.cell? ⟨b, off + 3, none⟩ = some (.int .i64 c) ∧
      w.cell? ⟨b, off + 4, none⟩ = some (.slice a' ks.len cap) ∧ Fat w L B ks a' ∧ Fat w L B r (some ⟨b, off + 5, none⟩)

theorem Fat.agree {w w' : World} {L B : Nat} (hb : ∀ k, L ≤ k → k < B → w'.heap[k]? = w.heap[k]?) {f : Fo} : ∀ {a : Option Addr}, Fat w L B f a → Fat w' L B f a := by
  induction f with
  | nil => intro a _; trivial
  | cons k n p c ks r ihk ihr =>
    intro a h
    obtain ⟨b, off, a', cap, e, hB, hr, hl, h0, h1, h2, h3, h4, hk, hr'⟩ := h
    have cl : ∀ o v, w.cell? ⟨b, o, none⟩ = some v → w'.cell? ⟨b, o, none⟩ = some v := fun o v h => (World.cell?_of_block (a := ⟨b, o, none⟩) (hb b hB.1 hB.2)).trans h
    exact ⟨b, off, a', cap, e, hB, hr, hl, cl _ _ h0, cl _ _ h1, cl _ _ h2, cl _ _ h3, cl _ _ h4, ihk hk, ihr hr'⟩
theorem Fat.below {w w' : World} {L B : Nat} (hb : Below B w w') {f : Fo} {a : Option Addr} (h : Fat w L B f a) : Fat w' L B f a := Fat.agree (fun k _ h => hb.block k h) h
theorem Fat.mono {w : World} {L L' B B' : Nat} (hL : L' ≤ L) (hB : B ≤ B') {f : Fo} : ∀ {a : Option Addr}, Fat w L B f a → Fat w L' B' f a := by
  induction f with
  | nil => intro a _; trivial
  | cons k n p c ks r ihk ihr =>
    intro a h
    obtain ⟨b, off, a', cap, e, hb, hr, hl, h0, h1, h2, h3, h4, hk, hr'⟩ := h
    exact ⟨b, off, a', cap, e, ⟨Nat.le_trans hL hb.1, Nat.lt_of_lt_of_le hb.2 hB⟩, hr, hl, h0, h1, h2, h3, h4, ihk hk, ihr hr'⟩
theorem Fat.drop {w : World} {L B : Nat} {f : Fo} : ∀ {i b off : Nat}, Fat w L B f (some ⟨b, off, none⟩) → i ≤ f.len → Fat w L B (Fo.drop i f) (some ⟨b, off + i * 5, none⟩) := by
  induction f with
  | nil => intro i b off _ _; rw [Fo.drop_nil]; trivial
  | cons k n p c ks r _ ihr =>
    intro i b off h hi
    cases i with
    | zero => rw [Fo.drop_zero, Nat.zero_mul, Nat.add_zero]; exact h
    | succ i =>
      obtain ⟨b', off', a', cap, e, hb, hr, hl, h0, h1, h2, h3, h4, hk, hr'⟩ := h
      simp only [Option.some.injEq, Addr.mk.injEq] at e
      obtain ⟨rfl, rfl, _⟩ := e
      have := ihr (i := i) hr' (by simp only [Fo.len] at hi; omega)
      rw [show off + (i + 1) * 5 = off + 5 + i * 5 from by omega]
      exact this
/-- the block of a list that is not empty -/
theorem Fat.blk {w : World} {L B : Nat} {f : Fo} {a : Option Addr} (h : Fat w L B f a) (hf : 0 < f.len) : ∃ b off, a = some ⟨b, off, none⟩ ∧ (L ≤ b ∧ b < B) := by
  cases f with
  | nil => simp [Fo.len] at hf
  | cons k n p c ks r =>
    obtain ⟨b, off, a', cap, e, hb, _⟩ := h
    exact ⟨b, off, e, hb⟩
/-- a node of a list -/
theorem Fat.node {w : World} {L B : Nat} {f : Fo} {b off i : Nat} (h : Fat w L B f (some ⟨b, off, none⟩)) (hi : i < f.len) :
    ∃ k n p c ks a' cap, Fo.drop i f = .cons k n p c ks (Fo.drop (i + 1) f) ∧ R4 k n p c ∧ ks.len ≤ maxLen ∧
      w.cell? ⟨b, off + i * 5, none⟩ = some (.int .i64 k) ∧ w.cell? ⟨b, off + i * 5 + 1, none⟩ = some (.int .i64 n) ∧ w.cell? ⟨b, off + i * 5 + 2, none⟩ = some (.int .i64 p) ∧ w.cell? ⟨b, off + i * 5 + 3, none⟩ = some (.int .i64 c) ∧
      w.cell? ⟨b, off + i * 5 + 4, none⟩ = some (.slice a' ks.len cap) ∧ Fat w L B ks a' := by
  obtain ⟨k, n, p, c, ks, hd⟩ := Fo.drop_at hi
  have := h.drop (i := i) (by omega)
  rw [hd] at this
  obtain ⟨b', off', a', cap, e, hb, hr, hl, h0, h1, h2, h3, h4, hk, _⟩ := this
  simp only [Option.some.injEq, Addr.mk.injEq] at e
  obtain ⟨rfl, rfl, _⟩ := e
  exact ⟨k, n, p, c, ks, a', cap, hd, hr, hl, h0, h1, h2, h3, h4, hk⟩

theorem fat_build {w : World} {L B b : Nat} (hB : L ≤ b ∧ b < B) : ∀ (m off : Nat), (∀ i, i < m → ∃ k n p c ks a' cap, R4 k n p c ∧ ks.len ≤ maxLen ∧
      w.cell? ⟨b, off + i * 5, none⟩ = some (.int .i64 k) ∧ w.cell? ⟨b, off + i * 5 + 1, none⟩ = some (.int .i64 n) ∧ w.cell? ⟨b, off + i * 5 + 2, none⟩ = some (.int .i64 p) ∧ w.cell? ⟨b, off + i * 5 + 3, none⟩ = some (.int .i64 c) ∧
      w.cell? ⟨b, off + i * 5 + 4, none⟩ = some (.slice a' ks.len cap) ∧ Fat w L B ks a') → ∃ f : Fo, f.len = m ∧ Fat w L B f (some ⟨b, off, none⟩) := by
  intro m
  induction m with
  | zero => intro off _; exact ⟨.nil, rfl, trivial⟩
  | succ m ih =>
    intro off h
    obtain ⟨k, n, p, c, ks, a', cap, hr, hl, h0, h1, h2, h3, h4, hk⟩ := h 0 (by omega)
    obtain ⟨f, hf, hF⟩ := ih (off + 5) (fun i hi => by
      have := h (i + 1) (by omega)
      rw [show off + (i + 1) * 5 = off + 5 + i * 5 from by omega] at this
      exact this)
    simp only [Nat.zero_mul, Nat.add_zero] at h0 h1 h2 h3 h4
    exact ⟨.cons k n p c ks f, by simp [Fo.len, hf], b, off, a', cap, rfl, hB, hr, hl, h0, h1, h2, h3, h4, hk, hF⟩
/-- a list whose nodes lie at an address, one after the other -/
theorem fat_of {w : World} {L B b : Nat} (hB : L ≤ b ∧ b < B) {f : Fo} : ∀ (off : Nat), (∀ i, i < f.len → ∃ k n p c ks a' cap, Fo.drop i f = .cons k n p c ks (Fo.drop (i + 1) f) ∧ R4 k n p c ∧ ks.len ≤ maxLen ∧
      w.cell? ⟨b, off + i * 5, none⟩ = some (.int .i64 k) ∧ w.cell? ⟨b, off + i * 5 + 1, none⟩ = some (.int .i64 n) ∧ w.cell? ⟨b, off + i * 5 + 2, none⟩ = some (.int .i64 p) ∧ w.cell? ⟨b, off + i * 5 + 3, none⟩ = some (.int .i64 c) ∧
      w.cell? ⟨b, off + i * 5 + 4, none⟩ = some (.slice a' ks.len cap) ∧ Fat w L B ks a') → Fat w L B f (some ⟨b, off, none⟩) := by
  induction f with
  | nil => intro _ _; trivial
  | cons k n p c ks r _ ih =>
    intro off h
    obtain ⟨k', n', p', c', ks', a', cap, hd, hr, hl, h0, h1, h2, h3, h4, hk⟩ := h 0 (by simp [Fo.len])
    rw [Fo.drop_zero] at hd
    simp only [Fo.cons.injEq] at hd
    obtain ⟨rfl, rfl, rfl, rfl, rfl, _⟩ := hd
    simp only [Nat.zero_mul, Nat.add_zero] at h0 h1 h2 h3 h4
    refine ⟨b, off, a', cap, rfl, hB, hr, hl, h0, h1, h2, h3, h4, hk, ih (off + 5) (fun i hi => ?_)⟩
    have := h (i + 1) (by simp only [Fo.len]; omega)
    rw [show off + (i + 1) * 5 = off + 5 + i * 5 from by omega] at this
    exact this

set_option maxRecDepth 100000 in
theorem cellsExpr : Tryz.prog.cellsOf 158 = 5 := by kernel_rfl

set_option maxRecDepth 100000 in
theorem openKids {H : Type} {enc : TypeId × Value → H} {W : World} : ∀ (fuel : Nat) (cs : List Value) (x : DataW H × List MemPlace), DataW.trod enc Tryz.prog W 0 (fun _ => true) true fuel 95 cs = some x →
    ∃ a f cap, cs = [.slice a f.len cap] ∧ Fat W 0 W.heap.size f a ∧ f.len ≤ maxLen := by
  intro fuel
  induction fuel using Nat.strongRecOn with
  | _ fuel ih =>
    intro cs x h
    rcases DataW.trod_slice Tryz.underlying95 h with ⟨rfl, _⟩ | ⟨a, len, cap, elems, rest, n, rfl, rfl, rfl, hb, hl, hm, hlen, hel, hsp, hns⟩
    · exact ⟨none, .nil, 0, rfl, trivial, Nat.zero_le _⟩
    · 
      by_cases h0 : len = 0
      · subst h0; exact ⟨some a, .nil, cap, rfl, trivial, Nat.zero_le _⟩
      · rw [cellsExpr] at hel
        have one : ∀ i, i < len → ∃ (cs' : List Value) (y : DataW H × List MemPlace), W.cells? 0 (a.add (i * 5)) 5 = some cs' ∧ DataW.trod enc Tryz.prog W 0 (fun _ => true) true n 158 cs' = some y := fun i hi => by
          have := hel i hi
          rw [List.getElem?_eq_getElem (by omega)] at this
          obtain ⟨cs', h1, h2⟩ := Option.bind_eq_some_iff.1 this
          exact ⟨cs', _, h1, h2⟩
        obtain ⟨b, off, spot⟩ := a
        have hs : spot = none := by
          obtain ⟨cs', y, h1, _⟩ := one 0 (by omega)
          obtain ⟨_, hlc, hat⟩ := World.cells?_some h1
          have h2 := hat 0 (by omega)
          rw [List.getElem?_eq_getElem (by omega)] at h2
          simpa [Addr.add] using World.cell?_spot h2
        subst hs
        have hb : b < W.heap.size := by
          obtain ⟨cs', y, h1, _⟩ := one 0 (by omega)
          obtain ⟨_, hlc, hat⟩ := World.cells?_some h1
          have h2 := hat 0 (by omega)
          rw [List.getElem?_eq_getElem (by omega)] at h2
          exact cell_lt (o := off) (by simpa [Addr.add] using h2)
        obtain ⟨f, hf, hF⟩ := fat_build (w := W) (L := 0) (B := W.heap.size) ⟨Nat.zero_le _, hb⟩ len off (fun i hi => by
          obtain ⟨cs', y, h1, h2⟩ := one i hi
          obtain ⟨_, hlc, hat⟩ := World.cells?_some h1
          obtain ⟨xs, n', rfl, _, _, hxl, hf⟩ := DataW.trod_struct Tryz.underlying158 h2
          match cs', hlc with
          | [c0, c1, c2, c3, c4], _ =>
            have g : ∀ j (hj : j < 5), W.cell? ⟨b, off + i * 5 + j, none⟩ = [c0, c1, c2, c3, c4][j]? := fun j hj => by
              rw [← hat j hj]
              congr 1
              cases i <;> cases j <;> simp [Addr.add] <;> omega
            have q0 := hf 0 _ rfl
            have q1 := hf 1 _ rfl
            have q2 := hf 2 _ rfl
            have q3 := hf 3 _ rfl
            have q4 := hf 4 _ rfl
            obtain ⟨k, e0, _, r0⟩ := DataW.trod_int Tryz.underlying2 (q0.trans (List.getElem?_eq_getElem (by rw [hxl]; decide)))
            obtain ⟨n1, e1, _, r1⟩ := DataW.trod_int Tryz.underlying2 (q1.trans (List.getElem?_eq_getElem (by rw [hxl]; decide)))
            obtain ⟨p1, e2, _, r2⟩ := DataW.trod_int Tryz.underlying2 (q2.trans (List.getElem?_eq_getElem (by rw [hxl]; decide)))
            obtain ⟨x1, e3, _, r3⟩ := DataW.trod_int Tryz.underlying2 (q3.trans (List.getElem?_eq_getElem (by rw [hxl]; decide)))
            obtain ⟨a', ks, cap', e4, hk, hkl⟩ := ih n' (by omega) _ _ (q4.trans (List.getElem?_eq_getElem (by rw [hxl]; decide)))
            obtain rfl : c0 = .int .i64 k := List.head_eq_of_cons_eq e0
            obtain rfl : c1 = .int .i64 n1 := List.head_eq_of_cons_eq e1
            obtain rfl : c2 = .int .i64 p1 := List.head_eq_of_cons_eq e2
            obtain rfl : c3 = .int .i64 x1 := List.head_eq_of_cons_eq e3
            obtain rfl : c4 = .slice a' ks.len cap' := List.head_eq_of_cons_eq e4
            exact ⟨k, n1, p1, x1, ks, a', cap', ⟨bounds_i64 r0, bounds_i64 r1, bounds_i64 r2, bounds_i64 r3⟩, hkl, g 0 (by omega), g 1 (by omega), g 2 (by omega), g 3 (by omega), g 4 (by omega), hk⟩)
        exact ⟨_, f, cap, by rw [hf], hF, by omega⟩

end Go.Proofs.YtoedccgiahegnaaGreat

namespace Go.Proofs.YtoedccgiahegnaaGreat
open Go.ChangeShapes Go.WideShapes Go.ChangeAt Go.RowKit

/-- A function: its name, how many parameters, its outputs. -/
structure Fn where
  name : ByteArray
  params : Int
  outs : Fo
def noFn : Fn := ⟨⟨#[]⟩, 0, .nil⟩

def RF (f : Fn) : Prop := f.name.size ≤ maxLen ∧ (-9223372036854775808 ≤ f.params ∧ f.params ≤ 9223372036854775807) ∧ f.outs.len ≤ maxLen

/-- The functions lie one behind the other from the address on, in blocks from L on and ahead of B. -/
def Pat (w : World) (L B : Nat) (l : List Fn) (a : Option Addr) : Prop :=
  l = [] ∨ ∃ b off, a = some ⟨b, off, none⟩ ∧ (L ≤ b ∧ b < B) ∧ ∀ i, i < l.length → RF (l.getD i noFn) ∧ ∃ a' cap,
    w.cell? ⟨b, off + i * 3, none⟩ = some (.string (l.getD i noFn).name) ∧ w.cell? ⟨b, off + i * 3 + 1, none⟩ = some (.int .i64 (l.getD i noFn).params) ∧
    w.cell? ⟨b, off + i * 3 + 2, none⟩ = some (.slice a' (l.getD i noFn).outs.len cap) ∧ Fat w L B (l.getD i noFn).outs a'

theorem Pat.agree {w w' : World} {L B : Nat} {l : List Fn} {a : Option Addr} (h : Pat w L B l a) (hb : ∀ k, L ≤ k → k < B → w'.heap[k]? = w.heap[k]?) : Pat w' L B l a := by
  rcases h with h | ⟨b, off, h1, h2, h3⟩
  · exact .inl h
  · refine .inr ⟨b, off, h1, h2, fun i hi => ?_⟩
    obtain ⟨r, a', cap, c0, c1, c2, hF⟩ := h3 i hi
    have cl : ∀ o v, w.cell? ⟨b, o, none⟩ = some v → w'.cell? ⟨b, o, none⟩ = some v := fun o v h => (World.cell?_of_block (a := ⟨b, o, none⟩) (hb b h2.1 h2.2)).trans h
    exact ⟨r, a', cap, cl _ _ c0, cl _ _ c1, cl _ _ c2, hF.agree hb⟩
theorem Pat.below {w w' : World} {L B : Nat} {l : List Fn} {a : Option Addr} (h : Pat w L B l a) (hb : Below B w w') : Pat w' L B l a := h.agree fun k _ h => hb.block k h
theorem Pat.mono {w : World} {L L' B B' : Nat} (hL : L' ≤ L) (hB : B ≤ B') {l : List Fn} {a : Option Addr} (h : Pat w L B l a) : Pat w L' B' l a := by
  rcases h with h | ⟨b, off, h1, h2, h3⟩
  · exact .inl h
  · refine .inr ⟨b, off, h1, by omega, fun i hi => ?_⟩
    obtain ⟨r, a', cap, c0, c1, c2, hF⟩ := h3 i hi
    exact ⟨r, a', cap, c0, c1, c2, hF.mono hL hB⟩

/-- a program that came in -/
def IsProg (W : World) (v : Value) : Prop := ∃ a cap l, v = .agg #[.slice a l.length cap] ∧ Pat W 0 W.heap.size l a ∧ l.length ≤ maxLen
/-- an expression that came in -/
def IsExpr (W : World) (v : Value) : Prop := ∃ k n p c a ks cap, v = .agg #[.int .i64 k, .int .i64 n, .int .i64 p, .int .i64 c, .slice a (Fo.len ks) cap] ∧ R4 k n p c ∧ Fat W 0 W.heap.size ks a ∧ ks.len ≤ maxLen

set_option maxRecDepth 100000 in
theorem cellsFunc : Tryz.prog.cellsOf 97 = 3 := by kernel_rfl
set_option maxRecDepth 100000 in
theorem cellsProg : Tryz.prog.cellsOf 24 = 1 := by kernel_rfl

set_option maxRecDepth 100000 in
theorem openExpr {H : Type} {enc : TypeId × Value → H} {W : World} {base : Nat} {v : Value} {d : DataW H} {p : List MemPlace} (hw : Value.okWide Tryz.prog W .any base 158 v) (h : DataW.Trod enc Tryz.prog W 0 (fun _ => true) true 158 v d p) : IsExpr W v := by
  obtain ⟨cs, rfl, hsz⟩ := okWide_struct Tryz.underlying158 hw
  obtain ⟨l⟩ := cs
  match l, hsz.trans cellsExpr with
  | [c0, c1, c2, c3, c4], _ =>
    obtain ⟨fuel, hf⟩ := h
    obtain ⟨xs, n', rfl, _, _, hxl, hf⟩ := DataW.trod_struct Tryz.underlying158 hf
    have q0 := hf 0 _ rfl
    have q1 := hf 1 _ rfl
    have q2 := hf 2 _ rfl
    have q3 := hf 3 _ rfl
    have q4 := hf 4 _ rfl
    obtain ⟨k, e0, _, r0⟩ := DataW.trod_int Tryz.underlying2 (q0.trans (List.getElem?_eq_getElem (by rw [hxl]; decide)))
    obtain ⟨n1, e1, _, r1⟩ := DataW.trod_int Tryz.underlying2 (q1.trans (List.getElem?_eq_getElem (by rw [hxl]; decide)))
    obtain ⟨p1, e2, _, r2⟩ := DataW.trod_int Tryz.underlying2 (q2.trans (List.getElem?_eq_getElem (by rw [hxl]; decide)))
    obtain ⟨x1, e3, _, r3⟩ := DataW.trod_int Tryz.underlying2 (q3.trans (List.getElem?_eq_getElem (by rw [hxl]; decide)))
    obtain ⟨a', ks, cap', e4, hk, hkl⟩ := openKids n' _ _ (q4.trans (List.getElem?_eq_getElem (by rw [hxl]; decide)))
    obtain rfl : c0 = .int .i64 k := List.head_eq_of_cons_eq e0
    obtain rfl : c1 = .int .i64 n1 := List.head_eq_of_cons_eq e1
    obtain rfl : c2 = .int .i64 p1 := List.head_eq_of_cons_eq e2
    obtain rfl : c3 = .int .i64 x1 := List.head_eq_of_cons_eq e3
    obtain rfl : c4 = .slice a' ks.len cap' := List.head_eq_of_cons_eq e4
    exact ⟨k, n1, p1, x1, a', ks, cap', rfl, ⟨bounds_i64 r0, bounds_i64 r1, bounds_i64 r2, bounds_i64 r3⟩, hk, hkl⟩

theorem pat_build {w : World} {L B b off : Nat} (hB : L ≤ b ∧ b < B) : ∀ (m : Nat), (∀ i, i < m → ∃ f a' cap, RF f ∧
      w.cell? ⟨b, off + i * 3, none⟩ = some (.string f.name) ∧ w.cell? ⟨b, off + i * 3 + 1, none⟩ = some (.int .i64 f.params) ∧
      w.cell? ⟨b, off + i * 3 + 2, none⟩ = some (.slice a' f.outs.len cap) ∧ Fat w L B f.outs a') → ∃ l : List Fn, l.length = m ∧ Pat w L B l (some ⟨b, off, none⟩) := by
  intro m
  induction m with
  | zero => intro _; exact ⟨[], rfl, .inl rfl⟩
  | succ m ih =>
    intro h
    obtain ⟨l, hl, hp⟩ := ih (fun i hi => h i (by omega))
    obtain ⟨f, a', cap, hr, c0, c1, c2, hF⟩ := h m (by omega)
    refine ⟨l ++ [f], by simp [hl], .inr ⟨b, off, rfl, hB, fun i hi => ?_⟩⟩
    by_cases him : i = m
    · subst him
      have e : (l ++ [f]).getD i noFn = f := by rw [List.getD_eq_getElem?_getD, List.getElem?_append_right (by omega), hl, Nat.sub_self]; rfl
      rw [e]
      exact ⟨hr, a', cap, c0, c1, c2, hF⟩
    · have hi' : i < l.length := by simp at hi; omega
      have e : (l ++ [f]).getD i noFn = l.getD i noFn := by rw [List.getD_eq_getElem?_getD, List.getD_eq_getElem?_getD, List.getElem?_append_left hi']
      rw [e]
      rcases hp with hp | ⟨b', off', hbo, _, hall⟩
      · rw [hp] at hi'; simp at hi'
      · simp only [Option.some.injEq, Addr.mk.injEq] at hbo
        obtain ⟨rfl, rfl, _⟩ := hbo
        exact hall i hi'

set_option maxRecDepth 100000 in
theorem openFuncs {H : Type} {enc : TypeId × Value → H} {W : World} (fuel : Nat) (cs : List Value) (x : DataW H × List MemPlace) (h : DataW.trod enc Tryz.prog W 0 (fun _ => true) true fuel 22 cs = some x) :
    ∃ a l cap, cs = [.slice a (List.length l) cap] ∧ Pat W 0 W.heap.size l a ∧ l.length ≤ maxLen := by
  rcases DataW.trod_slice Tryz.underlying22 h with ⟨rfl, _⟩ | ⟨a, len, cap, elems, rest, n, rfl, rfl, rfl, hb, hl, hm, hlen, hel, hsp, hns⟩
  · exact ⟨none, [], 0, rfl, .inl rfl, Nat.zero_le _⟩
  · by_cases h0 : len = 0
    · subst h0; exact ⟨some a, [], cap, rfl, .inl rfl, Nat.zero_le _⟩
    · rw [cellsFunc] at hel
      have one : ∀ i, i < len → ∃ (cs' : List Value) (y : DataW H × List MemPlace), W.cells? 0 (a.add (i * 3)) 3 = some cs' ∧ DataW.trod enc Tryz.prog W 0 (fun _ => true) true n 97 cs' = some y := fun i hi => by
        have := hel i hi
        rw [List.getElem?_eq_getElem (by omega)] at this
        obtain ⟨cs', h1, h2⟩ := Option.bind_eq_some_iff.1 this
        exact ⟨cs', _, h1, h2⟩
      obtain ⟨b, off, spot⟩ := a
      have hs : spot = none := by
        obtain ⟨cs', y, h1, _⟩ := one 0 (by omega)
        obtain ⟨_, hlc, hat⟩ := World.cells?_some h1
        have h2 := hat 0 (by omega)
        rw [List.getElem?_eq_getElem (by omega)] at h2
        simpa [Addr.add] using World.cell?_spot h2
      subst hs
      have hb : b < W.heap.size := by
        obtain ⟨cs', y, h1, _⟩ := one 0 (by omega)
        obtain ⟨_, hlc, hat⟩ := World.cells?_some h1
        have h2 := hat 0 (by omega)
        rw [List.getElem?_eq_getElem (by omega)] at h2
        exact cell_lt (o := off) (by simpa [Addr.add] using h2)
      obtain ⟨l, hl', hP⟩ := pat_build (w := W) (L := 0) (B := W.heap.size) (off := off) ⟨Nat.zero_le _, hb⟩ len (fun i hi => by
        obtain ⟨cs', y, h1, h2⟩ := one i hi
        obtain ⟨_, hlc, hat⟩ := World.cells?_some h1
        obtain ⟨xs, n', rfl, _, _, hxl, hf⟩ := DataW.trod_struct Tryz.underlying97 h2
        match cs', hlc with
        | [c0, c1, c2], _ =>
          have g : ∀ j (hj : j < 3), W.cell? ⟨b, off + i * 3 + j, none⟩ = [c0, c1, c2][j]? := fun j hj => by
            rw [← hat j hj]
            congr 1
            cases i <;> cases j <;> simp [Addr.add] <;> omega
          have q0 := hf 0 _ rfl
          have q1 := hf 1 _ rfl
          have q2 := hf 2 _ rfl
          obtain ⟨s, e0, _, r0⟩ := DataW.trod_string Tryz.underlying9 (q0.trans (List.getElem?_eq_getElem (by rw [hxl]; decide)))
          obtain ⟨p1, e1, _, r1⟩ := DataW.trod_int Tryz.underlying2 (q1.trans (List.getElem?_eq_getElem (by rw [hxl]; decide)))
          obtain ⟨a', ks, cap', e2, hk, hkl⟩ := openKids n' _ _ (q2.trans (List.getElem?_eq_getElem (by rw [hxl]; decide)))
          obtain rfl : c0 = .string s := List.head_eq_of_cons_eq e0
          obtain rfl : c1 = .int .i64 p1 := List.head_eq_of_cons_eq e1
          obtain rfl : c2 = .slice a' ks.len cap' := List.head_eq_of_cons_eq e2
          exact ⟨⟨s, p1, ks⟩, a', cap', ⟨r0, bounds_i64 r1, hkl⟩, g 0 (by omega), g 1 (by omega), g 2 (by omega), hk⟩)
      exact ⟨_, l, cap, by rw [hl'], hP, by omega⟩

set_option maxRecDepth 100000 in
theorem openProg {H : Type} {enc : TypeId × Value → H} {W : World} {base : Nat} {v : Value} {d : DataW H} {p : List MemPlace} (hw : Value.okWide Tryz.prog W .any base 24 v) (h : DataW.Trod enc Tryz.prog W 0 (fun _ => true) true 24 v d p) : IsProg W v := by
  obtain ⟨cs, rfl, hsz⟩ := okWide_struct Tryz.underlying24 hw
  obtain ⟨l⟩ := cs
  match l, hsz.trans cellsProg with
  | [c0], _ =>
    obtain ⟨fuel, hf⟩ := h
    obtain ⟨xs, n', rfl, _, _, hxl, hf⟩ := DataW.trod_struct Tryz.underlying24 hf
    have q0 := hf 0 _ rfl
    obtain ⟨a', l, cap', e0, hk, hkl⟩ := openFuncs n' _ _ (q0.trans (List.getElem?_eq_getElem (by rw [hxl]; decide)))
    obtain rfl : c0 = .slice a' l.length cap' := List.head_eq_of_cons_eq e0
    exact ⟨a', cap', l, rfl, hk, hkl⟩

end Go.Proofs.YtoedccgiahegnaaGreat

namespace Go.Proofs.YtoedccgiahegnaaGreat
open Go.RowKit
set_option linter.unusedVariables false

def lowB (c : UInt8) : Bool := decide (97 ≤ c.toNat ∧ c.toNat ≤ 122)
def alnB (c : UInt8) : Bool := decide (97 ≤ c.toNat ∧ c.toNat ≤ 122 ∨ 48 ≤ c.toNat ∧ c.toNat ≤ 57)
/-- a name -/
def isNm (s : ByteArray) : Bool := decide (1 ≤ s.size ∧ s.size ≤ 12) && lowB (s.data.toList.getD 0 0) && s.data.toList.all alnB
/-- how many small letters and digits a text begins with -/
def wlen (l : List UInt8) : Nat := (l.takeWhile alnB).length

theorem byte_at {s : ByteArray} {k : Nat} (h : k < s.size) : s.data.toList.getD k 0 = s[k] := by
  rw [List.getD_eq_getElem?_getD, List.getElem?_eq_getElem (by simpa using h)]; rfl
theorem aln_cases (x : Nat) : (x < 48) ∨ (48 ≤ x ∧ x ≤ 57) ∨ (57 < x ∧ x < 97) ∨ (97 ≤ x ∧ x ≤ 122) ∨ 122 < x := by omega
theorem alnB_t {c : UInt8} (h : 97 ≤ c.toNat ∧ c.toNat ≤ 122 ∨ 48 ≤ c.toNat ∧ c.toNat ≤ 57) : alnB c = true := by simp [alnB, h]
theorem alnB_f {c : UInt8} (h : ¬ (97 ≤ c.toNat ∧ c.toNat ≤ 122 ∨ 48 ≤ c.toNat ∧ c.toNat ≤ 57)) : alnB c = false := by simp only [alnB, h, decide_false]
theorem all_take_succ {l : List UInt8} {k : Nat} (hk : k < l.length) (h : (l.take k).all alnB = true) (h2 : alnB (l.getD k 0) = true) : (l.take (k + 1)).all alnB = true := by
  rw [List.take_succ_eq_append_getElem hk, List.all_append, h]
  rw [List.getD_eq_getElem?_getD, List.getElem?_eq_getElem hk] at h2
  simpa using h2
theorem all_badN {l : List UInt8} {k : Nat} (hk : k < l.length) (h2 : alnB (l.getD k 0) = false) : l.all alnB = false := by
  rw [List.all_eq_false]
  rw [List.getD_eq_getElem?_getD, List.getElem?_eq_getElem hk] at h2
  exact ⟨l[k], List.getElem_mem hk, by simpa using h2⟩
theorem wlen_le (l : List UInt8) : wlen l ≤ l.length := List.Sublist.length_le (List.takeWhile_sublist _)
theorem wlen_iff (l : List UInt8) : decide (wlen l = l.length) = l.all alnB := by
  induction l with
  | nil => rfl
  | cons a l ih =>
    have h1 := wlen_le l
    cases ha : alnB a with
    | true =>
      have e : wlen (a :: l) = wlen l + 1 := by unfold wlen; rw [List.takeWhile_cons, ha]; rfl
      rw [e, List.all_cons, ha, Bool.true_and, ← ih, List.length_cons]
      simp
    | false =>
      have e : wlen (a :: l) = 0 := by unfold wlen; rw [List.takeWhile_cons, ha]; rfl
      rw [e, List.all_cons, ha]
      simp
theorem wlen_stop {l : List UInt8} {k : Nat} (hk : k < l.length) (h : (l.take k).all alnB = true) (h2 : alnB (l.getD k 0) = false) : wlen l = k := by
  unfold wlen
  have e : l = l.take k ++ l.drop k := (List.take_append_drop k l).symm
  rw [e, List.takeWhile_append_of_pos (List.all_eq_true.1 h), List.drop_eq_getElem_cons hk, List.takeWhile_cons]
  rw [List.getD_eq_getElem?_getD, List.getElem?_eq_getElem hk] at h2
  have h3 : alnB l[k] = false := by simpa using h2
  rw [h3]
  simp
  omega
theorem wlen_end {l : List UInt8} (h : l.all alnB = true) : wlen l = l.length := by have := wlen_iff l; rw [h] at this; simpa using this

set_option maxRecDepth 100000 in
set_option maxHeartbeats 1600000 in
theorem iWord (s : ByteArray) (w : World) (hs : s.size ≤ 9223372036854775806) :
    Calls Tryz.prog 144 #[.string s] w fun e w' => e = .returned (.int .i64 (wlen s.data.toList)) ∧ w = w' := by
  have hl : s.data.toList.length = s.size := Array.length_toList
  have HL := Lib.hid hl
  have h0 : Hid ((s.data.toList.take 0).all alnB = true) := rfl
  clear hl
  go_enter Tryz.func144, Tryz.ntmps144
  go_wp2
  go_loop [3, 4, 5, 8] (fun _ _ _ i => ∃ k : Nat, k ≤ s.size ∧ i = .int .i64 k ∧ Hid ((s.data.toList.take k).all alnB = true)) (fun _ _ _ i => s.size - (intOf i).toNat)
  case atStart => exact ⟨0, Nat.zero_le _, rfl, h0⟩
  case round =>
    obtain ⟨k, hk, rfl, hok⟩ := hrel
    by_cases hlt : k < s.size
    · have hat := byte_at hlt
      have hsn := fun h => all_take_succ (l := s.data.toList) (k := k) (by rw [HL.out]; exact hlt) hok.out h
      have hst := fun h => wlen_stop (l := s.data.toList) (k := k) (by rw [HL.out]; exact hlt) hok.out h
      rw [hat] at hsn hst
      clear hat hok h0
      rcases aln_cases s[k].toNat with h | ⟨h1, h2⟩ | ⟨h1, h2⟩ | ⟨h1, h2⟩ | h
      · have HB := Lib.hid (hst (alnB_f (by omega)))
        have d0 : decide (97 ≤ (s[k].toNat : Int)) = false := decide_eq_false (by omega)
        have d1 : decide (48 ≤ (s[k].toNat : Int)) = false := decide_eq_false (by omega)
        clear hsn hst h
        go_wp2
        go_ret
        exact ⟨ret_int (by rw [HB.out]), rfl⟩
      · have HB := Lib.hid (hsn (alnB_t (by omega)))
        have d0 : decide (97 ≤ (s[k].toNat : Int)) = false := decide_eq_false (by omega)
        have d1 : decide (48 ≤ (s[k].toNat : Int)) = true := decide_eq_true (by omega)
        have d2 : decide ((s[k].toNat : Int) ≤ 57) = true := decide_eq_true (by omega)
        clear hsn hst h1 h2
        go_wp2
        go_round
        case rel => exact ⟨k + 1, by omega, by go_num, HB⟩
        case measure => simp [intOf]; omega
      · have HB := Lib.hid (hst (alnB_f (by omega)))
        have d0 : decide (97 ≤ (s[k].toNat : Int)) = false := decide_eq_false (by omega)
        have d1 : decide (48 ≤ (s[k].toNat : Int)) = true := decide_eq_true (by omega)
        have d2 : decide ((s[k].toNat : Int) ≤ 57) = false := decide_eq_false (by omega)
        clear hsn hst h1 h2
        go_wp2
        go_ret
        exact ⟨ret_int (by rw [HB.out]), rfl⟩
      · have HB := Lib.hid (hsn (alnB_t (by omega)))
        have d0 : decide (97 ≤ (s[k].toNat : Int)) = true := decide_eq_true (by omega)
        have d1 : decide ((s[k].toNat : Int) ≤ 122) = true := decide_eq_true (by omega)
        have d2 : decide (48 ≤ (s[k].toNat : Int)) = true := decide_eq_true (by omega)
        have d3 : decide ((s[k].toNat : Int) ≤ 57) = false := decide_eq_false (by omega)
        clear hsn hst h1 h2
        go_wp2
        go_round
        case rel => exact ⟨k + 1, by omega, by go_num, HB⟩
        case measure => simp [intOf]; omega
      · have HB := Lib.hid (hst (alnB_f (by omega)))
        have d0 : decide (97 ≤ (s[k].toNat : Int)) = true := decide_eq_true (by omega)
        have d1 : decide ((s[k].toNat : Int) ≤ 122) = false := decide_eq_false (by omega)
        have d2 : decide (48 ≤ (s[k].toNat : Int)) = true := decide_eq_true (by omega)
        have d3 : decide ((s[k].toNat : Int) ≤ 57) = false := decide_eq_false (by omega)
        clear hsn hst h
        go_wp2
        go_ret
        exact ⟨ret_int (by rw [HB.out]), rfl⟩
    · have hkk : k = s.size := by omega
      have HB : Hid (wlen s.data.toList = s.size) := by
        have := hok.out
        rw [hkk, ← HL.out, List.take_length] at this
        exact (wlen_end this).trans HL.out
      clear hok h0
      go_wp2
      go_ret
      exact ⟨ret_int (by rw [HB.out]), rfl⟩

theorem isNm_bad {s : ByteArray} (h : ¬ (1 ≤ s.size ∧ s.size ≤ 12)) : isNm s = false := by simp only [isNm, h, decide_false, Bool.false_and]
theorem lowB_f {c : UInt8} (h : ¬ (97 ≤ c.toNat ∧ c.toNat ≤ 122)) : lowB c = false := by simp only [lowB, h, decide_false]
theorem isNm_first {s : ByteArray} (h : 0 < s.size) (h2 : lowB s[0] = false) : isNm s = false := by
  have e := byte_at h
  unfold isNm
  rw [e, h2, Bool.and_false, Bool.false_and]
theorem isNm_rest {s : ByteArray} (h : 1 ≤ s.size ∧ s.size ≤ 12) (h0 : 0 < s.size) (h2 : 97 ≤ s[0].toNat ∧ s[0].toNat ≤ 122) : isNm s = s.data.toList.all alnB := by
  have e := byte_at h0
  unfold isNm
  rw [e, show lowB s[0] = true from by simp [lowB, h2], decide_eq_true h, Bool.true_and, Bool.true_and]
theorem isNm_high {s : ByteArray} (h0 : 0 < s.size) (h2 : 122 < s[0].toNat) : s.data.toList.all alnB = false :=
  all_badN (k := 0) (by rw [Array.length_toList]; exact h0) (by rw [byte_at h0]; exact alnB_f (by omega))

set_option maxRecDepth 100000 in
set_option maxHeartbeats 1600000 in
theorem iName (s : ByteArray) (w : World) (hs : s.size ≤ 9223372036854775806) :
    Calls Tryz.prog 130 #[.string s] w fun e w' => e = .returned (.bool (isNm s)) ∧ w = w' := by
  by_cases hsz : 1 ≤ s.size ∧ s.size ≤ 12
  · have h0 : 0 < s.size := by omega
    have hwl := wlen_iff s.data.toList
    have hl : s.data.toList.length = s.size := Array.length_toList
    have hi1 : ¬ (s.size : Int) < 1 := by omega
    have hi2 : ¬ (12 : Int) < (s.size : Int) := by omega
    by_cases hc : s[0].toNat < 97
    · have hfin := Lib.hid (isNm_first h0 (lowB_f (c := s[0]) (by omega)))
      have d0 : decide ((s[0].toNat : Int) < 97) = true := decide_eq_true (by omega)
      clear hc hwl hl
      go_enter Tryz.func130, Tryz.ntmps130
      go_wp2_with fail
      go_ret
      exact ⟨ret_bool hfin.out.symm, rfl⟩
    · have hfin : Hid (isNm s = decide (wlen s.data.toList = s.size)) := by
        show _ = _
        rw [hl] at hwl
        rw [hwl]
        by_cases hc2 : s[0].toNat ≤ 122
        · exact isNm_rest hsz h0 (by omega)
        · rw [isNm_first h0 (lowB_f (c := s[0]) (by omega)), isNm_high h0 (by omega)]
      have d0 : decide ((s[0].toNat : Int) < 97) = false := decide_eq_false (by omega)
      clear hc hwl hl
      go_enter Tryz.func130, Tryz.ntmps130
      go_wp2_with fail
      refine (iWord s _ hs).mono ?_; rintro e w' ⟨rfl, rfl⟩
      go_wp2_with fail
      go_ret
      refine ⟨ret_bool ?_, rfl⟩
      rw [hfin.out]
      by_cases he : wlen s.data.toList = s.size
      · simp [he]
      · have : ¬ ((wlen s.data.toList : Int) = (s.size : Int)) := by omega
        simp [he, this]
  · have hfin := Lib.hid (isNm_bad hsz)
    by_cases h1 : s.size < 1
    · have hi1 : (s.size : Int) < 1 := by omega
      clear hsz h1
      go_enter Tryz.func130, Tryz.ntmps130
      go_wp2_with fail
      go_ret
      exact ⟨ret_bool hfin.out.symm, rfl⟩
    · have hi1 : ¬ (s.size : Int) < 1 := by omega
      have hi2 : (12 : Int) < (s.size : Int) := by omega
      clear hsz h1
      go_enter Tryz.func130, Tryz.ntmps130
      go_wp2_with fail
      go_ret
      exact ⟨ret_bool hfin.out.symm, rfl⟩

set_option maxRecDepth 100000 in
set_option maxHeartbeats 1600000 in
theorem sName (s : ByteArray) (w : World) (hs : s.size ≤ 9223372036854775806) :
    Calls Tryz.prog 123 #[.string s] w fun e w' => e = .returned (.bool (isNm s)) ∧ w = w' := by
  by_cases hsz : 1 ≤ s.size ∧ s.size ≤ 12
  · have h0 : 0 < s.size := by omega
    have hj0 : (0 : Int) < (s.size : Int) := by omega
    rcases (by omega : s[0].toNat < 97 ∨ 122 < s[0].toNat ∨ (97 ≤ s[0].toNat ∧ s[0].toNat ≤ 122)) with hc | hc | hc
    · have hfin := Lib.hid (isNm_first h0 (lowB_f (c := s[0]) (by omega)))
      have d0 : decide ((s[0].toNat : Int) < 97) = true := decide_eq_true (by omega)
      clear hc
      go_enter Tryz.func123, Tryz.ntmps123
      go_wp2_with fail
      refine (inT _ 1 12 (by omega) (by omega) _).mono ?_; rintro e w' ⟨rfl, rfl⟩
      go_wp2_with fail
      go_ret
      exact ⟨ret_bool hfin.out.symm, rfl⟩
    · have hfin := Lib.hid (isNm_first h0 (lowB_f (c := s[0]) (by omega)))
      have d0 : decide ((s[0].toNat : Int) < 97) = false := decide_eq_false (by omega)
      have d1 : decide ((122 : Int) < (s[0].toNat : Int)) = true := decide_eq_true (by omega)
      clear hc
      go_enter Tryz.func123, Tryz.ntmps123
      go_wp2_with fail
      refine (inT _ 1 12 (by omega) (by omega) _).mono ?_; rintro e w' ⟨rfl, rfl⟩
      go_wp2_with fail
      go_ret
      exact ⟨ret_bool hfin.out.symm, rfl⟩
    · have hrest := Lib.hid (isNm_rest hsz h0 hc)
      have d0 : decide ((s[0].toNat : Int) < 97) = false := decide_eq_false (by omega)
      have d1 : decide ((122 : Int) < (s[0].toNat : Int)) = false := decide_eq_false (by omega)
      have HL : Hid (s.data.toList.length = s.size) := Array.length_toList
      have hs0 : Hid ((s.data.toList.take 0).all alnB = true) := rfl
      clear hc
      go_enter Tryz.func123, Tryz.ntmps123
      go_wp2_with fail
      refine (inT _ 1 12 (by omega) (by omega) _).mono ?_; rintro e w' ⟨rfl, rfl⟩
      go_wp2_with fail
      go_loop [3] (fun i => ∃ k : Nat, k ≤ s.size ∧ i = .int .i64 k ∧ Hid ((s.data.toList.take k).all alnB = true)) (fun i => s.size - (intOf i).toNat)
      case atStart => exact ⟨0, Nat.zero_le _, rfl, hs0⟩
      case round =>
        obtain ⟨k, hk, rfl, hok⟩ := hrel
        clear d0 d1 hs0
        by_cases hlt : k < s.size
        · have hat := byte_at hlt
          have hsn := fun h => all_take_succ (l := s.data.toList) (k := k) (by rw [HL.out]; exact hlt) hok.out h
          have hst := fun h => all_badN (l := s.data.toList) (k := k) (by rw [HL.out]; exact hlt) h
          rw [hat] at hsn hst
          have hki : (k : Int) < (s.size : Int) := by omega
          clear hat hok
          rcases aln_cases s[k].toNat with h | ⟨h1, h2⟩ | ⟨h1, h2⟩ | ⟨h1, h2⟩ | h
          · have HB := Lib.hid (hst (alnB_f (by omega)))
            have d0 : decide ((s[k].toNat : Int) < 97) = true := decide_eq_true (by omega)
            have d1 : decide ((s[k].toNat : Int) < 48) = true := decide_eq_true (by omega)
            clear hsn hst h
            go_wp2
            go_ret
            exact ⟨ret_bool (hrest.out.trans HB.out).symm, rfl⟩
          · have HB := Lib.hid (hsn (alnB_t (by omega)))
            have d0 : decide ((s[k].toNat : Int) < 97) = true := decide_eq_true (by omega)
            have d1 : decide ((s[k].toNat : Int) < 48) = false := decide_eq_false (by omega)
            have d2 : decide (57 < (s[k].toNat : Int)) = false := decide_eq_false (by omega)
            clear hsn hst h1 h2
            go_wp2
            go_round
            case rel => exact ⟨k + 1, by omega, by go_num, HB⟩
            case measure => simp [intOf]; omega
          · have HB := Lib.hid (hst (alnB_f (by omega)))
            have d0 : decide ((s[k].toNat : Int) < 97) = true := decide_eq_true (by omega)
            have d1 : decide ((s[k].toNat : Int) < 48) = false := decide_eq_false (by omega)
            have d2 : decide (57 < (s[k].toNat : Int)) = true := decide_eq_true (by omega)
            clear hsn hst h1 h2
            go_wp2
            go_ret
            exact ⟨ret_bool (hrest.out.trans HB.out).symm, rfl⟩
          · have HB := Lib.hid (hsn (alnB_t (by omega)))
            have d0 : decide ((s[k].toNat : Int) < 97) = false := decide_eq_false (by omega)
            have d1 : decide (122 < (s[k].toNat : Int)) = false := decide_eq_false (by omega)
            clear hsn hst h1 h2
            go_wp2
            go_round
            case rel => exact ⟨k + 1, by omega, by go_num, HB⟩
            case measure => simp [intOf]; omega
          · have HB := Lib.hid (hst (alnB_f (by omega)))
            have d0 : decide ((s[k].toNat : Int) < 97) = false := decide_eq_false (by omega)
            have d1 : decide (122 < (s[k].toNat : Int)) = true := decide_eq_true (by omega)
            have d2 : decide ((s[k].toNat : Int) < 48) = false := decide_eq_false (by omega)
            have d3 : decide (57 < (s[k].toNat : Int)) = true := decide_eq_true (by omega)
            clear hsn hst h
            go_wp2
            go_ret
            exact ⟨ret_bool (hrest.out.trans HB.out).symm, rfl⟩
        · have hkk : k = s.size := by omega
          have HB : Hid (s.data.toList.all alnB = true) := by
            have := hok.out
            rw [hkk, ← HL.out, List.take_length] at this
            exact this
          clear hok
          go_wp2
          go_ret
          exact ⟨ret_bool (hrest.out.trans HB.out).symm, rfl⟩
  · have hfin := Lib.hid (isNm_bad hsz)
    go_enter Tryz.func123, Tryz.ntmps123
    go_wp2_with fail
    refine (inF _ 1 12 (by omega) _).mono ?_; rintro e w' ⟨rfl, rfl⟩
    go_wp2_with fail
    go_ret
    exact ⟨ret_bool hfin.out.symm, rfl⟩

end Go.Proofs.YtoedccgiahegnaaGreat

namespace Go.Proofs.YtoedccgiahegnaaGreat
open Go.RowKit

def kidsNo (k : Int) : Int := if k = 1 ∨ k = 2 then 0 else if k = 3 ∨ k = 4 ∨ k = 5 ∨ k = 6 ∨ k = 9 then 2 else if k = 7 then 1 else if k = 8 then 3 else -1

/-- the fields of a node are right -/
def nodeB (fs : List Fn) (vars funcs : Int) (k n p c : Int) (m : Nat) : Bool :=
  if k = 10 ∨ k = 11 then
    decide (0 ≤ n ∧ n < funcs) && (decide (0 ≤ p ∧ p < ((fs.getD n.toNat noFn).outs.len : Int)) && (decide ((m : Int) = (fs.getD n.toNat noFn).params) &&
      (if k = 10 then decide (c = 0) else decide (0 ≤ c ∧ c ≤ 8) && decide (((fs.getD n.toNat noFn).outs.len : Int) = (fs.getD n.toNat noFn).params))))
  else decide (kidsNo k = (m : Int) ∧ p = 0 ∧ c = 0) && (if k = 1 then decide (0 ≤ n ∧ n < 1000003) else if k = 2 then decide (0 ≤ n ∧ n < vars) else decide (n = 0))

/-- how many variables more the kid i of a node of the kind q has -/
def more (q : Int) (i : Nat) : Int := if q = 9 ∧ i = 1 then 1 else 0
/-- the kids of a node of the kind q, from the one with the number i on -/
def treeB (fs : List Fn) (funcs : Int) : Fo → Int → Int → Nat → Bool
  | .nil, _, _, _ => true
  | .cons k n p c ks r, vars, q, i => (nodeB fs (vars + more q i) funcs k n p c ks.len && treeB fs funcs ks (vars + more q i) k 0) && treeB fs funcs r vars q (i + 1)

def Fo.depth : Fo → Nat
  | .nil => 0
  | .cons _ _ _ _ ks r => max (ks.depth + 1) r.depth

def exprB (fs : List Fn) (vars funcs : Int) (f : Fo) : Bool :=
  decide (0 ≤ vars ∧ vars ≤ 412) && (decide (0 ≤ funcs ∧ funcs ≤ (fs.length : Int)) && (decide (f.size ≤ 400) && (decide (f.depth ≤ 60) && treeB fs funcs f vars 0 0)))

/-- no function ahead of it has the name -/
def freshB (fs : List Fn) (s : ByteArray) (i : Nat) : Bool := (fs.take i).all fun f => decide (f.name ≠ s)
def fnB (fs : List Fn) (i : Nat) : Bool :=
  isNm (fs.getD i noFn).name && (decide (0 ≤ (fs.getD i noFn).params ∧ (fs.getD i noFn).params ≤ 12) && (decide (1 ≤ (fs.getD i noFn).outs.len ∧ (fs.getD i noFn).outs.len ≤ 12) &&
    (freshB fs (fs.getD i noFn).name i && (decide ((fs.getD i noFn).outs.size ≤ 400) && (decide ((fs.getD i noFn).outs.depth ≤ 60) && treeB fs (i : Int) (fs.getD i noFn).outs (fs.getD i noFn).params 0 0)))))
def progB (fs : List Fn) : Bool := decide (fs.length ≤ 16) && (List.range fs.length).all (fnB fs)

theorem Fo.depth_drop (f : Fo) (i : Nat) : (Fo.drop i f).depth ≤ f.depth := by
  induction f generalizing i with
  | nil => rw [Fo.drop_nil]; exact Nat.le_refl _
  | cons k n p c ks r _ ih =>
    cases i with
    | zero => exact Nat.le_refl _
    | succ i => have := ih i; simp only [Fo.depth]; show (Fo.drop i r).depth ≤ _; omega
theorem Fo.depth_le (f : Fo) : f.depth ≤ f.size := by
  induction f with
  | nil => exact Nat.le_refl _
  | cons k n p c ks r ih1 ih2 => simp only [Fo.depth, Fo.size]; omega

/-- what is left of x nodes behind the expressions -/
def LeftIs (m : Nat) (x r : Int) : Prop := ((m : Int) ≤ x ∧ r = x - m) ∨ (x < (m : Int) ∧ r < 0)

/-- expressions are accepted, with at most d levels and x nodes -/
def accF (fs : List Fn) (funcs vars q : Int) (i : Nat) (d x : Int) (f : Fo) : Bool :=
  decide ((f.size : Int) ≤ x) && (decide ((f.depth : Int) ≤ d) && treeB fs funcs f vars q i)
def accB (fs : List Fn) (funcs vars d x : Int) (k n p c : Int) (ks : Fo) : Bool :=
  decide ((ks.size : Int) + 1 ≤ x) && (decide ((ks.depth : Int) + 1 ≤ d) && (nodeB fs vars funcs k n p c ks.len && treeB fs funcs ks vars k 0))

theorem accF_nil (fs : List Fn) (funcs vars q : Int) (i : Nat) (d x : Int) (hd : 0 ≤ d) (hx : 0 ≤ x) : accF fs funcs vars q i d x .nil = true := by
  have e1 : (Fo.nil).size = 0 := rfl
  have e2 : (Fo.nil).depth = 0 := rfl
  simp [accF, treeB, e1, e2, hd, hx]
theorem accF_cons (fs : List Fn) (funcs vars q : Int) (i : Nat) (d x : Int) (k n p c : Int) (ks r : Fo) :
    accF fs funcs vars q i d x (.cons k n p c ks r) = (accB fs funcs (vars + more q i) d x k n p c ks && accF fs funcs vars q (i + 1) d (x - ks.size - 1) r) := by
  have e1 : (Fo.cons k n p c ks r).size = ks.size + r.size + 1 := rfl
  have e2 : (Fo.cons k n p c ks r).depth = max (ks.depth + 1) r.depth := rfl
  rw [Bool.eq_iff_iff]
  simp only [accF, accB, treeB, Bool.and_eq_true, decide_eq_true_eq]
  constructor
  · rintro ⟨h1, h2, ⟨h3, h4⟩, h5⟩
    exact ⟨⟨by omega, by omega, h3, h4⟩, by omega, by omega, h5⟩
  · rintro ⟨⟨h1, h2, h3, h4⟩, h5, h6, h7⟩
    exact ⟨by omega, by omega, ⟨h3, h4⟩, h7⟩
theorem accB_step (fs : List Fn) (funcs vars d x : Int) (k n p c : Int) (ks : Fo) :
    accB fs funcs vars d x k n p c ks = (nodeB fs vars funcs k n p c ks.len && accF fs funcs vars k 0 (d - 1) (x - 1) ks) := by
  rw [Bool.eq_iff_iff]
  simp only [accF, accB, Bool.and_eq_true, decide_eq_true_eq]
  constructor
  · rintro ⟨h1, h2, h3, h4⟩
    exact ⟨h3, by omega, by omega, h4⟩
  · rintro ⟨h3, h1, h2, h4⟩
    exact ⟨by omega, by omega, h3, h4⟩
theorem accB_d0 (fs : List Fn) (funcs vars d x : Int) (k n p c : Int) (ks : Fo) (h : d ≤ 0) : accB fs funcs vars d x k n p c ks = false := by
  have : decide ((ks.depth : Int) + 1 ≤ d) = false := decide_eq_false (by omega)
  simp [accB, this]
theorem accB_x0 (fs : List Fn) (funcs vars d x : Int) (k n p c : Int) (ks : Fo) (h : x ≤ 0) : accB fs funcs vars d x k n p c ks = false := by
  have : decide ((ks.size : Int) + 1 ≤ x) = false := decide_eq_false (by omega)
  simp [accB, this]
theorem accB_size {fs : List Fn} {funcs vars d x : Int} {k n p c : Int} {ks : Fo} (h : accB fs funcs vars d x k n p c ks = true) : (ks.size : Int) + 1 ≤ x := by
  simp only [accB, Bool.and_eq_true, decide_eq_true_eq] at h; exact h.1

end Go.Proofs.YtoedccgiahegnaaGreat

namespace Go.Proofs.YtoedccgiahegnaaGreat
set_option linter.unusedVariables false
/-- what is left of so many nodes; -1 if there are more -/
def szv (m : Nat) (left : Int) : Int := if (m : Int) ≤ left then left - m else -1
theorem szv_t {m : Nat} {x : Int} (h : (m : Int) ≤ x) : szv m x = x - m := if_pos h
theorem szv_f {m : Nat} {x : Int} (h : ¬ (m : Int) ≤ x) : szv m x = -1 := if_neg h
theorem szv_add {a b : Nat} {x : Int} (h : (a : Int) ≤ x) : szv (a + b) x = szv b (x - a) := by
  unfold szv; by_cases hb : (b : Int) ≤ x - a
  · rw [if_pos hb, if_pos (by omega)]; omega
  · rw [if_neg hb, if_neg (by omega)]
theorem szv_over {a b : Nat} {x : Int} (h : ¬ (a : Int) ≤ x) : szv (a + b) x = -1 := szv_f (by omega)
end Go.Proofs.YtoedccgiahegnaaGreat

namespace Go.Proofs.YtoedccgiahegnaaGreat
open Go.RowKit
set_option linter.unusedVariables false

/-- the kids of the expressions -/
def Fo.under (f : Fo) : Nat := f.size - f.len
theorem Fo.under_split (f : Fo) : f.size = f.len + f.under := by have := Fo.len_le f; unfold Fo.under; omega
theorem Fo.under_cons {f : Fo} {i : Nat} {k n p c : Int} {ks : Fo} (h : Fo.drop i f = .cons k n p c ks (Fo.drop (i + 1) f)) : (Fo.drop i f).under = ks.size + (Fo.drop (i + 1) f).under := by
  rw [h]
  have e1 : (Fo.cons k n p c ks (Fo.drop (i + 1) f)).size = ks.size + (Fo.drop (i + 1) f).size + 1 := rfl
  have e2 : (Fo.cons k n p c ks (Fo.drop (i + 1) f)).len = (Fo.drop (i + 1) f).len + 1 := rfl
  have := Fo.len_le (Fo.drop (i + 1) f)
  unfold Fo.under
  omega

set_option maxRecDepth 100000 in
set_option maxHeartbeats 1600000 in
theorem szExpr_of (ks : Fo) (ih : ∀ (a : Option Addr) (cap : Nat) (left : Int) (w : World), Fat w 0 w.heap.size ks a → 0 ≤ left → left ≤ 1048576 → Calls Tryz.prog 91 #[.slice a ks.len cap, .int .i64 left] w fun e w' => e = .returned (.int .i64 (szv ks.size left)) ∧ Below w.heap.size w w')
    (k n p c : Int) (a : Option Addr) (cap : Nat) (left : Int) (w : World) (hF : Fat w 0 w.heap.size ks a) (h0 : 0 ≤ left) (h1 : left ≤ 1048576) :
    Calls Tryz.prog 104 #[.agg #[.int .i64 k, .int .i64 n, .int .i64 p, .int .i64 c, .slice a ks.len cap], .int .i64 left] w fun e w' => e = .returned (.int .i64 (szv ks.size left)) ∧ Below w.heap.size w w' := by
  have B1 : ∀ o, Below w.heap.size w (w.alloc o) := fun o => (Below.refl _ _).alloc (Nat.le_refl _) o
  go_enter Tryz.func104, Tryz.ntmps104
  go_wp2_with fail
  refine (ih a cap left _ ((hF.below (B1 _)).mono (Nat.le_refl _) (by simp)) h0 h1).mono ?_; rintro e w' ⟨rfl, hb⟩
  have hb2 := (B1 _).trans (hb.mono (by simp))
  by_cases hs : (ks.size : Int) ≤ left
  · have HZ := Lib.hid (szv_t hs)
    rw [szv_t hs]
    have hx : 0 ≤ left - (ks.size : Int) := by omega
    have hd : decide (left - (ks.size : Int) < 0) = false := decide_eq_false (by omega)
    generalize left - (ks.size : Int) = x at hx hd HZ
    clear hs hb
    go_wp2_with fail
    go_ret
    exact ⟨ret_int HZ.out.symm, hb2⟩
  · have HZ := Lib.hid (szv_f hs)
    rw [szv_f hs]
    clear hs hb
    go_wp2_with fail
    go_ret
    exact ⟨ret_int HZ.out.symm, hb2⟩

set_option maxRecDepth 100000 in
set_option maxHeartbeats 1600000 in
theorem szExprS_all : ∀ (m : Nat) (f : Fo), f.size < m → ∀ (a : Option Addr) (cap : Nat) (left : Int) (w : World), Fat w 0 w.heap.size f a → f.len ≤ maxLen → 0 ≤ left → left ≤ 1048576 →
    Calls Tryz.prog 91 #[.slice a f.len cap, .int .i64 left] w fun e w' => e = .returned (.int .i64 (szv f.size left)) ∧ Below w.heap.size w w' := by
  intro m
  induction m with
  | zero => intro f hf; omega
  | succ m ih =>
    intro f hf a cap left w hF hlen h0 h1
    unfold maxLen at hlen
    have hlen2 : f.len ≤ 9223372036854775807 := by omega
    clear hlen
    by_cases hl : (f.len : Int) ≤ left
    · have H0 : Hid (szv f.size left = szv (Fo.drop 0 f).under (left - (f.len : Int))) := by
        show _ = _
        rw [Fo.drop_zero, Fo.under_split f]; exact szv_add hl
      have hx0 : 0 ≤ left - (f.len : Int) := by omega
      have hx1 : left - (f.len : Int) ≤ 1048576 := by omega
      have hd : decide (left - (f.len : Int) < 0) = false := decide_eq_false (by omega)
      go_enter Tryz.func91, Tryz.ntmps91
      go_wp2_with fail
      generalize left - (f.len : Int) = x0 at H0 hx0 hx1 hd
      go_loopw [1, 5] (fun q i wr => ∃ (k : Nat) (x : Int), k ≤ f.len ∧ i = .int .i64 k ∧ q = .int .i64 x ∧ 0 ≤ x ∧ x ≤ 1048576 ∧ Hid (szv f.size left = szv (Fo.drop k f).under x) ∧ Below w.heap.size w wr) (fun _ i _ => f.len - (intOf i).toNat)
      case atStart => exact ⟨0, x0, Nat.zero_le _, rfl, rfl, hx0, hx1, H0, Below.refl _ _⟩
      case round =>
        obtain ⟨k, x, hk, rfl, rfl, hx, hx2, HX, hw⟩ := hrel
        clear hd H0 hx0 hx1
        by_cases hlt : k < f.len
        · obtain ⟨b, off, rfl, hbB⟩ := hF.blk (by omega)
          obtain ⟨k1, n1, p1, c1, ks, a', cap', hdr, hr, hkl, c0, d1, d2, d3, d4, hk'⟩ := (hF.below hw).node hlt
          have hlt' := Fo.kid_lt hdr
          have HU := Lib.hid (Fo.under_cons hdr)
          have HC := Lib.hid (szExpr_of ks (fun a cap left w h1 h2 h3 => ih ks (by omega) a cap left w h1 hkl h2 h3) k1 n1 p1 c1 a' cap' x wr (hk'.mono (Nat.le_refl _) hw.size) hx hx2)
          have hi : (k : Int) < (f.len : Int) := by omega
          clear hk' hF hdr hr hkl hlt' ih
          by_cases hs : (ks.size : Int) ≤ x
          · have HZ := Lib.hid (szv_t hs)
            have HX2 : Hid (szv f.size left = szv (Fo.drop (k + 1) f).under (x - (ks.size : Int))) := by
              show _ = _
              rw [HX.out, HU.out]; exact szv_add hs
            have hy : 0 ≤ x - (ks.size : Int) := by omega
            have hy2 : x - (ks.size : Int) ≤ 1048576 := by omega
            have hd : decide (x - (ks.size : Int) < 0) = false := decide_eq_false (by omega)
            go_wp2_with fail
            refine (HC.out).mono ?_; rintro e w' ⟨rfl, hb⟩
            have hw2 := hw.trans (hb.mono hw.size)
            rw [HZ.out]
            generalize x - (ks.size : Int) = y at hy hy2 hd HX2 HZ
            clear hs hb HX c0 d1 d2 d3 d4 HU HC
            go_wp2_with fail
            go_roundw
            case rel => exact ⟨k + 1, y, by omega, by go_num, rfl, hy, hy2, HX2, hw2⟩
            case measure => simp [intOf]; omega
          · have HZ := Lib.hid (szv_f hs)
            have HX2 : Hid (szv f.size left = -1) := by
              show _ = _
              rw [HX.out, HU.out]; exact szv_over hs
            go_wp2_with fail
            refine (HC.out).mono ?_; rintro e w' ⟨rfl, hb⟩
            have hw2 := hw.trans (hb.mono hw.size)
            rw [HZ.out]
            clear hs hb HX c0 d1 d2 d3 d4 HU HC HZ
            go_wp2_with fail
            go_ret
            exact ⟨ret_int HX2.out.symm, hw2⟩
        · have HX2 : Hid (szv f.size left = x) := by
            show _ = _
            rw [HX.out, Fo.drop_end (by omega)]; exact (szv_t (by show (0 : Int) ≤ x; exact hx)).trans (by show x - (0 : Int) = x; omega)
          clear HX
          have hi : ¬ (k : Int) < (f.len : Int) := by omega
          go_wp2_with fail
          go_ret
          exact ⟨ret_int HX2.out.symm, hw⟩
    · have HX2 : Hid (szv f.size left = -1) := by
        show _ = _
        rw [Fo.under_split f]; exact szv_over hl
      have hd : decide (left - (f.len : Int) < 0) = true := decide_eq_true (by omega)
      go_enter Tryz.func91, Tryz.ntmps91
      go_wp2_with fail
      go_ret
      exact ⟨ret_int HX2.out.symm, Below.refl _ _⟩

theorem szExprS (f : Fo) (a : Option Addr) (cap : Nat) (left : Int) (w : World) (hF : Fat w 0 w.heap.size f a) (hl : f.len ≤ maxLen) (h0 : 0 ≤ left) (h1 : left ≤ 1048576) :
    Calls Tryz.prog 91 #[.slice a f.len cap, .int .i64 left] w fun e w' => e = .returned (.int .i64 (szv f.size left)) ∧ Below w.heap.size w w' :=
  szExprS_all (f.size + 1) f (by omega) a cap left w hF hl h0 h1
theorem szExpr (ks : Fo) (k n p c : Int) (a : Option Addr) (cap : Nat) (left : Int) (w : World) (hF : Fat w 0 w.heap.size ks a) (hl : ks.len ≤ maxLen) (h0 : 0 ≤ left) (h1 : left ≤ 1048576) :
    Calls Tryz.prog 104 #[.agg #[.int .i64 k, .int .i64 n, .int .i64 p, .int .i64 c, .slice a ks.len cap], .int .i64 left] w fun e w' => e = .returned (.int .i64 (szv ks.size left)) ∧ Below w.heap.size w w' :=
  szExpr_of ks (fun a cap left w h1 h2 h3 => szExprS ks a cap left w h1 hl h2 h3) k n p c a cap left w hF h0 h1

def Fn.size (f : Fn) : Nat := f.name.size + f.outs.size
def fnsSize : List Fn → Nat
  | [] => 0
  | f :: r => f.size + fnsSize r
theorem fnsSize_drop {l : List Fn} {k : Nat} (h : k < l.length) : fnsSize (l.drop k) = (l.getD k noFn).size + fnsSize (l.drop (k + 1)) := by
  rw [List.drop_eq_getElem_cons h, fnsSize, List.getD_eq_getElem?_getD, List.getElem?_eq_getElem h]; rfl

set_option maxRecDepth 100000 in
set_option maxHeartbeats 1600000 in
theorem szFunc (f : Fn) (a : Option Addr) (cap : Nat) (left : Int) (w : World) (hF : Fat w 0 w.heap.size f.outs a) (hR : RF f) (h0 : 0 ≤ left) (h1 : left ≤ 1048576) :
    Calls Tryz.prog 66 #[.agg #[.string f.name, .int .i64 f.params, .slice a f.outs.len cap], .int .i64 left] w fun e w' => e = .returned (.int .i64 (szv f.size left)) ∧ Below w.heap.size w w' := by
  have B1 : ∀ o, Below w.heap.size w (w.alloc o) := fun o => (Below.refl _ _).alloc (Nat.le_refl _) o
  obtain ⟨r1, r2, r3⟩ := hR
  have hn : f.name.size ≤ 9223372036854775807 := by unfold maxLen at r1; omega
  clear r1 r2
  by_cases hl : (f.name.size : Int) ≤ left
  · have H0 : Hid (szv f.size left = szv f.outs.size (left - (f.name.size : Int))) := by
      show _ = _
      exact szv_add hl
    have hx : 0 ≤ left - (f.name.size : Int) := by omega
    have hx1 : left - (f.name.size : Int) ≤ 1048576 := by omega
    have hd : decide (left - (f.name.size : Int) < 0) = false := decide_eq_false (by omega)
    go_enter Tryz.func66, Tryz.ntmps66
    go_wp2_with fail
    generalize left - (f.name.size : Int) = x at H0 hx hx1 hd ⊢
    refine (szExprS f.outs a cap x _ ((hF.below (B1 _)).mono (Nat.le_refl _) (by simp)) r3 hx hx1).mono ?_; rintro e w' ⟨rfl, hb⟩
    have hb2 := (B1 _).trans (hb.mono (by simp))
    rw [← H0.out]
    by_cases hs : (f.outs.size : Int) ≤ x
    · have HZ := Lib.hid (H0.out.trans (szv_t hs))
      rw [HZ.out]
      have hy : 0 ≤ x - (f.outs.size : Int) := by omega
      have hd : decide (x - (f.outs.size : Int) < 0) = false := decide_eq_false (by omega)
      generalize x - (f.outs.size : Int) = y at hy hd HZ
      clear hs hb H0
      go_wp2_with fail
      go_ret
      exact ⟨ret_int HZ.out.symm, hb2⟩
    · have HZ := Lib.hid (H0.out.trans (szv_f hs))
      rw [HZ.out]
      clear hs hb H0
      go_wp2_with fail
      go_ret
      exact ⟨ret_int HZ.out.symm, hb2⟩
  · have HX2 : Hid (szv f.size left = -1) := szv_over hl
    have hd : decide (left - (f.name.size : Int) < 0) = true := decide_eq_true (by omega)
    go_enter Tryz.func66, Tryz.ntmps66
    go_wp2_with fail
    go_ret
    exact ⟨ret_int HX2.out.symm, B1 _⟩

set_option maxRecDepth 100000 in
set_option maxHeartbeats 1600000 in
theorem szFuncS (l : List Fn) (a : Option Addr) (cap : Nat) (left : Int) (w : World) (hP : Pat w 0 w.heap.size l a) (hlen : l.length ≤ maxLen) (h0 : 0 ≤ left) (h1 : left ≤ 1048576) :
    Calls Tryz.prog 35 #[.slice a l.length cap, .int .i64 left] w fun e w' => e = .returned (.int .i64 (szv (l.length + fnsSize l) left)) ∧ Below w.heap.size w w' := by
  unfold maxLen at hlen
  have hlen2 : l.length ≤ 9223372036854775807 := by omega
  clear hlen
  by_cases hl : (l.length : Int) ≤ left
  · have H0 : Hid (szv (l.length + fnsSize l) left = szv (fnsSize (l.drop 0)) (left - (l.length : Int))) := szv_add hl
    have hx0 : 0 ≤ left - (l.length : Int) := by omega
    have hx1 : left - (l.length : Int) ≤ 1048576 := by omega
    have hd : decide (left - (l.length : Int) < 0) = false := decide_eq_false (by omega)
    go_enter Tryz.func35, Tryz.ntmps35
    go_wp2_with fail
    generalize left - (l.length : Int) = x0 at H0 hx0 hx1 hd
    go_loopw [1, 5] (fun q i wr => ∃ (k : Nat) (x : Int), k ≤ l.length ∧ i = .int .i64 k ∧ q = .int .i64 x ∧ 0 ≤ x ∧ x ≤ 1048576 ∧ Hid (szv (l.length + fnsSize l) left = szv (fnsSize (l.drop k)) x) ∧ Below w.heap.size w wr) (fun _ i _ => l.length - (intOf i).toNat)
    case atStart => exact ⟨0, x0, Nat.zero_le _, rfl, rfl, hx0, hx1, H0, Below.refl _ _⟩
    case round =>
      obtain ⟨k, x, hk, rfl, rfl, hx, hx2, HX, hw⟩ := hrel
      clear hd H0 hx0 hx1
      by_cases hlt : k < l.length
      · obtain ⟨b, off, rfl, hbB, hall⟩ := (hP.resolve_left (by intro e; rw [e] at hlt; simp at hlt))
        obtain ⟨hr, a', cap', d0, d1, d2, hF⟩ := hall k hlt
        have HU := Lib.hid (fnsSize_drop hlt)
        have c0 : wr.cell? ⟨b, off + k * 3, none⟩ = some (.string (l.getD k noFn).name) := (hw.cell (p := ⟨b, off + k * 3, none⟩) hbB.2).trans d0
        have c1 : wr.cell? ⟨b, off + k * 3 + 1, none⟩ = some (.int .i64 (l.getD k noFn).params) := (hw.cell (p := ⟨b, off + k * 3 + 1, none⟩) hbB.2).trans d1
        have c2 : wr.cell? ⟨b, off + k * 3 + 2, none⟩ = some (.slice a' (l.getD k noFn).outs.len cap') := (hw.cell (p := ⟨b, off + k * 3 + 2, none⟩) hbB.2).trans d2
        have hF' := (hF.below hw).mono (Nat.le_refl _) hw.size
        clear d0 d1 d2 hF hall hP
        generalize l.getD k noFn = f at HU c0 c1 c2 hF' hr
        have HC := Lib.hid (szFunc f a' cap' x wr hF' hr hx hx2)
        have hi : (k : Int) < (l.length : Int) := by omega
        clear hF' hr
        by_cases hs : (f.size : Int) ≤ x
        · have HZ := Lib.hid (szv_t hs)
          have HX2 : Hid (szv (l.length + fnsSize l) left = szv (fnsSize (l.drop (k + 1))) (x - (f.size : Int))) := by
            show _ = _
            rw [HX.out, HU.out]; exact szv_add hs
          have hy : 0 ≤ x - (f.size : Int) := by omega
          have hy2 : x - (f.size : Int) ≤ 1048576 := by omega
          have hd : decide (x - (f.size : Int) < 0) = false := decide_eq_false (by omega)
          go_wp2_with fail
          refine (HC.out).mono ?_; rintro e w' ⟨rfl, hb⟩
          have hw2 := hw.trans (hb.mono hw.size)
          rw [HZ.out]
          generalize x - (f.size : Int) = y at hy hy2 hd HX2 HZ
          clear hs hb HX c0 c1 c2 HU HC
          go_wp2_with fail
          go_roundw
          case rel => exact ⟨k + 1, y, by omega, by go_num, rfl, hy, hy2, HX2, hw2⟩
          case measure => simp [intOf]; omega
        · have HZ := Lib.hid (szv_f hs)
          have HX2 : Hid (szv (l.length + fnsSize l) left = -1) := by
            show _ = _
            rw [HX.out, HU.out]; exact szv_over hs
          go_wp2_with fail
          refine (HC.out).mono ?_; rintro e w' ⟨rfl, hb⟩
          have hw2 := hw.trans (hb.mono hw.size)
          rw [HZ.out]
          clear hs hb HX c0 c1 c2 HU HC HZ
          go_wp2_with fail
          go_ret
          exact ⟨ret_int HX2.out.symm, hw2⟩
      · have HX2 : Hid (szv (l.length + fnsSize l) left = x) := by
          show _ = _
          rw [HX.out, List.drop_eq_nil_of_le (by omega)]; exact (szv_t (by show (0 : Int) ≤ x; exact hx)).trans (by show x - (0 : Int) = x; omega)
        clear HX
        have hi : ¬ (k : Int) < (l.length : Int) := by omega
        go_wp2_with fail
        go_ret
        exact ⟨ret_int HX2.out.symm, hw⟩
  · have HX2 : Hid (szv (l.length + fnsSize l) left = -1) := szv_over hl
    have hd : decide (left - (l.length : Int) < 0) = true := decide_eq_true (by omega)
    go_enter Tryz.func35, Tryz.ntmps35
    go_wp2_with fail
    go_ret
    exact ⟨ret_int HX2.out.symm, Below.refl _ _⟩

def pgSize (l : List Fn) : Nat := l.length + fnsSize l
set_option maxRecDepth 100000 in
set_option maxHeartbeats 1600000 in
theorem szProgram (l : List Fn) (a : Option Addr) (cap : Nat) (left : Int) (w : World) (hP : Pat w 0 w.heap.size l a) (hlen : l.length ≤ maxLen) (h0 : 0 ≤ left) (h1 : left ≤ 1048576) :
    Calls Tryz.prog 10 #[.agg #[.slice a l.length cap], .int .i64 left] w fun e w' => e = .returned (.int .i64 (szv (pgSize l) left)) ∧ Below w.heap.size w w' := by
  have B1 : ∀ o, Below w.heap.size w (w.alloc o) := fun o => (Below.refl _ _).alloc (Nat.le_refl _) o
  go_enter Tryz.func10, Tryz.ntmps10
  go_wp2_with fail
  refine (szFuncS l a cap left _ ((hP.below (B1 _)).mono (Nat.le_refl _) (by simp)) hlen h0 h1).mono ?_; rintro e w' ⟨rfl, hb⟩
  have hb2 := (B1 _).trans (hb.mono (by simp))
  by_cases hs : ((pgSize l : Nat) : Int) ≤ left
  · have HZ : Hid (szv (l.length + fnsSize l) left = left - ((pgSize l : Nat) : Int)) := szv_t hs
    have HZ2 : Hid (szv (pgSize l) left = left - ((pgSize l : Nat) : Int)) := szv_t hs
    rw [HZ.out]
    have hy : 0 ≤ left - ((pgSize l : Nat) : Int) := by omega
    have hd : decide (left - ((pgSize l : Nat) : Int) < 0) = false := decide_eq_false (by omega)
    generalize left - ((pgSize l : Nat) : Int) = y at hy hd HZ HZ2
    clear hs hb
    go_wp2_with fail
    go_ret
    exact ⟨ret_int HZ2.out.symm, hb2⟩
  · have HZ : Hid (szv (l.length + fnsSize l) left = -1) := szv_f hs
    have HZ2 : Hid (szv (pgSize l) left = -1) := szv_f hs
    rw [HZ.out]
    clear hs hb
    go_wp2_with fail
    go_ret
    exact ⟨ret_int HZ2.out.symm, hb2⟩

end Go.Proofs.YtoedccgiahegnaaGreat
