/- Expressions as trees, and where they lie in memory. -/
import Derived.Test.YtldbhhocoolloaaGreatFrame
namespace Go.Proofs.YtldbhhocoolloaaGreat
open Go.ChangeShapes Go.WideShapes Go.ChangeAt Go.RowKit

/-- A list of expressions: the four numbers and the kids of the first one, and the rest. -/
inductive Fo where
  | nil
  | cons (k n p c : Int) (kids rest : Fo)

def Fo.len : Fo → Nat
  | .nil => 0
  | .cons _ _ _ _ _ r => r.len + 1
/-- how many nodes -/
def Fo.size : Fo → Nat
  | .nil => 0
  | .cons _ _ _ _ ks r => ks.size + r.size + 1
def Fo.drop : Nat → Fo → Fo
  | 0, f => f
  | _ + 1, .nil => .nil
  | i + 1, .cons _ _ _ _ _ r => Fo.drop i r

theorem Fo.drop_zero (f : Fo) : Fo.drop 0 f = f := by cases f <;> rfl
theorem Fo.drop_nil (i : Nat) : Fo.drop i .nil = .nil := by cases i <;> rfl
theorem Fo.drop_at {f : Fo} {i : Nat} (h : i < f.len) : ∃ k n p c ks, Fo.drop i f = .cons k n p c ks (Fo.drop (i + 1) f) := by
  induction f generalizing i with
  | nil => simp [Fo.len] at h
  | cons k n p c ks r _ ih =>
    cases i with
    | zero => exact ⟨k, n, p, c, ks, by simp [Fo.drop]⟩
    | succ i =>
      obtain ⟨k', n', p', c', ks', h'⟩ := ih (i := i) (by simp [Fo.len] at h; omega)
      exact ⟨k', n', p', c', ks', h'⟩
theorem Fo.len_drop (f : Fo) (i : Nat) : (Fo.drop i f).len = f.len - i := by
  induction f generalizing i with
  | nil => rw [Fo.drop_nil]; simp [Fo.len]
  | cons k n p c ks r _ ih =>
    cases i with
    | zero => rfl
    | succ i => show (Fo.drop i r).len = _; rw [ih]; simp [Fo.len]
theorem Fo.drop_end {f : Fo} {i : Nat} (h : f.len ≤ i) : Fo.drop i f = .nil := by
  have := Fo.len_drop f i
  cases hf : Fo.drop i f with
  | nil => rfl
  | cons k n p c ks r => rw [hf] at this; simp [Fo.len] at this; omega
theorem Fo.len_le (f : Fo) : f.len ≤ f.size := by
  induction f with
  | nil => exact Nat.le_refl _
  | cons k n p c ks r _ ih => simp only [Fo.len, Fo.size]; omega
theorem Fo.size_drop (f : Fo) (i : Nat) : (Fo.drop i f).size ≤ f.size := by
  induction f generalizing i with
  | nil => rw [Fo.drop_nil]; exact Nat.le_refl _
  | cons k n p c ks r _ ih =>
    cases i with
    | zero => exact Nat.le_refl _
    | succ i => have := ih i; simp only [Fo.size]; show (Fo.drop i r).size ≤ _; omega
theorem Fo.kid_lt {f : Fo} {i : Nat} {k n p c : Int} {ks r : Fo} (h : Fo.drop i f = .cons k n p c ks r) : ks.size < f.size := by
  have := Fo.size_drop f i
  rw [h] at this
  simp only [Fo.size] at this
  omega

/-- four numbers that fit -/
def R4 (k n p c : Int) : Prop := (-9223372036854775808 ≤ k ∧ k ≤ 9223372036854775807) ∧ (-9223372036854775808 ≤ n ∧ n ≤ 9223372036854775807) ∧ (-9223372036854775808 ≤ p ∧ p ≤ 9223372036854775807) ∧ (-9223372036854775808 ≤ c ∧ c ≤ 9223372036854775807)

/-- The expressions lie one behind the other from the address on, in blocks from L on and ahead of B. -/
def Fat (w : World) (L B : Nat) : Fo → Option Addr → Prop
  | .nil, _ => True
  | .cons k n p c ks r, a => ∃ b off a' cap, a = some ⟨b, off, none⟩ ∧ (L ≤ b ∧ b < B) ∧ R4 k n p c ∧ ks.len ≤ maxLen ∧
      w.cell? ⟨b, off, none⟩ = some (.int .i64 k) ∧ w.cell? ⟨b, off + 1, none⟩ = some (.int .i64 n) ∧ w.cell? ⟨b, off + 2, none⟩ = some (.int .i64 p) ∧ w.cell? ⟨b, off + 3, none⟩ = some (.int .i64 c) ∧
      w.cell? ⟨b, off + 4, none⟩ = some (.slice a' ks.len cap) ∧ Fat w L B ks a' ∧ Fat w L B r (some ⟨b, off + 5, none⟩)

theorem Fat.agree {w w' : World} {L B : Nat} (hb : ∀ k, L ≤ k → k < B → w'.heap[k]? = w.heap[k]?) {f : Fo} : ∀ {a : Option Addr}, Fat w L B f a → Fat w' L B f a := by
  induction f with
  | nil => intro a _; trivial
  | cons k n p c ks r ihk ihr =>
    intro a h
    obtain ⟨b, off, a', cap, e, hB, hr, hl, h0, h1, h2, h3, h4, hk, hr'⟩ := h
    have cl : ∀ o v, w.cell? ⟨b, o, none⟩ = some v → w'.cell? ⟨b, o, none⟩ = some v := fun o v h => (World.cell?_of_block (a := ⟨b, o, none⟩) (hb b hB.1 hB.2)).trans h
    exact ⟨b, off, a', cap, e, hB, hr, hl, cl _ _ h0, cl _ _ h1, cl _ _ h2, cl _ _ h3, cl _ _ h4, ihk hk, ihr hr'⟩
theorem Fat.below {w w' : World} {L B : Nat} (hb : Below B w w') {f : Fo} {a : Option Addr} (h : Fat w L B f a) : Fat w' L B f a := Fat.agree (fun k _ h => hb.block k h) h
theorem Fat.mono {w : World} {L L' B B' : Nat} (hL : L' ≤ L) (hB : B ≤ B') {f : Fo} : ∀ {a : Option Addr}, Fat w L B f a → Fat w L' B' f a := by
  induction f with
  | nil => intro a _; trivial
  | cons k n p c ks r ihk ihr =>
    intro a h
    obtain ⟨b, off, a', cap, e, hb, hr, hl, h0, h1, h2, h3, h4, hk, hr'⟩ := h
    exact ⟨b, off, a', cap, e, ⟨Nat.le_trans hL hb.1, Nat.lt_of_lt_of_le hb.2 hB⟩, hr, hl, h0, h1, h2, h3, h4, ihk hk, ihr hr'⟩
theorem Fat.drop {w : World} {L B : Nat} {f : Fo} : ∀ {i b off : Nat}, Fat w L B f (some ⟨b, off, none⟩) → i ≤ f.len → Fat w L B (Fo.drop i f) (some ⟨b, off + i * 5, none⟩) := by
  induction f with
  | nil => intro i b off _ _; rw [Fo.drop_nil]; trivial
  | cons k n p c ks r _ ihr =>
    intro i b off h hi
    cases i with
    | zero => rw [Fo.drop_zero, Nat.zero_mul, Nat.add_zero]; exact h
    | succ i =>
      obtain ⟨b', off', a', cap, e, hb, hr, hl, h0, h1, h2, h3, h4, hk, hr'⟩ := h
      simp only [Option.some.injEq, Addr.mk.injEq] at e
      obtain ⟨rfl, rfl, _⟩ := e
      have := ihr (i := i) hr' (by simp only [Fo.len] at hi; omega)
      rw [show off + (i + 1) * 5 = off + 5 + i * 5 from by omega]
      exact this
/-- the block of a list that is not empty -/
theorem Fat.blk {w : World} {L B : Nat} {f : Fo} {a : Option Addr} (h : Fat w L B f a) (hf : 0 < f.len) : ∃ b off, a = some ⟨b, off, none⟩ ∧ (L ≤ b ∧ b < B) := by
  cases f with
  | nil => simp [Fo.len] at hf
  | cons k n p c ks r =>
    obtain ⟨b, off, a', cap, e, hb, _⟩ := h
    exact ⟨b, off, e, hb⟩
/-- a node of a list -/
theorem Fat.node {w : World} {L B : Nat} {f : Fo} {b off i : Nat} (h : Fat w L B f (some ⟨b, off, none⟩)) (hi : i < f.len) :
    ∃ k n p c ks a' cap, Fo.drop i f = .cons k n p c ks (Fo.drop (i + 1) f) ∧ R4 k n p c ∧ ks.len ≤ maxLen ∧
      w.cell? ⟨b, off + i * 5, none⟩ = some (.int .i64 k) ∧ w.cell? ⟨b, off + i * 5 + 1, none⟩ = some (.int .i64 n) ∧ w.cell? ⟨b, off + i * 5 + 2, none⟩ = some (.int .i64 p) ∧ w.cell? ⟨b, off + i * 5 + 3, none⟩ = some (.int .i64 c) ∧
      w.cell? ⟨b, off + i * 5 + 4, none⟩ = some (.slice a' ks.len cap) ∧ Fat w L B ks a' := by
  obtain ⟨k, n, p, c, ks, hd⟩ := Fo.drop_at hi
  have := h.drop (i := i) (by omega)
  rw [hd] at this
  obtain ⟨b', off', a', cap, e, hb, hr, hl, h0, h1, h2, h3, h4, hk, _⟩ := this
  simp only [Option.some.injEq, Addr.mk.injEq] at e
  obtain ⟨rfl, rfl, _⟩ := e
  exact ⟨k, n, p, c, ks, a', cap, hd, hr, hl, h0, h1, h2, h3, h4, hk⟩

theorem fat_build {w : World} {L B b : Nat} (hB : L ≤ b ∧ b < B) : ∀ (m off : Nat), (∀ i, i < m → ∃ k n p c ks a' cap, R4 k n p c ∧ ks.len ≤ maxLen ∧
      w.cell? ⟨b, off + i * 5, none⟩ = some (.int .i64 k) ∧ w.cell? ⟨b, off + i * 5 + 1, none⟩ = some (.int .i64 n) ∧ w.cell? ⟨b, off + i * 5 + 2, none⟩ = some (.int .i64 p) ∧ w.cell? ⟨b, off + i * 5 + 3, none⟩ = some (.int .i64 c) ∧
      w.cell? ⟨b, off + i * 5 + 4, none⟩ = some (.slice a' ks.len cap) ∧ Fat w L B ks a') → ∃ f : Fo, f.len = m ∧ Fat w L B f (some ⟨b, off, none⟩) := by
  intro m
  induction m with
  | zero => intro off _; exact ⟨.nil, rfl, trivial⟩
  | succ m ih =>
    intro off h
    obtain ⟨k, n, p, c, ks, a', cap, hr, hl, h0, h1, h2, h3, h4, hk⟩ := h 0 (by omega)
    obtain ⟨f, hf, hF⟩ := ih (off + 5) (fun i hi => by
      have := h (i + 1) (by omega)
      rw [show off + (i + 1) * 5 = off + 5 + i * 5 from by omega] at this
      exact this)
    simp only [Nat.zero_mul, Nat.add_zero] at h0 h1 h2 h3 h4
    exact ⟨.cons k n p c ks f, by simp [Fo.len, hf], b, off, a', cap, rfl, hB, hr, hl, h0, h1, h2, h3, h4, hk, hF⟩
/-- a list whose nodes lie at an address, one after the other -/
theorem fat_of {w : World} {L B b : Nat} (hB : L ≤ b ∧ b < B) {f : Fo} : ∀ (off : Nat), (∀ i, i < f.len → ∃ k n p c ks a' cap, Fo.drop i f = .cons k n p c ks (Fo.drop (i + 1) f) ∧ R4 k n p c ∧ ks.len ≤ maxLen ∧
      w.cell? ⟨b, off + i * 5, none⟩ = some (.int .i64 k) ∧ w.cell? ⟨b, off + i * 5 + 1, none⟩ = some (.int .i64 n) ∧ w.cell? ⟨b, off + i * 5 + 2, none⟩ = some (.int .i64 p) ∧ w.cell? ⟨b, off + i * 5 + 3, none⟩ = some (.int .i64 c) ∧
      w.cell? ⟨b, off + i * 5 + 4, none⟩ = some (.slice a' ks.len cap) ∧ Fat w L B ks a') → Fat w L B f (some ⟨b, off, none⟩) := by
  induction f with
  | nil => intro _ _; trivial
  | cons k n p c ks r _ ih =>
    intro off h
    obtain ⟨k', n', p', c', ks', a', cap, hd, hr, hl, h0, h1, h2, h3, h4, hk⟩ := h 0 (by simp [Fo.len])
    rw [Fo.drop_zero] at hd
    simp only [Fo.cons.injEq] at hd
    obtain ⟨rfl, rfl, rfl, rfl, rfl, _⟩ := hd
    simp only [Nat.zero_mul, Nat.add_zero] at h0 h1 h2 h3 h4
    refine ⟨b, off, a', cap, rfl, hB, hr, hl, h0, h1, h2, h3, h4, hk, ih (off + 5) (fun i hi => ?_)⟩
    have := h (i + 1) (by simp only [Fo.len]; omega)
    rw [show off + (i + 1) * 5 = off + 5 + i * 5 from by omega] at this
    exact this

set_option maxRecDepth 100000 in
theorem cellsExpr : Tryz.prog.cellsOf 183 = 5 := by kernel_rfl

set_option maxRecDepth 100000 in
theorem openKids {H : Type} {enc : TypeId × Value → H} {W : World} : ∀ (fuel : Nat) (cs : List Value) (x : DataW H × List MemPlace), DataW.trod enc Tryz.prog W 0 (fun _ => true) true fuel 119 cs = some x →
    ∃ a f cap, cs = [.slice a f.len cap] ∧ Fat W 0 W.heap.size f a ∧ f.len ≤ maxLen := by
  intro fuel
  induction fuel using Nat.strongRecOn with
  | _ fuel ih =>
    intro cs x h
    rcases DataW.trod_slice Tryz.underlying119 h with ⟨rfl, _⟩ | ⟨a, len, cap, elems, rest, n, rfl, rfl, rfl, hb, hl, hm, hlen, hel, hsp, hns⟩
    · exact ⟨none, .nil, 0, rfl, trivial, Nat.zero_le _⟩
    · 
      by_cases h0 : len = 0
      · subst h0; exact ⟨some a, .nil, cap, rfl, trivial, Nat.zero_le _⟩
      · rw [cellsExpr] at hel
        have one : ∀ i, i < len → ∃ (cs' : List Value) (y : DataW H × List MemPlace), W.cells? 0 (a.add (i * 5)) 5 = some cs' ∧ DataW.trod enc Tryz.prog W 0 (fun _ => true) true n 183 cs' = some y := fun i hi => by
          have := hel i hi
          rw [List.getElem?_eq_getElem (by omega)] at this
          obtain ⟨cs', h1, h2⟩ := Option.bind_eq_some_iff.1 this
          exact ⟨cs', _, h1, h2⟩
        obtain ⟨b, off, spot⟩ := a
        have hs : spot = none := by
          obtain ⟨cs', y, h1, _⟩ := one 0 (by omega)
          obtain ⟨_, hlc, hat⟩ := World.cells?_some h1
          have h2 := hat 0 (by omega)
          rw [List.getElem?_eq_getElem (by omega)] at h2
          simpa [Addr.add] using World.cell?_spot h2
        subst hs
        have hb : b < W.heap.size := by
          obtain ⟨cs', y, h1, _⟩ := one 0 (by omega)
          obtain ⟨_, hlc, hat⟩ := World.cells?_some h1
          have h2 := hat 0 (by omega)
          rw [List.getElem?_eq_getElem (by omega)] at h2
          exact cell_lt (o := off) (by simpa [Addr.add] using h2)
        obtain ⟨f, hf, hF⟩ := fat_build (w := W) (L := 0) (B := W.heap.size) ⟨Nat.zero_le _, hb⟩ len off (fun i hi => by
          obtain ⟨cs', y, h1, h2⟩ := one i hi
          obtain ⟨_, hlc, hat⟩ := World.cells?_some h1
          obtain ⟨xs, n', rfl, _, _, hxl, hf⟩ := DataW.trod_struct Tryz.underlying183 h2
          match cs', hlc with
          | [c0, c1, c2, c3, c4], _ =>
            have g : ∀ j (hj : j < 5), W.cell? ⟨b, off + i * 5 + j, none⟩ = [c0, c1, c2, c3, c4][j]? := fun j hj => by
              rw [← hat j hj]
              congr 1
              cases i <;> cases j <;> simp [Addr.add] <;> omega
            have q0 := hf 0 _ rfl
            have q1 := hf 1 _ rfl
            have q2 := hf 2 _ rfl
            have q3 := hf 3 _ rfl
            have q4 := hf 4 _ rfl
            obtain ⟨k, e0, _, r0⟩ := DataW.trod_int Tryz.underlying2 (q0.trans (List.getElem?_eq_getElem (by rw [hxl]; decide)))
            obtain ⟨n1, e1, _, r1⟩ := DataW.trod_int Tryz.underlying2 (q1.trans (List.getElem?_eq_getElem (by rw [hxl]; decide)))
            obtain ⟨p1, e2, _, r2⟩ := DataW.trod_int Tryz.underlying2 (q2.trans (List.getElem?_eq_getElem (by rw [hxl]; decide)))
            obtain ⟨x1, e3, _, r3⟩ := DataW.trod_int Tryz.underlying2 (q3.trans (List.getElem?_eq_getElem (by rw [hxl]; decide)))
            obtain ⟨a', ks, cap', e4, hk, hkl⟩ := ih n' (by omega) _ _ (q4.trans (List.getElem?_eq_getElem (by rw [hxl]; decide)))
            obtain rfl : c0 = .int .i64 k := List.head_eq_of_cons_eq e0
            obtain rfl : c1 = .int .i64 n1 := List.head_eq_of_cons_eq e1
            obtain rfl : c2 = .int .i64 p1 := List.head_eq_of_cons_eq e2
            obtain rfl : c3 = .int .i64 x1 := List.head_eq_of_cons_eq e3
            obtain rfl : c4 = .slice a' ks.len cap' := List.head_eq_of_cons_eq e4
            exact ⟨k, n1, p1, x1, ks, a', cap', ⟨bounds_i64 r0, bounds_i64 r1, bounds_i64 r2, bounds_i64 r3⟩, hkl, g 0 (by omega), g 1 (by omega), g 2 (by omega), g 3 (by omega), g 4 (by omega), hk⟩)
        exact ⟨_, f, cap, by rw [hf], hF, by omega⟩

end Go.Proofs.YtldbhhocoolloaaGreat
