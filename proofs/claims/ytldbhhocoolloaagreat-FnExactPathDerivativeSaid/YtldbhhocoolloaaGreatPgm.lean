/- Programs, and where they lie in memory. -/
import Derived.Test.YtldbhhocoolloaaGreatTree
namespace Go.Proofs.YtldbhhocoolloaaGreat
open Go.ChangeShapes Go.WideShapes Go.ChangeAt Go.RowKit

/-- A function: its name, how many parameters, its outputs. -/
structure Fn where
  name : ByteArray
  params : Int
  outs : Fo
def noFn : Fn := ⟨⟨#[]⟩, 0, .nil⟩

def RF (f : Fn) : Prop := f.name.size ≤ maxLen ∧ (-9223372036854775808 ≤ f.params ∧ f.params ≤ 9223372036854775807) ∧ f.outs.len ≤ maxLen

/-- The functions lie one behind the other from the address on, in blocks from L on and ahead of B. -/
def Pat (w : World) (L B : Nat) (l : List Fn) (a : Option Addr) : Prop :=
  l = [] ∨ ∃ b off, a = some ⟨b, off, none⟩ ∧ (L ≤ b ∧ b < B) ∧ ∀ i, i < l.length → RF (l.getD i noFn) ∧ ∃ a' cap,
    w.cell? ⟨b, off + i * 3, none⟩ = some (.string (l.getD i noFn).name) ∧ w.cell? ⟨b, off + i * 3 + 1, none⟩ = some (.int .i64 (l.getD i noFn).params) ∧
    w.cell? ⟨b, off + i * 3 + 2, none⟩ = some (.slice a' (l.getD i noFn).outs.len cap) ∧ Fat w L B (l.getD i noFn).outs a'

theorem Pat.agree {w w' : World} {L B : Nat} {l : List Fn} {a : Option Addr} (h : Pat w L B l a) (hb : ∀ k, L ≤ k → k < B → w'.heap[k]? = w.heap[k]?) : Pat w' L B l a := by
  rcases h with h | ⟨b, off, h1, h2, h3⟩
  · exact .inl h
  · refine .inr ⟨b, off, h1, h2, fun i hi => ?_⟩
    obtain ⟨r, a', cap, c0, c1, c2, hF⟩ := h3 i hi
    have cl : ∀ o v, w.cell? ⟨b, o, none⟩ = some v → w'.cell? ⟨b, o, none⟩ = some v := fun o v h => (World.cell?_of_block (a := ⟨b, o, none⟩) (hb b h2.1 h2.2)).trans h
    exact ⟨r, a', cap, cl _ _ c0, cl _ _ c1, cl _ _ c2, hF.agree hb⟩
theorem Pat.below {w w' : World} {L B : Nat} {l : List Fn} {a : Option Addr} (h : Pat w L B l a) (hb : Below B w w') : Pat w' L B l a := h.agree fun k _ h => hb.block k h
theorem Pat.mono {w : World} {L L' B B' : Nat} (hL : L' ≤ L) (hB : B ≤ B') {l : List Fn} {a : Option Addr} (h : Pat w L B l a) : Pat w L' B' l a := by
  rcases h with h | ⟨b, off, h1, h2, h3⟩
  · exact .inl h
  · refine .inr ⟨b, off, h1, by omega, fun i hi => ?_⟩
    obtain ⟨r, a', cap, c0, c1, c2, hF⟩ := h3 i hi
    exact ⟨r, a', cap, c0, c1, c2, hF.mono hL hB⟩

/-- a program that came in -/
def IsProg (W : World) (v : Value) : Prop := ∃ a cap l, v = .agg #[.slice a l.length cap] ∧ Pat W 0 W.heap.size l a ∧ l.length ≤ maxLen
/-- an expression that came in -/
def IsExpr (W : World) (v : Value) : Prop := ∃ k n p c a ks cap, v = .agg #[.int .i64 k, .int .i64 n, .int .i64 p, .int .i64 c, .slice a (Fo.len ks) cap] ∧ R4 k n p c ∧ Fat W 0 W.heap.size ks a ∧ ks.len ≤ maxLen

set_option maxRecDepth 100000 in
theorem cellsFunc : Tryz.prog.cellsOf 121 = 3 := by kernel_rfl
set_option maxRecDepth 100000 in
theorem cellsProg : Tryz.prog.cellsOf 24 = 1 := by kernel_rfl

set_option maxRecDepth 100000 in
theorem openExpr {H : Type} {enc : TypeId × Value → H} {W : World} {base : Nat} {v : Value} {d : DataW H} {p : List MemPlace} (hw : Value.okWide Tryz.prog W .any base 183 v) (h : DataW.Trod enc Tryz.prog W 0 (fun _ => true) true 183 v d p) : IsExpr W v := by
  obtain ⟨cs, rfl, hsz⟩ := okWide_struct Tryz.underlying183 hw
  obtain ⟨l⟩ := cs
  match l, hsz.trans cellsExpr with
  | [c0, c1, c2, c3, c4], _ =>
    obtain ⟨fuel, hf⟩ := h
    obtain ⟨xs, n', rfl, _, _, hxl, hf⟩ := DataW.trod_struct Tryz.underlying183 hf
    have q0 := hf 0 _ rfl
    have q1 := hf 1 _ rfl
    have q2 := hf 2 _ rfl
    have q3 := hf 3 _ rfl
    have q4 := hf 4 _ rfl
    obtain ⟨k, e0, _, r0⟩ := DataW.trod_int Tryz.underlying2 (q0.trans (List.getElem?_eq_getElem (by rw [hxl]; decide)))
    obtain ⟨n1, e1, _, r1⟩ := DataW.trod_int Tryz.underlying2 (q1.trans (List.getElem?_eq_getElem (by rw [hxl]; decide)))
    obtain ⟨p1, e2, _, r2⟩ := DataW.trod_int Tryz.underlying2 (q2.trans (List.getElem?_eq_getElem (by rw [hxl]; decide)))
    obtain ⟨x1, e3, _, r3⟩ := DataW.trod_int Tryz.underlying2 (q3.trans (List.getElem?_eq_getElem (by rw [hxl]; decide)))
    obtain ⟨a', ks, cap', e4, hk, hkl⟩ := openKids n' _ _ (q4.trans (List.getElem?_eq_getElem (by rw [hxl]; decide)))
    obtain rfl : c0 = .int .i64 k := List.head_eq_of_cons_eq e0
    obtain rfl : c1 = .int .i64 n1 := List.head_eq_of_cons_eq e1
    obtain rfl : c2 = .int .i64 p1 := List.head_eq_of_cons_eq e2
    obtain rfl : c3 = .int .i64 x1 := List.head_eq_of_cons_eq e3
    obtain rfl : c4 = .slice a' ks.len cap' := List.head_eq_of_cons_eq e4
    exact ⟨k, n1, p1, x1, a', ks, cap', rfl, ⟨bounds_i64 r0, bounds_i64 r1, bounds_i64 r2, bounds_i64 r3⟩, hk, hkl⟩

theorem pat_build {w : World} {L B b off : Nat} (hB : L ≤ b ∧ b < B) : ∀ (m : Nat), (∀ i, i < m → ∃ f a' cap, RF f ∧
      w.cell? ⟨b, off + i * 3, none⟩ = some (.string f.name) ∧ w.cell? ⟨b, off + i * 3 + 1, none⟩ = some (.int .i64 f.params) ∧
      w.cell? ⟨b, off + i * 3 + 2, none⟩ = some (.slice a' f.outs.len cap) ∧ Fat w L B f.outs a') → ∃ l : List Fn, l.length = m ∧ Pat w L B l (some ⟨b, off, none⟩) := by
  intro m
  induction m with
  | zero => intro _; exact ⟨[], rfl, .inl rfl⟩
  | succ m ih =>
    intro h
    obtain ⟨l, hl, hp⟩ := ih (fun i hi => h i (by omega))
    obtain ⟨f, a', cap, hr, c0, c1, c2, hF⟩ := h m (by omega)
    refine ⟨l ++ [f], by simp [hl], .inr ⟨b, off, rfl, hB, fun i hi => ?_⟩⟩
    by_cases him : i = m
    · subst him
      have e : (l ++ [f]).getD i noFn = f := by rw [List.getD_eq_getElem?_getD, List.getElem?_append_right (by omega), hl, Nat.sub_self]; rfl
      rw [e]
      exact ⟨hr, a', cap, c0, c1, c2, hF⟩
    · have hi' : i < l.length := by simp at hi; omega
      have e : (l ++ [f]).getD i noFn = l.getD i noFn := by rw [List.getD_eq_getElem?_getD, List.getD_eq_getElem?_getD, List.getElem?_append_left hi']
      rw [e]
      rcases hp with hp | ⟨b', off', hbo, _, hall⟩
      · rw [hp] at hi'; simp at hi'
      · simp only [Option.some.injEq, Addr.mk.injEq] at hbo
        obtain ⟨rfl, rfl, _⟩ := hbo
        exact hall i hi'

set_option maxRecDepth 100000 in
theorem openFuncs {H : Type} {enc : TypeId × Value → H} {W : World} (fuel : Nat) (cs : List Value) (x : DataW H × List MemPlace) (h : DataW.trod enc Tryz.prog W 0 (fun _ => true) true fuel 22 cs = some x) :
    ∃ a l cap, cs = [.slice a (List.length l) cap] ∧ Pat W 0 W.heap.size l a ∧ l.length ≤ maxLen := by
  rcases DataW.trod_slice Tryz.underlying22 h with ⟨rfl, _⟩ | ⟨a, len, cap, elems, rest, n, rfl, rfl, rfl, hb, hl, hm, hlen, hel, hsp, hns⟩
  · exact ⟨none, [], 0, rfl, .inl rfl, Nat.zero_le _⟩
  · by_cases h0 : len = 0
    · subst h0; exact ⟨some a, [], cap, rfl, .inl rfl, Nat.zero_le _⟩
    · rw [cellsFunc] at hel
      have one : ∀ i, i < len → ∃ (cs' : List Value) (y : DataW H × List MemPlace), W.cells? 0 (a.add (i * 3)) 3 = some cs' ∧ DataW.trod enc Tryz.prog W 0 (fun _ => true) true n 121 cs' = some y := fun i hi => by
        have := hel i hi
        rw [List.getElem?_eq_getElem (by omega)] at this
        obtain ⟨cs', h1, h2⟩ := Option.bind_eq_some_iff.1 this
        exact ⟨cs', _, h1, h2⟩
      obtain ⟨b, off, spot⟩ := a
      have hs : spot = none := by
        obtain ⟨cs', y, h1, _⟩ := one 0 (by omega)
        obtain ⟨_, hlc, hat⟩ := World.cells?_some h1
        have h2 := hat 0 (by omega)
        rw [List.getElem?_eq_getElem (by omega)] at h2
        simpa [Addr.add] using World.cell?_spot h2
      subst hs
      have hb : b < W.heap.size := by
        obtain ⟨cs', y, h1, _⟩ := one 0 (by omega)
        obtain ⟨_, hlc, hat⟩ := World.cells?_some h1
        have h2 := hat 0 (by omega)
        rw [List.getElem?_eq_getElem (by omega)] at h2
        exact cell_lt (o := off) (by simpa [Addr.add] using h2)
      obtain ⟨l, hl', hP⟩ := pat_build (w := W) (L := 0) (B := W.heap.size) (off := off) ⟨Nat.zero_le _, hb⟩ len (fun i hi => by
        obtain ⟨cs', y, h1, h2⟩ := one i hi
        obtain ⟨_, hlc, hat⟩ := World.cells?_some h1
        obtain ⟨xs, n', rfl, _, _, hxl, hf⟩ := DataW.trod_struct Tryz.underlying121 h2
        match cs', hlc with
        | [c0, c1, c2], _ =>
          have g : ∀ j (hj : j < 3), W.cell? ⟨b, off + i * 3 + j, none⟩ = [c0, c1, c2][j]? := fun j hj => by
            rw [← hat j hj]
            congr 1
            cases i <;> cases j <;> simp [Addr.add] <;> omega
          have q0 := hf 0 _ rfl
          have q1 := hf 1 _ rfl
          have q2 := hf 2 _ rfl
          obtain ⟨s, e0, _, r0⟩ := DataW.trod_string Tryz.underlying9 (q0.trans (List.getElem?_eq_getElem (by rw [hxl]; decide)))
          obtain ⟨p1, e1, _, r1⟩ := DataW.trod_int Tryz.underlying2 (q1.trans (List.getElem?_eq_getElem (by rw [hxl]; decide)))
          obtain ⟨a', ks, cap', e2, hk, hkl⟩ := openKids n' _ _ (q2.trans (List.getElem?_eq_getElem (by rw [hxl]; decide)))
          obtain rfl : c0 = .string s := List.head_eq_of_cons_eq e0
          obtain rfl : c1 = .int .i64 p1 := List.head_eq_of_cons_eq e1
          obtain rfl : c2 = .slice a' ks.len cap' := List.head_eq_of_cons_eq e2
          exact ⟨⟨s, p1, ks⟩, a', cap', ⟨r0, bounds_i64 r1, hkl⟩, g 0 (by omega), g 1 (by omega), g 2 (by omega), hk⟩)
      exact ⟨_, l, cap, by rw [hl'], hP, by omega⟩

set_option maxRecDepth 100000 in
theorem openProg {H : Type} {enc : TypeId × Value → H} {W : World} {base : Nat} {v : Value} {d : DataW H} {p : List MemPlace} (hw : Value.okWide Tryz.prog W .any base 24 v) (h : DataW.Trod enc Tryz.prog W 0 (fun _ => true) true 24 v d p) : IsProg W v := by
  obtain ⟨cs, rfl, hsz⟩ := okWide_struct Tryz.underlying24 hw
  obtain ⟨l⟩ := cs
  match l, hsz.trans cellsProg with
  | [c0], _ =>
    obtain ⟨fuel, hf⟩ := h
    obtain ⟨xs, n', rfl, _, _, hxl, hf⟩ := DataW.trod_struct Tryz.underlying24 hf
    have q0 := hf 0 _ rfl
    obtain ⟨a', l, cap', e0, hk, hkl⟩ := openFuncs n' _ _ (q0.trans (List.getElem?_eq_getElem (by rw [hxl]; decide)))
    obtain rfl : c0 = .slice a' l.length cap' := List.head_eq_of_cons_eq e0
    exact ⟨a', cap', l, rfl, hk, hkl⟩

end Go.Proofs.YtldbhhocoolloaaGreat
