/- Tapes: lists of instructions and guards, and where they lie in memory. -/
import Derived.Test.YtldbhhocoolloaaGreatFrame
namespace Go.Proofs.YtldbhhocoolloaaGreat
open Go.ChangeShapes Go.WideShapes Go.ChangeAt Go.RowKit

theorem addr_add2 (b off x j : Nat) : ((⟨b, off, none⟩ : Addr).add x).add j = ⟨b, off + x + j, none⟩ := by
  cases x <;> cases j <;> simp [Addr.add] <;> omega
/-- a slice of structs of m cells each that came in: each element read as data -/
theorem openRows {H : Type} {enc : TypeId × Value → H} {W : World} {t et : TypeId} {m : Nat} (hu : Tryz.prog.underlying t = some (.slice et)) (hm : Tryz.prog.cellsOf et = m) (m0 : 0 < m) (fuel : Nat) (cs : List Value) (x : DataW H × List MemPlace)
    (h : DataW.trod enc Tryz.prog W 0 (fun _ => true) true fuel t cs = some x) :
    ∃ a len cap, cs = [.slice a len cap] ∧ len ≤ maxLen ∧ (len = 0 ∨ ∃ b off n', a = some ⟨b, off, none⟩ ∧ b < W.heap.size ∧ ∀ i, i < len → ∃ (cs' : List Value) (y : DataW H × List MemPlace), cs'.length = m ∧
      (∀ j, j < m → W.cell? ⟨b, off + i * m + j, none⟩ = cs'[j]?) ∧ DataW.trod enc Tryz.prog W 0 (fun _ => true) true n' et cs' = some y) := by
  rcases DataW.trod_slice hu h with ⟨rfl, _⟩ | ⟨a, len, cap, elems, rest, n, rfl, rfl, rfl, hb, hl, hmx, hlen, hel, hsp, hns⟩
  · exact ⟨none, 0, 0, rfl, Nat.zero_le _, .inl rfl⟩
  · refine ⟨some a, len, cap, rfl, by omega, ?_⟩
    by_cases h0 : len = 0
    · exact .inl h0
    · rw [hm] at hel
      have one : ∀ i, i < len → ∃ (cs' : List Value) (y : DataW H × List MemPlace), W.cells? 0 (a.add (i * m)) m = some cs' ∧ DataW.trod enc Tryz.prog W 0 (fun _ => true) true n et cs' = some y := fun i hi => by
        have := hel i hi
        rw [List.getElem?_eq_getElem (by omega)] at this
        obtain ⟨cs', h1, h2⟩ := Option.bind_eq_some_iff.1 this
        exact ⟨cs', _, h1, h2⟩
      obtain ⟨b, off, spot⟩ := a
      have hs : spot = none := by
        obtain ⟨cs', y, h1, _⟩ := one 0 (by omega)
        obtain ⟨_, hlc, hat⟩ := World.cells?_some h1
        have h2 := hat 0 (by omega)
        rw [List.getElem?_eq_getElem (by omega)] at h2
        simpa [Addr.add] using World.cell?_spot h2
      subst hs
      have hb : b < W.heap.size := by
        obtain ⟨cs', y, h1, _⟩ := one 0 (by omega)
        obtain ⟨_, hlc, hat⟩ := World.cells?_some h1
        have h2 := hat 0 (by omega)
        rw [List.getElem?_eq_getElem (by omega)] at h2
        exact cell_lt (o := off) (by simpa [Addr.add] using h2)
      refine .inr ⟨b, off, n, rfl, hb, fun i hi => ?_⟩
      obtain ⟨cs', y, h1, h2⟩ := one i hi
      obtain ⟨_, hlc, hat⟩ := World.cells?_some h1
      refine ⟨cs', y, hlc, fun j hj => ?_, h2⟩
      rw [← hat j hj, addr_add2]

/-- An instruction of a tape. -/
structure In4 where
  op : Int
  a : Int
  b : Int
  num : Int
def no4 : In4 := ⟨0, 0, 0, 0⟩
/-- A guard. -/
structure Gd where
  reg : Int
  zero : Bool
def noG : Gd := ⟨0, false⟩
/-- A tape. -/
structure Tp where
  inputs : Int
  code : List In4
  guards : List Gd
  outs : List Int

def I64 (n : Int) : Prop := -9223372036854775808 ≤ n ∧ n ≤ 9223372036854775807
def RI (x : In4) : Prop := I64 x.op ∧ I64 x.a ∧ I64 x.b ∧ I64 x.num

/-- The instructions lie one behind the other from the address on, in a block from L on and ahead of B. -/
def Cat (w : World) (L B : Nat) (l : List In4) (a : Option Addr) : Prop :=
  l = [] ∨ ∃ b off, a = some ⟨b, off, none⟩ ∧ (L ≤ b ∧ b < B) ∧ ∀ i, i < l.length → RI (l.getD i no4) ∧
    w.cell? ⟨b, off + i * 4, none⟩ = some (.int .i64 (l.getD i no4).op) ∧ w.cell? ⟨b, off + i * 4 + 1, none⟩ = some (.int .i64 (l.getD i no4).a) ∧
    w.cell? ⟨b, off + i * 4 + 2, none⟩ = some (.int .i64 (l.getD i no4).b) ∧ w.cell? ⟨b, off + i * 4 + 3, none⟩ = some (.int .i64 (l.getD i no4).num)
theorem Cat.agree {w w' : World} {L B : Nat} {l : List In4} {a : Option Addr} (h : Cat w L B l a) (hb : ∀ k, L ≤ k → k < B → w'.heap[k]? = w.heap[k]?) : Cat w' L B l a := by
  rcases h with h | ⟨b, off, h1, h2, h3⟩
  · exact .inl h
  · refine .inr ⟨b, off, h1, h2, fun i hi => ?_⟩
    obtain ⟨r, c0, c1, c2, c3⟩ := h3 i hi
    have cl : ∀ o v, w.cell? ⟨b, o, none⟩ = some v → w'.cell? ⟨b, o, none⟩ = some v := fun o v h => (World.cell?_of_block (a := ⟨b, o, none⟩) (hb b h2.1 h2.2)).trans h
    exact ⟨r, cl _ _ c0, cl _ _ c1, cl _ _ c2, cl _ _ c3⟩
theorem Cat.below {w w' : World} {L B : Nat} {l : List In4} {a : Option Addr} (h : Cat w L B l a) (hb : Below B w w') : Cat w' L B l a := h.agree fun k _ h => hb.block k h
theorem Cat.mono {w : World} {L L' B B' : Nat} (hL : L' ≤ L) (hB : B ≤ B') {l : List In4} {a : Option Addr} (h : Cat w L B l a) : Cat w L' B' l a := by
  rcases h with h | ⟨b, off, h1, h2, h3⟩
  · exact .inl h
  · exact .inr ⟨b, off, h1, by omega, h3⟩
theorem Cat.ri {w : World} {L B : Nat} {l : List In4} {a : Option Addr} (h : Cat w L B l a) (k : Nat) : RI (l.getD k no4) := by
  by_cases hk : k < l.length
  · rcases h with rfl | ⟨_, _, _, _, h⟩
    · simp at hk
    · exact (h k hk).1
  · rw [List.getD_eq_getElem?_getD, List.getElem?_eq_none (by omega)]; exact ⟨⟨by decide, by decide⟩, ⟨by decide, by decide⟩, ⟨by decide, by decide⟩, ⟨by decide, by decide⟩⟩

/-- The guards lie one behind the other. -/
def Gat (w : World) (L B : Nat) (l : List Gd) (a : Option Addr) : Prop :=
  l = [] ∨ ∃ b off, a = some ⟨b, off, none⟩ ∧ (L ≤ b ∧ b < B) ∧ ∀ i, i < l.length → I64 (l.getD i noG).reg ∧
    w.cell? ⟨b, off + i * 2, none⟩ = some (.int .i64 (l.getD i noG).reg) ∧ w.cell? ⟨b, off + i * 2 + 1, none⟩ = some (.bool (l.getD i noG).zero)
theorem Gat.agree {w w' : World} {L B : Nat} {l : List Gd} {a : Option Addr} (h : Gat w L B l a) (hb : ∀ k, L ≤ k → k < B → w'.heap[k]? = w.heap[k]?) : Gat w' L B l a := by
  rcases h with h | ⟨b, off, h1, h2, h3⟩
  · exact .inl h
  · refine .inr ⟨b, off, h1, h2, fun i hi => ?_⟩
    obtain ⟨r, c0, c1⟩ := h3 i hi
    have cl : ∀ o v, w.cell? ⟨b, o, none⟩ = some v → w'.cell? ⟨b, o, none⟩ = some v := fun o v h => (World.cell?_of_block (a := ⟨b, o, none⟩) (hb b h2.1 h2.2)).trans h
    exact ⟨r, cl _ _ c0, cl _ _ c1⟩
theorem Gat.below {w w' : World} {L B : Nat} {l : List Gd} {a : Option Addr} (h : Gat w L B l a) (hb : Below B w w') : Gat w' L B l a := h.agree fun k _ h => hb.block k h
theorem Gat.mono {w : World} {L L' B B' : Nat} (hL : L' ≤ L) (hB : B ≤ B') {l : List Gd} {a : Option Addr} (h : Gat w L B l a) : Gat w L' B' l a := by
  rcases h with h | ⟨b, off, h1, h2, h3⟩
  · exact .inl h
  · exact .inr ⟨b, off, h1, by omega, h3⟩

/-- The numbers lie one behind the other. -/
def Oat (w : World) (L B : Nat) (l : List Int) (a : Option Addr) : Prop :=
  l = [] ∨ ∃ b off, a = some ⟨b, off, none⟩ ∧ (L ≤ b ∧ b < B) ∧ ∀ k, k < l.length → w.cell? ⟨b, off + k, none⟩ = some (.int .i64 (l.getD k 0))
theorem Oat.agree {w w' : World} {L B : Nat} {l : List Int} {a : Option Addr} (h : Oat w L B l a) (hb : ∀ k, L ≤ k → k < B → w'.heap[k]? = w.heap[k]?) : Oat w' L B l a := by
  rcases h with h | ⟨b, off, h1, h2, h3⟩
  · exact .inl h
  · exact .inr ⟨b, off, h1, h2, fun i hi => (World.cell?_of_block (a := ⟨b, off + i, none⟩) (hb b h2.1 h2.2)).trans (h3 i hi)⟩
theorem Oat.below {w w' : World} {L B : Nat} {l : List Int} {a : Option Addr} (h : Oat w L B l a) (hb : Below B w w') : Oat w' L B l a := h.agree fun k _ h => hb.block k h
theorem Oat.mono {w : World} {L L' B B' : Nat} (hL : L' ≤ L) (hB : B ≤ B') {l : List Int} {a : Option Addr} (h : Oat w L B l a) : Oat w L' B' l a := by
  rcases h with h | ⟨b, off, h1, h2, h3⟩
  · exact .inl h
  · exact .inr ⟨b, off, h1, by omega, h3⟩
theorem Oat.at {w : World} {L B : Nat} {l : List Int} {a : Option Addr} (h : Oat w L B l a) (hB : B ≤ w.heap.size) : At w a l := by
  rcases h with h | ⟨b, off, h1, h2, h3⟩
  · exact .inl h
  · exact .inr ⟨b, off, h1, by omega, h3⟩
theorem At.oat {w : World} {l : List Int} {a : Option Addr} (h : At w a l) : Oat w 0 w.heap.size l a := by
  rcases h with h | ⟨b, off, h1, h2, h3⟩
  · exact .inl h
  · exact .inr ⟨b, off, h1, by omega, h3⟩

/-- A tape lies in memory: its three lists. -/
structure Tat (w : World) (L B : Nat) (t : Tp) (ac ag ao : Option Addr) : Prop where
  code : Cat w L B t.code ac
  guards : Gat w L B t.guards ag
  outs : Oat w L B t.outs ao
theorem Tat.agree {w w' : World} {L B : Nat} {t : Tp} {ac ag ao : Option Addr} (h : Tat w L B t ac ag ao) (hb : ∀ k, L ≤ k → k < B → w'.heap[k]? = w.heap[k]?) : Tat w' L B t ac ag ao := ⟨h.code.agree hb, h.guards.agree hb, h.outs.agree hb⟩
theorem Tat.below {w w' : World} {L B : Nat} {t : Tp} {ac ag ao : Option Addr} (h : Tat w L B t ac ag ao) (hb : Below B w w') : Tat w' L B t ac ag ao := h.agree fun k _ h => hb.block k h
theorem Tat.mono {w : World} {L L' B B' : Nat} (hL : L' ≤ L) (hB : B ≤ B') {t : Tp} {ac ag ao : Option Addr} (h : Tat w L B t ac ag ao) : Tat w L' B' t ac ag ao := ⟨h.code.mono hL hB, h.guards.mono hL hB, h.outs.mono hL hB⟩
/-- the tape as a value -/
abbrev tpv (t : Tp) (ac : Option Addr) (cc : Nat) (ag : Option Addr) (cg : Nat) (ao : Option Addr) (co : Nat) : Value :=
  .agg #[.int .i64 t.inputs, .slice ac t.code.length cc, .slice ag t.guards.length cg, .slice ao t.outs.length co]
def RT (t : Tp) : Prop := I64 t.inputs ∧ Rng t.outs ∧ t.code.length ≤ maxLen ∧ t.guards.length ≤ maxLen ∧ t.outs.length ≤ maxLen

/-- a tape that came in -/
def IsTape (W : World) (v : Value) : Prop := ∃ t ac cc ag cg ao co, v = tpv t ac cc ag cg ao co ∧ Tat W 0 W.heap.size t ac ag ao ∧ RT t

theorem cat_build {w : World} {L B b off : Nat} (hB : L ≤ b ∧ b < B) : ∀ (m : Nat), (∀ i, i < m → ∃ f, RI f ∧
      w.cell? ⟨b, off + i * 4, none⟩ = some (.int .i64 f.op) ∧ w.cell? ⟨b, off + i * 4 + 1, none⟩ = some (.int .i64 f.a) ∧
      w.cell? ⟨b, off + i * 4 + 2, none⟩ = some (.int .i64 f.b) ∧ w.cell? ⟨b, off + i * 4 + 3, none⟩ = some (.int .i64 f.num)) → ∃ l : List In4, l.length = m ∧ Cat w L B l (some ⟨b, off, none⟩) := by
  intro m
  induction m with
  | zero => intro _; exact ⟨[], rfl, .inl rfl⟩
  | succ m ih =>
    intro h
    obtain ⟨l, hl, hp⟩ := ih (fun i hi => h i (by omega))
    obtain ⟨f, hf⟩ := h m (by omega)
    refine ⟨l ++ [f], by simp [hl], .inr ⟨b, off, rfl, hB, fun i hi => ?_⟩⟩
    by_cases him : i = m
    · subst him
      have e : (l ++ [f]).getD i no4 = f := by rw [List.getD_eq_getElem?_getD, List.getElem?_append_right (by omega), hl, Nat.sub_self]; rfl
      rw [e]
      exact hf
    · have hi' : i < l.length := by simp at hi; omega
      have e : (l ++ [f]).getD i no4 = l.getD i no4 := by rw [List.getD_eq_getElem?_getD, List.getD_eq_getElem?_getD, List.getElem?_append_left hi']
      rw [e]
      rcases hp with hp | ⟨b', off', hbo, _, hall⟩
      · rw [hp] at hi'; simp at hi'
      · simp only [Option.some.injEq, Addr.mk.injEq] at hbo
        obtain ⟨rfl, rfl, _⟩ := hbo
        exact hall i hi'
theorem gat_build {w : World} {L B b off : Nat} (hB : L ≤ b ∧ b < B) : ∀ (m : Nat), (∀ i, i < m → ∃ f : Gd, I64 f.reg ∧
      w.cell? ⟨b, off + i * 2, none⟩ = some (.int .i64 f.reg) ∧ w.cell? ⟨b, off + i * 2 + 1, none⟩ = some (.bool f.zero)) → ∃ l : List Gd, l.length = m ∧ Gat w L B l (some ⟨b, off, none⟩) := by
  intro m
  induction m with
  | zero => intro _; exact ⟨[], rfl, .inl rfl⟩
  | succ m ih =>
    intro h
    obtain ⟨l, hl, hp⟩ := ih (fun i hi => h i (by omega))
    obtain ⟨f, hf⟩ := h m (by omega)
    refine ⟨l ++ [f], by simp [hl], .inr ⟨b, off, rfl, hB, fun i hi => ?_⟩⟩
    by_cases him : i = m
    · subst him
      have e : (l ++ [f]).getD i noG = f := by rw [List.getD_eq_getElem?_getD, List.getElem?_append_right (by omega), hl, Nat.sub_self]; rfl
      rw [e]
      exact hf
    · have hi' : i < l.length := by simp at hi; omega
      have e : (l ++ [f]).getD i noG = l.getD i noG := by rw [List.getD_eq_getElem?_getD, List.getD_eq_getElem?_getD, List.getElem?_append_left hi']
      rw [e]
      rcases hp with hp | ⟨b', off', hbo, _, hall⟩
      · rw [hp] at hi'; simp at hi'
      · simp only [Option.some.injEq, Addr.mk.injEq] at hbo
        obtain ⟨rfl, rfl, _⟩ := hbo
        exact hall i hi'

set_option maxRecDepth 100000 in
theorem openInts {H : Type} {enc : TypeId × Value → H} {W : World} (fuel : Nat) (cs : List Value) (x : DataW H × List MemPlace) (h : DataW.trod enc Tryz.prog W 0 (fun _ => true) true fuel 25 cs = some x) :
    ∃ a l cap, cs = [.slice a (List.length l) cap] ∧ At W a l ∧ Rng l ∧ l.length ≤ maxLen := by
  rcases open_ints Tryz.underlying25 Tryz.underlying2 (by kernel_rfl) h with ⟨rfl, _⟩ | ⟨x, len, c, zs, rfl, _, hl, hm, hz, _, hcell, hwz⟩
  · exact ⟨none, [], 0, rfl, .inl rfl, fun n hn => by simp at hn, Nat.zero_le _⟩
  · obtain ⟨l, h1, h2, h3, h4⟩ := IsRow.open (w := W) (a := some x) (len := len) (cap := c) (zs := zs) (.inr ⟨_, rfl, hl, hm, by simpa using hz, hcell, hwz⟩)
    exact ⟨some x, l, c, by rw [h1], h2, h3, by rw [h1]; omega⟩

end Go.Proofs.YtldbhhocoolloaaGreat
