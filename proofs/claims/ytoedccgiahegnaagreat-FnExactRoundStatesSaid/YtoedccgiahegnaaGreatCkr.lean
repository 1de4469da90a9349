/- Tapes: lists of instructions and guards, and where they lie in memory. Which tapes are valid, as plain functions. Tapes: sizes, copies, comparisons and marks, as the laws make them. Rows (Action): where they lie in memory; sizes, copies, comparisons and marks, as the laws make them. Schedules and weights: which ones are valid, by the model and by the program. What the laws on schedules want besides. Chains that are being reversed, plainly: what is possible, what an action does, the first action that is not possible, how often steps are advanced over. Memory that a call keeps but for some blocks. -/
import Derived.StillTailTactics
import Derived.Deep.RegionHeld3
import Derived.Laws.StructEq
import Derived.Test.YtoedccgiahegnaaGreatSz
namespace Go.Proofs.YtoedccgiahegnaaGreat
open Go.ChangeShapes Go.WideShapes Go.ChangeAt Go.RowKit

theorem addr_add2 (b off x j : Nat) : ((⟨b, off, none⟩ : Addr).add x).add j = ⟨b, off + x + j, none⟩ := by
  cases x <;> cases j <;> simp [Addr.add] <;> omega
/-- a slice of structs of m cells each that came in: each element read as data -/
theorem openRows {H : Type} {enc : TypeId × Value → H} {W : World} {t et : TypeId} {m : Nat} (hu : Tryz.prog.underlying t = some (.slice et)) (hm : Tryz.prog.cellsOf et = m) (m0 : 0 < m) (fuel : Nat) (cs : List Value) (x : DataW H × List MemPlace)
    (h : DataW.trod enc Tryz.prog W 0 (fun _ => true) true fuel t cs = some x) :
    ∃ a len cap, cs = [.slice a len cap] ∧ len ≤ maxLen ∧ (len = 0 ∨ ∃ b off n', a = some ⟨b, off, none⟩ ∧ b < W.heap.size ∧ ∀ i, i < len → ∃ (cs' : List Value) (y : DataW H × List MemPlace), cs'.length = m ∧
      (∀ j, j < m → W.cell? ⟨b, off + i * m + j, none⟩ = cs'[j]?) ∧ DataW.trod enc Tryz.prog W 0 (fun _ => true) true n' et cs' = some y) := by
  rcases DataW.trod_slice hu h with ⟨rfl, _⟩ | ⟨a, len, cap, elems, rest, n, rfl, rfl, rfl, hb, hl, hmx, hlen, hel, hsp, hns⟩
  · exact ⟨none, 0, 0, rfl, Nat.zero_le _, .inl rfl⟩
  · refine ⟨some a, len, cap, rfl, by omega, ?_⟩
    by_cases h0 : len = 0
    · exact .inl h0
    · rw [hm] at hel
      have one : ∀ i, i < len → ∃ (cs' : List Value) (y : DataW H × List MemPlace), W.cells? 0 (a.add (i * m)) m = some cs' ∧ DataW.trod enc Tryz.prog W 0 (fun _ => true) true n et cs' = some y := fun i hi => by
        have := hel i hi
        rw [List.getElem?_eq_getElem (by omega)] at this
        obtain ⟨cs', h1, h2⟩ := Option.bind_eq_some_iff.1 this
        exact ⟨cs', _, h1, h2⟩
      obtain ⟨b, off, spot⟩ := a
      have hs : spot = none := by
        obtain ⟨cs', y, h1, _⟩ := one 0 (by omega)
        obtain ⟨_, hlc, hat⟩ := World.cells?_some h1
        have h2 := hat 0 (by omega)
        rw [List.getElem?_eq_getElem (by omega)] at h2
        simpa [Addr.add] using World.cell?_spot h2
      subst hs
      have hb : b < W.heap.size := by
        obtain ⟨cs', y, h1, _⟩ := one 0 (by omega)
        obtain ⟨_, hlc, hat⟩ := World.cells?_some h1
        have h2 := hat 0 (by omega)
        rw [List.getElem?_eq_getElem (by omega)] at h2
        exact cell_lt (o := off) (by simpa [Addr.add] using h2)
      refine .inr ⟨b, off, n, rfl, hb, fun i hi => ?_⟩
      obtain ⟨cs', y, h1, h2⟩ := one i hi
      obtain ⟨_, hlc, hat⟩ := World.cells?_some h1
      refine ⟨cs', y, hlc, fun j hj => ?_, h2⟩
      rw [← hat j hj, addr_add2]

/-- An instruction of a tape. -/
structure In4 where
  op : Int
  a : Int
  b : Int
  num : Int
def no4 : In4 := ⟨0, 0, 0, 0⟩
/-- A guard. -/
structure Gd where
  reg : Int
  zero : Bool
def noG : Gd := ⟨0, false⟩
/-- A tape. -/
structure Tp where
  inputs : Int
  code : List In4
  guards : List Gd
  outs : List Int

def I64 (n : Int) : Prop := -9223372036854775808 ≤ n ∧ n ≤ 9223372036854775807
def RI (x : In4) : Prop := I64 x.op ∧ I64 x.a ∧ I64 x.b ∧ I64 x.num

/-- The instructions lie one behind the other from the address on, in a block from L on and ahead of B. -/
def Cat (w : World) (L B : Nat) (l : List In4) (a : Option Addr) : Prop :=
  l = [] ∨ ∃ b off, a = some ⟨b, off, none⟩ ∧ (L ≤ b ∧ b < B) ∧ ∀ i, i < l.length → RI (l.getD i no4) ∧
    w.cell? ⟨b, off + i * 4, none⟩ = some (.int .i64 (l.getD i no4).op) ∧ w.cell? ⟨b, off + i * 4 + 1, none⟩ = some (.int .i64 (l.getD i no4).a) ∧
    w.cell? ⟨b, off + i * 4 + 2, none⟩ = some (.int .i64 (l.getD i no4).b) ∧ w.cell? ⟨b, off + i * 4 + 3, none⟩ = some (.int .i64 (l.getD i no4).num)
theorem Cat.agree {w w' : World} {L B : Nat} {l : List In4} {a : Option Addr} (h : Cat w L B l a) (hb : ∀ k, L ≤ k → k < B → w'.heap[k]? = w.heap[k]?) : Cat w' L B l a := by
  rcases h with h | ⟨b, off, h1, h2, h3⟩
  · exact .inl h
  · refine .inr ⟨b, off, h1, h2, fun i hi => ?_⟩
    obtain ⟨r, c0, c1, c2, c3⟩ := h3 i hi
    have cl : ∀ o v, w.cell? ⟨b, o, none⟩ = some v → w'.cell? ⟨b, o, none⟩ = some v := fun o v h => (World.cell?_of_block (a := ⟨b, o, none⟩) (hb b h2.1 h2.2)).trans h
    exact ⟨r, cl _ _ c0, cl _ _ c1, cl _ _ c2, cl _ _ c3⟩
theorem Cat.below {w w' : World} {L B : Nat} {l : List In4} {a : Option Addr} (h : Cat w L B l a) (hb : Below B w w') : Cat w' L B l a := h.agree fun k _ h => hb.block k h
theorem Cat.mono {w : World} {L L' B B' : Nat} (hL : L' ≤ L) (hB : B ≤ B') {l : List In4} {a : Option Addr} (h : Cat w L B l a) : Cat w L' B' l a := by
  rcases h with h | ⟨b, off, h1, h2, h3⟩
  · exact .inl h
  · exact .inr ⟨b, off, h1, by omega, h3⟩
theorem Cat.ri {w : World} {L B : Nat} {l : List In4} {a : Option Addr} (h : Cat w L B l a) (k : Nat) : RI (l.getD k no4) := by
  by_cases hk : k < l.length
  · rcases h with rfl | ⟨_, _, _, _, h⟩
    · simp at hk
    · exact (h k hk).1
  · rw [List.getD_eq_getElem?_getD, List.getElem?_eq_none (by omega)]; exact ⟨⟨by decide, by decide⟩, ⟨by decide, by decide⟩, ⟨by decide, by decide⟩, ⟨by decide, by decide⟩⟩

/-- The guards lie one behind the other. -/
def Gat (w : World) (L B : Nat) (l : List Gd) (a : Option Addr) : Prop :=
  l = [] ∨ ∃ b off, a = some ⟨b, off, none⟩ ∧ (L ≤ b ∧ b < B) ∧ ∀ i, i < l.length → I64 (l.getD i noG).reg ∧
    w.cell? ⟨b, off + i * 2, none⟩ = some (.int .i64 (l.getD i noG).reg) ∧ w.cell? ⟨b, off + i * 2 + 1, none⟩ = some (.bool (l.getD i noG).zero)
theorem Gat.agree {w w' : World} {L B : Nat} {l : List Gd} {a : Option Addr} (h : Gat w L B l a) (hb : ∀ k, L ≤ k → k < B → w'.heap[k]? = w.heap[k]?) : Gat w' L B l a := by
  rcases h with h | ⟨b, off, h1, h2, h3⟩
  · exact .inl h
  · refine .inr ⟨b, off, h1, h2, fun i hi => ?_⟩
    obtain ⟨r, c0, c1⟩ := h3 i hi
    have cl : ∀ o v, w.cell? ⟨b, o, none⟩ = some v → w'.cell? ⟨b, o, none⟩ = some v := fun o v h => (World.cell?_of_block (a := ⟨b, o, none⟩) (hb b h2.1 h2.2)).trans h
    exact ⟨r, cl _ _ c0, cl _ _ c1⟩
theorem Gat.below {w w' : World} {L B : Nat} {l : List Gd} {a : Option Addr} (h : Gat w L B l a) (hb : Below B w w') : Gat w' L B l a := h.agree fun k _ h => hb.block k h
theorem Gat.mono {w : World} {L L' B B' : Nat} (hL : L' ≤ L) (hB : B ≤ B') {l : List Gd} {a : Option Addr} (h : Gat w L B l a) : Gat w L' B' l a := by
  rcases h with h | ⟨b, off, h1, h2, h3⟩
  · exact .inl h
  · exact .inr ⟨b, off, h1, by omega, h3⟩

/-- The numbers lie one behind the other. -/
def Oat (w : World) (L B : Nat) (l : List Int) (a : Option Addr) : Prop :=
  l = [] ∨ ∃ b off, a = some ⟨b, off, none⟩ ∧ (L ≤ b ∧ b < B) ∧ ∀ k, k < l.length → w.cell? ⟨b, off + k, none⟩ = some (.int .i64 (l.getD k 0))
theorem Oat.agree {w w' : World} {L B : Nat} {l : List Int} {a : Option Addr} (h : Oat w L B l a) (hb : ∀ k, L ≤ k → k < B → w'.heap[k]? = w.heap[k]?) : Oat w' L B l a := by
  rcases h with h | ⟨b, off, h1, h2, h3⟩
  · exact .inl h
  · exact .inr ⟨b, off, h1, h2, fun i hi => (World.cell?_of_block (a := ⟨b, off + i, none⟩) (hb b h2.1 h2.2)).trans (h3 i hi)⟩
theorem Oat.below {w w' : World} {L B : Nat} {l : List Int} {a : Option Addr} (h : Oat w L B l a) (hb : Below B w w') : Oat w' L B l a := h.agree fun k _ h => hb.block k h
theorem Oat.mono {w : World} {L L' B B' : Nat} (hL : L' ≤ L) (hB : B ≤ B') {l : List Int} {a : Option Addr} (h : Oat w L B l a) : Oat w L' B' l a := by
  rcases h with h | ⟨b, off, h1, h2, h3⟩
  · exact .inl h
  · exact .inr ⟨b, off, h1, by omega, h3⟩
theorem Oat.at {w : World} {L B : Nat} {l : List Int} {a : Option Addr} (h : Oat w L B l a) (hB : B ≤ w.heap.size) : At w a l := by
  rcases h with h | ⟨b, off, h1, h2, h3⟩
  · exact .inl h
  · exact .inr ⟨b, off, h1, by omega, h3⟩
theorem At.oat {w : World} {l : List Int} {a : Option Addr} (h : At w a l) : Oat w 0 w.heap.size l a := by
  rcases h with h | ⟨b, off, h1, h2, h3⟩
  · exact .inl h
  · exact .inr ⟨b, off, h1, by omega, h3⟩

/-- A tape lies in memory: its three lists. -/
structure Tat (w : World) (L B : Nat) (t : Tp) (ac ag ao : Option Addr) : Prop where
  code : Cat w L B t.code ac
  guards : Gat w L B t.guards ag
  outs : Oat w L B t.outs ao
theorem Tat.agree {w w' : World} {L B : Nat} {t : Tp} {ac ag ao : Option Addr} (h : Tat w L B t ac ag ao) (hb : ∀ k, L ≤ k → k < B → w'.heap[k]? = w.heap[k]?) : Tat w' L B t ac ag ao := ⟨h.code.agree hb, h.guards.agree hb, h.outs.agree hb⟩
theorem Tat.below {w w' : World} {L B : Nat} {t : Tp} {ac ag ao : Option Addr} (h : Tat w L B t ac ag ao) (hb : Below B w w') : Tat w' L B t ac ag ao := h.agree fun k _ h => hb.block k h
theorem Tat.mono {w : World} {L L' B B' : Nat} (hL : L' ≤ L) (hB : B ≤ B') {t : Tp} {ac ag ao : Option Addr} (h : Tat w L B t ac ag ao) : Tat w L' B' t ac ag ao := ⟨h.code.mono hL hB, h.guards.mono hL hB, h.outs.mono hL hB⟩
/-- the tape as a value -/
abbrev tpv (t : Tp) (ac : Option Addr) (cc : Nat) (ag : Option Addr) (cg : Nat) (ao : Option Addr) (co : Nat) : Value :=
  .agg #[.int .i64 t.inputs, .slice ac t.code.length cc, .slice ag t.guards.length cg, .slice ao t.outs.length co]
def RT (t : Tp) : Prop := I64 t.inputs ∧ Rng t.outs ∧ t.code.length ≤ maxLen ∧ t.guards.length ≤ maxLen ∧ t.outs.length ≤ maxLen

/-- a tape that came in -/
def IsTape (W : World) (v : Value) : Prop := ∃ t ac cc ag cg ao co, v = tpv t ac cc ag cg ao co ∧ Tat W 0 W.heap.size t ac ag ao ∧ RT t

theorem cat_build {w : World} {L B b off : Nat} (hB : L ≤ b ∧ b < B) : ∀ (m : Nat), (∀ i, i < m → ∃ f, RI f ∧
      w.cell? ⟨b, off + i * 4, none⟩ = some (.int .i64 f.op) ∧ w.cell? ⟨b, off + i * 4 + 1, none⟩ = some (.int .i64 f.a) ∧
      w.cell? ⟨b, off + i * 4 + 2, none⟩ = some (.int .i64 f.b) ∧ w.cell? ⟨b, off + i * 4 + 3, none⟩ = some (.int .i64 f.num)) → ∃ l : List In4, l.length = m ∧ Cat w L B l (some ⟨b, off, none⟩) := by
  intro m
  induction m with
  | zero => intro _; exact ⟨[], rfl, .inl rfl⟩
  | succ m ih =>
    intro h
    obtain ⟨l, hl, hp⟩ := ih (fun i hi => h i (by omega))
    obtain ⟨f, hf⟩ := h m (by omega)
    refine ⟨l ++ [f], by simp [hl], .inr ⟨b, off, rfl, hB, fun i hi => ?_⟩⟩
    by_cases him : i = m
    · subst him
      have e : (l ++ [f]).getD i no4 = f := by rw [List.getD_eq_getElem?_getD, List.getElem?_append_right (by omega), hl, Nat.sub_self]; rfl
      rw [e]
      exact hf
    · have hi' : i < l.length := by simp at hi; omega
      have e : (l ++ [f]).getD i no4 = l.getD i no4 := by rw [List.getD_eq_getElem?_getD, List.getD_eq_getElem?_getD, List.getElem?_append_left hi']
      rw [e]
      rcases hp with hp | ⟨b', off', hbo, _, hall⟩
      · rw [hp] at hi'; simp at hi'
      · simp only [Option.some.injEq, Addr.mk.injEq] at hbo
        obtain ⟨rfl, rfl, _⟩ := hbo
        exact hall i hi'
theorem gat_build {w : World} {L B b off : Nat} (hB : L ≤ b ∧ b < B) : ∀ (m : Nat), (∀ i, i < m → ∃ f : Gd, I64 f.reg ∧
      w.cell? ⟨b, off + i * 2, none⟩ = some (.int .i64 f.reg) ∧ w.cell? ⟨b, off + i * 2 + 1, none⟩ = some (.bool f.zero)) → ∃ l : List Gd, l.length = m ∧ Gat w L B l (some ⟨b, off, none⟩) := by
  intro m
  induction m with
  | zero => intro _; exact ⟨[], rfl, .inl rfl⟩
  | succ m ih =>
    intro h
    obtain ⟨l, hl, hp⟩ := ih (fun i hi => h i (by omega))
    obtain ⟨f, hf⟩ := h m (by omega)
    refine ⟨l ++ [f], by simp [hl], .inr ⟨b, off, rfl, hB, fun i hi => ?_⟩⟩
    by_cases him : i = m
    · subst him
      have e : (l ++ [f]).getD i noG = f := by rw [List.getD_eq_getElem?_getD, List.getElem?_append_right (by omega), hl, Nat.sub_self]; rfl
      rw [e]
      exact hf
    · have hi' : i < l.length := by simp at hi; omega
      have e : (l ++ [f]).getD i noG = l.getD i noG := by rw [List.getD_eq_getElem?_getD, List.getD_eq_getElem?_getD, List.getElem?_append_left hi']
      rw [e]
      rcases hp with hp | ⟨b', off', hbo, _, hall⟩
      · rw [hp] at hi'; simp at hi'
      · simp only [Option.some.injEq, Addr.mk.injEq] at hbo
        obtain ⟨rfl, rfl, _⟩ := hbo
        exact hall i hi'

set_option maxRecDepth 100000 in
theorem openInts {H : Type} {enc : TypeId × Value → H} {W : World} (fuel : Nat) (cs : List Value) (x : DataW H × List MemPlace) (h : DataW.trod enc Tryz.prog W 0 (fun _ => true) true fuel 25 cs = some x) :
    ∃ a l cap, cs = [.slice a (List.length l) cap] ∧ At W a l ∧ Rng l ∧ l.length ≤ maxLen := by
  rcases open_ints Tryz.underlying25 Tryz.underlying2 (by kernel_rfl) h with ⟨rfl, _⟩ | ⟨x, len, c, zs, rfl, _, hl, hm, hz, _, hcell, hwz⟩
  · exact ⟨none, [], 0, rfl, .inl rfl, fun n hn => by simp at hn, Nat.zero_le _⟩
  · obtain ⟨l, h1, h2, h3, h4⟩ := IsRow.open (w := W) (a := some x) (len := len) (cap := c) (zs := zs) (.inr ⟨_, rfl, hl, hm, by simpa using hz, hcell, hwz⟩)
    exact ⟨some x, l, c, by rw [h1], h2, h3, by rw [h1]; omega⟩

end Go.Proofs.YtoedccgiahegnaaGreat

namespace Go.Proofs.YtoedccgiahegnaaGreat
open Go.RowKit

/-- a number from 0 to n - 1 -/
def ixB (x n : Int) : Bool := decide (0 ≤ x ∧ x < n)
theorem ixB_t {x n : Int} (h : ixB x n = true) : 0 ≤ x ∧ x < n := by simpa [ixB] using h
theorem ixB_f {x n : Int} (h : ixB x n = false) : x < 0 ∨ n ≤ x := by simp [ixB] at h; omega
theorem ixB_of {x n : Int} (h : 0 ≤ x ∧ x < n) : ixB x n = true := by simp [ixB, h]
theorem ixB_no {x n : Int} (h : ¬ (0 ≤ x ∧ x < n)) : ixB x n = false := by simp only [ixB, h, decide_false]
/-- an instruction that is right behind so many others -/
def insB (x : In4) (i : Nat) (inputs : Int) : Bool :=
  (decide (x.op = 1) && (decide (x.a = 0 ∧ x.b = 0) && ixB x.num inputs)) ||
  (decide (x.op = 2) && (decide (x.a = 0 ∧ x.b = 0) && ixB x.num 1000003)) ||
  (decide (3 ≤ x.op ∧ x.op ≤ 6) && (decide (x.num = 0) && (ixB x.a i && ixB x.b i))) ||
  (decide (x.op = 7) && (decide (x.num = 0 ∧ x.b = 0) && ixB x.a i))
theorem insB_in {x : In4} {i : Nat} {n : Int} (h : x.op = 1) : insB x i n = (decide (x.a = 0 ∧ x.b = 0) && ixB x.num n) := by simp [insB, h]
theorem insB_num {x : In4} {i : Nat} {n : Int} (h : x.op = 2) : insB x i n = (decide (x.a = 0 ∧ x.b = 0) && ixB x.num 1000003) := by simp [insB, h]
theorem insB_two {x : In4} {i : Nat} {n : Int} (h : 3 ≤ x.op ∧ x.op ≤ 6) : insB x i n = (decide (x.num = 0) && (ixB x.a i && ixB x.b i)) := by
  have h1 : x.op ≠ 1 := by omega
  have h2 : x.op ≠ 2 := by omega
  have h3 : x.op ≠ 7 := by omega
  simp [insB, h, h1, h2, h3]
theorem insB_neg {x : In4} {i : Nat} {n : Int} (h : x.op = 7) : insB x i n = (decide (x.num = 0 ∧ x.b = 0) && ixB x.a i) := by simp [insB, h]
theorem insB_other {x : In4} {i : Nat} {n : Int} (h : x.op < 1 ∨ 7 < x.op) : insB x i n = false := by
  have h1 : x.op ≠ 1 := by omega
  have h2 : x.op ≠ 2 := by omega
  have h3 : x.op ≠ 7 := by omega
  have h4 : ¬ (3 ≤ x.op ∧ x.op ≤ 6) := by omega
  simp [insB, h1, h2, h3, h4]

def headB (t : Tp) : Bool := decide (0 ≤ t.inputs ∧ t.inputs ≤ 12 ∧ t.code.length ≤ 3200 ∧ t.guards.length ≤ 3200 ∧ 1 ≤ t.outs.length ∧ t.outs.length ≤ 12)
def codeB (t : Tp) : Bool := (List.range t.code.length).all fun i => insB (t.code.getD i no4) i t.inputs
def guardsB (t : Tp) : Bool := (List.range t.guards.length).all fun i => ixB (t.guards.getD i noG).reg t.code.length
def outsB (t : Tp) : Bool := (List.range t.outs.length).all fun i => ixB (t.outs.getD i 0) t.code.length
/-- the tape is valid -/
def tapeB (t : Tp) : Bool := headB t && (codeB t && (guardsB t && outsB t))

theorem allB_t {n : Nat} {f : Nat → Bool} (h : ∀ i, i < n → f i = true) : (List.range n).all f = true := by
  rw [List.all_eq_true]; intro x hx; exact h x (List.mem_range.1 hx)
theorem allB_f {n : Nat} {f : Nat → Bool} {i : Nat} (hi : i < n) (h : f i = false) : (List.range n).all f = false := by
  rw [List.all_eq_false]; exact ⟨i, List.mem_range.2 hi, by rw [h]; simp⟩
theorem allB_at {n : Nat} {f : Nat → Bool} {i : Nat} (h : (List.range n).all f = true) (hi : i < n) : f i = true := by
  rw [List.all_eq_true] at h; exact h i (List.mem_range.2 hi)
theorem tapeB_code {t : Tp} {i : Nat} (hi : i < t.code.length) (h : insB (t.code.getD i no4) i t.inputs = false) : tapeB t = false := by
  have : codeB t = false := allB_f hi h
  simp [tapeB, this]
theorem tapeB_guard {t : Tp} {i : Nat} (hi : i < t.guards.length) (h : ixB (t.guards.getD i noG).reg t.code.length = false) : tapeB t = false := by
  have : guardsB t = false := allB_f hi h
  simp [tapeB, this]
theorem tapeB_out {t : Tp} {i : Nat} (hi : i < t.outs.length) (h : ixB (t.outs.getD i 0) t.code.length = false) : tapeB t = false := by
  have : outsB t = false := allB_f hi h
  simp [tapeB, this]
theorem tapeB_head {t : Tp} (h : headB t = false) : tapeB t = false := by simp [tapeB, h]
theorem tapeB_all {t : Tp} (h0 : headB t = true) (h1 : ∀ i, i < t.code.length → insB (t.code.getD i no4) i t.inputs = true) (h2 : ∀ i, i < t.guards.length → ixB (t.guards.getD i noG).reg t.code.length = true)
    (h3 : ∀ i, i < t.outs.length → ixB (t.outs.getD i 0) t.code.length = true) : tapeB t = true := by
  have e1 : codeB t = true := allB_t h1
  have e2 : guardsB t = true := allB_t h2
  have e3 : outsB t = true := allB_t h3
  simp [tapeB, h0, e1, e2, e3]

/-- what is known of a valid tape -/
structure Okt (t : Tp) : Prop where
  inputs : 0 ≤ t.inputs ∧ t.inputs ≤ 12
  size : t.code.length ≤ 3200
  guards : t.guards.length ≤ 3200
  outs : 1 ≤ t.outs.length ∧ t.outs.length ≤ 12
  code : ∀ i, i < t.code.length → insB (t.code.getD i no4) i t.inputs = true
  reg : ∀ i, i < t.guards.length → 0 ≤ (t.guards.getD i noG).reg ∧ (t.guards.getD i noG).reg < t.code.length
  out : ∀ i, i < t.outs.length → 0 ≤ t.outs.getD i 0 ∧ t.outs.getD i 0 < t.code.length
theorem tapeB_ok {t : Tp} (h : tapeB t = true) : Okt t := by
  simp only [tapeB, Bool.and_eq_true] at h
  obtain ⟨h0, h1, h2, h3⟩ := h
  have h0' := of_decide_eq_true h0
  exact ⟨⟨h0'.1, h0'.2.1⟩, h0'.2.2.1, h0'.2.2.2.1, h0'.2.2.2.2, fun i hi => allB_at h1 hi, fun i hi => ixB_t (allB_at h2 hi), fun i hi => ixB_t (allB_at h3 hi)⟩

/-- how much a tape takes, as the laws count it -/
def tpSize (t : Tp) : Nat := t.code.length + t.guards.length + t.outs.length

end Go.Proofs.YtoedccgiahegnaaGreat

namespace Go.Proofs.YtoedccgiahegnaaGreat
open Go.RowKit
set_option linter.unusedVariables false

theorem tbcell {W w1 : World} (hb : Below W.heap.size W w1) : (∀ b o, b < W.heap.size → w1.cell? ⟨b, o, none⟩ = W.cell? ⟨b, o, none⟩) ∧ (∀ b o, b < W.heap.size → w1.frozen? ⟨b, o, none⟩ = W.frozen? ⟨b, o, none⟩) :=
  ⟨fun b o h => hb.cell (p := ⟨b, o, none⟩) h, fun b o h => hb.frozen (p := ⟨b, o, none⟩) h⟩

/-- A block of n cells that may be written, from L on and ahead of B. -/
def Wr (w : World) (L B n g : Nat) : Prop := (L ≤ g ∧ g < B) ∧ (∀ o, w.frozen? ⟨g, o, none⟩ = false) ∧ ∀ o, o < n → ∃ v, w.cell? ⟨g, o, none⟩ = some v
theorem Wr.below {w w' : World} {L B n g : Nat} (h : Wr w L B n g) (hb : Below B w w') : Wr w' L B n g := by
  obtain ⟨h1, h2, h3⟩ := h
  refine ⟨h1, fun o => (hb.frozen (p := ⟨g, o, none⟩) h1.2).trans (h2 o), fun o ho => ?_⟩
  obtain ⟨v, hv⟩ := h3 o ho
  exact ⟨v, (hb.cell (p := ⟨g, o, none⟩) h1.2).trans hv⟩
theorem Wr.mono {w : World} {L L' B B' n g : Nat} (h : Wr w L B n g) (hL : L' ≤ L) (hB : B ≤ B') : Wr w L' B' n g := ⟨by have := h.1; omega, h.2⟩
theorem Own.wr {L : Nat} {w : World} {g cap : Nat} {l : List Int} (h : Own L w g cap l) : Wr w L w.heap.size l.length g := ⟨h.base, h.frz, fun o ho => ⟨_, h.cellAt o ho⟩⟩
theorem Own.oat {L : Nat} {w : World} {g cap : Nat} {l : List Int} (h : Own L w g cap l) : Oat w L w.heap.size l (some ⟨g, 0, none⟩) := .inr ⟨g, 0, rfl, h.base, fun k hk => by rw [Nat.zero_add]; exact h.cellAt k hk⟩

/-- Only blocks from L on and ahead of B have turned, and new ones; what may be written may be written still. -/
structure Trn (L B : Nat) (w w' : World) : Prop where
  os : w'.os = w.os
  tape : w'.tape = w.tape
  output : w'.output = w.output
  size : w.heap.size ≤ w'.heap.size
  block : ∀ k, k < w.heap.size → ¬ (L ≤ k ∧ k < B) → w'.heap[k]? = w.heap[k]?
  wr : ∀ {L' B' n g : Nat}, Wr w L' B' n g → Wr w' L' B' n g
theorem Trn.refl (L B : Nat) (w : World) : Trn L B w w := ⟨rfl, rfl, rfl, Nat.le_refl _, fun _ _ _ => rfl, fun h => h⟩
theorem Trn.trans {L B : Nat} {a b c : World} (h : Trn L B a b) (k : Trn L B b c) : Trn L B a c :=
  ⟨k.os.trans h.os, k.tape.trans h.tape, k.output.trans h.output, Nat.le_trans h.size k.size, fun i hi hn => (k.block i (Nat.lt_of_lt_of_le hi h.size) hn).trans (h.block i hi hn), fun x => k.wr (h.wr x)⟩
theorem Trn.set {L B g o : Nat} {w : World} {v : Value} (h : L ≤ g ∧ g < B) : Trn L B w (w.setCell ⟨g, o, none⟩ v) := by
  refine ⟨rfl, rfl, rfl, by simp, fun i _ hn => Below.heap_setCell _ _ _ _ (by intro e; exact hn (e ▸ h)), fun {L' B' n g'} hw => ?_⟩
  obtain ⟨h1, h2, h3⟩ := hw
  refine ⟨h1, fun q => by simp [h2 q], fun q hq => ?_⟩
  obtain ⟨y, hy⟩ := h3 q hq
  by_cases he : (⟨g', q, none⟩ : Addr) = ⟨g, o, none⟩
  · rw [he] at hy ⊢; exact ⟨v, World.cell?_setCell_same _ _ _ hy⟩
  · exact ⟨y, (World.cell?_setCell_other _ _ _ _ (fun e => he e.symm)).trans hy⟩
theorem Trn.below {L B : Nat} {w w' : World} (h : Trn L B w w') (hL : L ≤ w.heap.size) : Below L w w' := ⟨h.os, h.tape, h.output, h.size, fun k hk => h.block k (by omega) (by omega)⟩
theorem OwnA.trn {L B B' : Nat} {w w' : World} {a : Option Addr} {cap : Nat} {l : List Int} (h : OwnA B' w a cap l) (ho : Trn L B w w') (hB : B ≤ B') : OwnA B' w' a cap l := by
  by_cases hl : l = []
  · exact .inl hl
  · obtain ⟨g, rfl, hg⟩ := h.resolve_left hl
    have hb := hg.base
    have hblk := ho.block g hb.2 (by omega)
    obtain ⟨h1, h2⟩ := hg
    refine .inr ⟨g, rfl, h1, ?_⟩
    rcases h2 with ⟨e, _⟩ | ⟨g', cap', cur, hv, hg', hh, h3⟩
    · cases e
    · cases hv
      exact .inr ⟨g, cap, cur, rfl, hg', hblk.trans hh, h3⟩

end Go.Proofs.YtoedccgiahegnaaGreat

namespace Go.Proofs.YtoedccgiahegnaaGreat
open Go.ChangeShapes Go.WideShapes Go.ChangeAt Go.RowKit
set_option linter.unusedVariables false

/-- One of the rows. -/
structure Ac where
  kind : Int
  arg : Int

def noAc : Ac := ⟨0, 0⟩
def RAc (x : Ac) : Prop := I64 x.kind ∧ I64 x.arg
abbrev acv (x : Ac) : Value := .agg #[.int .i64 x.kind, .int .i64 x.arg]
/-- The rows lie one behind the other from the address on, in a block from L on and ahead of B. -/
def AcAt (w : World) (L B : Nat) (l : List Ac) (a : Option Addr) : Prop :=
  l = [] ∨ ∃ b off, a = some ⟨b, off, none⟩ ∧ (L ≤ b ∧ b < B) ∧ ∀ i, i < l.length → RAc (l.getD i noAc) ∧ w.cell? ⟨b, off + i * 2, none⟩ = some (.int .i64 (l.getD i noAc).kind) ∧ w.cell? ⟨b, off + i * 2 + 1, none⟩ = some (.int .i64 (l.getD i noAc).arg)
theorem AcAt.agree {w w' : World} {L B : Nat} {l : List Ac} {a : Option Addr} (h : AcAt w L B l a) (hb : ∀ k, L ≤ k → k < B → w'.heap[k]? = w.heap[k]?) : AcAt w' L B l a := by
  rcases h with h | ⟨b, off, h1, h2, h3⟩
  · exact .inl h
  · refine .inr ⟨b, off, h1, h2, fun i hi => ?_⟩
    obtain ⟨r, c0, c1⟩ := h3 i hi
    have cl : ∀ o v, w.cell? ⟨b, o, none⟩ = some v → w'.cell? ⟨b, o, none⟩ = some v := fun o v h => (World.cell?_of_block (a := ⟨b, o, none⟩) (hb b h2.1 h2.2)).trans h
    exact ⟨r, cl _ _ c0, cl _ _ c1⟩
theorem AcAt.below {w w' : World} {L B : Nat} {l : List Ac} {a : Option Addr} (h : AcAt w L B l a) (hb : Below B w w') : AcAt w' L B l a := h.agree fun k _ h => hb.block k h
theorem AcAt.mono {w : World} {L L' B B' : Nat} (hL : L' ≤ L) (hB : B ≤ B') {l : List Ac} {a : Option Addr} (h : AcAt w L B l a) : AcAt w L' B' l a := by
  rcases h with h | ⟨b, off, h1, h2, h3⟩
  · exact .inl h
  · exact .inr ⟨b, off, h1, by omega, h3⟩
theorem AcAt.next {w w' : World} {l : List Ac} {a : Option Addr} {L : Nat} (h : AcAt w L w.heap.size l a) (hb : Below w.heap.size w w') : AcAt w' L w'.heap.size l a := (h.below hb).mono (Nat.le_refl _) hb.size
theorem rAc_no : RAc noAc := ⟨⟨by decide, by decide⟩, ⟨by decide, by decide⟩⟩
theorem AcAt.row {w : World} {L B : Nat} {l : List Ac} {a : Option Addr} (h : AcAt w L B l a) (k : Nat) : RAc (l.getD k noAc) := by
  by_cases hk : k < l.length
  · rcases h with rfl | ⟨_, _, _, _, h⟩
    · simp at hk
    · exact (h k hk).1
  · rw [List.getD_eq_getElem?_getD, List.getElem?_eq_none (by omega)]; exact rAc_no
/-- rows that came in -/
def IsAcs (W : World) (v : Value) : Prop := ∃ a cap l, v = .slice a (List.length l) cap ∧ AcAt W 0 W.heap.size l a ∧ l.length ≤ maxLen

theorem ac_build {w : World} {L B b off : Nat} (hB : L ≤ b ∧ b < B) : ∀ (m : Nat), (∀ i, i < m → ∃ f : Ac, RAc f ∧ w.cell? ⟨b, off + i * 2, none⟩ = some (.int .i64 f.kind) ∧ w.cell? ⟨b, off + i * 2 + 1, none⟩ = some (.int .i64 f.arg)) → ∃ l : List Ac, l.length = m ∧ AcAt w L B l (some ⟨b, off, none⟩) := by
  intro m
  induction m with
  | zero => intro _; exact ⟨[], rfl, .inl rfl⟩
  | succ m ih =>
    intro h
    obtain ⟨l, hl, hp⟩ := ih (fun i hi => h i (by omega))
    obtain ⟨f, hf⟩ := h m (by omega)
    refine ⟨l ++ [f], by simp [hl], .inr ⟨b, off, rfl, hB, fun i hi => ?_⟩⟩
    by_cases him : i = m
    · subst him
      have e : (l ++ [f]).getD i noAc = f := by rw [List.getD_eq_getElem?_getD, List.getElem?_append_right (by omega), hl, Nat.sub_self]; rfl
      rw [e]
      exact hf
    · have hi' : i < l.length := by simp at hi; omega
      have e : (l ++ [f]).getD i noAc = l.getD i noAc := by rw [List.getD_eq_getElem?_getD, List.getD_eq_getElem?_getD, List.getElem?_append_left hi']
      rw [e]
      rcases hp with hp | ⟨b', off', hbo, _, hall⟩
      · rw [hp] at hi'; simp at hi'
      · simp only [Option.some.injEq, Addr.mk.injEq] at hbo
        obtain ⟨rfl, rfl, _⟩ := hbo
        exact hall i hi'
/-- The first k rows are copied. -/
def HalfAc (l : List Ac) (xs : List Value) (k : Nat) : Prop := ∀ i, i < k → xs[i * 2]? = some (.int .i64 (l.getD i noAc).kind) ∧ xs[i * 2 + 1]? = some (.int .i64 (l.getD i noAc).arg)
def putAc (xs : List Value) (i : Nat) (x : Ac) : List Value := ((xs.set (i * 2) (.int .i64 x.kind)).set (i * 2 + 1) (.int .i64 x.arg))
theorem putAc_old {xs : List Value} {i : Nat} {x : Ac} {j : Nat} (h : j < i * 2) : (putAc xs i x)[j]? = xs[j]? := by
  unfold putAc
  iterate 2 rw [List.getElem?_set_ne (by omega)]
theorem putAc_new {xs : List Value} {i : Nat} {x : Ac} (h : i * 2 + 1 < xs.length) : (putAc xs i x)[i * 2]? = some (.int .i64 x.kind) ∧ (putAc xs i x)[i * 2 + 1]? = some (.int .i64 x.arg) := by
  unfold putAc
  refine ⟨?_, ?_⟩ <;> simp (disch := omega) [List.getElem?_set] <;> omega
theorem halfAc_step {l : List Ac} {xs : List Value} {k : Nat} (H : HalfAc l xs k) (hlen : k * 2 + 1 < xs.length) : HalfAc l (putAc xs k (l.getD k noAc)) (k + 1) := by
  intro i hi
  by_cases hik : i = k
  · subst hik; exact putAc_new hlen
  · obtain ⟨h0, h1⟩ := H i (by omega)
    exact ⟨(putAc_old (by omega)).trans h0, (putAc_old (by omega)).trans h1⟩
/-- The call answers a copy in a block of its own that may be written. -/
def FreshAc (w : World) (l : List Ac) (e : Ending) (w' : World) : Prop :=
  ∃ g, e = .returned (.slice (some ⟨g, 0, none⟩) l.length l.length) ∧ AcAt w' w.heap.size w'.heap.size l (some ⟨g, 0, none⟩) ∧ Wr w' w.heap.size w'.heap.size (l.length * 2) g ∧ Below w.heap.size w w'
/- marks -/
/-- so many rows bear the marks from k0 on -/
def MkAc (w : World) (g n k0 : Nat) : Prop := ∀ i, i < n → w.cell? ⟨g, i * 2, none⟩ = some (.int .i64 ((k0 + 2 * i + 0 : Nat) : Int)) ∧ w.cell? ⟨g, i * 2 + 1, none⟩ = some (.int .i64 ((k0 + 2 * i + 1 : Nat) : Int))
theorem MkAc.agree {w w' : World} {g n k0 : Nat} (h : MkAc w g n k0) (hb : w'.heap[g]? = w.heap[g]?) : MkAc w' g n k0 := by
  intro i hi
  obtain ⟨c0, c1⟩ := h i hi
  have cl : ∀ o v, w.cell? ⟨g, o, none⟩ = some v → w'.cell? ⟨g, o, none⟩ = some v := fun o v h => (World.cell?_of_block (a := ⟨g, o, none⟩) hb).trans h
  exact ⟨cl _ _ c0, cl _ _ c1⟩

end Go.Proofs.YtoedccgiahegnaaGreat

namespace Go.Proofs.YtoedccgiahegnaaGreat
open Go.RowKit
set_option linter.unusedVariables false

/-- between two bounds -/
def inB (x lo hi : Int) : Bool := decide (lo ≤ x ∧ x ≤ hi)
theorem inB_of {x lo hi : Int} (h : lo ≤ x ∧ x ≤ hi) : inB x lo hi = true := decide_eq_true h
theorem inB_no {x lo hi : Int} (h : ¬ (lo ≤ x ∧ x ≤ hi)) : inB x lo hi = false := decide_eq_false h
theorem inB_t {x lo hi : Int} (h : inB x lo hi = true) : lo ≤ x ∧ x ≤ hi := of_decide_eq_true h
theorem inB_ix {x hi n : Int} (h : hi + 1 = n) : ixB x n = inB x 0 hi := by subst h; unfold ixB inB; congr 1; exact propext ⟨fun h => by omega, fun h => by omega⟩
set_option maxHeartbeats 400000 in
theorem sIn (x lo hi : Int) (w : World) : Calls Tryz.prog 48 #[.int .i64 x, .int .i64 lo, .int .i64 hi] w fun e w' => e = .returned (.bool (inB x lo hi)) ∧ w = w' := by
  by_cases h : lo ≤ x ∧ x ≤ hi
  · rw [inB_of h]; exact inT x lo hi h.1 h.2 w
  · rw [inB_no h]; exact inF x lo hi (by omega) w
set_option maxHeartbeats 400000 in
theorem iIx (k n : Int) (w : World) : Calls Tryz.prog 62 #[.int .i64 k, .int .i64 n] w fun e w' => e = .returned (.bool (ixB k n)) ∧ w = w' := by
  by_cases h1 : 0 ≤ k
  · by_cases h2 : k < n
    · have HF : Hid (ixB k n = true) := decide_eq_true ⟨h1, h2⟩
      have d1 : decide (0 ≤ k) = true := decide_eq_true h1
      have d2 : decide (k < n) = true := decide_eq_true h2
      go_enter Tryz.func62, Tryz.ntmps62
      go_wp2
      go_ret
      exact ⟨ret_bool HF.out.symm, rfl⟩
    · have HF : Hid (ixB k n = false) := decide_eq_false (by omega)
      have d1 : decide (0 ≤ k) = true := decide_eq_true h1
      have d2 : decide (k < n) = false := decide_eq_false h2
      go_enter Tryz.func62, Tryz.ntmps62
      go_wp2
      go_ret
      exact ⟨ret_bool HF.out.symm, rfl⟩
  · have HF : Hid (ixB k n = false) := decide_eq_false (by omega)
    have d1 : decide (0 ≤ k) = false := decide_eq_false h1
    go_enter Tryz.func62, Tryz.ntmps62
    go_wp2
    go_ret
    exact ⟨ret_bool HF.out.symm, rfl⟩

/-- an action has the form of its kind -/
def acB (x : Ac) : Bool :=
  (decide (x.kind = 1) && inB x.arg 1 40) || (decide (x.kind = 2 ∨ x.kind = 3) && inB x.arg 0 7) || (decide (x.kind = 4) && decide (x.arg = 0))
theorem acB_1 {a : Int} : acB ⟨1, a⟩ = inB a 1 40 := by simp [acB]
theorem acB_2 {a : Int} : acB ⟨2, a⟩ = inB a 0 7 := by simp [acB]
theorem acB_3 {a : Int} : acB ⟨3, a⟩ = inB a 0 7 := by simp [acB]
theorem acB_4 {a : Int} : acB ⟨4, a⟩ = decide (a = 0) := by simp [acB]
theorem acB_o {k a : Int} (h1 : k ≠ 1) (h2 : k ≠ 2) (h3 : k ≠ 3) (h4 : k ≠ 4) : acB ⟨k, a⟩ = false := by simp [acB, h1, h2, h3, h4]

def eqAc (x y : Ac) : Bool := x.kind == y.kind && x.arg == y.arg
/-- a schedule is a list of so many actions of this form -/
def schB (l : List Ac) : Bool := decide (l.length ≤ 400) && l.all acB
theorem all_take0 {l : List Ac} : (l.take 0).all acB = true := rfl
theorem all_bad {l : List Ac} {k : Nat} (hk : k < l.length) (h : acB (l.getD k noAc) = false) : l.all acB = false := by
  rw [List.all_eq_false]
  refine ⟨l.getD k noAc, ?_, by rw [h]; simp⟩
  rw [List.getD_eq_getElem?_getD, List.getElem?_eq_getElem hk]; exact List.getElem_mem hk
theorem all_step {l : List Ac} {k : Nat} (hk : k < l.length) (h : (l.take k).all acB = true) (h2 : acB (l.getD k noAc) = true) : (l.take (k + 1)).all acB = true := by
  rw [List.take_succ_eq_append_getElem hk, List.all_append, h, Bool.true_and]
  rw [List.getD_eq_getElem?_getD, List.getElem?_eq_getElem hk] at h2
  simpa using h2
theorem schB_t {l : List Ac} (h : schB l = true) : l.length ≤ 400 ∧ l.all acB = true := by
  unfold schB at h; rw [Bool.and_eq_true] at h; exact ⟨of_decide_eq_true h.1, h.2⟩
theorem schB_ac {l : List Ac} (h : schB l = true) (k : Nat) (hk : k < l.length) : acB (l.getD k noAc) = true := by
  cases hh : acB (l.getD k noAc) with
  | true => rfl
  | false => have := (schB_t h).2; rw [all_bad hk hh] at this; cases this

/-- an index, or -1 -/
def IdxPost (z : Bool) (w : World) (e : Ending) (w' : World) : Prop := ∃ r : Int, e = .returned (.int .i64 r) ∧ decide (0 ≤ r) = z ∧ Below w.heap.size w w'
/- weights -/
def wtN (x : Int) : Bool := inB x 0 1000
def wtB (l : List Int) : Bool := decide (l.length ≤ 40) && l.all wtN
theorem wt_take0 {l : List Int} : (l.take 0).all wtN = true := rfl
theorem wt_bad {l : List Int} {k : Nat} (hk : k < l.length) (h : wtN (l.getD k 0) = false) : l.all wtN = false := by
  rw [List.all_eq_false]
  exact ⟨l.getD k 0, getD_mem hk, by rw [h]; simp⟩
theorem wt_step {l : List Int} {k : Nat} (hk : k < l.length) (h : (l.take k).all wtN = true) (h2 : wtN (l.getD k 0) = true) : (l.take (k + 1)).all wtN = true := by
  rw [← take_snoc hk, List.all_append, h, Bool.true_and]
  simpa using h2
theorem wtB_t {l : List Int} (h : wtB l = true) : l.length ≤ 40 ∧ ∀ k, 0 ≤ l.getD k 0 ∧ l.getD k 0 ≤ 1000 := by
  unfold wtB at h; rw [Bool.and_eq_true] at h
  refine ⟨of_decide_eq_true h.1, fun k => ?_⟩
  by_cases hk : k < l.length
  · exact inB_t (List.all_eq_true.1 h.2 _ (getD_mem hk))
  · rw [List.getD_eq_getElem?_getD, List.getElem?_eq_none (by omega)]; simp
end Go.Proofs.YtoedccgiahegnaaGreat

namespace Go.Proofs.YtoedccgiahegnaaGreat
open Go.RowKit
set_option linter.unusedVariables false

end Go.Proofs.YtoedccgiahegnaaGreat

namespace Go.Proofs.YtoedccgiahegnaaGreat
open Go.RowKit
set_option linter.unusedVariables false

/-- a chain: the current state, the steps that are left, the slots (-1: nothing) -/
structure Cs where
  cur : Int
  left : Int
  slots : List Int
/-- an action of the right form is possible -/
def posB (s : Cs) (x : Ac) : Bool :=
  if x.kind = 1 then decide (s.cur + x.arg < s.left)
  else if x.kind = 2 then decide (x.arg < (s.slots.length : Int))
  else if x.kind = 3 then decide (x.arg < (s.slots.length : Int)) && decide (0 ≤ s.slots.getD x.arg.toNat 0)
  else decide (s.cur = s.left - 1)
def actS (s : Cs) (x : Ac) : Cs :=
  if x.kind = 1 then ⟨s.cur + x.arg, s.left, s.slots⟩
  else if x.kind = 2 then ⟨s.cur, s.left, s.slots.set x.arg.toNat s.cur⟩
  else if x.kind = 3 then ⟨s.slots.getD x.arg.toNat 0, s.left, s.slots⟩
  else ⟨s.cur, s.cur, s.slots⟩
theorem posB_1 {s : Cs} {a : Int} : posB s ⟨1, a⟩ = decide (s.cur + a < s.left) := rfl
theorem posB_2 {s : Cs} {a : Int} : posB s ⟨2, a⟩ = decide (a < (s.slots.length : Int)) := rfl
theorem posB_3 {s : Cs} {a : Int} : posB s ⟨3, a⟩ = (decide (a < (s.slots.length : Int)) && decide (0 ≤ s.slots.getD a.toNat 0)) := rfl
theorem posB_4 {s : Cs} {a : Int} : posB s ⟨4, a⟩ = decide (s.cur = s.left - 1) := rfl
theorem actS_1 {s : Cs} {a : Int} : actS s ⟨1, a⟩ = ⟨s.cur + a, s.left, s.slots⟩ := rfl
theorem actS_2 {s : Cs} {a : Int} : actS s ⟨2, a⟩ = ⟨s.cur, s.left, s.slots.set a.toNat s.cur⟩ := rfl
theorem actS_3 {s : Cs} {a : Int} : actS s ⟨3, a⟩ = ⟨s.slots.getD a.toNat 0, s.left, s.slots⟩ := rfl
theorem actS_4 {s : Cs} {a : Int} : actS s ⟨4, a⟩ = ⟨s.cur, s.cur, s.slots⟩ := rfl
theorem ac_cases {x : Ac} (h : acB x = true) : (∃ a, x = ⟨1, a⟩ ∧ 1 ≤ a ∧ a ≤ 40) ∨ (∃ a, x = ⟨2, a⟩ ∧ 0 ≤ a ∧ a ≤ 7) ∨ (∃ a, x = ⟨3, a⟩ ∧ 0 ≤ a ∧ a ≤ 7) ∨ x = ⟨4, 0⟩ := by
  obtain ⟨k, a⟩ := x
  by_cases h1 : k = 1
  · subst h1; rw [acB_1] at h; exact .inl ⟨a, rfl, inB_t h⟩
  by_cases h2 : k = 2
  · subst h2; rw [acB_2] at h; exact .inr (.inl ⟨a, rfl, inB_t h⟩)
  by_cases h3 : k = 3
  · subst h3; rw [acB_3] at h; exact .inr (.inr (.inl ⟨a, rfl, inB_t h⟩))
  by_cases h4 : k = 4
  · subst h4; rw [acB_4] at h; exact .inr (.inr (.inr (by rw [of_decide_eq_true h])))
  rw [acB_o h1 h2 h3 h4] at h; cases h
/-- the numbers of a chain of n steps -/
structure Iv (n m : Nat) (s : Cs) : Prop where
  c0 : 0 ≤ s.cur
  c1 : s.cur ≤ n
  l0 : 0 ≤ s.left
  l1 : s.left ≤ n
  m : s.slots.length = m
  s0 : ∀ k, -1 ≤ s.slots.getD k 0
  s1 : ∀ k, s.slots.getD k 0 ≤ n
theorem getD_set {l : List Int} {i : Nat} {v : Int} (k : Nat) : (l.set i v).getD k 0 = if i = k ∧ i < l.length then v else l.getD k 0 := by
  rw [List.getD_eq_getElem?_getD, List.getElem?_set, List.getD_eq_getElem?_getD]
  by_cases h : i = k
  · subst h
    by_cases h2 : i < l.length
    · simp [h2]
    · simp [h2]
  · simp [h]
theorem Iv.act {n m : Nat} {s : Cs} {x : Ac} (h : Iv n m s) (hx : acB x = true) (hp : posB s x = true) : Iv n m (actS s x) := by
  obtain ⟨c0, c1, l0, l1, hm, s0, s1⟩ := h
  rcases ac_cases hx with ⟨a, rfl, a0, a1⟩ | ⟨a, rfl, a0, a1⟩ | ⟨a, rfl, a0, a1⟩ | rfl
  · rw [posB_1] at hp; have := of_decide_eq_true hp
    rw [actS_1]; exact ⟨by show 0 ≤ s.cur + a; omega, by show s.cur + a ≤ n; omega, l0, l1, hm, s0, s1⟩
  · rw [actS_2]
    refine ⟨c0, c1, l0, l1, by show (s.slots.set _ _).length = m; rw [List.length_set]; exact hm, fun k => ?_, fun k => ?_⟩
    · show -1 ≤ (s.slots.set _ _).getD k 0
      rw [getD_set]; split
      · omega
      · exact s0 k
    · show (s.slots.set _ _).getD k 0 ≤ n
      rw [getD_set]; split
      · omega
      · exact s1 k
  · rw [posB_3, Bool.and_eq_true] at hp; have := of_decide_eq_true hp.2
    rw [actS_3]; exact ⟨this, s1 _, l0, l1, hm, s0, s1⟩
  · rw [posB_4] at hp; have := of_decide_eq_true hp
    rw [actS_4]; exact ⟨c0, c1, c0, c1, hm, s0, s1⟩
/-- in the beginning -/
def cs0 (n m : Nat) : Cs := ⟨0, n, List.replicate m (-1)⟩
theorem getD_rep {m k : Nat} {v : Int} : (List.replicate m v).getD k 0 = if k < m then v else 0 := by
  rw [List.getD_eq_getElem?_getD, List.getElem?_replicate]; split <;> rfl
theorem iv0 (n m : Nat) : Iv n m (cs0 n m) :=
  ⟨Int.le_refl _, by show (0 : Int) ≤ n; omega, by show (0 : Int) ≤ n; omega, Int.le_refl _, List.length_replicate, fun k => by show -1 ≤ (List.replicate m (-1 : Int)).getD k 0; rw [getD_rep]; split <;> omega, fun k => by show (List.replicate m (-1 : Int)).getD k 0 ≤ n; rw [getD_rep]; split <;> omega⟩

/-- how many actions are done, and the chain then -/
def goS (s : Cs) : List Ac → Nat × Cs
  | [] => (0, s)
  | x :: r => if posB s x = true then ((goS (actS s x) r).1 + 1, (goS (actS s x) r).2) else (0, s)
theorem goS_yes {s : Cs} {x : Ac} {r : List Ac} (h : posB s x = true) : goS s (x :: r) = ((goS (actS s x) r).1 + 1, (goS (actS s x) r).2) := if_pos h
theorem goS_no {s : Cs} {x : Ac} {r : List Ac} (h : posB s x = false) : goS s (x :: r) = (0, s) := if_neg (by rw [h]; simp)
theorem goS_le (r : List Ac) : ∀ s, (goS s r).1 ≤ r.length := by
  induction r with
  | nil => intro s; exact Nat.le_refl _
  | cons x r ih =>
    intro s
    cases h : posB s x with
    | true => rw [goS_yes h]; have := ih (actS s x); simp only [List.length_cons]; omega
    | false => rw [goS_no h]; exact Nat.zero_le _
/-- so far: k actions of the list are done, and this is the chain -/
def Far (s0 : Cs) (l : List Ac) (k : Nat) (s : Cs) : Prop := goS s0 l = (k + (goS s (l.drop k)).1, (goS s (l.drop k)).2)
theorem far0 (s0 : Cs) (l : List Ac) : Far s0 l 0 s0 := by unfold Far; rw [List.drop_zero, Nat.zero_add]
theorem drop_ac {l : List Ac} {k : Nat} (h : k < l.length) : l.drop k = l.getD k noAc :: l.drop (k + 1) := by
  rw [List.drop_eq_getElem_cons h, List.getD_eq_getElem?_getD, List.getElem?_eq_getElem h]; rfl
theorem Far.step {s0 s : Cs} {l : List Ac} {k : Nat} (h : Far s0 l k s) (hk : k < l.length) (hp : posB s (l.getD k noAc) = true) : Far s0 l (k + 1) (actS s (l.getD k noAc)) := by
  unfold Far at *
  rw [h, drop_ac hk, goS_yes hp]
  congr 1
  show k + (_ + 1) = _; omega
theorem Far.stop {s0 s : Cs} {l : List Ac} {k : Nat} (h : Far s0 l k s) (hk : k < l.length) (hp : posB s (l.getD k noAc) = false) : goS s0 l = (k, s) := by
  unfold Far at h
  rw [h, drop_ac hk, goS_no hp]
  rfl
theorem Far.full {s0 s : Cs} {l : List Ac} {k : Nat} (h : Far s0 l k s) (hk : k = l.length) : goS s0 l = (k, s) := by
  unfold Far at h
  rw [h, hk, List.drop_length]
  rfl
/-- all actions are possible, and no step is left -/
def allB (s0 : Cs) (l : List Ac) : Bool := decide ((goS s0 l).1 = l.length) && decide ((goS s0 l).2.left ≤ 0)

/-- the world w' is as w was, but for blocks of this kind and new ones -/
structure Kp (S : Nat → Prop) (w w' : World) : Prop where
  os : w'.os = w.os
  tape : w'.tape = w.tape
  output : w'.output = w.output
  size : w.heap.size ≤ w'.heap.size
  block : ∀ k, k < w.heap.size → ¬ S k → w'.heap[k]? = w.heap[k]?
theorem Kp.refl (S : Nat → Prop) (w : World) : Kp S w w := ⟨rfl, rfl, rfl, Nat.le_refl _, fun _ _ _ => rfl⟩
theorem Kp.trans {S : Nat → Prop} {a b c : World} (h : Kp S a b) (k : Kp S b c) : Kp S a c :=
  ⟨k.os.trans h.os, k.tape.trans h.tape, k.output.trans h.output, Nat.le_trans h.size k.size, fun i hi hn => (k.block i (Nat.lt_of_lt_of_le hi h.size) hn).trans (h.block i hi hn)⟩
theorem Kp.mono {S S' : Nat → Prop} {w w' : World} (h : Kp S w w') (hS : ∀ k, S k → S' k) : Kp S' w w' := ⟨h.os, h.tape, h.output, h.size, fun i hi hn => h.block i hi (fun hs => hn (hS i hs))⟩
theorem Kp.of_below {S : Nat → Prop} {w w' : World} (h : Below w.heap.size w w') : Kp S w w' := ⟨h.os, h.tape, h.output, h.size, fun i hi _ => h.block i hi⟩
theorem Kp.below {S : Nat → Prop} {L : Nat} {w w' : World} (h : Kp S w w') (hL : L ≤ w.heap.size) (hS : ∀ k, S k → L ≤ k) : Below L w w' :=
  ⟨h.os, h.tape, h.output, h.size, fun k hk => h.block k (by omega) (fun hs => by have := hS k hs; omega)⟩
theorem Kp.set {S : Nat → Prop} {w : World} {p : Addr} {v : Value} (h : S p.block) : Kp S w (w.setCell p v) :=
  ⟨rfl, rfl, rfl, by simp, fun i _ hn => Below.heap_setCell _ _ _ _ (by intro e; exact hn (e ▸ h))⟩
theorem Kp.cell {S : Nat → Prop} {w w' : World} (h : Kp S w w') {b o : Nat} {v : Value} (hc : w.cell? ⟨b, o, none⟩ = some v) (hn : ¬ S b) : w'.cell? ⟨b, o, none⟩ = some v :=
  (World.cell?_of_block (a := ⟨b, o, none⟩) (h.block b (cell_lt hc) hn)).trans hc
theorem Kp.fz {S : Nat → Prop} {w w' : World} (h : Kp S w w') {b o : Nat} (hb : b < w.heap.size) (hn : ¬ S b) : w'.frozen? ⟨b, o, none⟩ = w.frozen? ⟨b, o, none⟩ :=
  World.frozen?_of_block (a := ⟨b, o, none⟩) (h.block b hb hn)

/-- a slice that holds nothing, or the head of a block of the call's own -/
def OwR (L : Nat) (w : World) (a : Option Addr) (cap : Nat) (l : List Int) : Prop := w.ownsRow L 2 1 (.slice a l.length cap) l.length (l.map (Value.int .i64))
theorem OwR.own {L : Nat} {w : World} {a : Option Addr} {cap : Nat} {l : List Int} (h : OwR L w a cap l) (hl : 0 < l.length) : ∃ g, a = some ⟨g, 0, none⟩ ∧ Own L w g cap l := by
  obtain ⟨h1, h2⟩ := h
  rcases h2 with ⟨h2, h3⟩ | ⟨g, cap', cur, hv, r⟩
  · omega
  · simp only [Value.slice.injEq] at hv
    obtain ⟨rfl, _, rfl⟩ := hv
    exact ⟨g, rfl, h1, .inr ⟨g, cap, cur, rfl, r⟩⟩
theorem OwR.blk {L : Nat} {w : World} {a : Option Addr} {cap : Nat} {l : List Int} (h : OwR L w a cap l) (p : Addr) (ha : a = some p) : L ≤ p.block ∧ p.block < w.heap.size := by subst ha; exact World.ownsRow.lt h p.block rfl
theorem OwR.keep {L : Nat} {w w' : World} {a : Option Addr} {cap : Nat} {l : List Int} {S : Nat → Prop} (h : OwR L w a cap l) (k : Kp S w w') (hS : ∀ p : Addr, a = some p → ¬ S p.block) : OwR L w' a cap l := by
  obtain ⟨h1, h2⟩ := h
  refine ⟨h1, ?_⟩
  rcases h2 with h2 | ⟨g, cap', cur, hv, hB, hh, r⟩
  · exact .inl h2
  · refine .inr ⟨g, cap', cur, hv, hB, ?_, r⟩
    simp only [Value.slice.injEq] at hv
    rw [k.block g (Array.getElem?_eq_some_iff.1 hh).1 (hS _ hv.1)]; exact hh
theorem OwR.mono {L L' : Nat} {w : World} {a : Option Addr} {cap : Nat} {l : List Int} (h : OwR L w a cap l) (hL : L' ≤ L) : OwR L' w a cap l := by
  obtain ⟨h1, h2⟩ := h
  refine ⟨h1, ?_⟩
  rcases h2 with h2 | ⟨g, cap', cur, hv, hB, r⟩
  · exact .inl h2
  · exact .inr ⟨g, cap', cur, hv, by omega, r⟩
theorem Own.owr {L : Nat} {w : World} {g cap : Nat} {l : List Int} (h : Own L w g cap l) : OwR L w (some ⟨g, 0, none⟩) cap l := h
theorem OwR.a {L : Nat} {w : World} {a : Option Addr} {cap : Nat} {l : List Int} (h : OwR L w a cap l) : OwnA L w a cap l := by
  by_cases hl : l = []
  · exact .inl hl
  · obtain ⟨g, rfl, ho⟩ := h.own (List.length_pos_iff.2 hl)
    exact .inr ⟨g, rfl, ho⟩

end Go.Proofs.YtoedccgiahegnaaGreat
