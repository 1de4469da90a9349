/- Slices of int64 as lists: what is read, what is owned. -/
import Derived.Test.YtegjlfbklcgapaaNumLaws
namespace Go.Proofs.Ytegjlfbklcgapaa
open Go.RowKit

/-- Every number fits an int64. -/
def Rng (l : List Int) : Prop := ∀ n ∈ l, -9223372036854775808 ≤ n ∧ n ≤ 9223372036854775807
/-- Every number is a residue. -/
def Nums (l : List Int) : Prop := ∀ n ∈ l, 0 ≤ n ∧ n < 1000003

theorem getD_mem {l : List Int} {k : Nat} (h : k < l.length) : l.getD k 0 ∈ l := by
  rw [List.getD_eq_getElem?_getD, List.getElem?_eq_getElem h]; exact List.getElem_mem h
theorem Rng.at {l : List Int} (h : Rng l) (k : Nat) : -9223372036854775808 ≤ l.getD k 0 ∧ l.getD k 0 ≤ 9223372036854775807 := by
  by_cases hk : k < l.length
  · exact h _ (getD_mem hk)
  · rw [List.getD_eq_getElem?_getD, List.getElem?_eq_none (by omega)]; simp
theorem Nums.at {l : List Int} (h : Nums l) (k : Nat) : 0 ≤ l.getD k 0 ∧ l.getD k 0 < 1000003 := by
  by_cases hk : k < l.length
  · exact h _ (getD_mem hk)
  · rw [List.getD_eq_getElem?_getD, List.getElem?_eq_none (by omega)]; simp
theorem Nums.rng {l : List Int} (h : Nums l) : Rng l := fun n hn => by have := h n hn; omega

/-- The slice at address a reads as l. -/
def At (w : World) (a : Option Addr) (l : List Int) : Prop :=
  l = [] ∨ ∃ b off, a = some ⟨b, off, none⟩ ∧ b < w.heap.size ∧ ∀ k, k < l.length → w.cell? ⟨b, off + k, none⟩ = some (.int .i64 (l.getD k 0))

theorem At.below {w w' : World} {a : Option Addr} {l : List Int} {B : Nat} (h : At w a l) (hb : Below B w w') (hB : w.heap.size ≤ B) : At w' a l := by
  rcases h with h | ⟨b, off, h1, h2, h3⟩
  · exact .inl h
  · exact .inr ⟨b, off, h1, Nat.lt_of_lt_of_le h2 hb.size, fun k hk => (hb.cell (p := ⟨b, off + k, none⟩) (by show b < B; omega)).trans (h3 k hk)⟩

theorem cell_lt {w : World} {b o : Nat} {v : Value} (h : w.cell? ⟨b, o, none⟩ = some v) : b < w.heap.size := by
  by_cases hb : b < w.heap.size
  · exact hb
  · have : w.heap[b]? = none := by simp; omega
    simp [World.cell?, this] at h

/-- The block g holds the list l at its head, it is not frozen, and it is one of the blocks from B on. -/
def Own (B : Nat) (w : World) (g cap : Nat) (l : List Int) : Prop :=
  w.ownsRow B 2 1 (.slice (some ⟨g, 0, none⟩) l.length cap) l.length (l.map (Value.int .i64))

theorem Own.base {B : Nat} {w : World} {g cap : Nat} {l : List Int} (h : Own B w g cap l) : B ≤ g ∧ g < w.heap.size := h.lt g rfl
theorem Own.cellAt {B : Nat} {w : World} {g cap : Nat} {l : List Int} (h : Own B w g cap l) (k : Nat) (hk : k < l.length) : w.cell? ⟨g, k, none⟩ = some (.int .i64 (l.getD k 0)) := by
  rw [World.ownsRow.cellAt h k (by omega), List.getElem?_map, List.getElem?_eq_getElem hk, List.getD_eq_getElem?_getD, List.getElem?_eq_getElem hk]; rfl
theorem Own.frz {B : Nat} {w : World} {g cap : Nat} {l : List Int} (h : Own B w g cap l) (k : Nat) : w.frozen? ⟨g, k, none⟩ = false := World.ownsRow.frozenAt h k
theorem Own.set {B : Nat} {w : World} {g cap : Nat} {l : List Int} (h : Own B w g cap l) (k : Nat) (x : Int) : Own B (w.setCell ⟨g, k, none⟩ (.int .i64 x)) g cap (l.set k x) := by
  unfold Own
  have := World.ownsRow.stored h k (.int .i64 x)
  rw [List.length_set, List.map_set]
  exact this.1
theorem Own.at {B : Nat} {w : World} {g cap : Nat} {l : List Int} (h : Own B w g cap l) : At w (some ⟨g, 0, none⟩) l :=
  .inr ⟨g, 0, rfl, h.base.2, fun k hk => by rw [Nat.zero_add]; exact h.cellAt k hk⟩
theorem Own.kept {B C : Nat} {w w' : World} {g cap : Nat} {l : List Int} (h : Own B w g cap l) (hb : Below C w w') (hC : g < C) : Own B w' g cap l := by
  obtain ⟨h1, h2⟩ := h
  refine ⟨h1, ?_⟩
  rcases h2 with h2 | ⟨g', cap', cur, hv, hg, hh, r⟩
  · exact Or.inl h2
  · refine Or.inr ⟨g', cap', cur, hv, hg, ?_, r⟩
    have : g = g' := by simp only [Value.slice.injEq, Option.some.injEq, Addr.mk.injEq] at hv; exact hv.1.1
    rw [hb.block _ (by omega)]; exact hh
theorem Own.setOther {B : Nat} {w : World} {g cap : Nat} {l : List Int} (h : Own B w g cap l) {p : Addr} (hp : p.block ≠ g) (u : Value) : Own B (w.setCell p u) g cap l := by
  obtain ⟨h1, h2⟩ := h
  refine ⟨h1, ?_⟩
  rcases h2 with h2 | ⟨g', cap', cur, hv, hg, hh, r⟩
  · exact Or.inl h2
  · refine Or.inr ⟨g', cap', cur, hv, hg, ?_, r⟩
    have : g = g' := by simp only [Value.slice.injEq, Option.some.injEq, Addr.mk.injEq] at hv; exact hv.1.1
    rw [Below.heap_setCell _ _ _ _ (by omega)]; exact hh
theorem Own.mono {B B' : Nat} {w : World} {g cap : Nat} {l : List Int} (h : Own B w g cap l) (hB : B' ≤ B) : Own B' w g cap l := by
  obtain ⟨h1, h2⟩ := h
  refine ⟨h1, ?_⟩
  rcases h2 with h2 | ⟨g', cap', cur, hv, hg, r⟩
  · exact Or.inl h2
  · exact Or.inr ⟨g', cap', cur, hv, by omega, r⟩

theorem Own.keptBy {B : Nat} {w w' : World} {g cap : Nat} {l : List Int} {row : Option Nat} (h : Own B w g cap l) (hg : w.grownBy w' row) (hne : row ≠ some g) : Own B w' g cap l :=
  World.ownsRow.kept h hg (.inr (by simpa [Value.ownBlock] using fun e => hne e.symm))
theorem grownBy_set (w : World) (g k : Nat) (v : Value) : w.grownBy (w.setCell ⟨g, k, none⟩ v) (some g) :=
  ⟨rfl, rfl, rfl, by simp [World.setCell], fun j _ hj => Below.heap_setCell _ _ _ _ (by intro e; apply hj; rw [e])⟩
theorem grownBy_trans {a b c : World} {r : Option Nat} (h : a.grownBy b r) (k : b.grownBy c r) : a.grownBy c r :=
  ⟨k.os.trans h.os, k.tape.trans h.tape, k.output.trans h.output, Nat.le_trans h.size k.size, fun i hi hn => (k.block i (Nat.lt_of_lt_of_le hi h.size) hn).trans (h.block i hi hn)⟩
theorem below_grownBy {w w' : World} (h : Below w.heap.size w w') : w.grownBy w' none := ⟨h.os, h.tape, h.output, h.size, fun k hk _ => h.block k hk⟩

/-- A slice that holds nothing, or a block of the call's own at its head. -/
def OwnA (B : Nat) (w : World) (a : Option Addr) (cap : Nat) (l : List Int) : Prop := l = [] ∨ ∃ g, a = some ⟨g, 0, none⟩ ∧ Own B w g cap l
/-- The block of such a slice, if it holds something. -/
def blk (a : Option Addr) (l : List Int) : Option Nat := if l = [] then none else a.map (·.block)
theorem OwnA.lt {B : Nat} {w : World} {a : Option Addr} {cap : Nat} {l : List Int} (h : OwnA B w a cap l) : ∀ g, blk a l = some g → B ≤ g ∧ g < w.heap.size := by
  intro g hg
  rcases h with rfl | ⟨g', rfl, h⟩
  · simp [blk] at hg
  · unfold blk at hg
    split at hg
    · cases hg
    · simp at hg; subst hg; exact h.base
theorem OwnA.at {B : Nat} {w : World} {a : Option Addr} {cap : Nat} {l : List Int} (h : OwnA B w a cap l) : At w a l := by
  rcases h with rfl | ⟨g', rfl, h⟩
  · exact .inl rfl
  · exact h.at
theorem OwnA.keptBy {B : Nat} {w w' : World} {a : Option Addr} {cap : Nat} {l : List Int} {row : Option Nat} (h : OwnA B w a cap l) (hg : w.grownBy w' row) (hne : ∀ g, blk a l = some g → row ≠ some g) : OwnA B w' a cap l := by
  by_cases hl : l = []
  · exact .inl hl
  · obtain ⟨g, rfl, ho⟩ := h.resolve_left hl
    exact .inr ⟨g, rfl, Own.keptBy ho hg (hne g (by simp [blk, hl]))⟩
theorem OwnA.below {B : Nat} {w w' : World} {a : Option Addr} {cap : Nat} {l : List Int} (h : OwnA B w a cap l) (hb : Below w.heap.size w w') : OwnA B w' a cap l :=
  h.keptBy (below_grownBy hb) (fun _ _ e => by cases e)
theorem Own.a {B : Nat} {w : World} {g cap : Nat} {l : List Int} (h : Own B w g cap l) : OwnA B w (some ⟨g, 0, none⟩) cap l := .inr ⟨g, rfl, h⟩

/-- k, k + 1, .., n numbers. -/
def marks (n : Nat) (k : Nat) : List Int := (List.range n).map fun i => ((k + i : Nat) : Int)
theorem marks_len (n k : Nat) : (marks n k).length = n := by simp [marks]
theorem marks_at {n k i : Nat} (h : i < n) : (marks n k).getD i 0 = ((k + i : Nat) : Int) := by
  simp [marks, List.getD_eq_getElem?_getD, h]
theorem marks_succ (n k : Nat) : marks (n + 1) k = marks n k ++ [((k + n : Nat) : Int)] := by
  simp [marks, List.range_succ]

/-- The list xs, filled up with zeros to n numbers. -/
def fillz (n : Nat) (xs : List Int) : List Int := xs ++ List.replicate (n - xs.length) 0
theorem fillz_len {n : Nat} {xs : List Int} (h : xs.length ≤ n) : (fillz n xs).length = n := by simp [fillz]; omega
theorem fillz_full {n : Nat} {xs : List Int} (h : xs.length = n) : fillz n xs = xs := by simp [fillz, h]
theorem fillz_set {n : Nat} {xs : List Int} (h : xs.length < n) (v : Int) : (fillz n xs).set xs.length v = fillz n (xs ++ [v]) := by
  unfold fillz
  rw [List.set_append_right _ _ (Nat.le_refl _), Nat.sub_self, List.length_append, List.append_assoc]
  congr 1
  rw [show n - xs.length = (n - (xs.length + 1)) + 1 from by omega, List.replicate_succ]
  simp
theorem fillz_snoc0 {n : Nat} {xs : List Int} (h : xs.length < n) : fillz n xs = fillz n (xs ++ [0]) := by
  unfold fillz
  rw [List.length_append, List.append_assoc]
  congr 1
  rw [show n - xs.length = (n - (xs.length + [(0 : Int)].length)) + 1 from by simp; omega, List.replicate_succ]
  rfl
theorem fillz_reset {n : Nat} {xs : List Int} (s v : Int) : (fillz n (xs ++ [s])).set xs.length v = fillz n (xs ++ [v]) := by
  unfold fillz
  rw [List.append_assoc, List.append_assoc, List.set_append_right _ _ (Nat.le_refl _), Nat.sub_self]
  simp
theorem fillz_get {n : Nat} {xs : List Int} (s : Int) : (fillz n (xs ++ [s])).getD xs.length 0 = s := by
  unfold fillz
  simp [List.getD_eq_getElem?_getD]
theorem fillz_low {n : Nat} {xs : List Int} {j : Nat} (h : j < xs.length) : (fillz n xs).getD j 0 = xs.getD j 0 := by
  unfold fillz
  simp [List.getD_eq_getElem?_getD, List.getElem?_append_left h]
theorem fillz_zero (n : Nat) : fillz n [] = List.replicate n 0 := by simp [fillz]
theorem take_snoc {l : List Int} {k : Nat} (h : k < l.length) : l.take k ++ [l.getD k 0] = l.take (k + 1) := by
  rw [List.take_succ_eq_append_getElem h, List.getD_eq_getElem?_getD, List.getElem?_eq_getElem h]; rfl

/-- The call answers a slice of its own that reads as l; nothing that was there has turned. -/
def Fresh (w : World) (l : List Int) (e : Ending) (w' : World) : Prop :=
  ∃ g cap, e = .returned (.slice (some ⟨g, 0, none⟩) l.length cap) ∧ Own w.heap.size w' g cap l ∧ Below w.heap.size w w'

/-- What the walk is told of a slice of integers that came in. -/
def IsRow (k : IntKind) (w : World) (a : Option Addr) (len cap : Nat) (zs : List Int) : Prop :=
  (a = none ∧ len = 0 ∧ cap = 0 ∧ zs = []) ∨
  ∃ x, a = some x ∧ len ≤ cap ∧ cap ≤ maxLen ∧ zs.length = cap ∧ (∀ i, i < zs.length → w.cell? (x.add i) = some (.int k (zs.getD i 0))) ∧ ∀ n ∈ zs, (Lit.int k n).wf = true

theorem IsRow.open {w : World} {a : Option Addr} {len cap : Nat} {zs : List Int} (h : IsRow .i64 w a len cap zs) :
    ∃ l : List Int, l.length = len ∧ At w a l ∧ Rng l ∧ len ≤ 9223372036854775807 := by
  rcases h with ⟨rfl, rfl, rfl, rfl⟩ | ⟨x, rfl, hl, hm, hz, hcell, hwz⟩
  · exact ⟨[], rfl, .inl rfl, fun n hn => by simp at hn, by omega⟩
  · refine ⟨zs.take len, by simp; omega, ?_, fun n hn => bounds_i64 (hwz n (List.mem_of_mem_take hn)), by unfold maxLen at hm; omega⟩
    by_cases hn : len = 0
    · left; rw [hn]; simp
    · obtain ⟨b, off, spot⟩ := x
      have hc := hcell 0 (by omega)
      have hspot : spot = none := by simpa [Addr.add] using World.cell?_spot hc
      subst hspot
      have h0 : w.cell? ⟨b, off, none⟩ = some (.int .i64 (zs.getD 0 0)) := by simpa [Addr.add] using hc
      refine .inr ⟨b, off, rfl, cell_lt h0, fun k hk => ?_⟩
      have hk' : k < len := by simp at hk; omega
      have hck := hcell k (by omega)
      rw [show (zs.take len).getD k 0 = zs.getD k 0 from by simp [List.getD_eq_getElem?_getD, hk']]
      have e : (⟨b, off, none⟩ : Addr).add k = ⟨b, off + k, none⟩ := by cases k <;> simp [Addr.add]
      rw [e] at hck; exact hck

theorem info64 : (Try.prog.info? 2).map (fun i => (i.zero, i.size, i.bytes)) = some (some (.int .i64 0), 1, 8) := by kernel_rfl

theorem made_own {B : Nat} {w : World} {g n : Nat} (h : w.ownsRow B 2 1 (.slice (some ⟨g, 0, none⟩) n n) n (madeCells #[Value.int .i64 0] n).toList) : Own B w g n (fillz n []) := by
  unfold Own
  rw [fillz_zero, List.length_replicate, List.map_replicate, ← toList_madeCells_one]; exact h

end Go.Proofs.Ytegjlfbklcgapaa
