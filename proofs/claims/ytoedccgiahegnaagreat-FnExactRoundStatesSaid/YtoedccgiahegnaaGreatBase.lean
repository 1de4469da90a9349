/- Slices of int64 as lists: what is read, what is owned. The laws' own helpers on slices: a copy, a comparison, marks written and held. Which lists are series, by the model and by the program. The law on which lists are series. The functions on lists of residues that the model and the program compute. The value of a series, by the model and by the program. -/
import Derived.OwnWalk
import Derived.Test.YtoedccgiahegnaaGreatNum
namespace Go.Proofs.YtoedccgiahegnaaGreat
open Go.RowKit

/-- Every number fits an int64. -/
def Rng (l : List Int) : Prop := ∀ n ∈ l, -9223372036854775808 ≤ n ∧ n ≤ 9223372036854775807
/-- Every number is a residue. -/
def Nums (l : List Int) : Prop := ∀ n ∈ l, 0 ≤ n ∧ n < 1000003

theorem getD_mem {l : List Int} {k : Nat} (h : k < l.length) : l.getD k 0 ∈ l := by
  rw [List.getD_eq_getElem?_getD, List.getElem?_eq_getElem h]; exact List.getElem_mem h
theorem Rng.at {l : List Int} (h : Rng l) (k : Nat) : -9223372036854775808 ≤ l.getD k 0 ∧ l.getD k 0 ≤ 9223372036854775807 := by
  by_cases hk : k < l.length
  · exact h _ (getD_mem hk)
  · rw [List.getD_eq_getElem?_getD, List.getElem?_eq_none (by omega)]; simp
theorem Nums.at {l : List Int} (h : Nums l) (k : Nat) : 0 ≤ l.getD k 0 ∧ l.getD k 0 < 1000003 := by
  by_cases hk : k < l.length
  · exact h _ (getD_mem hk)
  · rw [List.getD_eq_getElem?_getD, List.getElem?_eq_none (by omega)]; simp
theorem Nums.rng {l : List Int} (h : Nums l) : Rng l := fun n hn => by have := h n hn; omega

/-- The slice at address a reads as l. -/
def At (w : World) (a : Option Addr) (l : List Int) : Prop :=
  l = [] ∨ ∃ b off, a = some ⟨b, off, none⟩ ∧ b < w.heap.size ∧ ∀ k, k < l.length → w.cell? ⟨b, off + k, none⟩ = some (.int .i64 (l.getD k 0))

theorem At.below {w w' : World} {a : Option Addr} {l : List Int} {B : Nat} (h : At w a l) (hb : Below B w w') (hB : w.heap.size ≤ B) : At w' a l := by
  rcases h with h | ⟨b, off, h1, h2, h3⟩
  · exact .inl h
  · exact .inr ⟨b, off, h1, Nat.lt_of_lt_of_le h2 hb.size, fun k hk => (hb.cell (p := ⟨b, off + k, none⟩) (by show b < B; omega)).trans (h3 k hk)⟩

theorem cell_lt {w : World} {b o : Nat} {v : Value} (h : w.cell? ⟨b, o, none⟩ = some v) : b < w.heap.size := by
  by_cases hb : b < w.heap.size
  · exact hb
  · have : w.heap[b]? = none := by simp; omega
    simp [World.cell?, this] at h

/-- The block g holds the list l at its head, it is not frozen, and it is one of the blocks from B on. -/
def Own (B : Nat) (w : World) (g cap : Nat) (l : List Int) : Prop :=
  w.ownsRow B 2 1 (.slice (some ⟨g, 0, none⟩) l.length cap) l.length (l.map (Value.int .i64))

theorem Own.base {B : Nat} {w : World} {g cap : Nat} {l : List Int} (h : Own B w g cap l) : B ≤ g ∧ g < w.heap.size := h.lt g rfl
theorem Own.cellAt {B : Nat} {w : World} {g cap : Nat} {l : List Int} (h : Own B w g cap l) (k : Nat) (hk : k < l.length) : w.cell? ⟨g, k, none⟩ = some (.int .i64 (l.getD k 0)) := by
  rw [World.ownsRow.cellAt h k (by omega), List.getElem?_map, List.getElem?_eq_getElem hk, List.getD_eq_getElem?_getD, List.getElem?_eq_getElem hk]; rfl
theorem Own.frz {B : Nat} {w : World} {g cap : Nat} {l : List Int} (h : Own B w g cap l) (k : Nat) : w.frozen? ⟨g, k, none⟩ = false := World.ownsRow.frozenAt h k
theorem Own.set {B : Nat} {w : World} {g cap : Nat} {l : List Int} (h : Own B w g cap l) (k : Nat) (x : Int) : Own B (w.setCell ⟨g, k, none⟩ (.int .i64 x)) g cap (l.set k x) := by
  unfold Own
  have := World.ownsRow.stored h k (.int .i64 x)
  rw [List.length_set, List.map_set]
  exact this.1
theorem Own.at {B : Nat} {w : World} {g cap : Nat} {l : List Int} (h : Own B w g cap l) : At w (some ⟨g, 0, none⟩) l :=
  .inr ⟨g, 0, rfl, h.base.2, fun k hk => by rw [Nat.zero_add]; exact h.cellAt k hk⟩
theorem Own.kept {B C : Nat} {w w' : World} {g cap : Nat} {l : List Int} (h : Own B w g cap l) (hb : Below C w w') (hC : g < C) : Own B w' g cap l := by
  obtain ⟨h1, h2⟩ := h
  refine ⟨h1, ?_⟩
  rcases h2 with h2 | ⟨g', cap', cur, hv, hg, hh, r⟩
  · exact Or.inl h2
  · refine Or.inr ⟨g', cap', cur, hv, hg, ?_, r⟩
    have : g = g' := by simp only [Value.slice.injEq, Option.some.injEq, Addr.mk.injEq] at hv; exact hv.1.1
    rw [hb.block _ (by omega)]; exact hh
theorem Own.setOther {B : Nat} {w : World} {g cap : Nat} {l : List Int} (h : Own B w g cap l) {p : Addr} (hp : p.block ≠ g) (u : Value) : Own B (w.setCell p u) g cap l := by
  obtain ⟨h1, h2⟩ := h
  refine ⟨h1, ?_⟩
  rcases h2 with h2 | ⟨g', cap', cur, hv, hg, hh, r⟩
  · exact Or.inl h2
  · refine Or.inr ⟨g', cap', cur, hv, hg, ?_, r⟩
    have : g = g' := by simp only [Value.slice.injEq, Option.some.injEq, Addr.mk.injEq] at hv; exact hv.1.1
    rw [Below.heap_setCell _ _ _ _ (by omega)]; exact hh
theorem Own.mono {B B' : Nat} {w : World} {g cap : Nat} {l : List Int} (h : Own B w g cap l) (hB : B' ≤ B) : Own B' w g cap l := by
  obtain ⟨h1, h2⟩ := h
  refine ⟨h1, ?_⟩
  rcases h2 with h2 | ⟨g', cap', cur, hv, hg, r⟩
  · exact Or.inl h2
  · exact Or.inr ⟨g', cap', cur, hv, by omega, r⟩

theorem Own.cap_le {B : Nat} {w : World} {g cap : Nat} {l : List Int} (h : Own B w g cap l) : l.length ≤ cap := by
  obtain ⟨_, h2⟩ := h
  rcases h2 with ⟨h2, _⟩ | ⟨g', cap', cur, hv, _, _, hc, _⟩
  · cases h2
  · simp only [Value.slice.injEq] at hv
    omega
theorem Own.keptBy {B : Nat} {w w' : World} {g cap : Nat} {l : List Int} {row : Option Nat} (h : Own B w g cap l) (hg : w.grownBy w' row) (hne : row ≠ some g) : Own B w' g cap l :=
  World.ownsRow.kept h hg (.inr (by simpa [Value.ownBlock] using fun e => hne e.symm))
theorem grownBy_set (w : World) (g k : Nat) (v : Value) : w.grownBy (w.setCell ⟨g, k, none⟩ v) (some g) :=
  ⟨rfl, rfl, rfl, by simp [World.setCell], fun j _ hj => Below.heap_setCell _ _ _ _ (by intro e; apply hj; rw [e])⟩
theorem grownBy_trans {a b c : World} {r : Option Nat} (h : a.grownBy b r) (k : b.grownBy c r) : a.grownBy c r :=
  ⟨k.os.trans h.os, k.tape.trans h.tape, k.output.trans h.output, Nat.le_trans h.size k.size, fun i hi hn => (k.block i (Nat.lt_of_lt_of_le hi h.size) hn).trans (h.block i hi hn)⟩
theorem below_grownBy {w w' : World} (h : Below w.heap.size w w') : w.grownBy w' none := ⟨h.os, h.tape, h.output, h.size, fun k hk _ => h.block k hk⟩

/-- A slice that holds nothing, or a block of the call's own at its head. -/
def OwnA (B : Nat) (w : World) (a : Option Addr) (cap : Nat) (l : List Int) : Prop := l = [] ∨ ∃ g, a = some ⟨g, 0, none⟩ ∧ Own B w g cap l
/-- The block of such a slice, if it holds something. -/
def blk (a : Option Addr) (l : List Int) : Option Nat := if l = [] then none else a.map (·.block)
theorem OwnA.lt {B : Nat} {w : World} {a : Option Addr} {cap : Nat} {l : List Int} (h : OwnA B w a cap l) : ∀ g, blk a l = some g → B ≤ g ∧ g < w.heap.size := by
  intro g hg
  rcases h with rfl | ⟨g', rfl, h⟩
  · simp [blk] at hg
  · unfold blk at hg
    split at hg
    · cases hg
    · simp at hg; subst hg; exact h.base
theorem OwnA.at {B : Nat} {w : World} {a : Option Addr} {cap : Nat} {l : List Int} (h : OwnA B w a cap l) : At w a l := by
  rcases h with rfl | ⟨g', rfl, h⟩
  · exact .inl rfl
  · exact h.at
theorem OwnA.keptBy {B : Nat} {w w' : World} {a : Option Addr} {cap : Nat} {l : List Int} {row : Option Nat} (h : OwnA B w a cap l) (hg : w.grownBy w' row) (hne : ∀ g, blk a l = some g → row ≠ some g) : OwnA B w' a cap l := by
  by_cases hl : l = []
  · exact .inl hl
  · obtain ⟨g, rfl, ho⟩ := h.resolve_left hl
    exact .inr ⟨g, rfl, Own.keptBy ho hg (hne g (by simp [blk, hl]))⟩
theorem OwnA.below {B : Nat} {w w' : World} {a : Option Addr} {cap : Nat} {l : List Int} (h : OwnA B w a cap l) (hb : Below w.heap.size w w') : OwnA B w' a cap l :=
  h.keptBy (below_grownBy hb) (fun _ _ e => by cases e)
theorem Own.a {B : Nat} {w : World} {g cap : Nat} {l : List Int} (h : Own B w g cap l) : OwnA B w (some ⟨g, 0, none⟩) cap l := .inr ⟨g, rfl, h⟩

/-- k, k + 1, .., n numbers. -/
def marks (n : Nat) (k : Nat) : List Int := (List.range n).map fun i => ((k + i : Nat) : Int)
theorem marks_len (n k : Nat) : (marks n k).length = n := by simp [marks]
theorem marks_at {n k i : Nat} (h : i < n) : (marks n k).getD i 0 = ((k + i : Nat) : Int) := by
  simp [marks, List.getD_eq_getElem?_getD, h]
theorem marks_succ (n k : Nat) : marks (n + 1) k = marks n k ++ [((k + n : Nat) : Int)] := by
  simp [marks, List.range_succ]

/-- The list xs, filled up with zeros to n numbers. -/
def fillz (n : Nat) (xs : List Int) : List Int := xs ++ List.replicate (n - xs.length) 0
theorem fillz_len {n : Nat} {xs : List Int} (h : xs.length ≤ n) : (fillz n xs).length = n := by simp [fillz]; omega
theorem fillz_full {n : Nat} {xs : List Int} (h : xs.length = n) : fillz n xs = xs := by simp [fillz, h]
theorem fillz_set {n : Nat} {xs : List Int} (h : xs.length < n) (v : Int) : (fillz n xs).set xs.length v = fillz n (xs ++ [v]) := by
  unfold fillz
  rw [List.set_append_right _ _ (Nat.le_refl _), Nat.sub_self, List.length_append, List.append_assoc]
  congr 1
  rw [show n - xs.length = (n - (xs.length + 1)) + 1 from by omega, List.replicate_succ]
  simp
theorem fillz_snoc0 {n : Nat} {xs : List Int} (h : xs.length < n) : fillz n xs = fillz n (xs ++ [0]) := by
  unfold fillz
  rw [List.length_append, List.append_assoc]
  congr 1
  rw [show n - xs.length = (n - (xs.length + [(0 : Int)].length)) + 1 from by simp; omega, List.replicate_succ]
  rfl
theorem fillz_reset {n : Nat} {xs : List Int} (s v : Int) : (fillz n (xs ++ [s])).set xs.length v = fillz n (xs ++ [v]) := by
  unfold fillz
  rw [List.append_assoc, List.append_assoc, List.set_append_right _ _ (Nat.le_refl _), Nat.sub_self]
  simp
theorem fillz_get {n : Nat} {xs : List Int} (s : Int) : (fillz n (xs ++ [s])).getD xs.length 0 = s := by
  unfold fillz
  simp [List.getD_eq_getElem?_getD]
theorem fillz_low {n : Nat} {xs : List Int} {j : Nat} (h : j < xs.length) : (fillz n xs).getD j 0 = xs.getD j 0 := by
  unfold fillz
  simp [List.getD_eq_getElem?_getD, List.getElem?_append_left h]
theorem fillz_zero (n : Nat) : fillz n [] = List.replicate n 0 := by simp [fillz]
theorem take_snoc {l : List Int} {k : Nat} (h : k < l.length) : l.take k ++ [l.getD k 0] = l.take (k + 1) := by
  rw [List.take_succ_eq_append_getElem h, List.getD_eq_getElem?_getD, List.getElem?_eq_getElem h]; rfl

/-- The call answers a slice of its own that reads as l; nothing that was there has turned. -/
def Fresh (w : World) (l : List Int) (e : Ending) (w' : World) : Prop :=
  ∃ g cap, e = .returned (.slice (some ⟨g, 0, none⟩) l.length cap) ∧ Own w.heap.size w' g cap l ∧ Below w.heap.size w w'

/-- What the walk is told of a slice of integers that came in. -/
def IsRow (k : IntKind) (w : World) (a : Option Addr) (len cap : Nat) (zs : List Int) : Prop :=
  (a = none ∧ len = 0 ∧ cap = 0 ∧ zs = []) ∨
  ∃ x, a = some x ∧ len ≤ cap ∧ cap ≤ maxLen ∧ zs.length = cap ∧ (∀ i, i < zs.length → w.cell? (x.add i) = some (.int k (zs.getD i 0))) ∧ ∀ n ∈ zs, (Lit.int k n).wf = true

theorem IsRow.open {w : World} {a : Option Addr} {len cap : Nat} {zs : List Int} (h : IsRow .i64 w a len cap zs) :
    ∃ l : List Int, l.length = len ∧ At w a l ∧ Rng l ∧ len ≤ 9223372036854775807 := by
  rcases h with ⟨rfl, rfl, rfl, rfl⟩ | ⟨x, rfl, hl, hm, hz, hcell, hwz⟩
  · exact ⟨[], rfl, .inl rfl, fun n hn => by simp at hn, by omega⟩
  · refine ⟨zs.take len, by simp; omega, ?_, fun n hn => bounds_i64 (hwz n (List.mem_of_mem_take hn)), by unfold maxLen at hm; omega⟩
    by_cases hn : len = 0
    · left; rw [hn]; simp
    · obtain ⟨b, off, spot⟩ := x
      have hc := hcell 0 (by omega)
      have hspot : spot = none := by simpa [Addr.add] using World.cell?_spot hc
      subst hspot
      have h0 : w.cell? ⟨b, off, none⟩ = some (.int .i64 (zs.getD 0 0)) := by simpa [Addr.add] using hc
      refine .inr ⟨b, off, rfl, cell_lt h0, fun k hk => ?_⟩
      have hk' : k < len := by simp at hk; omega
      have hck := hcell k (by omega)
      rw [show (zs.take len).getD k 0 = zs.getD k 0 from by simp [List.getD_eq_getElem?_getD, hk']]
      have e : (⟨b, off, none⟩ : Addr).add k = ⟨b, off + k, none⟩ := by cases k <;> simp [Addr.add]
      rw [e] at hck; exact hck

theorem info64 : (Tryz.prog.info? 2).map (fun i => (i.zero, i.size, i.bytes)) = some (some (.int .i64 0), 1, 8) := by kernel_rfl

theorem made_own {B : Nat} {w : World} {g n : Nat} (h : w.ownsRow B 2 1 (.slice (some ⟨g, 0, none⟩) n n) n (madeCells #[Value.int .i64 0] n).toList) : Own B w g n (fillz n []) := by
  unfold Own
  rw [fillz_zero, List.length_replicate, List.map_replicate, ← toList_madeCells_one]; exact h

end Go.Proofs.YtoedccgiahegnaaGreat

namespace Go.Proofs.YtoedccgiahegnaaGreat
open Go.RowKit

set_option maxHeartbeats 800000 in
theorem toInt64S (a : Option Addr) (cap : Nat) (l : List Int) (w : World) (h : At w a l) (hl : l.length ≤ 1048576) :
    Calls Tryz.prog 13 #[.slice a l.length cap] w (Fresh w l) := by
  obtain ⟨i0, hi, hz0, hz1, hz2⟩ := info_parts info64
  go_enter Tryz.func13, Tryz.ntmps13
  go_wp2_with (refine wpList_make_full _ rfl _ _ 25 rfl w.heap.size 2 i0 (.int .i64 0) 1 Tryz.underlying25 hi hz0 hz1 .i64 .i64 _ _ l.length rfl rfl rfl rfl ?c2 ?c3 (Nat.le_refl _) ?_)
  case c2 => rw [hz2]; omega
  case c3 => unfold maxLen; omega
  intro w1 ho1 hg1
  have hb1 := (Below.refl w.heap.size w).grown hg1 (Nat.le_refl _) (by intro k hk; cases hk)
  have ho2 := made_own ho1
  clear ho1 hg1 hi hz0 hz1 hz2
  go_wp2
  go_loopw [4] (fun i wr => ∃ k : Nat, k ≤ l.length ∧ i = .int .i64 k ∧ Own w.heap.size wr w.heap.size l.length (fillz l.length (l.take k)) ∧ Below w.heap.size w wr) (fun i _ => l.length - (intOf i).toNat)
  case atStart => exact ⟨0, Nat.zero_le _, rfl, ho2, hb1⟩
  case round =>
    obtain ⟨k, hk, rfl, ho, hb⟩ := hrel
    by_cases hlt : k < l.length
    · obtain ⟨b, off, rfl, hbl, hc⟩ := (h.resolve_left (by intro e; rw [e] at hlt; simp at hlt))
      have hck : wr.cell? ⟨b, off + k, none⟩ = some (.int .i64 (l.getD k 0)) := (hb.cell (p := ⟨b, off + k, none⟩) hbl).trans (hc k hlt)
      have hlen : (l.take k).length = k := by simp; omega
      have hcs := ho.cellAt k (by rw [fillz_len (by omega)]; exact hlt)
      have hfr := ho.frz k
      have hset := ho.set k (l.getD k 0)
      have hs2 : (fillz l.length (l.take k)).set k (l.getD k 0) = fillz l.length (l.take (k + 1)) := by
        have := fillz_set (n := l.length) (xs := l.take k) (by omega) (l.getD k 0)
        rw [hlen, take_snoc hlt] at this; exact this
      rw [hs2] at hset
      have hb2 := hb.setCell (p := ⟨w.heap.size, k, none⟩) (Nat.le_refl _) (.int .i64 (l.getD k 0))
      clear hc hlen hs2 ho
      generalize l.getD k 0 = x at hck hset hb2
      go_wp2
      go_roundw
      case rel => exact ⟨k + 1, by omega, by go_num, hset, hb2⟩
      case measure => simp [intOf]; omega
    · have hkk : k = l.length := by omega
      subst hkk
      rw [List.take_length, fillz_full rfl] at ho
      go_wp2
      go_ret
      exact ⟨_, _, rfl, ho, hb⟩

set_option maxHeartbeats 800000 in
theorem eqInt64S (a b : Option Addr) (ca cb : Nat) (l : List Int) (w : World) (ha : At w a l) (hb : At w b l) (hl : l.length ≤ 9223372036854775806) :
    Calls Tryz.prog 15 #[.slice a l.length ca, .slice b l.length cb] w fun e w' => e = .returned (.bool true) ∧ Below w.heap.size w w' := by
  go_enter Tryz.func15, Tryz.ntmps15
  go_wp2
  go_loopw [5] (fun i wr => ∃ k : Nat, k ≤ l.length ∧ i = .int .i64 k ∧ Below w.heap.size w wr) (fun i _ => l.length - (intOf i).toNat)
  case atStart => exact ⟨0, Nat.zero_le _, rfl, Below.refl _ _⟩
  case round =>
    obtain ⟨k, hk, rfl, hw⟩ := hrel
    by_cases hlt : k < l.length
    · obtain ⟨b1, o1, rfl, hbl1, hc1⟩ := (ha.resolve_left (by intro e; rw [e] at hlt; simp at hlt))
      obtain ⟨b2, o2, rfl, hbl2, hc2⟩ := (hb.resolve_left (by intro e; rw [e] at hlt; simp at hlt))
      have h1 : wr.cell? ⟨b1, o1 + k, none⟩ = some (.int .i64 (l.getD k 0)) := (hw.cell (p := ⟨b1, o1 + k, none⟩) hbl1).trans (hc1 k hlt)
      have h2 : wr.cell? ⟨b2, o2 + k, none⟩ = some (.int .i64 (l.getD k 0)) := (hw.cell (p := ⟨b2, o2 + k, none⟩) hbl2).trans (hc2 k hlt)
      clear hc1 hc2 ha hb
      generalize l.getD k 0 = x at h1 h2
      have hi : (k : Int) < (l.length : Int) := by omega
      go_wp2
      go_quiet (fail)
      go_wp2
      go_roundw
      case rel => exact ⟨k + 1, by omega, by go_num, below_drewN hw _⟩
      case measure => simp [intOf]; omega
    · go_wp2
      go_ret
      exact ⟨rfl, hw⟩

set_option maxHeartbeats 800000 in
theorem markInt64S (B : Nat) (a : Option Addr) (cap : Nat) (l : List Int) (k0 : Nat) (w : World) (h : OwnA B w a cap l) (hl : l.length ≤ 1048576) (hk0 : k0 ≤ 16777216) :
    Calls Tryz.prog 18 #[.slice a l.length cap, .int .i64 k0] w fun e w' => e = .returned (.int .i64 ((k0 + l.length : Nat) : Int)) ∧ OwnA B w' a cap (marks l.length k0) ∧ w.grownBy w' (blk a l) := by
  by_cases hn : l = []
  · subst hn
    go_enter Tryz.func18, Tryz.ntmps18
    go_wp2
    refine wp_loop_rounds 1 ?_
    rw [rounds_succ]
    go_wp2
    go_ret
    exact ⟨rfl, .inl rfl, World.grownBy.refl _ _⟩
  · obtain ⟨g, rfl, ho⟩ := h.resolve_left hn
    have hblk : blk (some ⟨g, 0, none⟩) l = some g := by simp [blk, hn]
    rw [hblk]
    have ho0 : Own B w g cap (marks 0 k0 ++ l.drop 0) := by simpa [marks] using ho
    go_enter Tryz.func18, Tryz.ntmps18
    go_wp2
    go_loopw [1, 5] (fun q i wr => ∃ k : Nat, k ≤ l.length ∧ i = .int .i64 k ∧ q = .int .i64 ((k0 + k : Nat) : Int) ∧ Own B wr g cap (marks k k0 ++ l.drop k) ∧ w.grownBy wr (some g)) (fun _ i _ => l.length - (intOf i).toNat)
    case atStart => exact ⟨0, Nat.zero_le _, rfl, rfl, ho0, World.grownBy.refl _ _⟩
    case round =>
      obtain ⟨k, hk, rfl, rfl, ho, hg⟩ := hrel
      by_cases hlt : k < l.length
      · have hlen : (marks k k0 ++ l.drop k).length = l.length := by simp [marks_len]; omega
        have hcs := ho.cellAt k (by rw [hlen]; exact hlt)
        have hfr := ho.frz k
        have hset := ho.set k ((k0 + k : Nat) : Int)
        have hs2 : (marks k k0 ++ l.drop k).set k ((k0 + k : Nat) : Int) = marks (k + 1) k0 ++ l.drop (k + 1) := by
          rw [List.set_append_right _ _ (by rw [marks_len]; exact Nat.le_refl _), marks_len, Nat.sub_self, List.drop_eq_getElem_cons hlt, List.set_cons_zero, marks_succ, List.append_assoc]; rfl
        rw [hs2] at hset
        have hg2 := grownBy_trans hg (grownBy_set wr g k (.int .i64 ((k0 + k : Nat) : Int)))
        clear hlen hs2 ho hblk
        generalize (marks k k0 ++ l.drop k).getD k 0 = x at hcs
        go_wp2
        go_roundw
        case rel => exact ⟨k + 1, by omega, by go_num, by go_num, hset, hg2⟩
        case measure => simp [intOf]; omega
      · have hkk : k = l.length := by omega
        subst hkk
        rw [List.drop_length, List.append_nil] at ho
        go_wp2
        go_ret
        exact ⟨rfl, .inr ⟨g, rfl, ho⟩, hg⟩

set_option maxHeartbeats 800000 in
theorem heldInt64S (a : Option Addr) (cap n : Nat) (k0 : Nat) (w : World) (h : At w a (marks n k0)) (hl : n ≤ 1048576) (hk0 : k0 ≤ 16777216) :
    Calls Tryz.prog 19 #[.slice a n cap, .int .i64 k0] w fun e w' => e = .returned (.int .i64 ((k0 + n : Nat) : Int)) ∧ w = w' := by
  go_enter Tryz.func19, Tryz.ntmps19
  go_wp2
  go_loop [1, 5] (fun q i => ∃ k : Nat, k ≤ n ∧ i = .int .i64 k ∧ q = .int .i64 ((k0 + k : Nat) : Int)) (fun _ i => n - (intOf i).toNat)
  case atStart => exact ⟨0, Nat.zero_le _, rfl, rfl⟩
  case round =>
    obtain ⟨k, hk, rfl, rfl⟩ := hrel
    by_cases hlt : k < n
    · obtain ⟨b, off, rfl, hbl, hc⟩ := (h.resolve_left (by intro e; have := congrArg List.length e; rw [marks_len] at this; simp at this; omega))
      have hck := hc k (by rw [marks_len]; exact hlt)
      rw [marks_at hlt] at hck
      clear hc h
      go_wp2
      go_round
      case rel => exact ⟨k + 1, by omega, by go_num, by go_num⟩
      case measure => simp [intOf]; omega
    · have hkk : k = n := by omega
      subst hkk
      go_wp2
      go_ret
      exact ⟨rfl, rfl⟩

theorem markAt (B : Nat) (a : Option Addr) (cap : Nat) (l : List Int) (k0 : Nat) (q : Int) (w : World) (hq : (k0 : Int) = q) (h : OwnA B w a cap l) (hl : l.length ≤ 1048576) (hk0 : k0 ≤ 16777216) :
    Calls Tryz.prog 18 #[.slice a l.length cap, .int .i64 q] w fun e w' => e = .returned (.int .i64 (q + (l.length : Int))) ∧ OwnA B w' a cap (marks l.length k0) ∧ w.grownBy w' (blk a l) := by
  subst hq
  exact (markInt64S B a cap l k0 w h hl hk0).mono fun e w' ⟨h1, h2⟩ => ⟨by rw [h1, Int.natCast_add], h2⟩
theorem heldAt (a : Option Addr) (cap n : Nat) (k0 : Nat) (q : Int) (w : World) (hq : (k0 : Int) = q) (h : At w a (marks n k0)) (hl : n ≤ 1048576) (hk0 : k0 ≤ 16777216) :
    Calls Tryz.prog 19 #[.slice a n cap, .int .i64 q] w fun e w' => e = .returned (.int .i64 (q + (n : Int))) ∧ w = w' := by
  subst hq
  exact (heldInt64S a cap n k0 w h hl hk0).mono fun e w' ⟨h1, h2⟩ => ⟨by rw [h1, Int.natCast_add], h2⟩

end Go.Proofs.YtoedccgiahegnaaGreat

namespace Go.Proofs.YtoedccgiahegnaaGreat
open Go.RowKit

def okNum (n : Int) : Bool := decide (0 ≤ n ∧ n < 1000003)
def okNums (l : List Int) : Bool := l.all okNum
def okS (l : List Int) : Bool := decide (1 ≤ l.length ∧ l.length ≤ 13) && okNums l

theorem okNum_t {n : Int} (h : okNum n = true) : 0 ≤ n ∧ n < 1000003 := by simpa [okNum] using h
theorem okNum_f {n : Int} (h : okNum n = false) : n < 0 ∨ 1000003 ≤ n := by
  simp [okNum] at h; omega
theorem okNums_take_zero (l : List Int) : okNums (l.take 0) = true := by simp [okNums]
theorem okNums_succ {l : List Int} {k : Nat} (hk : k < l.length) (h : okNums (l.take k) = true) (h2 : okNum (l.getD k 0) = true) : okNums (l.take (k + 1)) = true := by
  rw [← take_snoc hk]; unfold okNums at *; rw [List.all_append, h]; simp only [List.all_cons, List.all_nil, Bool.and_true, Bool.true_and]; exact h2
theorem okNums_bad {l : List Int} {k : Nat} (hk : k < l.length) (h2 : okNum (l.getD k 0) = false) : okNums l = false := by
  unfold okNums
  rw [List.all_eq_false]
  exact ⟨_, getD_mem hk, by rw [h2]; simp⟩
theorem okNums_nums {l : List Int} (h : okNums l = true) : Nums l := by
  intro n hn
  unfold okNums at h
  rw [List.all_eq_true] at h
  exact okNum_t (h n hn)
theorem okS_t {l : List Int} (h : okS l = true) : 1 ≤ l.length ∧ l.length ≤ 13 ∧ Nums l := by
  simp [okS] at h
  exact ⟨h.1.1, h.1.2, okNums_nums h.2⟩
theorem okS_long {l : List Int} (h : ¬ (1 ≤ l.length ∧ l.length ≤ 13)) : okS l = false := by
  simp only [okS, h, decide_false, Bool.false_and]
theorem okS_short {l : List Int} (h : 1 ≤ l.length ∧ l.length ≤ 13) : okS l = okNums l := by
  simp only [okS, h, and_self, decide_true, Bool.true_and]
theorem nums_okS {l : List Int} (h1 : 1 ≤ l.length) (h2 : l.length ≤ 13) (h : Nums l) : okS l = true := by
  rw [okS_short ⟨h1, h2⟩]; unfold okNums; rw [List.all_eq_true]; intro n hn; have := h n hn; simp [okNum, this]

theorem ret_bool {a b : Bool} (h : a = b) : Ending.returned (.bool a) = .returned (.bool b) := by rw [h]

set_option maxHeartbeats 400000 in
theorem inT (n lo hi : Int) (h1 : lo ≤ n) (h2 : n ≤ hi) (w : World) :
    Calls Tryz.prog 48 #[.int .i64 n, .int .i64 lo, .int .i64 hi] w fun e w' => e = .returned (.bool true) ∧ w = w' := by
  go_enter Tryz.func48, Tryz.ntmps48
  go_wp2
  go_ret
  exact ⟨rfl, rfl⟩
set_option maxHeartbeats 400000 in
theorem inF (n lo hi : Int) (h : n < lo ∨ hi < n) (w : World) :
    Calls Tryz.prog 48 #[.int .i64 n, .int .i64 lo, .int .i64 hi] w fun e w' => e = .returned (.bool false) ∧ w = w' := by
  by_cases h1 : n < lo
  · clear h
    have hd : decide (lo ≤ n) = false := by simp; omega
    go_enter Tryz.func48, Tryz.ntmps48
    go_wp2
    go_ret
    exact ⟨rfl, rfl⟩
  · have h2 : hi < n := by omega
    have h3 : lo ≤ n := by omega
    have hd : decide (n ≤ hi) = false := by simp; omega
    clear h h1
    go_enter Tryz.func48, Tryz.ntmps48
    go_wp2
    go_ret
    exact ⟨rfl, rfl⟩

set_option maxHeartbeats 400000 in
theorem sNumber (n : Int) (w : World) :
    Calls Tryz.prog 92 #[.int .i64 n] w fun e w' => e = .returned (.bool (okNum n)) ∧ w = w' := by
  cases hn : okNum n with
  | true =>
    have := okNum_t hn
    go_enter Tryz.func92, Tryz.ntmps92
    go_wp2_with fail
    refine (inT n 0 1000002 (by omega) (by omega) _).mono ?_; rintro e w' ⟨rfl, rfl⟩
    go_wp2_with fail
    go_ret
    exact ⟨rfl, rfl⟩
  | false =>
    have := okNum_f hn
    go_enter Tryz.func92, Tryz.ntmps92
    go_wp2_with fail
    refine (inF n 0 1000002 (by omega) _).mono ?_; rintro e w' ⟨rfl, rfl⟩
    go_wp2_with fail
    go_ret
    exact ⟨rfl, rfl⟩

set_option maxHeartbeats 800000 in
theorem sNumbers (a : Option Addr) (cap : Nat) (l : List Int) (w : World) (h : At w a l) (hl : l.length ≤ 9223372036854775806) :
    Calls Tryz.prog 68 #[.slice a l.length cap] w fun e w' => e = .returned (.bool (okNums l)) ∧ w = w' := by
  have h0 := Lib.hid (okNums_take_zero l)
  go_enter Tryz.func68, Tryz.ntmps68
  go_wp2
  go_loop [3] (fun i => ∃ k : Nat, k ≤ l.length ∧ i = .int .i64 k ∧ Hid (okNums (l.take k) = true)) (fun i => l.length - (intOf i).toNat)
  case atStart => exact ⟨0, Nat.zero_le _, rfl, h0⟩
  case round =>
    obtain ⟨k, hk, rfl, hok⟩ := hrel
    by_cases hlt : k < l.length
    · obtain ⟨b, off, rfl, hbl, hc⟩ := (h.resolve_left (by intro e; rw [e] at hlt; simp at hlt))
      have hck := hc k hlt
      cases hx : okNum (l.getD k 0) with
      | true =>
        have hs := Lib.hid (okNums_succ hlt hok.out hx)
        clear hc h hok h0
        generalize l.getD k 0 = x at hck hx
        have HX := Lib.hid hx
        clear hx
        go_wp2_with fail
        refine (sNumber x _).mono ?_; rintro e w' ⟨rfl, rfl⟩
        rw [HX.out]
        go_wp2_with fail
        go_round
        case rel => exact ⟨k + 1, by omega, by go_num, hs⟩
        case measure => simp [intOf]; omega
      | false =>
        have hs := Lib.hid (okNums_bad hlt hx)
        clear hc h hok h0
        generalize l.getD k 0 = x at hck hx
        have HX := Lib.hid hx
        clear hx
        go_wp2_with fail
        refine (sNumber x _).mono ?_; rintro e w' ⟨rfl, rfl⟩
        rw [HX.out]
        go_wp2_with fail
        go_ret
        exact ⟨ret_bool hs.out.symm, rfl⟩
    · have hkk : k = l.length := by omega
      subst hkk
      have hs := Lib.hid (show okNums l = true by have := hok.out; rwa [List.take_length] at this)
      clear hok h0
      go_wp2
      go_ret
      exact ⟨ret_bool hs.out.symm, rfl⟩

end Go.Proofs.YtoedccgiahegnaaGreat

namespace Go.Proofs.YtoedccgiahegnaaGreat
open Go.RowKit

end Go.Proofs.YtoedccgiahegnaaGreat

namespace Go.Proofs.YtoedccgiahegnaaGreat

def psum (f : Nat → Int) : Nat → Int
  | 0 => 0
  | n + 1 => pls (psum f n) (f n)
def msub (r : Int) (f : Nat → Int) : Nat → Int
  | 0 => r
  | n + 1 => mns (msub r f n) (f n)
def tab (f : Nat → Int) (n : Nat) : List Int := (List.range n).map f
def addl (a b : List Int) : List Int := tab (fun k => pls (a.getD k 0) (b.getD k 0)) a.length
def mulc (a b : List Int) (k : Nat) : Int := psum (fun i => tms (a.getD i 0) (b.getD (k - i) 0)) (k + 1)
def mull (a b : List Int) : List Int := tab (mulc a b) a.length
def dvs (a b : List Int) (f : Int) : Nat → List Int
  | 0 => []
  | k + 1 => dvs a b f k ++ [tms (msub (a.getD k 0) (fun i => tms ((dvs a b f k).getD i 0) (b.getD (k - i) 0)) k) f]
def divl (a b : List Int) : List Int := dvs a b (inv (b.getD 0 0)) a.length
/-- a number added to the first one -/
def addh (l : List Int) (x : Int) : List Int := l.set 0 (pls (l.getD 0 0) x)
def cmps (a b : List Int) : Nat → List Int
  | 0 => List.replicate a.length 0
  | j + 1 => addh (mull (cmps a b j) b) (a.getD (a.length - 1 - j) 0)
def cmpl (a b : List Int) : List Int := cmps a b a.length
def derl (a : List Int) : List Int := tab (fun k => if k + 1 < a.length then tms ((k : Int) + 1) (a.getD (k + 1) 0) else 0) a.length
def intl (a : List Int) : List Int := tab (fun k => if k = 0 then 0 else tms (a.getD (k - 1) 0) (inv (k : Int))) a.length
def exs (a : List Int) : Nat → List Int
  | 0 => [1]
  | k + 1 => exs a k ++ [tms (psum (fun i => tms (tms ((i : Int) + 1) (a.getD (i + 1) 0)) ((exs a k).getD (k - i) 0)) (k + 1)) (inv ((k : Int) + 1))]
def expl (a : List Int) : List Int := exs a (a.length - 1)
/-- the value, by Horner's rule -/
def hor (t : Int) : List Int → Int
  | [] => 0
  | x :: r => pls (tms (hor t r) t) x

theorem tab_len (f : Nat → Int) (n : Nat) : (tab f n).length = n := by simp [tab]
theorem tab_succ (f : Nat → Int) (n : Nat) : tab f (n + 1) = tab f n ++ [f n] := by simp [tab, List.range_succ]
theorem tab_at {f : Nat → Int} {n k : Nat} (h : k < n) : (tab f n).getD k 0 = f k := by simp [tab, List.getD_eq_getElem?_getD, h]
theorem addl_len (a b : List Int) : (addl a b).length = a.length := tab_len _ _
theorem mull_len (a b : List Int) : (mull a b).length = a.length := tab_len _ _
theorem dvs_len (a b : List Int) (f : Int) (k : Nat) : (dvs a b f k).length = k := by
  induction k with
  | zero => rfl
  | succ k ih => simp [dvs, ih]
theorem divl_len (a b : List Int) : (divl a b).length = a.length := dvs_len _ _ _ _
theorem addh_len (l : List Int) (x : Int) : (addh l x).length = l.length := by simp [addh]
theorem cmps_len (a b : List Int) (j : Nat) : (cmps a b j).length = a.length := by
  induction j with
  | zero => simp [cmps]
  | succ j ih => rw [cmps, addh_len, mull_len, ih]
theorem cmpl_len (a b : List Int) : (cmpl a b).length = a.length := cmps_len _ _ _
theorem derl_len (a : List Int) : (derl a).length = a.length := tab_len _ _
theorem intl_len (a : List Int) : (intl a).length = a.length := tab_len _ _
theorem exs_len (a : List Int) (k : Nat) : (exs a k).length = k + 1 := by
  induction k with
  | zero => rfl
  | succ k ih => simp [exs, ih]
theorem expl_len {a : List Int} (h : 1 ≤ a.length) : (expl a).length = a.length := by rw [expl, exs_len]; omega

theorem psum_bd (f : Nat → Int) (n : Nat) : 0 ≤ psum f n ∧ psum f n < 1000003 := by
  cases n with
  | zero => simp [psum]
  | succ n => exact pls_bd _ _
theorem hor_bd (t : Int) (l : List Int) : 0 ≤ hor t l ∧ hor t l < 1000003 := by
  cases l with
  | nil => simp [hor]
  | cons x r => exact pls_bd _ _

def Nms (l : List Int) : Prop := ∀ n ∈ l, 0 ≤ n ∧ n < 1000003
theorem nms_snoc {l : List Int} {x : Int} (h : Nms l) (hx : 0 ≤ x ∧ x < 1000003) : Nms (l ++ [x]) := by
  intro n hn
  rw [List.mem_append] at hn
  rcases hn with hn | hn
  · exact h n hn
  · rw [List.mem_singleton] at hn; rw [hn]; exact hx
theorem dvs_nms (a b : List Int) (f : Int) (k : Nat) : Nms (dvs a b f k) := by
  induction k with
  | zero => intro n hn; simp [dvs] at hn
  | succ k ih => rw [dvs]; exact nms_snoc ih (tms_bd _ _)
theorem tab_nms {f : Nat → Int} (n : Nat) (h : ∀ k, 0 ≤ f k ∧ f k < 1000003) : Nms (tab f n) := by
  intro x hx
  unfold tab at hx
  rw [List.mem_map] at hx
  obtain ⟨k, _, rfl⟩ := hx
  exact h k
theorem msub_bd {r : Int} (f : Nat → Int) (n : Nat) (hr : 0 ≤ r ∧ r < 1000003) : 0 ≤ msub r f n ∧ msub r f n < 1000003 := by
  cases n with
  | zero => exact hr
  | succ n => exact mns_bd _ _

end Go.Proofs.YtoedccgiahegnaaGreat

namespace Go.Proofs.YtoedccgiahegnaaGreat
open Go.RowKit

theorem quiet_same {P : Program} {f : FuncId} {args : Array Value} {w : World} {n : Nat} {v : Value}
    (h : Calls P f args (w.drewN n) fun e w' => e = .returned v ∧ w.drewN n = w') : Calls P f args (w.drewN n) fun e w'' => e = .returned v ∧ ∃ m, w'' = w.drewN m :=
  h.mono fun _ _ ⟨he, hm⟩ => ⟨he, n, hm.symm⟩

theorem hor_drop {l : List Int} {t : Int} {j : Nat} (h : j < l.length) : hor t (l.drop j) = pls (tms (hor t (l.drop (j + 1))) t) (l.getD j 0) := by
  rw [List.drop_eq_getElem_cons h, hor, List.getD_eq_getElem?_getD, List.getElem?_eq_getElem h]; rfl

def valR (l : List Int) (t : Int) : Int := if okS l then hor t l else 0
def valC (l : List Int) : Int := if okS l then 0 else 1
theorem ret_two {a b c d : Int} (h1 : a = c) (h2 : b = d) : Ending.returned (.tuple #[.int .i64 a, .int .i64 b]) = .returned (.tuple #[.int .i64 c, .int .i64 d]) := by rw [h1, h2]

end Go.Proofs.YtoedccgiahegnaaGreat
