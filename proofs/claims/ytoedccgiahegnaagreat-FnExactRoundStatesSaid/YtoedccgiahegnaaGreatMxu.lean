/- Calls that only draw. Tapes: what the laws on them share. Tapes: which ones are valid by the program, whole. Lists of lists of numbers in memory: rows. Lists of lists of numbers: as they come in, as copies of one's own; sizes, copies, comparisons, as the laws make them. Lists of lists in memory of one's own; the law's copies and comparisons. Marks in lists of lists of one's own; what a world keeps but for some blocks; copies of lists with their capacity. -/
import Derived.Deep.QuietTactic
import Derived.BigQuiet
import Derived.Deep.RegionHeld3
import Derived.Deep.Matrix
import Derived.StillTailTactics
import Derived.Deep.AppendLies
import Derived.Deep.RegionWith
import Derived.RegionTactic
import Derived.Test.YtoedccgiahegnaaGreatBase
import Derived.Test.YtoedccgiahegnaaGreatAre
import Derived.Test.YtoedccgiahegnaaGreatSz
import Derived.Test.YtoedccgiahegnaaGreatCkr
namespace Go.Proofs.YtoedccgiahegnaaGreat
open Go.RowKit
set_option linter.unusedVariables false

/-- The call only reads and draws. -/
def Qui (v : Value) (w : World) (e : Ending) (w' : World) : Prop := e = .returned v ∧ ∃ n, w' = w.drewN n
theorem qui_q {P : Program} {f : FuncId} {args : Array Value} {w : World} {n : Nat} {v : Value}
    (h : Calls P f args (w.drewN n) (Qui v (w.drewN n))) : Calls P f args (w.drewN n) fun e w'' => e = .returned v ∧ ∃ m, w'' = w.drewN m :=
  h.mono fun _ _ ⟨he, m, hm⟩ => ⟨he, n + m, by rw [hm, World.drewN_drewN]⟩
theorem qui_q2 {P : Program} {f : FuncId} {args : Array Value} {w : World} {a n : Nat} {v : Value}
    (h : Calls P f args (w.drewN (a + n)) (Qui v (w.drewN (a + n)))) : Calls P f args (w.drewN (a + n)) fun e w'' => e = .returned v ∧ ∃ m, w'' = w.drewN (a + m) :=
  h.mono fun _ _ ⟨he, m, hm⟩ => ⟨he, n + m, by rw [hm, World.drewN_drewN, Nat.add_assoc]⟩
theorem qui_id {P : Program} {f : FuncId} {args : Array Value} {w : World} {v : Value}
    (h : Calls P f args w fun e w' => e = .returned v ∧ w = w') : Calls P f args w (Qui v w) := h.mono fun _ _ ⟨he, hm⟩ => ⟨he, 0, hm.symm⟩
/-- the world is another one but for what was drawn -/
def Drw (w wr : World) : Prop := ∃ n, wr = w.drewN n
theorem Drw.refl (w : World) : Drw w w := ⟨0, rfl⟩
theorem Drw.more {w wr : World} (h : Drw w wr) (n : Nat) : Drw w (wr.drewN n) := by obtain ⟨m, rfl⟩ := h; exact ⟨m + n, by rw [World.drewN_drewN]⟩
theorem Drw.below {w wr : World} (h : Drw w wr) : Below w.heap.size w wr := by obtain ⟨m, rfl⟩ := h; exact below_drewN (Below.refl _ _) _
theorem Drw.trans {a b c : World} (h : Drw a b) (k : Drw b c) : Drw a c := by obtain ⟨m, rfl⟩ := k; exact h.more m
theorem Drw.size {w wr : World} (h : Drw w wr) : wr.heap.size = w.heap.size := by obtain ⟨m, rfl⟩ := h; rfl
theorem At.drw {w wr : World} {a : Option Addr} {l : List Int} (h : At w a l) (hd : Drw w wr) : At wr a l := h.below hd.below (Nat.le_refl _)
theorem Drw.cell {w wr : World} (h : Drw w wr) {a : Addr} : wr.cell? a = w.cell? a := by obtain ⟨m, rfl⟩ := h; rfl
end Go.Proofs.YtoedccgiahegnaaGreat

namespace Go.Proofs.YtoedccgiahegnaaGreat
open Go.RowKit
set_option linter.unusedVariables false

/-- the four cells of a tape in a block of its own -/
structure Tcl (w : World) (bt : Nat) (t : Tp) (ac : Option Addr) (cc : Nat) (ag : Option Addr) (cg : Nat) (ao : Option Addr) (co : Nat) : Prop where
  c0 : w.cell? ⟨bt, 0, none⟩ = some (.int .i64 t.inputs)
  c1 : w.cell? ⟨bt, 1, none⟩ = some (.slice ac t.code.length cc)
  c2 : w.cell? ⟨bt, 2, none⟩ = some (.slice ag t.guards.length cg)
  c3 : w.cell? ⟨bt, 3, none⟩ = some (.slice ao t.outs.length co)
theorem Tcl.lt {w : World} {bt : Nat} {t : Tp} {ac : Option Addr} {cc : Nat} {ag : Option Addr} {cg : Nat} {ao : Option Addr} {co : Nat} (h : Tcl w bt t ac cc ag cg ao co) : bt < w.heap.size := cell_lt h.c0
theorem Tcl.block {w w' : World} {bt : Nat} {t : Tp} {ac : Option Addr} {cc : Nat} {ag : Option Addr} {cg : Nat} {ao : Option Addr} {co : Nat} (h : Tcl w bt t ac cc ag cg ao co) (hb : w'.heap[bt]? = w.heap[bt]?) : Tcl w' bt t ac cc ag cg ao co :=
  ⟨(World.cell?_of_block (a := ⟨bt, 0, none⟩) hb).trans h.c0, (World.cell?_of_block (a := ⟨bt, 1, none⟩) hb).trans h.c1, (World.cell?_of_block (a := ⟨bt, 2, none⟩) hb).trans h.c2, (World.cell?_of_block (a := ⟨bt, 3, none⟩) hb).trans h.c3⟩
theorem Tcl.next {w w' : World} {bt : Nat} {t : Tp} {ac : Option Addr} {cc : Nat} {ag : Option Addr} {cg : Nat} {ao : Option Addr} {co : Nat} (h : Tcl w bt t ac cc ag cg ao co) (hb : Below w.heap.size w w') : Tcl w' bt t ac cc ag cg ao co := h.block (hb.block bt h.lt)
theorem Tcl.trn {w w' : World} {bt : Nat} {t : Tp} {ac : Option Addr} {cc : Nat} {ag : Option Addr} {cg : Nat} {ao : Option Addr} {co L B : Nat} (h : Tcl w bt t ac cc ag cg ao co) (hb : Trn L B w w') (hn : ¬ (L ≤ bt ∧ bt < B)) : Tcl w' bt t ac cc ag cg ao co := h.block (hb.block bt h.lt hn)
theorem Tcl.grown {w w' : World} {bt : Nat} {t : Tp} {ac : Option Addr} {cc : Nat} {ag : Option Addr} {cg : Nat} {ao : Option Addr} {co : Nat} {row : Option Nat} (h : Tcl w bt t ac cc ag cg ao co) (hb : w.grownBy w' row) (hn : row ≠ some bt) : Tcl w' bt t ac cc ag cg ao co := h.block (hb.block bt h.lt (fun e => hn e.symm))
theorem tcl_new (w : World) (t : Tp) (ac : Option Addr) (cc : Nat) (ag : Option Addr) (cg : Nat) (ao : Option Addr) (co : Nat) (ty : TypeId) : Tcl (w.alloc (.cells #[.int .i64 t.inputs, .slice ac t.code.length cc, .slice ag t.guards.length cg, .slice ao t.outs.length co] ty)) w.heap.size t ac cc ag cg ao co :=
  ⟨by simp [go_sem], by simp [go_sem], by simp [go_sem], by simp [go_sem]⟩

/-- a copy of a tape, in blocks from L on and ahead of B that may be written -/
structure TapW (w : World) (L B : Nat) (t : Tp) (g1 g2 g3 : Nat) : Prop where
  le : B ≤ w.heap.size
  tat : Tat w L B t (some ⟨g1, 0, none⟩) (some ⟨g2, 0, none⟩) (some ⟨g3, 0, none⟩)
  wr1 : Wr w L B (t.code.length * 4) g1
  wr2 : Wr w L B (t.guards.length * 2) g2
  wr3 : Wr w L B t.outs.length g3
theorem TapW.next {w w' : World} {L B : Nat} {t : Tp} {g1 g2 g3 : Nat} (h : TapW w L B t g1 g2 g3) (hb : Below w.heap.size w w') : TapW w' L B t g1 g2 g3 := by
  obtain ⟨h0, h1, h2, h3, h4⟩ := h
  have hb' : Below B w w' := hb.mono h0
  exact ⟨Nat.le_trans h0 hb.size, h1.below hb', h2.below hb', h3.below hb', h4.below hb'⟩
theorem TapW.zero {w : World} {L B : Nat} {t : Tp} {g1 g2 g3 : Nat} (h : TapW w L B t g1 g2 g3) : Tat w 0 w.heap.size t (some ⟨g1, 0, none⟩) (some ⟨g2, 0, none⟩) (some ⟨g3, 0, none⟩) := h.tat.mono (Nat.zero_le _) h.le
theorem Tat.next {w w' : World} {t : Tp} {ac ag ao : Option Addr} (h : Tat w 0 w.heap.size t ac ag ao) (hb : Below w.heap.size w w') : Tat w' 0 w'.heap.size t ac ag ao := (h.below hb).mono (Nat.le_refl _) hb.size
theorem OwnA.trnU {L B B' : Nat} {w w' : World} {a : Option Addr} {cap : Nat} {l : List Int} (h : OwnA B' w a cap l) (ho : Trn L B w w') (hd : ∀ g, blk a l = some g → ¬ (L ≤ g ∧ g < B)) : OwnA B' w' a cap l := by
  by_cases hl : l = []
  · exact .inl hl
  · obtain ⟨g, rfl, hg⟩ := h.resolve_left hl
    have hb := hg.base
    have hblk := ho.block g hb.2 (hd g (by simp [blk, hl]))
    obtain ⟨h1, h2⟩ := hg
    refine .inr ⟨g, rfl, h1, ?_⟩
    rcases h2 with ⟨e, _⟩ | ⟨g', cap', cur, hv, hg', hh, h3⟩
    · cases e
    · cases hv
      exact .inr ⟨g, cap, cur, rfl, hg', hblk.trans hh, h3⟩

end Go.Proofs.YtoedccgiahegnaaGreat

namespace Go.Proofs.YtoedccgiahegnaaGreat
open Go.RowKit
set_option linter.unusedVariables false

theorem ta_snoc {B : Nat} {w : World} {v : Value} {t : List Int} {n : Int} (h : w.ownsRow B 2 1 v (t.length + 1) (t.map (Value.int .i64) ++ [Value.int .i64 n])) : w.ownsRow B 2 1 v (t ++ [n]).length ((t ++ [n]).map (Value.int .i64)) := by
  rw [List.length_append, List.map_append, List.length_singleton]; exact h

theorem heap_at2 (w : World) (o1 o2 : Obj) : ((w.alloc o1).alloc o2).heap[w.heap.size + 1]? = ((w.alloc o1).alloc o2).heap[(w.alloc o1).heap.size]? := by simp
/-- the registers that the guards and the outputs read -/
def dirl (t : Tp) : List Int := t.outs ++ t.guards.map (·.reg)
theorem dirl_len (t : Tp) : (dirl t).length = t.outs.length + t.guards.length := by simp [dirl]
theorem take_gd {l : List Gd} {i : Nat} (h : i < l.length) : (l.take i).map (·.reg) ++ [(l.getD i noG).reg] = (l.take (i + 1)).map (·.reg) := by
  rw [List.take_add_one, List.map_append, List.getD_eq_getElem?_getD, List.getElem?_eq_getElem h]; rfl
def ixAll (l : List Int) (n : Int) : Bool := l.all fun x => ixB x n

theorem ixAll_dirl {t : Tp} : ixAll (dirl t) t.code.length = (guardsB t && outsB t) := by
  unfold ixAll dirl guardsB outsB
  rw [List.all_append, Bool.and_comm]
  congr 1
  · rw [Bool.eq_iff_iff, List.all_eq_true, List.all_eq_true]
    constructor
    · intro h i hi
      have hi := List.mem_range.1 hi
      refine h _ ?_
      rw [List.mem_map]
      exact ⟨t.guards.getD i noG, by rw [List.getD_eq_getElem?_getD, List.getElem?_eq_getElem hi]; exact List.getElem_mem hi, rfl⟩
    · intro h x hx
      obtain ⟨g, hg, rfl⟩ := List.mem_map.1 hx
      obtain ⟨k, hk, rfl⟩ := List.getElem_of_mem hg
      have := h k (List.mem_range.2 hk)
      rwa [List.getD_eq_getElem?_getD, List.getElem?_eq_getElem hk] at this
  · rw [Bool.eq_iff_iff, List.all_eq_true, List.all_eq_true]
    constructor
    · intro h i hi
      have hi := List.mem_range.1 hi
      exact h _ (getD_mem hi)
    · intro h x hx
      obtain ⟨k, hk, rfl⟩ := List.getElem_of_mem hx
      have := h k (List.mem_range.2 hk)
      rwa [List.getD_eq_getElem?_getD, List.getElem?_eq_getElem hk] at this

end Go.Proofs.YtoedccgiahegnaaGreat

namespace Go.Proofs.YtoedccgiahegnaaGreat
open Go.RowKit
set_option linter.unusedVariables false

/-- a list of numbers outside a block g -/
def Rw (w : World) (g : Nat) (a : Option Addr) (l : List Int) : Prop :=
  l = [] ∨ ∃ b off, a = some ⟨b, off, none⟩ ∧ b < w.heap.size ∧ b ≠ g ∧ ∀ k, k < l.length → w.cell? ⟨b, off + k, none⟩ = some (.int .i64 (l.getD k 0))
theorem Rw.at {w : World} {g : Nat} {a : Option Addr} {l : List Int} (h : Rw w g a l) : At w a l := by
  rcases h with h | ⟨b, off, h1, h2, _, h3⟩
  · exact .inl h
  · exact .inr ⟨b, off, h1, h2, h3⟩
theorem Rw.next {w w' : World} {g : Nat} {a : Option Addr} {l : List Int} (h : Rw w g a l) (hb : Below w.heap.size w w') : Rw w' g a l := by
  rcases h with h | ⟨b, off, h1, h2, h3, h4⟩
  · exact .inl h
  · exact .inr ⟨b, off, h1, Nat.lt_of_lt_of_le h2 hb.size, h3, fun k hk => (hb.cell (p := ⟨b, off + k, none⟩) h2).trans (h4 k hk)⟩
theorem Rw.grow {w w' : World} {g gg : Nat} {a : Option Addr} {l : List Int} (h : Rw w g a l) (hg : w.grownBy w' (some g)) (hgg : gg = g ∨ w.heap.size ≤ gg) : Rw w' gg a l := by
  rcases h with h | ⟨b, off, h1, h2, h3, h4⟩
  · exact .inl h
  · exact .inr ⟨b, off, h1, Nat.lt_of_lt_of_le h2 hg.size, by rcases hgg with e | e <;> omega, fun k hk => (World.cell?_of_block (a := ⟨b, off + k, none⟩) (hg.block b h2 (by intro e; cases e; exact h3 rfl))).trans (h4 k hk)⟩
theorem Own.rw {B : Nat} {w : World} {g cap : Nat} {l : List Int} (h : Own B w g cap l) {g0 : Nat} (h0 : g ≠ g0) : Rw w g0 (some ⟨g, 0, none⟩) l :=
  .inr ⟨g, 0, rfl, h.base.2, h0, fun k hk => by rw [Nat.zero_add]; exact h.cellAt k hk⟩

/-- rows: a slice of slices in a block g of the call's own, each row outside it -/
def Rws (w : World) (L g cap : Nat) (ls : List (List Int)) : Prop :=
  ∃ vs : List Value, w.ownsRow L 25 1 (.slice (some ⟨g, 0, none⟩) ls.length cap) ls.length vs ∧ ∀ i, i < ls.length → ∃ ai ci, vs[i]? = some (.slice ai (ls.getD i []).length ci) ∧ Rw w g ai (ls.getD i [])
theorem Rws.base {w : World} {L g cap : Nat} {ls : List (List Int)} (h : Rws w L g cap ls) : L ≤ g ∧ g < w.heap.size := by
  obtain ⟨vs, h1, _⟩ := h
  exact h1.lt g rfl
theorem Rws.next {w w' : World} {L g cap : Nat} {ls : List (List Int)} (h : Rws w L g cap ls) (hb : Below w.heap.size w w') : Rws w' L g cap ls := by
  obtain ⟨vs, h1, h2⟩ := h
  refine ⟨vs, h1.kept (below_grownBy hb) (.inr (by simp [Value.ownBlock])), fun i hi => ?_⟩
  obtain ⟨ai, ci, h3, h4⟩ := h2 i hi
  exact ⟨ai, ci, h3, h4.next hb⟩
theorem Rws.mono {w : World} {L L' g cap : Nat} {ls : List (List Int)} (h : Rws w L g cap ls) (hL : L' ≤ L) : Rws w L' g cap ls := by
  obtain ⟨vs, ⟨h0, h1⟩, h2⟩ := h
  refine ⟨vs, ⟨h0, ?_⟩, h2⟩
  rcases h1 with h1 | ⟨g', c', cur, e, hb, r⟩
  · exact .inl h1
  · exact .inr ⟨g', c', cur, e, Nat.le_trans hL hb, r⟩
theorem Rws.get {w : World} {L g cap : Nat} {ls : List (List Int)} (h : Rws w L g cap ls) {i : Nat} (hi : i < ls.length) : ∃ ai ci, w.cell? ⟨g, i, none⟩ = some (.slice ai (ls.getD i []).length ci) ∧ Rw w g ai (ls.getD i []) := by
  obtain ⟨vs, h1, h2⟩ := h
  obtain ⟨ai, ci, h3, h4⟩ := h2 i hi
  exact ⟨ai, ci, (h1.cellAt i (by omega)).trans h3, h4⟩
theorem Rws.frz {w : World} {L g cap : Nat} {ls : List (List Int)} (h : Rws w L g cap ls) (i : Nat) : w.frozen? ⟨g, i, none⟩ = false := by
  obtain ⟨vs, h1, _⟩ := h
  exact h1.frozenAt i
theorem rws_none (w : World) (B : Nat) (hB : B ≤ w.heap.size) : Rws (w.alloc (.cells #[] 25)) B w.heap.size 0 [] :=
  ⟨[], World.ownsRow_made w #[] 0 hB (by unfold maxLen; omega) rfl, fun i hi => by simp at hi⟩
theorem Rws.set {w : World} {L g cap : Nat} {ls : List (List Int)} (h : Rws w L g cap ls) (k : Nat) {a : Option Addr} {c : Nat} {r : List Int} (hr : Rw w g a r) : Rws (w.setCell ⟨g, k, none⟩ (.slice a r.length c)) L g cap (ls.set k r) := by
  have hb := h.base
  obtain ⟨vs, h1, h2⟩ := h
  have h1' := World.ownsRow.stored h1 k (.slice a r.length c)
  have keep : ∀ {a' : Option Addr} {r' : List Int}, Rw w g a' r' → Rw (w.setCell ⟨g, k, none⟩ (.slice a r.length c)) g a' r' := fun h => h.grow h1'.2 (.inl rfl)
  refine ⟨vs.set k (.slice a r.length c), by rw [List.length_set]; exact h1'.1, fun i hi => ?_⟩
  rw [List.length_set] at hi
  have hvl : vs.length = ls.length := by have := h1.1; omega
  by_cases hik : i = k
  · subst hik
    refine ⟨a, c, ?_, ?_⟩
    · rw [List.getElem?_set_self (by omega), List.getD_eq_getElem?_getD, List.getElem?_set_self hi]; rfl
    · rw [List.getD_eq_getElem?_getD, List.getElem?_set_self hi]; exact keep hr
  · obtain ⟨ai, ci, h3, h4⟩ := h2 i hi
    have e : (ls.set k r).getD i [] = ls.getD i [] := by rw [List.getD_eq_getElem?_getD, List.getD_eq_getElem?_getD, List.getElem?_set_ne (fun e => hik e.symm)]
    exact ⟨ai, ci, by rw [List.getElem?_set_ne (fun e => hik e.symm), e]; exact h3, by rw [e]; exact keep h4⟩
theorem gg_of {g gg H n c : Nat} {W : World} (hat : (Value.slice (some ⟨g, 0, none⟩) n c).ownBlock = some gg ∨ gg = H) (hW : W.heap.size = H) : gg = g ∨ W.heap.size ≤ gg := by
  rcases hat with e | e
  · simp [Value.ownBlock] at e; exact .inl e.symm
  · exact .inr (by omega)
/-- one row more: the temporary block, then the growth of block g -/
theorem rws_push {w w1 : World} {L g gg cc : Nat} {ls : List (List Int)} {vs : List Value} {a : Option Addr} {c : Nat} {r : List Int}
    (h2 : ∀ i, i < ls.length → ∃ ai ci, vs[i]? = some (.slice ai (ls.getD i []).length ci) ∧ Rw w g ai (ls.getD i [])) (hvl : vs.length = ls.length)
    (hr : Rw w g a r) (hown : w1.ownsRow L 25 1 (.slice (some ⟨gg, 0, none⟩) (ls.length + 1) cc) (ls.length + 1) (vs ++ [.slice a r.length c])) (hg : w.grownBy w1 (some g)) (hgg : gg = g ∨ w.heap.size ≤ gg) :
    Rws w1 L gg cc (ls ++ [r]) := by
  refine ⟨vs ++ [.slice a r.length c], by rw [List.length_append]; exact hown, fun i hi => ?_⟩
  by_cases hik : i = ls.length
  · subst hik
    refine ⟨a, c, ?_, ?_⟩
    · rw [List.getElem?_append_right (by omega), hvl, Nat.sub_self, List.getD_eq_getElem?_getD, List.getElem?_append_right (by omega), Nat.sub_self]; rfl
    · rw [List.getD_eq_getElem?_getD, List.getElem?_append_right (by omega), Nat.sub_self]; exact hr.grow hg hgg
  · rw [List.length_append, List.length_singleton] at hi
    have hi' : i < ls.length := by omega
    obtain ⟨ai, ci, h3, h4⟩ := h2 i hi'
    have e : (ls ++ [r]).getD i [] = ls.getD i [] := by rw [List.getD_eq_getElem?_getD, List.getD_eq_getElem?_getD, List.getElem?_append_left hi']
    exact ⟨ai, ci, by rw [List.getElem?_append_left (by omega), e]; exact h3, by rw [e]; exact h4.grow hg hgg⟩

set_option maxRecDepth 100000 in
theorem infoRow : (Tryz.prog.info? 25).map (fun i => (i.zero, i.size, i.bytes)) = some (some (.slice none 0 0), 1, 24) := by kernel_rfl

set_option maxRecDepth 100000 in
set_option maxHeartbeats 1600000 in
theorem sOwn (a : Option Addr) (ca : Nat) (l : List Int) (w : World) (ha : At w a l) (h1 : 1 ≤ l.length) (h2 : l.length ≤ 1048576) :
    Calls Tryz.prog 53 #[.slice a l.length ca] w (Fresh w l) := by
  obtain ⟨i0, hi, hz0, hz1, hz2⟩ := info_parts info64
  obtain ⟨b1, o1, rfl, hbl1, hc1⟩ := (ha.resolve_left (by intro e; rw [e] at h1; simp at h1))
  have hB0 := (Below.refl w.heap.size w).alloc (Nat.le_refl _) (.cells #[] 2)
  have hO0 := own_none w w.heap.size (Nat.le_refl _)
  have HN := Lib.hid (news_of_at (w := w) (w0 := w.alloc (.cells #[] 2)) (b := b1) (o := o1) (l := l) (fun k hk => (hB0.cell (p := ⟨b1, o1 + k, none⟩) hbl1).trans (hc1 k hk)))
  have hone : Hid (∀ u ∈ l.map (Value.int .i64), u.oneCell' = true) := ints_oneCell .i64 l
  clear hc1 ha
  go_enter Tryz.func53, Tryz.ntmps53
  go_wp2_with (at_builtin; refine wpList_append_lies _ rfl _ _ _ rfl w.heap.size 2 i0 _ 1 8 Tryz.underlying25 hi hz0 hz1 hz2 rfl (by omega) (.slice (some ⟨w.heap.size, 0, none⟩) 0 0) 0 [] rfl hO0 ⟨b1, o1, none⟩ l.length ca (l.map (Value.int .i64)) rfl (by rw [List.length_map, Nat.mul_one]) HN.out hone.out (by omega) (by unfold maxLen; omega) (by omega) (by simp) (w.heap.size + 1) (by simp) ?_; intro g cc w1 hown1 hgrow hat hlt1)
  have hw2 : Below w.heap.size w w1 := hB0.grown hgrow (by simp) (by intro q hq; simp [Value.ownBlock] at hq; omega)
  have ho3 : Own w.heap.size w1 g cc l := by unfold Own; simpa using hown1
  clear hown1 hgrow hat
  go_wp2_with fail
  go_ret
  exact ⟨g, cc, by simp, ho3, hw2⟩

/-- the rows of one number each -/
def ones (l : List Int) : List (List Int) := l.map fun x => cstl x 1

set_option maxRecDepth 100000 in
set_option maxHeartbeats 3200000 in
theorem sLine0 (a b : Option Addr) (ca mb cb : Nat) (l : List Int) (w : World) (ha : At w a l) (hl : l.length ≤ 1048576) :
    Calls Tryz.prog 78 #[.slice a l.length ca, .slice b mb cb, .int .i64 0] w fun e w' => ∃ g cap, e = .returned (.slice (some ⟨g, 0, none⟩) (ones l).length cap) ∧ Rws w' w.heap.size g cap (ones l) ∧ Below w.heap.size w w' := by
  obtain ⟨i0, hi, hz0, hz1, hz2⟩ := info_parts infoRow
  have hB0 := (Below.refl w.heap.size w).alloc (Nat.le_refl _) (.cells #[] 25)
  have hO0 := rws_none w w.heap.size (Nat.le_refl _)
  go_enter Tryz.func78, Tryz.ntmps78
  go_wp2_with fail
  go_loopw [7, 8] (fun v q wr => ∃ (k g cap : Nat) (ls : List (List Int)), k ≤ l.length ∧ q = .int .i64 k ∧ v = .slice (some ⟨g, 0, none⟩) ls.length cap ∧ Hid (ls = ones (l.take k)) ∧ Rws wr w.heap.size g cap ls ∧ Below w.heap.size w wr) (fun _ q _ => l.length - (intOf q).toNat)
  case atStart => exact ⟨0, w.heap.size, 0, [], Nat.zero_le _, rfl, rfl, rfl, hO0, hB0⟩
  case round =>
    obtain ⟨k, g, cap, ls, hk, rfl, rfl, HL, ho, hw⟩ := hrel
    clear hO0 hB0
    by_cases hlt : k < l.length
    · have hii : (k : Int) < (l.length : Int) := by omega
      obtain ⟨b1, o1, rfl, hbl1, hc1⟩ := ((ha.below hw (Nat.le_refl _)).resolve_left (by intro e; rw [e] at hlt; simp at hlt))
      have f0 := hc1 k hlt
      have hll : ls.length ≤ k := by rw [HL.out]; simp [ones]; omega
      have HL2 : Hid (ls ++ [cstl (l.getD k 0) 1] = ones (l.take (k + 1))) := by show _ = _; rw [HL.out, ← take_snoc hlt]; simp [ones]
      have hz := hw.size
      have hgb := ho.base
      clear hc1 ha HL
      generalize l.getD k 0 = x at f0 HL2
      go_wp2_with fail
      refine (sConst x 1 _ (by omega)).mono ?_; rintro e w1 ⟨g1, c1, rfl, o1, b1⟩
      have hw1 := hw.trans (b1.mono hz)
      have ho1 := ho.next b1
      have hg1 := o1.base
      have hr1 := o1.rw (g0 := g) (by omega)
      obtain ⟨vs, hvs, hall⟩ := ho1
      have hvl : vs.length = ls.length := by have := hvs.1; omega
      clear b1 f0 ho o1
      have hz1' := hw1.size
      generalize cstl x 1 = r at *
      have HR := Lib.hid hr1
      have HV := Lib.hid hall
      have HVL := Lib.hid hvl
      clear hr1 hall hvl
      go_wp2_with (at_builtin; refine wpList_append_lies _ rfl _ _ _ rfl w.heap.size 25 i0 _ 1 24 Tryz.underlying47 hi hz0 hz1 hz2 rfl (by omega) (.slice (some ⟨g, 0, none⟩) ls.length cap) ls.length vs rfl (hvs.alloc _) ⟨w1.heap.size, 0, none⟩ 1 1 [.slice (some ⟨g1, 0, none⟩) r.length c1] rfl rfl (World.news_of_block (cs := #[.slice (some ⟨g1, 0, none⟩) r.length c1]) (t := 25) (fr := (0, 0)) (heap_alloc_new w1 _)) (by simp [Value.oneCell']) (by omega) (by unfold maxLen; omega) (by omega) (by simp; omega) (w1.heap.size + 1) (by simp) ?_; intro gg cc w2 hown1 hgrow hat hlt1)
      have hw2 := (hw1.alloc hz1' (.cells #[.slice (some ⟨g1, 0, none⟩) r.length c1] 25)).grown hgrow (by simp; omega) (by intro q hq; simp [Value.ownBlock] at hq; omega)
      have hrs : Rws w2 w.heap.size gg cc (ls ++ [r]) := rws_push (w := w1.alloc (.cells #[.slice (some ⟨g1, 0, none⟩) r.length c1] 25)) (fun i hi => by obtain ⟨ai, ci, h3, h4⟩ := HV.out i hi; exact ⟨ai, ci, h3, h4.next ((Below.refl _ _).alloc (Nat.le_refl _) _)⟩) HVL.out (HR.out.next ((Below.refl _ _).alloc (Nat.le_refl _) _)) hown1 hgrow (gg_of hat (by simp))
      clear hown1 hgrow hat HR HV HVL hvs
      go_wp2_with fail
      go_roundw
      case rel => exact ⟨k + 1, gg, cc, ls ++ [r], by omega, by go_num, by simp, HL2, hrs, hw2⟩
      case measure => simp [intOf]; omega
    · have hii : ¬ (k : Int) < (l.length : Int) := by omega
      have hkk : k = l.length := by omega
      subst hkk
      have hx : ls = ones l := by rw [HL.out, List.take_length]
      subst hx
      clear ha HL
      go_wp2_with fail
      go_ret
      exact ⟨g, cap, rfl, ho, hw⟩

/-- a column -/
def coln (ls : List (List Int)) (k : Nat) : List Int := ls.map fun r => r.getD k 0
theorem coln_take {ls : List (List Int)} {k i : Nat} (h : i < ls.length) : coln (ls.take i) k ++ [(ls.getD i []).getD k 0] = coln (ls.take (i + 1)) k := by
  unfold coln
  rw [List.take_add_one, List.map_append, List.getD_eq_getElem?_getD (l := ls), List.getElem?_eq_getElem h]; rfl

set_option maxRecDepth 100000 in
set_option maxHeartbeats 3200000 in
theorem sColumn (L g cap : Nat) (ls : List (List Int)) (k : Nat) (w : World) (h : Rws w L g cap ls) (hk : ∀ i, i < ls.length → k < (ls.getD i []).length) (hm : ∀ i, i < ls.length → (ls.getD i []).length ≤ 1048576) (hl : ls.length ≤ 1048576) (hk2 : k ≤ 1048576) :
    Calls Tryz.prog 45 #[.slice (some ⟨g, 0, none⟩) ls.length cap, .int .i64 k] w (Fresh w (coln ls k)) := by
  obtain ⟨i0, hi, hz0, hz1, hz2⟩ := info_parts info64
  have hB0 := (Below.refl w.heap.size w).alloc (Nat.le_refl _) (.cells #[] 2)
  have hO0 := own_none w w.heap.size (Nat.le_refl _)
  go_enter Tryz.func45, Tryz.ntmps45
  go_wp2_with fail
  go_loopw [5, 6] (fun v q wr => ∃ (i gx cx : Nat) (xs : List Int), i ≤ ls.length ∧ q = .int .i64 i ∧ v = .slice (some ⟨gx, 0, none⟩) xs.length cx ∧ Hid (xs = coln (ls.take i) k) ∧ Own w.heap.size wr gx cx xs ∧ Below w.heap.size w wr) (fun _ q _ => ls.length - (intOf q).toNat)
  case atStart => exact ⟨0, w.heap.size, 0, [], Nat.zero_le _, rfl, rfl, rfl, hO0, hB0⟩
  case round =>
    obtain ⟨i, gx, cx, xs, hi0, rfl, rfl, HX, ho, hw⟩ := hrel
    clear hO0 hB0
    by_cases hlt : i < ls.length
    · have hii : (i : Int) < (ls.length : Int) := by omega
      obtain ⟨ai, ci, f0, hr⟩ := (h.next hw).get hlt
      have hkl := hk i hlt
      have hml := hm i hlt
      obtain ⟨bf, of, rfl, hbB, _, hall⟩ := hr.resolve_left (by intro e; rw [e] at hkl; simp at hkl)
      have f1 := hall k hkl
      have HX2 : Hid (xs ++ [(ls.getD i []).getD k 0] = coln (ls.take (i + 1)) k) := by show _ = _; rw [HX.out, coln_take hlt]
      have hxl : xs.length ≤ i := by rw [HX.out]; simp [coln]; omega
      have hz := hw.size
      have hki : (k : Int) < ((ls.getD i []).length : Int) := by omega
      have hob := Lib.hid ho.base
      have ho2 : wr.ownsRow w.heap.size 2 1 (.slice (some ⟨gx, 0, none⟩) xs.length cx) xs.length (xs.map (Value.int .i64)) := ho
      have hgx := ho.base
      clear hall hr HX hk hm h ho
      generalize (ls.getD i []).getD k 0 = x at f1 HX2
      generalize (ls.getD i []).length = n at *
      go_wp2_with (at_builtin; refine wpList_append_lies _ rfl _ _ _ rfl w.heap.size 2 i0 _ 1 8 Tryz.underlying25 hi hz0 hz1 hz2 rfl (by omega) (.slice (some ⟨gx, 0, none⟩) xs.length cx) xs.length (xs.map (Value.int .i64)) rfl (ho2.alloc _) ⟨wr.heap.size, 0, none⟩ 1 1 [.int .i64 x] rfl rfl (World.news_of_block (cs := #[.int .i64 x]) (t := 2) (fr := (0, 0)) (heap_alloc_new wr _)) (by simp [Value.oneCell']) (by omega) (by unfold maxLen; omega) (by omega) (by simp; omega) (wr.heap.size + 1) (by simp) ?_; intro gg cc w1 hown1 hgrow hat hlt1)
      have hw2 := (hw.alloc hz (.cells #[.int .i64 x] 2)).grown hgrow (by simp; omega) (by intro q hq; simp [Value.ownBlock] at hq; omega)
      have ho3 : Own w.heap.size w1 gg cc (xs ++ [x]) := own_appended hown1
      clear hgrow hown1 ho2
      go_roundw
      case rel => exact ⟨i + 1, gg, cc, xs ++ [x], by omega, by go_num, by simp, HX2, ho3, hw2⟩
      case measure => simp [intOf]; omega
    · have hii : ¬ (i : Int) < (ls.length : Int) := by omega
      have hki : i = ls.length := by omega
      subst hki
      have hx : xs = coln ls k := by rw [HX.out, List.take_length]
      subst hx
      clear HX h
      go_wp2_with fail
      go_ret
      exact ⟨gx, cx, rfl, ho, hw⟩

/-- numbers at indices -/
def pick (l at_ : List Int) : List Int := at_.map fun k => l.getD k.toNat 0
theorem pick_take {l m : List Int} {i : Nat} (h : i < m.length) : pick l (m.take i) ++ [l.getD (m.getD i 0).toNat 0] = pick l (m.take (i + 1)) := by
  unfold pick
  rw [List.take_add_one, List.map_append, List.getD_eq_getElem?_getD (l := m), List.getElem?_eq_getElem h]; rfl

end Go.Proofs.YtoedccgiahegnaaGreat

namespace Go.Proofs.YtoedccgiahegnaaGreat
open Go.ChangeShapes Go.WideShapes Go.ChangeAt Go.RowKit
set_option linter.unusedVariables false

/-- memory reads as a list of lists -/
def Mat (W : World) (a : Option Addr) (ls : List (List Int)) : Prop :=
  ls = [] ∨ ∃ b off, a = some ⟨b, off, none⟩ ∧ b < W.heap.size ∧ ∀ i, i < ls.length → ∃ ai ci, W.cell? ⟨b, off + i, none⟩ = some (.slice ai (ls.getD i []).length ci) ∧ At W ai (ls.getD i [])
theorem Mat.below {w w' : World} {a : Option Addr} {ls : List (List Int)} {B : Nat} (h : Mat w a ls) (hb : Below B w w') (hB : w.heap.size ≤ B) : Mat w' a ls := by
  rcases h with h | ⟨b, off, h1, h2, h3⟩
  · exact .inl h
  · refine .inr ⟨b, off, h1, Nat.lt_of_lt_of_le h2 hb.size, fun i hi => ?_⟩
    obtain ⟨ai, ci, h4, h5⟩ := h3 i hi
    exact ⟨ai, ci, (hb.cell (p := ⟨b, off + i, none⟩) (by show b < B; omega)).trans h4, h5.below hb hB⟩
/-- a list of lists that came in -/
def IsMat (W : World) (v : Value) : Prop := ∃ a cap ls, v = .slice a ls.length cap ∧ Mat W a ls ∧ (∀ i, Rng (ls.getD i [])) ∧ ls.length ≤ 9223372036854775807 ∧ ∀ i, (ls.getD i []).length ≤ 9223372036854775807
theorem rng_nil : Rng [] := fun n hn => by simp at hn
theorem row_at {w : World} {A : Option Addr} {L C : Nat} {Z : List Int} {base : Nat} (hLC : L ≤ C) (hz : Z.length = C) (hn : A = none → C = 0) (hcell : ∀ a', A = some a' → base ≤ a'.block ∧ ∀ c, c < C → w.cell? (a'.add c) = some (.int .i64 (Z.getD c 0))) : At w A (Z.take L) := by
  by_cases h0 : L = 0
  · left; rw [h0]; simp
  · cases A with
    | none => have := hn rfl; omega
    | some x =>
      have hc := (hcell x rfl).2
      obtain ⟨b, off, spot⟩ := x
      have hc0 := hc 0 (by omega)
      have hspot : spot = none := by simpa [Addr.add] using World.cell?_spot hc0
      subst hspot
      have h1 : w.cell? ⟨b, off, none⟩ = some (.int .i64 (Z.getD 0 0)) := by simpa [Addr.add] using hc0
      refine .inr ⟨b, off, rfl, cell_lt h1, fun k hk => ?_⟩
      have hk' : k < L := by simp at hk; omega
      have hck := hc k (by omega)
      rw [show (Z.take L).getD k 0 = Z.getD k 0 from by simp [List.getD_eq_getElem?_getD, hk']]
      have e : (⟨b, off, none⟩ : Addr).add k = ⟨b, off + k, none⟩ := by cases k <;> simp [Addr.add]
      rw [e] at hck; exact hck
set_option maxRecDepth 100000 in
theorem openMat {H : Type} {enc : TypeId × Value → H} {W : World} {base : Nat} {v : Value} {d : DataW H} {p : List MemPlace} (hw : Value.okWide Tryz.prog W .any base 47 v) (h : DataW.Trod enc Tryz.prog W 0 (fun _ => true) true 47 v d p) : IsMat W v := by
  obtain ⟨a0, len0, cap0, rfl⟩ := okWide_slice Tryz.underlying47 hw
  obtain ⟨fuel, hf⟩ := h
  rcases Go.Deep.open_int_rows Tryz.underlying47 Tryz.underlying25 Tryz.underlying2 (by kernel_rfl) (by kernel_rfl) hf with ⟨hcs, _⟩ | ⟨a, len, cap, A, L, C, Z, hcs, _, hl, hm, _, hrow⟩
  · simp [Value.cells] at hcs
    obtain ⟨rfl, rfl, rfl⟩ := hcs
    exact ⟨none, 0, [], rfl, .inl rfl, fun i => by simp [rng_nil], by simp, fun i => by simp⟩
  · simp [Value.cells] at hcs
    obtain ⟨rfl, rfl, rfl⟩ := hcs
    have hlen : ((List.range len0).map fun r => (Z r).take (L r)).length = len0 := by simp
    have hget : ∀ i, i < len0 → ((List.range len0).map fun r => (Z r).take (L r)).getD i [] = (Z i).take (L i) := fun i hi => by simp [List.getD_eq_getElem?_getD, hi]
    have hout : ∀ i, ¬ i < len0 → ((List.range len0).map fun r => (Z r).take (L r)).getD i [] = [] := fun i hi => by rw [List.getD_eq_getElem?_getD, List.getElem?_eq_none (by simp; omega)]; rfl
    refine ⟨some a, cap0, (List.range len0).map fun r => (Z r).take (L r), by rw [hlen], ?_, fun i => ?_, by rw [hlen]; unfold maxLen at hm; omega, fun i => ?_⟩
    · by_cases h0 : len0 = 0
      · left; rw [h0]; rfl
      · have hc0 := (hrow 0 (by omega)).1
        obtain ⟨b, off, spot⟩ := a
        have hspot : spot = none := by simpa [Addr.add] using World.cell?_spot hc0
        subst hspot
        have h1 : W.cell? ⟨b, off, none⟩ = some (.slice (A 0) (L 0) (C 0)) := by simpa [Addr.add] using hc0
        refine .inr ⟨b, off, rfl, cell_lt h1, fun i hi => ?_⟩
        rw [hlen] at hi
        obtain ⟨r1, r2, r3, r4, r5, r6, r7⟩ := hrow i (by omega)
        have e : (⟨b, off, none⟩ : Addr).add i = ⟨b, off + i, none⟩ := by cases i <;> simp [Addr.add]
        rw [e] at r1
        refine ⟨A i, C i, ?_, ?_⟩
        · rw [hget i hi, List.length_take, r4, Nat.min_eq_left r2]; exact r1
        · rw [hget i hi]; exact row_at r2 r4 r6 r7
    · by_cases hi : i < len0
      · rw [hget i hi]
        obtain ⟨_, _, _, _, r5, _⟩ := hrow i (by omega)
        exact fun n hn => bounds_i64 (r5 n (List.mem_of_mem_take hn))
      · rw [hout i hi]; exact rng_nil
    · by_cases hi : i < len0
      · rw [hget i hi, List.length_take]
        obtain ⟨_, r2, r3, r4, _⟩ := hrow i (by omega)
        unfold maxLen at r3; omega
      · rw [hout i hi]; simp

/- sizes -/
def lenK (ls : List (List Int)) : Nat → Nat
  | 0 => 0
  | k + 1 => lenK ls k + (ls.getD k []).length
theorem lenK_mono (ls : List (List Int)) (k : Nat) : ∀ d, lenK ls k ≤ lenK ls (k + d)
  | 0 => Nat.le_refl _
  | d + 1 => by rw [← Nat.add_assoc, lenK]; have := lenK_mono ls k d; omega
theorem lenK_row {ls : List (List Int)} {i n : Nat} (h : i < n) : (ls.getD i []).length ≤ lenK ls n := by
  have := lenK_mono ls (i + 1) (n - (i + 1))
  rw [show i + 1 + (n - (i + 1)) = n by omega, lenK] at this
  omega
def mSz (ls : List (List Int)) : Nat := ls.length + lenK ls ls.length
theorem mSz_row {ls : List (List Int)} {i M : Nat} (h : mSz ls ≤ M) : (ls.getD i []).length ≤ M := by
  by_cases hi : i < ls.length
  · have := lenK_row (ls := ls) hi; unfold mSz at h; omega
  · rw [List.getD_eq_getElem?_getD, List.getElem?_eq_none (by omega)]; simp
/-- what is left of a size -/
def mzR (ls : List (List Int)) (left : Int) : Int := if (mSz ls : Int) ≤ left then left - mSz ls else -1
end Go.Proofs.YtoedccgiahegnaaGreat

namespace Go.Proofs.YtoedccgiahegnaaGreat
open Go.RowKit
set_option linter.unusedVariables false

/-- the first k of n rows, each in a block of its own -/
structure Mo (W : World) (L g kg n k : Nat) (ls : List (List Int)) (R K : Nat → Nat) : Prop where
  top : ∃ vs, W.ownsRow L 25 1 (.slice (some ⟨g, 0, none⟩) n kg) n vs ∧ ∀ i, i < k → vs[i]? = some (.slice (some ⟨R i, 0, none⟩) (ls.getD i []).length (K i))
  row : ∀ i, i < k → Own L W (R i) (K i) (ls.getD i [])
  ne : ∀ i, i < k → R i ≠ g
  inj : ∀ i j, i < k → j < k → R i = R j → i = j
theorem Mo.base {W : World} {L g kg n k : Nat} {ls : List (List Int)} {R K : Nat → Nat} (h : Mo W L g kg n k ls R K) : L ≤ g ∧ g < W.heap.size := by obtain ⟨vs, h1, _⟩ := h.top; exact h1.lt g rfl
theorem Mo.next {W W' : World} {L g kg n k : Nat} {ls : List (List Int)} {R K : Nat → Nat} (h : Mo W L g kg n k ls R K) (hb : Below W.heap.size W W') : Mo W' L g kg n k ls R K := by
  obtain ⟨vs, h1, h2⟩ := h.top
  exact ⟨⟨vs, h1.kept (below_grownBy hb) (.inr (by simp [Value.ownBlock])), h2⟩, fun i hi => (h.row i hi).kept hb (h.row i hi).base.2, h.ne, h.inj⟩
theorem Mo.cell {W : World} {L g kg n k : Nat} {ls : List (List Int)} {R K : Nat → Nat} (h : Mo W L g kg n k ls R K) (hkn : k ≤ n) (i : Nat) (hi : i < k) : W.cell? ⟨g, i, none⟩ = some (.slice (some ⟨R i, 0, none⟩) (ls.getD i []).length (K i)) := by
  obtain ⟨vs, h1, h2⟩ := h.top
  rw [h1.cellAt i (by omega)]; exact h2 i hi
theorem Mo.frz {W : World} {L g kg n k : Nat} {ls : List (List Int)} {R K : Nat → Nat} (h : Mo W L g kg n k ls R K) (i : Nat) : W.frozen? ⟨g, i, none⟩ = false := by obtain ⟨vs, h1, _⟩ := h.top; exact h1.frozenAt i
theorem Mo.has {W : World} {L g kg n k : Nat} {ls : List (List Int)} {R K : Nat → Nat} (h : Mo W L g kg n k ls R K) (i : Nat) (hi : i < n) : ∃ v, W.cell? ⟨g, i, none⟩ = some v := by
  obtain ⟨vs, h1, _⟩ := h.top
  have hl : vs.length = n * 1 := h1.1
  exact ⟨vs[i]'(by omega), by rw [h1.cellAt i (by omega), List.getElem?_eq_getElem]⟩
theorem Mo.mono {W : World} {L L' g kg n k : Nat} {ls : List (List Int)} {R K : Nat → Nat} (h : Mo W L g kg n k ls R K) (hL : L' ≤ L) : Mo W L' g kg n k ls R K := by
  obtain ⟨vs, ⟨h0, h1⟩, h2⟩ := h.top
  refine ⟨⟨vs, ⟨h0, ?_⟩, h2⟩, fun i hi => (h.row i hi).mono hL, h.ne, h.inj⟩
  rcases h1 with h1 | ⟨g', c', cur, e, hb, r⟩
  · exact .inl h1
  · exact .inr ⟨g', c', cur, e, Nat.le_trans hL hb, r⟩
/-- as one reads it -/
theorem Mo.mat {W : World} {L g kg n : Nat} {ls : List (List Int)} {R K : Nat → Nat} (h : Mo W L g kg n n ls R K) (hn : ls.length = n) : Mat W (some ⟨g, 0, none⟩) ls :=
  .inr ⟨g, 0, rfl, h.base.2, fun i hi => ⟨some ⟨R i, 0, none⟩, K i, by rw [Nat.zero_add]; exact h.cell (Nat.le_refl _) i (by omega), (h.row i (by omega)).at⟩⟩
/-- a row is written into the list -/
theorem Mo.put {W : World} {L g kg n k r c : Nat} {ls : List (List Int)} {R K : Nat → Nat} {x : List Int} (h : Mo W L g kg n k ls R K) (hk : k < n) (hr : Own L W r c x) (hrg : r ≠ g) (hrn : ∀ i, i < k → R i ≠ r) (hx : x = ls.getD k []) :
    Mo (W.setCell ⟨g, k, none⟩ (.slice (some ⟨r, 0, none⟩) x.length c)) L g kg n (k + 1) ls (fun i => if i = k then r else R i) (fun i => if i = k then c else K i) := by
  obtain ⟨vs, h1, h2⟩ := h.top
  have h1' := World.ownsRow.stored h1 k (.slice (some ⟨r, 0, none⟩) x.length c)
  have hl : vs.length = n * 1 := h1.1
  refine ⟨⟨_, h1'.1, fun i hi => ?_⟩, fun i hi => ?_, fun i hi => ?_, fun i j hi hj => ?_⟩
  · by_cases e : i = k
    · subst e; rw [List.getElem?_set_self (by omega)]; simp [hx]
    · rw [List.getElem?_set_ne (fun e2 => e e2.symm), h2 i (by omega)]; simp [e]
  · by_cases e : i = k
    · subst e; simp only [if_true]; rw [← hx]; exact hr.setOther (fun e => hrg e.symm) _
    · simp only [e, if_false]; exact (h.row i (by omega)).setOther (fun e2 => h.ne i (by omega) e2.symm) _
  · by_cases e : i = k
    · simp only [e, if_true]; exact hrg
    · simp only [e, if_false]; exact h.ne i (by omega)
  · by_cases e1 : i = k
    · by_cases e2 : j = k
      · intro _; rw [e1, e2]
      · simp only [e1, e2, if_true, if_false]; intro e; exact absurd e.symm (hrn j (by omega))
    · by_cases e2 : j = k
      · simp only [e1, e2, if_true, if_false]; intro e; exact absurd e (hrn i (by omega))
      · simp only [e1, e2, if_false]; exact h.inj i j (by omega) (by omega)
/-- a number of a row is written -/
theorem getD_set_row {ls : List (List Int)} {i q : Nat} {r : List Int} (hi : i < ls.length) : (ls.set i r).getD q [] = if q = i then r else ls.getD q [] := by
  rw [List.getD_eq_getElem?_getD, List.getElem?_set, List.getD_eq_getElem?_getD]
  by_cases e : i = q
  · subst e; simp [hi]
  · simp [e]; intro e2; exact absurd e2.symm e
theorem Mo.set {W : World} {L g kg n k : Nat} {ls : List (List Int)} {R K : Nat → Nat} (h : Mo W L g kg n k ls R K) (i j : Nat) (x : Int) (hi : i < k) (hl : i < ls.length) :
    Mo (W.setCell ⟨R i, j, none⟩ (.int .i64 x)) L g kg n k (ls.set i ((ls.getD i []).set j x)) R K := by
  obtain ⟨vs, h1, h2⟩ := h.top
  refine ⟨⟨vs, h1.kept (grownBy_set W (R i) j _) (.inr (by simp [Value.ownBlock]; exact fun e => h.ne i hi e.symm)), fun q hq => ?_⟩, fun q hq => ?_, h.ne, h.inj⟩
  · rw [getD_set_row hl, h2 q hq]
    by_cases e : q = i
    · subst e; simp
    · simp [e]
  · rw [getD_set_row hl]
    by_cases e : q = i
    · subst e; rw [if_pos rfl]; exact (h.row q hq).set j x
    · rw [if_neg e]; exact (h.row q hq).setOther (fun e2 => e (h.inj q i hq hi e2.symm)) _
/-- two rows change their places -/
theorem Mo.swap {W : World} {L g kg n : Nat} {ls : List (List Int)} {R K : Nat → Nat} (h : Mo W L g kg n n ls R K) (hn : ls.length = n) (i j : Nat) (hi : i < n) (hj : j < n) (hij : i ≠ j) :
    Mo ((W.setCell ⟨g, i, none⟩ (.slice (some ⟨R j, 0, none⟩) (ls.getD j []).length (K j))).setCell ⟨g, j, none⟩ (.slice (some ⟨R i, 0, none⟩) (ls.getD i []).length (K i))) L g kg n n ((ls.set i (ls.getD j [])).set j (ls.getD i [])) (fun q => if q = j then R i else if q = i then R j else R q) (fun q => if q = j then K i else if q = i then K j else K q) := by
  obtain ⟨vs, h1, h2⟩ := h.top
  have h1' := World.ownsRow.stored h1 i (.slice (some ⟨R j, 0, none⟩) (ls.getD j []).length (K j))
  have h1'' := World.ownsRow.stored h1'.1 j (.slice (some ⟨R i, 0, none⟩) (ls.getD i []).length (K i))
  have hl : vs.length = n * 1 := h1.1
  have hget : ∀ q, ((ls.set i (ls.getD j [])).set j (ls.getD i [])).getD q [] = if q = j then ls.getD i [] else if q = i then ls.getD j [] else ls.getD q [] := fun q => by
    rw [getD_set_row (by rw [List.length_set]; omega), getD_set_row (by omega)]
  have hrow : ∀ q, q < n → Own L ((W.setCell ⟨g, i, none⟩ (.slice (some ⟨R j, 0, none⟩) (ls.getD j []).length (K j))).setCell ⟨g, j, none⟩ (.slice (some ⟨R i, 0, none⟩) (ls.getD i []).length (K i))) (R q) (K q) (ls.getD q []) := fun q hq =>
    ((h.row q hq).setOther (fun e => h.ne q hq e.symm) _).setOther (fun e => h.ne q hq e.symm) _
  refine ⟨⟨_, h1''.1, fun q hq => ?_⟩, fun q hq => ?_, fun q hq => ?_, fun p q hp hq => ?_⟩
  · rw [hget]
    by_cases e1 : q = j
    · subst e1; rw [List.getElem?_set_self (by rw [List.length_set]; omega)]; simp
    · rw [List.getElem?_set_ne (fun e => e1 e.symm)]
      by_cases e2 : q = i
      · subst e2; rw [List.getElem?_set_self (by omega)]; simp [e1]
      · rw [List.getElem?_set_ne (fun e => e2 e.symm), h2 q hq]; simp [e1, e2]
  · rw [hget]
    by_cases e1 : q = j
    · simp only [e1, if_true]; exact hrow i hi
    · by_cases e2 : q = i
      · subst e2; simp only [e1, if_false, if_true]; exact hrow j hj
      · simp only [e1, e2, if_false]; exact hrow q hq
  · by_cases e1 : q = j
    · simp only [e1, if_true]; exact h.ne i hi
    · by_cases e2 : q = i
      · subst e2; simp only [e1, if_false, if_true]; exact h.ne j hj
      · simp only [e1, e2, if_false]; exact h.ne q hq
  · have key : ∀ q, q < n → ∃ q', q' < n ∧ (if q = j then R i else if q = i then R j else R q) = R q' ∧ q' = (if q = j then i else if q = i then j else q) := fun q hq => by
      by_cases e1 : q = j
      · exact ⟨i, hi, by simp [e1], by simp [e1]⟩
      · by_cases e2 : q = i
        · exact ⟨j, hj, by rw [if_neg e1, if_pos e2], by rw [if_neg e1, if_pos e2]⟩
        · exact ⟨q, hq, by simp [e1, e2], by simp [e1, e2]⟩
    obtain ⟨p', hp1, hp2, hp3⟩ := key p hp
    obtain ⟨q', hq1, hq2, hq3⟩ := key q hq
    intro e
    have e : (if p = j then R i else if p = i then R j else R p) = (if q = j then R i else if q = i then R j else R q) := e
    rw [hp2, hq2] at e
    have := h.inj p' q' hp1 hq1 e
    rw [hp3, hq3] at this
    revert this
    split
    · split
      · intro _; omega
      · split
        · intro _; omega
        · intro _; omega
    · split
      · split
        · intro _; omega
        · split
          · intro _; omega
          · intro _; omega
      · split
        · intro _; omega
        · split
          · intro _; omega
          · intro _; omega

set_option maxHeartbeats 800000 in
theorem eqInt64Q (a b : Option Addr) (ca cb : Nat) (l : List Int) (w : World) (ha : At w a l) (hb : At w b l) (hl : l.length ≤ 9223372036854775806) :
    Calls Tryz.prog 15 #[.slice a l.length ca, .slice b l.length cb] w (Qui (.bool true) w) := by
  go_enter Tryz.func15, Tryz.ntmps15
  go_wp2
  go_loopw [5] (fun i wr => ∃ k : Nat, k ≤ l.length ∧ i = .int .i64 k ∧ Hid (Drw w wr)) (fun i _ => l.length - (intOf i).toNat)
  case atStart => exact ⟨0, Nat.zero_le _, rfl, Drw.refl _⟩
  case round =>
    obtain ⟨k, hk, rfl, hw⟩ := hrel
    by_cases hlt : k < l.length
    · obtain ⟨b1, o1, rfl, hbl1, hc1⟩ := ((ha.drw hw.out).resolve_left (by intro e; rw [e] at hlt; simp at hlt))
      obtain ⟨b2, o2, rfl, hbl2, hc2⟩ := ((hb.drw hw.out).resolve_left (by intro e; rw [e] at hlt; simp at hlt))
      have h1 := hc1 k hlt
      have h2 := hc2 k hlt
      clear hc1 hc2 ha hb
      generalize l.getD k 0 = x at h1 h2
      have hi : (k : Int) < (l.length : Int) := by omega
      go_wp2
      go_quiet (fail)
      go_wp2
      go_roundw
      case rel => exact ⟨k + 1, by omega, by go_num, hw.out.more _⟩
      case measure => simp [intOf]; omega
    · go_wp2
      go_ret
      obtain ⟨m, hm⟩ := hw.out
      exact ⟨rfl, m, hm⟩
set_option maxRecDepth 100000 in
set_option maxHeartbeats 3200000 in
theorem eqMat (a b : Option Addr) (ca cb : Nat) (ls : List (List Int)) (w : World) (ha : Mat w a ls) (hb : Mat w b ls) (hs : mSz ls ≤ 1048576) :
    Calls Tryz.prog 28 #[.slice a ls.length ca, .slice b ls.length cb] w fun e w' => e = .returned (.bool true) ∧ Below w.heap.size w w' := by
  have hll : ls.length ≤ 1048576 := by unfold mSz at hs; omega
  have HR := fun i => Lib.hid (mSz_row (i := i) hs)
  clear hs
  go_enter Tryz.func28, Tryz.ntmps28
  go_wp2_with fail
  go_loopw [5] (fun i wr => ∃ k : Nat, k ≤ ls.length ∧ i = .int .i64 k ∧ Hid (Below w.heap.size w wr)) (fun i _ => ls.length - (intOf i).toNat)
  case atStart => exact ⟨0, Nat.zero_le _, rfl, Below.refl _ _⟩
  case round =>
    obtain ⟨k, hk, rfl, HB⟩ := hrel
    by_cases hlt : k < ls.length
    · have hii : (k : Int) < (ls.length : Int) := by omega
      obtain ⟨b1, o1, rfl, hbl1, hall1⟩ := (ha.below HB.out (Nat.le_refl _)).resolve_left (by intro e; rw [e] at hlt; simp at hlt)
      obtain ⟨b2, o2, rfl, hbl2, hall2⟩ := (hb.below HB.out (Nat.le_refl _)).resolve_left (by intro e; rw [e] at hlt; simp at hlt)
      obtain ⟨a1, c1, x1, y1⟩ := hall1 k hlt
      obtain ⟨a2, c2, x2, y2⟩ := hall2 k hlt
      have HC := fun j => Lib.hid (eqInt64Q a1 a2 c1 c2 (ls.getD k []) (wr.drewN j) (y1.drw ⟨j, rfl⟩) (y2.drw ⟨j, rfl⟩) (by have := (HR k).out; omega))
      clear hall1 hall2 y1 y2 ha hb HR
      generalize ls.getD k [] = x at *
      go_wp2_with fail
      go_quiet ((go_at_call 15; with_reducible exact qui_q (HC _).out))
      go_wp2_with fail
      go_roundw
      case rel => exact ⟨k + 1, by omega, by go_num, below_drewN HB.out _⟩
      case measure => simp [intOf]; omega
    · have hii : ¬ (k : Int) < (ls.length : Int) := by omega
      go_wp2_with fail
      go_ret
      exact ⟨rfl, HB.out⟩

end Go.Proofs.YtoedccgiahegnaaGreat

namespace Go.Proofs.YtoedccgiahegnaaGreat
open Go.RowKit
set_option linter.unusedVariables false

theorem OwnA.keep {L : Nat} {w w' : World} {a : Option Addr} {cap : Nat} {l : List Int} {S : Nat → Prop} (h : OwnA L w a cap l) (k : Kp S w w') (hS : ∀ g, blk a l = some g → ¬ S g) : OwnA L w' a cap l := by
  by_cases hl : l = []
  · exact .inl hl
  · obtain ⟨g, rfl, ho⟩ := h.resolve_left hl
    exact .inr ⟨g, rfl, OwR.keep ho.owr k (fun p hp => by cases hp; exact hS g (by simp [blk, hl]))⟩
theorem Kp.grown {S : Nat → Prop} {w w' : World} {row : Option Nat} (h : w.grownBy w' row) (hS : ∀ g, row = some g → S g) : Kp S w w' :=
  ⟨h.os, h.tape, h.output, h.size, fun i hi hn => h.block i hi (fun e => hn (hS i e.symm))⟩

theorem blk_eq {r : Nat} {l : List Int} {g : Nat} (h : blk (some ⟨r, 0, none⟩) l = some g) : g = r := by
  unfold blk at h
  split at h
  · cases h
  · simpa using h.symm
theorem Mo.congr {W : World} {L g kg n k : Nat} {ls ls' : List (List Int)} {R K : Nat → Nat} (h : Mo W L g kg n k ls R K) (hl : ∀ q, q < k → ls'.getD q [] = ls.getD q []) : Mo W L g kg n k ls' R K := by
  obtain ⟨vs, h1, h2⟩ := h.top
  exact ⟨⟨vs, h1, fun q hq => by rw [hl q hq]; exact h2 q hq⟩, fun q hq => by rw [hl q hq]; exact h.row q hq, h.ne, h.inj⟩
/-- a row is written anew, in its own block -/
theorem Mo.rowTo {W W' : World} {L g kg n k : Nat} {ls ls' : List (List Int)} {R K : Nat → Nat} (h : Mo W L g kg n k ls R K) (i : Nat) (hi : i < k) {x : List Int} (hx : x.length = (ls.getD i []).length) (hg : W.grownBy W' (blk (some ⟨R i, 0, none⟩) (ls.getD i []))) (ho : OwnA L W' (some ⟨R i, 0, none⟩) (K i) x) (hl : ∀ q, q < k → ls'.getD q [] = if q = i then x else ls.getD q []) : Mo W' L g kg n k ls' R K := by
  obtain ⟨vs, h1, h2⟩ := h.top
  refine ⟨⟨vs, h1.kept hg (.inr (by
    intro e
    have e2 : blk (some ⟨R i, 0, none⟩) (ls.getD i []) = some g := by simpa [Value.ownBlock] using e.symm
    exact h.ne i hi (blk_eq e2).symm)), fun q hq => ?_⟩, fun q hq => ?_, h.ne, h.inj⟩
  · rw [hl q hq, h2 q hq]
    by_cases e : q = i
    · subst e; rw [if_pos rfl, hx]
    · rw [if_neg e]
  · rw [hl q hq]
    by_cases e : q = i
    · subst e
      rw [if_pos rfl]
      rcases ho with e | ⟨g', hg', ho⟩
      · have e3 : ls.getD q [] = [] := List.length_eq_zero_iff.1 (by rw [← hx, e]; rfl)
        have h3 := (h.row q hq).keptBy hg (by rw [e3]; unfold blk; simp)
        rw [e3] at h3; rw [e]; exact h3
      · simp only [Option.some.injEq, Addr.mk.injEq] at hg'
        obtain ⟨e4, _⟩ := hg'
        rw [e4]; exact ho
    · rw [if_neg e]
      exact (h.row q hq).keptBy hg (fun e2 => e (h.inj q i hq hi (blk_eq e2)))

/-- the first i rows are marked -/
def mkR (ls : List (List Int)) (k0 i : Nat) : List (List Int) := (List.range ls.length).map fun q => if q < i then marks (ls.getD q []).length (k0 + lenK ls q) else ls.getD q []
theorem mkR_len (ls : List (List Int)) (k0 i : Nat) : (mkR ls k0 i).length = ls.length := by simp [mkR]
theorem mkR_get {ls : List (List Int)} {k0 i q : Nat} (h : q < ls.length) : (mkR ls k0 i).getD q [] = if q < i then marks (ls.getD q []).length (k0 + lenK ls q) else ls.getD q [] := by
  simp [mkR, List.getD_eq_getElem?_getD, h]
theorem mkR_rowlen {ls : List (List Int)} {k0 i q : Nat} (h : q < ls.length) : ((mkR ls k0 i).getD q []).length = (ls.getD q []).length := by
  rw [mkR_get h]; split
  · rw [marks_len]
  · rfl
theorem lenK_le {ls : List (List Int)} {k : Nat} (h : k ≤ ls.length) : lenK ls k ≤ lenK ls ls.length := by
  have := lenK_mono ls k (ls.length - k)
  rwa [show k + (ls.length - k) = ls.length by omega] at this

set_option maxRecDepth 100000 in
set_option maxHeartbeats 3200000 in
theorem markMat (L g kg : Nat) (ls : List (List Int)) (R K : Nat → Nat) (k0 : Nat) (q : Int) (cap : Nat) (w : World) (hq : (k0 : Int) = q) (h : Mo w L g kg ls.length ls.length ls R K) (hs : mSz ls ≤ 1048576) (hk0 : k0 ≤ 8388608) :
    Calls Tryz.prog 29 #[.slice (some ⟨g, 0, none⟩) ls.length cap, .int .i64 q] w fun e w' => e = .returned (.int .i64 (q + (lenK ls ls.length : Int))) ∧ Mo w' L g kg ls.length ls.length (mkR ls k0 ls.length) R K ∧ Kp (fun b => ∃ i, i < ls.length ∧ R i = b) w w' := by
  subst hq
  have hll : ls.length ≤ 1048576 := by unfold mSz at hs; omega
  have HT : Hid (lenK ls ls.length ≤ 1048576) := by show _ ≤ _; unfold mSz at hs; omega
  have HM0 : Hid (Mo w L g kg ls.length ls.length (mkR ls k0 0) R K) := Mo.congr h (fun q hq => by rw [mkR_get hq]; simp)
  have HR := fun i => Lib.hid (mSz_row (i := i) hs)
  clear hs h
  go_enter Tryz.func29, Tryz.ntmps29
  go_wp2_with fail
  go_loopw [1, 5] (fun q i wr => ∃ k : Nat, k ≤ ls.length ∧ i = .int .i64 k ∧ q = .int .i64 ((k0 + lenK ls k : Nat) : Int) ∧ Hid (Mo wr L g kg ls.length ls.length (mkR ls k0 k) R K) ∧ Hid (Kp (fun b => ∃ i, i < ls.length ∧ R i = b) w wr)) (fun _ i _ => ls.length - (intOf i).toNat)
  case atStart => exact ⟨0, Nat.zero_le _, rfl, by simp [lenK], HM0, Kp.refl _ _⟩
  case round =>
    obtain ⟨k, hk, rfl, rfl, HM, HK⟩ := hrel
    clear HM0
    by_cases hlt : k < ls.length
    · have hii : (k : Int) < (ls.length : Int) := by omega
      have hr := HM.out.row k hlt
      have c0 := HM.out.cell (Nat.le_refl _) k hlt
      rw [mkR_get hlt, if_neg (Nat.lt_irrefl _)] at hr c0
      have HC := Lib.hid (markAt L (some ⟨R k, 0, none⟩) (K k) (ls.getD k []) (k0 + lenK ls k) _ wr rfl hr.a (HR k).out (by have := lenK_le hk; have := HT.out; omega))
      clear HR hr
      generalize hx : ls.getD k [] = x at c0 HC
      have HX := Lib.hid hx
      clear hx
      have HLT := Lib.hid hlt
      go_wp2_with fail
      refine HC.out.mono ?_; rintro e w2 ⟨rfl, ho, hg⟩
      have HN : Hid (Mo w2 L g kg ls.length ls.length (mkR ls k0 (k + 1)) R K) := HM.out.rowTo k hlt (x := marks x.length (k0 + lenK ls k)) (by rw [marks_len, mkR_rowlen hlt, HX.out]) (by rw [mkR_get hlt, if_neg (Nat.lt_irrefl _), HX.out]; exact hg) ho (fun q hq => by
        rw [mkR_get hq, mkR_get hq]
        by_cases e : q = k
        · subst e; rw [if_pos (by omega), if_pos rfl, HX.out]
        · have e2 : q < k + 1 ↔ q < k := by omega
          simp only [e2, e, if_false])
      have HKN : Hid (Kp (fun b => ∃ i, i < ls.length ∧ R i = b) w w2) := HK.out.trans (Kp.grown hg (fun g' e => ⟨k, hlt, (blk_eq e).symm⟩))
      have HQ : Hid ((((k0 + lenK ls k : Nat) : Int) + (x.length : Int)) = ((k0 + lenK ls (k + 1) : Nat) : Int)) := by show _ = _; rw [lenK, HX.out]; push_cast; omega
      clear ho hg HM HK HC c0 HX
      rw [HQ.out]
      go_wp2_with fail
      go_roundw
      case rel => exact ⟨k + 1, by omega, by go_num, rfl, HN, HKN⟩
      case measure => simp [intOf]; omega
    · have hii : ¬ (k : Int) < (ls.length : Int) := by omega
      obtain rfl : k = ls.length := by omega
      go_wp2_with fail
      go_ret
      exact ⟨rfl, HM.out, HK.out⟩

set_option maxRecDepth 100000 in
set_option maxHeartbeats 3200000 in
theorem heldMat (a : Option Addr) (ls : List (List Int)) (k0 : Nat) (q : Int) (cap : Nat) (w : World) (hq : (k0 : Int) = q) (h : Mat w a (mkR ls k0 ls.length)) (hs : mSz ls ≤ 1048576) (hk0 : k0 ≤ 8388608) :
    Calls Tryz.prog 30 #[.slice a ls.length cap, .int .i64 q] w fun e w' => e = .returned (.int .i64 (q + (lenK ls ls.length : Int))) ∧ w = w' := by
  subst hq
  have hll : ls.length ≤ 1048576 := by unfold mSz at hs; omega
  have HT : Hid (lenK ls ls.length ≤ 1048576) := by show _ ≤ _; unfold mSz at hs; omega
  have HR := fun i => Lib.hid (mSz_row (i := i) hs)
  clear hs
  go_enter Tryz.func30, Tryz.ntmps30
  go_wp2_with fail
  go_loop [1, 5] (fun q i => ∃ k : Nat, k ≤ ls.length ∧ i = .int .i64 k ∧ q = .int .i64 ((k0 + lenK ls k : Nat) : Int)) (fun _ i => ls.length - (intOf i).toNat)
  case atStart => exact ⟨0, Nat.zero_le _, rfl, by simp [lenK]⟩
  case round =>
    obtain ⟨k, hk, rfl, rfl⟩ := hrel
    by_cases hlt : k < ls.length
    · have hii : (k : Int) < (ls.length : Int) := by omega
      obtain ⟨b, off, rfl, hbl, hall⟩ := h.resolve_left (by intro e; have := congrArg List.length e; rw [mkR_len] at this; have h0 : ls.length = 0 := this; omega)
      obtain ⟨ai, ci, c0, hat⟩ := hall k (by rw [mkR_len]; exact hlt)
      rw [mkR_get hlt, if_pos hlt] at c0 hat
      rw [marks_len] at c0
      have HC := Lib.hid (heldAt ai ci (ls.getD k []).length (k0 + lenK ls k) _ w rfl hat (HR k).out (by have := lenK_le hk; have := HT.out; omega))
      clear HR hat hall
      have HQ : Hid ((((k0 + lenK ls k : Nat) : Int) + ((ls.getD k []).length : Int)) = ((k0 + lenK ls (k + 1) : Nat) : Int)) := by show _ = _; rw [lenK]; push_cast; omega
      generalize (ls.getD k []).length = x at c0 HC HQ
      have hd : decide (((k0 + lenK ls (k + 1) : Nat) : Int) < 0) = false := decide_eq_false (by omega)
      rw [HQ.out] at HC
      go_wp2_with fail
      refine HC.out.mono ?_; rintro e w2 ⟨rfl, rfl⟩
      clear HC c0 HQ
      go_wp2_with fail
      go_round
      case rel => exact ⟨k + 1, by omega, by go_num, rfl⟩
      case measure => simp [intOf]; omega
    · have hii : ¬ (k : Int) < (ls.length : Int) := by omega
      obtain rfl : k = ls.length := by omega
      go_wp2_with fail
      go_ret
      exact ⟨rfl, rfl⟩

set_option maxHeartbeats 800000 in
theorem toInt64E (a : Option Addr) (cap : Nat) (l : List Int) (w : World) (h : At w a l) (hl : l.length ≤ 1048576) :
    Calls Tryz.prog 13 #[.slice a l.length cap] w fun e w' => ∃ g, e = .returned (.slice (some ⟨g, 0, none⟩) l.length l.length) ∧ Own w.heap.size w' g l.length l ∧ Below w.heap.size w w' := by
  obtain ⟨i0, hi, hz0, hz1, hz2⟩ := info_parts info64
  go_enter Tryz.func13, Tryz.ntmps13
  go_wp2_with (refine wpList_make_full _ rfl _ _ 25 rfl w.heap.size 2 i0 (.int .i64 0) 1 Tryz.underlying25 hi hz0 hz1 .i64 .i64 _ _ l.length rfl rfl rfl rfl ?c2 ?c3 (Nat.le_refl _) ?_)
  case c2 => rw [hz2]; omega
  case c3 => unfold maxLen; omega
  intro w1 ho1 hg1
  have hb1 := (Below.refl w.heap.size w).grown hg1 (Nat.le_refl _) (by intro k hk; cases hk)
  have ho2 := made_own ho1
  clear ho1 hg1 hi hz0 hz1 hz2
  go_wp2
  go_loopw [4] (fun i wr => ∃ k : Nat, k ≤ l.length ∧ i = .int .i64 k ∧ Own w.heap.size wr w.heap.size l.length (fillz l.length (l.take k)) ∧ Below w.heap.size w wr) (fun i _ => l.length - (intOf i).toNat)
  case atStart => exact ⟨0, Nat.zero_le _, rfl, ho2, hb1⟩
  case round =>
    obtain ⟨k, hk, rfl, ho, hb⟩ := hrel
    by_cases hlt : k < l.length
    · obtain ⟨b, off, rfl, hbl, hc⟩ := (h.resolve_left (by intro e; rw [e] at hlt; simp at hlt))
      have hck : wr.cell? ⟨b, off + k, none⟩ = some (.int .i64 (l.getD k 0)) := (hb.cell (p := ⟨b, off + k, none⟩) hbl).trans (hc k hlt)
      have hlen : (l.take k).length = k := by simp; omega
      have hcs := ho.cellAt k (by rw [fillz_len (by omega)]; exact hlt)
      have hfr := ho.frz k
      have hset := ho.set k (l.getD k 0)
      have hs2 : (fillz l.length (l.take k)).set k (l.getD k 0) = fillz l.length (l.take (k + 1)) := by
        have := fillz_set (n := l.length) (xs := l.take k) (by omega) (l.getD k 0)
        rw [hlen, take_snoc hlt] at this; exact this
      rw [hs2] at hset
      have hb2 := hb.setCell (p := ⟨w.heap.size, k, none⟩) (Nat.le_refl _) (.int .i64 (l.getD k 0))
      clear hc hlen hs2 ho
      generalize l.getD k 0 = x at hck hset hb2
      go_wp2
      go_roundw
      case rel => exact ⟨k + 1, by omega, by go_num, hset, hb2⟩
      case measure => simp [intOf]; omega
    · have hkk : k = l.length := by omega
      subst hkk
      rw [List.take_length, fillz_full rfl] at ho
      go_wp2
      go_ret
      exact ⟨_, rfl, ho, hb⟩

end Go.Proofs.YtoedccgiahegnaaGreat
