/- Tapes: what the laws on them share. -/
import Derived.Test.YtiimebiecihpkaaTam
import Derived.Test.YtiimebiecihpkaaTap2
namespace Go.Proofs.Ytiimebiecihpkaa
open Go.RowKit
set_option linter.unusedVariables false

/-- the four cells of a tape in a block of its own -/
structure Tcl (w : World) (bt : Nat) (t : Tp) (ac : Option Addr) (cc : Nat) (ag : Option Addr) (cg : Nat) (ao : Option Addr) (co : Nat) : Prop where
  c0 : w.cell? ⟨bt, 0, none⟩ = some (.int .i64 t.inputs)
  c1 : w.cell? ⟨bt, 1, none⟩ = some (.slice ac t.code.length cc)
  c2 : w.cell? ⟨bt, 2, none⟩ = some (.slice ag t.guards.length cg)
  c3 : w.cell? ⟨bt, 3, none⟩ = some (.slice ao t.outs.length co)
theorem Tcl.lt {w : World} {bt : Nat} {t : Tp} {ac : Option Addr} {cc : Nat} {ag : Option Addr} {cg : Nat} {ao : Option Addr} {co : Nat} (h : Tcl w bt t ac cc ag cg ao co) : bt < w.heap.size := cell_lt h.c0
theorem Tcl.block {w w' : World} {bt : Nat} {t : Tp} {ac : Option Addr} {cc : Nat} {ag : Option Addr} {cg : Nat} {ao : Option Addr} {co : Nat} (h : Tcl w bt t ac cc ag cg ao co) (hb : w'.heap[bt]? = w.heap[bt]?) : Tcl w' bt t ac cc ag cg ao co :=
  ⟨(World.cell?_of_block (a := ⟨bt, 0, none⟩) hb).trans h.c0, (World.cell?_of_block (a := ⟨bt, 1, none⟩) hb).trans h.c1, (World.cell?_of_block (a := ⟨bt, 2, none⟩) hb).trans h.c2, (World.cell?_of_block (a := ⟨bt, 3, none⟩) hb).trans h.c3⟩
theorem Tcl.next {w w' : World} {bt : Nat} {t : Tp} {ac : Option Addr} {cc : Nat} {ag : Option Addr} {cg : Nat} {ao : Option Addr} {co : Nat} (h : Tcl w bt t ac cc ag cg ao co) (hb : Below w.heap.size w w') : Tcl w' bt t ac cc ag cg ao co := h.block (hb.block bt h.lt)
theorem Tcl.trn {w w' : World} {bt : Nat} {t : Tp} {ac : Option Addr} {cc : Nat} {ag : Option Addr} {cg : Nat} {ao : Option Addr} {co L B : Nat} (h : Tcl w bt t ac cc ag cg ao co) (hb : Trn L B w w') (hn : ¬ (L ≤ bt ∧ bt < B)) : Tcl w' bt t ac cc ag cg ao co := h.block (hb.block bt h.lt hn)
theorem Tcl.grown {w w' : World} {bt : Nat} {t : Tp} {ac : Option Addr} {cc : Nat} {ag : Option Addr} {cg : Nat} {ao : Option Addr} {co : Nat} {row : Option Nat} (h : Tcl w bt t ac cc ag cg ao co) (hb : w.grownBy w' row) (hn : row ≠ some bt) : Tcl w' bt t ac cc ag cg ao co := h.block (hb.block bt h.lt (fun e => hn e.symm))
theorem tcl_new (w : World) (t : Tp) (ac : Option Addr) (cc : Nat) (ag : Option Addr) (cg : Nat) (ao : Option Addr) (co : Nat) (ty : TypeId) : Tcl (w.alloc (.cells #[.int .i64 t.inputs, .slice ac t.code.length cc, .slice ag t.guards.length cg, .slice ao t.outs.length co] ty)) w.heap.size t ac cc ag cg ao co :=
  ⟨by simp [go_sem], by simp [go_sem], by simp [go_sem], by simp [go_sem]⟩

/-- a copy of a tape, in blocks from L on and ahead of B that may be written -/
structure TapW (w : World) (L B : Nat) (t : Tp) (g1 g2 g3 : Nat) : Prop where
  le : B ≤ w.heap.size
  tat : Tat w L B t (some ⟨g1, 0, none⟩) (some ⟨g2, 0, none⟩) (some ⟨g3, 0, none⟩)
  wr1 : Wr w L B (t.code.length * 4) g1
  wr2 : Wr w L B (t.guards.length * 2) g2
  wr3 : Wr w L B t.outs.length g3
theorem TapW.next {w w' : World} {L B : Nat} {t : Tp} {g1 g2 g3 : Nat} (h : TapW w L B t g1 g2 g3) (hb : Below w.heap.size w w') : TapW w' L B t g1 g2 g3 := by
  obtain ⟨h0, h1, h2, h3, h4⟩ := h
  have hb' : Below B w w' := hb.mono h0
  exact ⟨Nat.le_trans h0 hb.size, h1.below hb', h2.below hb', h3.below hb', h4.below hb'⟩
theorem TapW.zero {w : World} {L B : Nat} {t : Tp} {g1 g2 g3 : Nat} (h : TapW w L B t g1 g2 g3) : Tat w 0 w.heap.size t (some ⟨g1, 0, none⟩) (some ⟨g2, 0, none⟩) (some ⟨g3, 0, none⟩) := h.tat.mono (Nat.zero_le _) h.le
theorem Tat.next {w w' : World} {t : Tp} {ac ag ao : Option Addr} (h : Tat w 0 w.heap.size t ac ag ao) (hb : Below w.heap.size w w') : Tat w' 0 w'.heap.size t ac ag ao := (h.below hb).mono (Nat.le_refl _) hb.size
theorem OwnA.trnU {L B B' : Nat} {w w' : World} {a : Option Addr} {cap : Nat} {l : List Int} (h : OwnA B' w a cap l) (ho : Trn L B w w') (hd : ∀ g, blk a l = some g → ¬ (L ≤ g ∧ g < B)) : OwnA B' w' a cap l := by
  by_cases hl : l = []
  · exact .inl hl
  · obtain ⟨g, rfl, hg⟩ := h.resolve_left hl
    have hb := hg.base
    have hblk := ho.block g hb.2 (hd g (by simp [blk, hl]))
    obtain ⟨h1, h2⟩ := hg
    refine .inr ⟨g, rfl, h1, ?_⟩
    rcases h2 with ⟨e, _⟩ | ⟨g', cap', cur, hv, hg', hh, h3⟩
    · cases e
    · cases hv
      exact .inr ⟨g, cap, cur, rfl, hg', hblk.trans hh, h3⟩

end Go.Proofs.Ytiimebiecihpkaa
