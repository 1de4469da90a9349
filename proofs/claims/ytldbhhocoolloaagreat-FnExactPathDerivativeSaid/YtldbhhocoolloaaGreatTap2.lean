/- Tapes: which ones are valid by the model, whole. -/
import Derived.Test.YtldbhhocoolloaaGreatTao
namespace Go.Proofs.YtldbhhocoolloaaGreat
open Go.RowKit
set_option linter.unusedVariables false

theorem tbdrew {B : Nat} {a w : World} (h : Below B a w) : Below B a w.drew := h.trans ⟨rfl, rfl, rfl, Nat.le_refl _, fun _ _ => rfl⟩
/-- the four cells of a tape -/
structure TCells (w : World) (bt o : Nat) (t : Tp) (ac : Option Addr) (cc : Nat) (ag : Option Addr) (cg : Nat) (ao : Option Addr) (co : Nat) : Prop where
  c0 : w.cell? ⟨bt, o, none⟩ = some (.int .i64 t.inputs)
  c1 : w.cell? ⟨bt, o + 1, none⟩ = some (.slice ac t.code.length cc)
  c2 : w.cell? ⟨bt, o + 2, none⟩ = some (.slice ag t.guards.length cg)
  c3 : w.cell? ⟨bt, o + 3, none⟩ = some (.slice ao t.outs.length co)
theorem TCells.below {w w' : World} {bt o : Nat} {t : Tp} {ac : Option Addr} {cc : Nat} {ag : Option Addr} {cg : Nat} {ao : Option Addr} {co B : Nat} (h : TCells w bt o t ac cc ag cg ao co) (hb : Below B w w') (hB : bt < B) : TCells w' bt o t ac cc ag cg ao co :=
  ⟨(hb.cell (p := ⟨bt, o, none⟩) hB).trans h.c0, (hb.cell (p := ⟨bt, o + 1, none⟩) hB).trans h.c1, (hb.cell (p := ⟨bt, o + 2, none⟩) hB).trans h.c2, (hb.cell (p := ⟨bt, o + 3, none⟩) hB).trans h.c3⟩
theorem TCells.lt {w : World} {bt o : Nat} {t : Tp} {ac : Option Addr} {cc : Nat} {ag : Option Addr} {cg : Nat} {ao : Option Addr} {co : Nat} (h : TCells w bt o t ac cc ag cg ao co) : bt < w.heap.size := cell_lt h.c0

end Go.Proofs.YtldbhhocoolloaaGreat
