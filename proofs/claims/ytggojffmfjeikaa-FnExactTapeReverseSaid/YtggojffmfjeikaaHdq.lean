/- Regions that draw their order and end with a store, over a frame of many slots: what a panic leaves does not look at the slots. -/
import Derived.Test.YtggojffmfjeikaaHdo
namespace Go.Proofs.Ytggojffmfjeikaa
set_option linter.unusedVariables false

section
variable {P : Program} {ops : Array Oper} {Q : Exit → Act → World → Prop}
def PQ (Q : Exit → Act → World → Prop) : Prop := ∀ c (a : Act) d v w, Q (.panic c) (a.put d v) w → Q (.panic c) a w
theorem PQ.out (h : PQ Q) : ∀ c (a : Act) d v w, Q (.panic c) (a.put d v) w → Q (.panic c) a w := h
/-- the same, and what a panic leaves does not look at the slots: said once, for any frame -/
theorem region_TQ {id : Nat} {a : Act} {w : World} (n : Nat) (S : World → Prop) (hm : P.follows .mixedOrders = true) (hS : S w.drew)
    (hQ : ∀ c (a : Act) d v w, Q (.panic c) (a.put d v) w → Q (.panic c) a w)
    (h : PQ Q → S w.drew → AnyT P .any ops Q S n ops.size (Array.replicate ops.size false) a w.drew) : (Code.region id ops true).wp P Q a w :=
  region_T n S hm hS (h hQ)
end
end Go.Proofs.Ytggojffmfjeikaa
