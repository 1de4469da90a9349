/- Polynomials: what the laws on them share. -/
import Derived.Test.YtggojffmfjeikaaPyd
import Derived.Test.YtggojffmfjeikaaTal
namespace Go.Proofs.Ytggojffmfjeikaa
open Go.RowKit
set_option linter.unusedVariables false

/-- the two cells of a polynomial in a block of its own -/
structure Pcl (w : World) (bt : Nat) (q : Py) (a : Option Addr) (c : Nat) : Prop where
  c0 : w.cell? ⟨bt, 0, none⟩ = some (.int .i64 q.vars)
  c1 : w.cell? ⟨bt, 1, none⟩ = some (.slice a q.terms.length c)
theorem Pcl.lt {w : World} {bt : Nat} {q : Py} {a : Option Addr} {c : Nat} (h : Pcl w bt q a c) : bt < w.heap.size := cell_lt h.c0
theorem Pcl.block {w w' : World} {bt : Nat} {q : Py} {a : Option Addr} {c : Nat} (h : Pcl w bt q a c) (hb : w'.heap[bt]? = w.heap[bt]?) : Pcl w' bt q a c :=
  ⟨(World.cell?_of_block (a := ⟨bt, 0, none⟩) hb).trans h.c0, (World.cell?_of_block (a := ⟨bt, 1, none⟩) hb).trans h.c1⟩
theorem Pcl.next {w w' : World} {bt : Nat} {q : Py} {a : Option Addr} {c : Nat} (h : Pcl w bt q a c) (hb : Below w.heap.size w w') : Pcl w' bt q a c := h.block (hb.block _ h.lt)
theorem Pcl.trn {w w' : World} {bt : Nat} {q : Py} {a : Option Addr} {c L B : Nat} (h : Pcl w bt q a c) (hb : Trn L B w w') (hn : ¬ (L ≤ bt ∧ bt < B)) : Pcl w' bt q a c := h.block (hb.block _ h.lt hn)
theorem Pcl.grown {w w' : World} {bt : Nat} {q : Py} {a : Option Addr} {c : Nat} {row : Option Nat} (h : Pcl w bt q a c) (hb : w.grownBy w' row) (hn : some bt ≠ row) : Pcl w' bt q a c := h.block (hb.block _ h.lt hn)
theorem pcl_new (w : World) (q : Py) (a : Option Addr) (c : Nat) (ty : TypeId) : Pcl (w.alloc (.cells #[.int .i64 q.vars, .slice a q.terms.length c] ty)) w.heap.size q a c :=
  ⟨by simp [go_sem], by simp [go_sem]⟩
theorem TmW.zero {w : World} {L : Nat} {l : List Tm} {b : Nat} {gs : Nat → Nat} (h : TmW w L l b gs) : TmAt w 0 w.heap.size l (some ⟨b, 0, none⟩) := h.at.mono (Nat.zero_le _) (Nat.le_refl _)

end Go.Proofs.Ytggojffmfjeikaa
