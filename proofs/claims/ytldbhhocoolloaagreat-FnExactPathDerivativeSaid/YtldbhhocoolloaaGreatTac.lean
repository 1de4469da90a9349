/- Tapes: copies, as the laws make them. -/
import Derived.Test.YtldbhhocoolloaaGreatTas
namespace Go.Proofs.YtldbhhocoolloaaGreat
open Go.RowKit
set_option linter.unusedVariables false

abbrev inst (x : In4) : Value := .agg #[.int .i64 x.op, .int .i64 x.a, .int .i64 x.b, .int .i64 x.num]
abbrev gdv (x : Gd) : Value := .agg #[.int .i64 x.reg, .bool x.zero]

/-- The first k instructions of a row are copied. -/
def HalfC (l : List In4) (xs : List Value) (k : Nat) : Prop :=
  ∀ i, i < k → xs[i * 4]? = some (.int .i64 (l.getD i no4).op) ∧ xs[i * 4 + 1]? = some (.int .i64 (l.getD i no4).a) ∧ xs[i * 4 + 2]? = some (.int .i64 (l.getD i no4).b) ∧ xs[i * 4 + 3]? = some (.int .i64 (l.getD i no4).num)
def put4 (xs : List Value) (i : Nat) (x : In4) : List Value :=
  (((xs.set (i * 4) (.int .i64 x.op)).set (i * 4 + 1) (.int .i64 x.a)).set (i * 4 + 2) (.int .i64 x.b)).set (i * 4 + 3) (.int .i64 x.num)
theorem put4_old {xs : List Value} {i : Nat} {x : In4} {j : Nat} (h : j < i * 4) : (put4 xs i x)[j]? = xs[j]? := by
  unfold put4
  iterate 4 rw [List.getElem?_set_ne (by omega)]
theorem put4_new {xs : List Value} {i : Nat} {x : In4} (h : i * 4 + 3 < xs.length) : (put4 xs i x)[i * 4]? = some (.int .i64 x.op) ∧ (put4 xs i x)[i * 4 + 1]? = some (.int .i64 x.a) ∧
    (put4 xs i x)[i * 4 + 2]? = some (.int .i64 x.b) ∧ (put4 xs i x)[i * 4 + 3]? = some (.int .i64 x.num) := by
  unfold put4
  refine ⟨?_, ?_, ?_, ?_⟩ <;> simp (disch := omega) [List.getElem?_set] <;> omega
theorem halfC_step {l : List In4} {xs : List Value} {k : Nat} (H : HalfC l xs k) (hlen : k * 4 + 3 < xs.length) : HalfC l (put4 xs k (l.getD k no4)) (k + 1) := by
  intro i hi
  by_cases hik : i = k
  · subst hik; exact put4_new hlen
  · obtain ⟨h0, h1, h2, h3⟩ := H i (by omega)
    exact ⟨(put4_old (by omega)).trans h0, (put4_old (by omega)).trans h1, (put4_old (by omega)).trans h2, (put4_old (by omega)).trans h3⟩
def HalfG (l : List Gd) (xs : List Value) (k : Nat) : Prop :=
  ∀ i, i < k → xs[i * 2]? = some (.int .i64 (l.getD i noG).reg) ∧ xs[i * 2 + 1]? = some (.bool (l.getD i noG).zero)
def put2 (xs : List Value) (i : Nat) (x : Gd) : List Value := (xs.set (i * 2) (.int .i64 x.reg)).set (i * 2 + 1) (.bool x.zero)
theorem put2_old {xs : List Value} {i : Nat} {x : Gd} {j : Nat} (h : j < i * 2) : (put2 xs i x)[j]? = xs[j]? := by
  unfold put2
  iterate 2 rw [List.getElem?_set_ne (by omega)]
theorem put2_new {xs : List Value} {i : Nat} {x : Gd} (h : i * 2 + 1 < xs.length) : (put2 xs i x)[i * 2]? = some (.int .i64 x.reg) ∧ (put2 xs i x)[i * 2 + 1]? = some (.bool x.zero) := by
  unfold put2
  refine ⟨?_, ?_⟩ <;> simp (disch := omega) [List.getElem?_set] <;> omega
theorem halfG_step {l : List Gd} {xs : List Value} {k : Nat} (H : HalfG l xs k) (hlen : k * 2 + 1 < xs.length) : HalfG l (put2 xs k (l.getD k noG)) (k + 1) := by
  intro i hi
  by_cases hik : i = k
  · subst hik; exact put2_new hlen
  · obtain ⟨h0, h1⟩ := H i (by omega)
    exact ⟨(put2_old (by omega)).trans h0, (put2_old (by omega)).trans h1⟩

/-- The call answers a copy in a block of its own that may be written. -/
def FreshC (w : World) (l : List In4) (e : Ending) (w' : World) : Prop :=
  ∃ g, e = .returned (.slice (some ⟨g, 0, none⟩) l.length l.length) ∧ Cat w' w.heap.size w'.heap.size l (some ⟨g, 0, none⟩) ∧ Wr w' w.heap.size w'.heap.size (l.length * 4) g ∧ Below w.heap.size w w'
def FreshGd (w : World) (l : List Gd) (e : Ending) (w' : World) : Prop :=
  ∃ g, e = .returned (.slice (some ⟨g, 0, none⟩) l.length l.length) ∧ Gat w' w.heap.size w'.heap.size l (some ⟨g, 0, none⟩) ∧ Wr w' w.heap.size w'.heap.size (l.length * 2) g ∧ Below w.heap.size w w'

theorem Gat.ri {w : World} {L B : Nat} {l : List Gd} {a : Option Addr} (h : Gat w L B l a) (k : Nat) : I64 (l.getD k noG).reg := by
  by_cases hk : k < l.length
  · rcases h with rfl | ⟨_, _, _, _, h⟩
    · simp at hk
    · exact (h k hk).1
  · rw [List.getD_eq_getElem?_getD, List.getElem?_eq_none (by omega)]; exact ⟨by decide, by decide⟩

/-- The call answers a copy of a tape in blocks of its own that may be written. -/
def FreshT (w : World) (t : Tp) (e : Ending) (w' : World) : Prop :=
  ∃ g1 g2 g3 c3, e = .returned (tpv t (some ⟨g1, 0, none⟩) t.code.length (some ⟨g2, 0, none⟩) t.guards.length (some ⟨g3, 0, none⟩) c3) ∧ Tat w' w.heap.size w'.heap.size t (some ⟨g1, 0, none⟩) (some ⟨g2, 0, none⟩) (some ⟨g3, 0, none⟩) ∧
    Wr w' w.heap.size w'.heap.size (t.code.length * 4) g1 ∧ Wr w' w.heap.size w'.heap.size (t.guards.length * 2) g2 ∧ Wr w' w.heap.size w'.heap.size t.outs.length g3 ∧ Below w.heap.size w w'

end Go.Proofs.YtldbhhocoolloaaGreat
