/- Rows (Action): where they lie in memory; sizes, copies, comparisons and marks, as the laws make them. -/
import Derived.Test.YtemmbacdilepgaaGreatTas
import Derived.StillTailTactics
namespace Go.Proofs.YtemmbacdilepgaaGreat
open Go.ChangeShapes Go.WideShapes Go.ChangeAt Go.RowKit
set_option linter.unusedVariables false

/-- One of the rows. -/
structure Ac where
  kind : Int
  arg : Int

def noAc : Ac := ⟨0, 0⟩
def RAc (x : Ac) : Prop := I64 x.kind ∧ I64 x.arg
abbrev acv (x : Ac) : Value := .agg #[.int .i64 x.kind, .int .i64 x.arg]
/-- The rows lie one behind the other from the address on, in a block from L on and ahead of B. -/
def AcAt (w : World) (L B : Nat) (l : List Ac) (a : Option Addr) : Prop :=
  l = [] ∨ ∃ b off, a = some ⟨b, off, none⟩ ∧ (L ≤ b ∧ b < B) ∧ ∀ i, i < l.length → RAc (l.getD i noAc) ∧ w.cell? ⟨b, off + i * 2, none⟩ = some (.int .i64 (l.getD i noAc).kind) ∧ w.cell? ⟨b, off + i * 2 + 1, none⟩ = some (.int .i64 (l.getD i noAc).arg)
theorem AcAt.agree {w w' : World} {L B : Nat} {l : List Ac} {a : Option Addr} (h : AcAt w L B l a) (hb : ∀ k, L ≤ k → k < B → w'.heap[k]? = w.heap[k]?) : AcAt w' L B l a := by
  rcases h with h | ⟨b, off, h1, h2, h3⟩
  · exact .inl h
  · refine .inr ⟨b, off, h1, h2, fun i hi => ?_⟩
    obtain ⟨r, c0, c1⟩ := h3 i hi
    have cl : ∀ o v, w.cell? ⟨b, o, none⟩ = some v → w'.cell? ⟨b, o, none⟩ = some v := fun o v h => (World.cell?_of_block (a := ⟨b, o, none⟩) (hb b h2.1 h2.2)).trans h
    exact ⟨r, cl _ _ c0, cl _ _ c1⟩
theorem AcAt.below {w w' : World} {L B : Nat} {l : List Ac} {a : Option Addr} (h : AcAt w L B l a) (hb : Below B w w') : AcAt w' L B l a := h.agree fun k _ h => hb.block k h
theorem AcAt.mono {w : World} {L L' B B' : Nat} (hL : L' ≤ L) (hB : B ≤ B') {l : List Ac} {a : Option Addr} (h : AcAt w L B l a) : AcAt w L' B' l a := by
  rcases h with h | ⟨b, off, h1, h2, h3⟩
  · exact .inl h
  · exact .inr ⟨b, off, h1, by omega, h3⟩
theorem AcAt.next {w w' : World} {l : List Ac} {a : Option Addr} {L : Nat} (h : AcAt w L w.heap.size l a) (hb : Below w.heap.size w w') : AcAt w' L w'.heap.size l a := (h.below hb).mono (Nat.le_refl _) hb.size
theorem rAc_no : RAc noAc := ⟨⟨by decide, by decide⟩, ⟨by decide, by decide⟩⟩
theorem AcAt.row {w : World} {L B : Nat} {l : List Ac} {a : Option Addr} (h : AcAt w L B l a) (k : Nat) : RAc (l.getD k noAc) := by
  by_cases hk : k < l.length
  · rcases h with rfl | ⟨_, _, _, _, h⟩
    · simp at hk
    · exact (h k hk).1
  · rw [List.getD_eq_getElem?_getD, List.getElem?_eq_none (by omega)]; exact rAc_no
/-- rows that came in -/
def IsAcs (W : World) (v : Value) : Prop := ∃ a cap l, v = .slice a (List.length l) cap ∧ AcAt W 0 W.heap.size l a ∧ l.length ≤ maxLen

theorem ac_build {w : World} {L B b off : Nat} (hB : L ≤ b ∧ b < B) : ∀ (m : Nat), (∀ i, i < m → ∃ f : Ac, RAc f ∧ w.cell? ⟨b, off + i * 2, none⟩ = some (.int .i64 f.kind) ∧ w.cell? ⟨b, off + i * 2 + 1, none⟩ = some (.int .i64 f.arg)) → ∃ l : List Ac, l.length = m ∧ AcAt w L B l (some ⟨b, off, none⟩) := by
  intro m
  induction m with
  | zero => intro _; exact ⟨[], rfl, .inl rfl⟩
  | succ m ih =>
    intro h
    obtain ⟨l, hl, hp⟩ := ih (fun i hi => h i (by omega))
    obtain ⟨f, hf⟩ := h m (by omega)
    refine ⟨l ++ [f], by simp [hl], .inr ⟨b, off, rfl, hB, fun i hi => ?_⟩⟩
    by_cases him : i = m
    · subst him
      have e : (l ++ [f]).getD i noAc = f := by rw [List.getD_eq_getElem?_getD, List.getElem?_append_right (by omega), hl, Nat.sub_self]; rfl
      rw [e]
      exact hf
    · have hi' : i < l.length := by simp at hi; omega
      have e : (l ++ [f]).getD i noAc = l.getD i noAc := by rw [List.getD_eq_getElem?_getD, List.getD_eq_getElem?_getD, List.getElem?_append_left hi']
      rw [e]
      rcases hp with hp | ⟨b', off', hbo, _, hall⟩
      · rw [hp] at hi'; simp at hi'
      · simp only [Option.some.injEq, Addr.mk.injEq] at hbo
        obtain ⟨rfl, rfl, _⟩ := hbo
        exact hall i hi'
/-- The first k rows are copied. -/
def HalfAc (l : List Ac) (xs : List Value) (k : Nat) : Prop := ∀ i, i < k → xs[i * 2]? = some (.int .i64 (l.getD i noAc).kind) ∧ xs[i * 2 + 1]? = some (.int .i64 (l.getD i noAc).arg)
def putAc (xs : List Value) (i : Nat) (x : Ac) : List Value := ((xs.set (i * 2) (.int .i64 x.kind)).set (i * 2 + 1) (.int .i64 x.arg))
theorem putAc_old {xs : List Value} {i : Nat} {x : Ac} {j : Nat} (h : j < i * 2) : (putAc xs i x)[j]? = xs[j]? := by
  unfold putAc
  iterate 2 rw [List.getElem?_set_ne (by omega)]
theorem putAc_new {xs : List Value} {i : Nat} {x : Ac} (h : i * 2 + 1 < xs.length) : (putAc xs i x)[i * 2]? = some (.int .i64 x.kind) ∧ (putAc xs i x)[i * 2 + 1]? = some (.int .i64 x.arg) := by
  unfold putAc
  refine ⟨?_, ?_⟩ <;> simp (disch := omega) [List.getElem?_set] <;> omega
theorem halfAc_step {l : List Ac} {xs : List Value} {k : Nat} (H : HalfAc l xs k) (hlen : k * 2 + 1 < xs.length) : HalfAc l (putAc xs k (l.getD k noAc)) (k + 1) := by
  intro i hi
  by_cases hik : i = k
  · subst hik; exact putAc_new hlen
  · obtain ⟨h0, h1⟩ := H i (by omega)
    exact ⟨(putAc_old (by omega)).trans h0, (putAc_old (by omega)).trans h1⟩
/-- The call answers a copy in a block of its own that may be written. -/
def FreshAc (w : World) (l : List Ac) (e : Ending) (w' : World) : Prop :=
  ∃ g, e = .returned (.slice (some ⟨g, 0, none⟩) l.length l.length) ∧ AcAt w' w.heap.size w'.heap.size l (some ⟨g, 0, none⟩) ∧ Wr w' w.heap.size w'.heap.size (l.length * 2) g ∧ Below w.heap.size w w'
/- marks -/
/-- so many rows bear the marks from k0 on -/
def MkAc (w : World) (g n k0 : Nat) : Prop := ∀ i, i < n → w.cell? ⟨g, i * 2, none⟩ = some (.int .i64 ((k0 + 2 * i + 0 : Nat) : Int)) ∧ w.cell? ⟨g, i * 2 + 1, none⟩ = some (.int .i64 ((k0 + 2 * i + 1 : Nat) : Int))
theorem MkAc.agree {w w' : World} {g n k0 : Nat} (h : MkAc w g n k0) (hb : w'.heap[g]? = w.heap[g]?) : MkAc w' g n k0 := by
  intro i hi
  obtain ⟨c0, c1⟩ := h i hi
  have cl : ∀ o v, w.cell? ⟨g, o, none⟩ = some v → w'.cell? ⟨g, o, none⟩ = some v := fun o v h => (World.cell?_of_block (a := ⟨g, o, none⟩) hb).trans h
  exact ⟨cl _ _ c0, cl _ _ c1⟩

end Go.Proofs.YtemmbacdilepgaaGreat
