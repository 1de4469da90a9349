/- Lists of lists of numbers in memory: rows. -/
import Derived.Test.YtiimebiecihpkaaTal
import Derived.Test.YtiimebiecihpkaaTaj
namespace Go.Proofs.Ytiimebiecihpkaa
open Go.RowKit
set_option linter.unusedVariables false

/-- a list of numbers outside a block g -/
def Rw (w : World) (g : Nat) (a : Option Addr) (l : List Int) : Prop :=
  l = [] ∨ ∃ b off, a = some ⟨b, off, none⟩ ∧ b < w.heap.size ∧ b ≠ g ∧ ∀ k, k < l.length → w.cell? ⟨b, off + k, none⟩ = some (.int .i64 (l.getD k 0))
theorem Rw.at {w : World} {g : Nat} {a : Option Addr} {l : List Int} (h : Rw w g a l) : At w a l := by
  rcases h with h | ⟨b, off, h1, h2, _, h3⟩
  · exact .inl h
  · exact .inr ⟨b, off, h1, h2, h3⟩
theorem Rw.next {w w' : World} {g : Nat} {a : Option Addr} {l : List Int} (h : Rw w g a l) (hb : Below w.heap.size w w') : Rw w' g a l := by
  rcases h with h | ⟨b, off, h1, h2, h3, h4⟩
  · exact .inl h
  · exact .inr ⟨b, off, h1, Nat.lt_of_lt_of_le h2 hb.size, h3, fun k hk => (hb.cell (p := ⟨b, off + k, none⟩) h2).trans (h4 k hk)⟩
theorem Rw.grow {w w' : World} {g gg : Nat} {a : Option Addr} {l : List Int} (h : Rw w g a l) (hg : w.grownBy w' (some g)) (hgg : gg = g ∨ w.heap.size ≤ gg) : Rw w' gg a l := by
  rcases h with h | ⟨b, off, h1, h2, h3, h4⟩
  · exact .inl h
  · exact .inr ⟨b, off, h1, Nat.lt_of_lt_of_le h2 hg.size, by rcases hgg with e | e <;> omega, fun k hk => (World.cell?_of_block (a := ⟨b, off + k, none⟩) (hg.block b h2 (by intro e; cases e; exact h3 rfl))).trans (h4 k hk)⟩
theorem Own.rw {B : Nat} {w : World} {g cap : Nat} {l : List Int} (h : Own B w g cap l) {g0 : Nat} (h0 : g ≠ g0) : Rw w g0 (some ⟨g, 0, none⟩) l :=
  .inr ⟨g, 0, rfl, h.base.2, h0, fun k hk => by rw [Nat.zero_add]; exact h.cellAt k hk⟩

/-- rows: a slice of slices in a block g of the call's own, each row outside it -/
def Rws (w : World) (L g cap : Nat) (ls : List (List Int)) : Prop :=
  ∃ vs : List Value, w.ownsRow L 23 1 (.slice (some ⟨g, 0, none⟩) ls.length cap) ls.length vs ∧ ∀ i, i < ls.length → ∃ ai ci, vs[i]? = some (.slice ai (ls.getD i []).length ci) ∧ Rw w g ai (ls.getD i [])
theorem Rws.base {w : World} {L g cap : Nat} {ls : List (List Int)} (h : Rws w L g cap ls) : L ≤ g ∧ g < w.heap.size := by
  obtain ⟨vs, h1, _⟩ := h
  exact h1.lt g rfl
theorem Rws.next {w w' : World} {L g cap : Nat} {ls : List (List Int)} (h : Rws w L g cap ls) (hb : Below w.heap.size w w') : Rws w' L g cap ls := by
  obtain ⟨vs, h1, h2⟩ := h
  refine ⟨vs, h1.kept (below_grownBy hb) (.inr (by simp [Value.ownBlock])), fun i hi => ?_⟩
  obtain ⟨ai, ci, h3, h4⟩ := h2 i hi
  exact ⟨ai, ci, h3, h4.next hb⟩
theorem Rws.mono {w : World} {L L' g cap : Nat} {ls : List (List Int)} (h : Rws w L g cap ls) (hL : L' ≤ L) : Rws w L' g cap ls := by
  obtain ⟨vs, ⟨h0, h1⟩, h2⟩ := h
  refine ⟨vs, ⟨h0, ?_⟩, h2⟩
  rcases h1 with h1 | ⟨g', c', cur, e, hb, r⟩
  · exact .inl h1
  · exact .inr ⟨g', c', cur, e, Nat.le_trans hL hb, r⟩
theorem Rws.get {w : World} {L g cap : Nat} {ls : List (List Int)} (h : Rws w L g cap ls) {i : Nat} (hi : i < ls.length) : ∃ ai ci, w.cell? ⟨g, i, none⟩ = some (.slice ai (ls.getD i []).length ci) ∧ Rw w g ai (ls.getD i []) := by
  obtain ⟨vs, h1, h2⟩ := h
  obtain ⟨ai, ci, h3, h4⟩ := h2 i hi
  exact ⟨ai, ci, (h1.cellAt i (by omega)).trans h3, h4⟩
theorem Rws.frz {w : World} {L g cap : Nat} {ls : List (List Int)} (h : Rws w L g cap ls) (i : Nat) : w.frozen? ⟨g, i, none⟩ = false := by
  obtain ⟨vs, h1, _⟩ := h
  exact h1.frozenAt i
theorem rws_none (w : World) (B : Nat) (hB : B ≤ w.heap.size) : Rws (w.alloc (.cells #[] 23)) B w.heap.size 0 [] :=
  ⟨[], World.ownsRow_made w #[] 0 hB (by unfold maxLen; omega) rfl, fun i hi => by simp at hi⟩
theorem Rws.set {w : World} {L g cap : Nat} {ls : List (List Int)} (h : Rws w L g cap ls) (k : Nat) {a : Option Addr} {c : Nat} {r : List Int} (hr : Rw w g a r) : Rws (w.setCell ⟨g, k, none⟩ (.slice a r.length c)) L g cap (ls.set k r) := by
  have hb := h.base
  obtain ⟨vs, h1, h2⟩ := h
  have h1' := World.ownsRow.stored h1 k (.slice a r.length c)
  have keep : ∀ {a' : Option Addr} {r' : List Int}, Rw w g a' r' → Rw (w.setCell ⟨g, k, none⟩ (.slice a r.length c)) g a' r' := fun h => h.grow h1'.2 (.inl rfl)
  refine ⟨vs.set k (.slice a r.length c), by rw [List.length_set]; exact h1'.1, fun i hi => ?_⟩
  rw [List.length_set] at hi
  have hvl : vs.length = ls.length := by have := h1.1; omega
  by_cases hik : i = k
  · subst hik
    refine ⟨a, c, ?_, ?_⟩
    · rw [List.getElem?_set_self (by omega), List.getD_eq_getElem?_getD, List.getElem?_set_self hi]; rfl
    · rw [List.getD_eq_getElem?_getD, List.getElem?_set_self hi]; exact keep hr
  · obtain ⟨ai, ci, h3, h4⟩ := h2 i hi
    have e : (ls.set k r).getD i [] = ls.getD i [] := by rw [List.getD_eq_getElem?_getD, List.getD_eq_getElem?_getD, List.getElem?_set_ne (fun e => hik e.symm)]
    exact ⟨ai, ci, by rw [List.getElem?_set_ne (fun e => hik e.symm), e]; exact h3, by rw [e]; exact keep h4⟩
theorem gg_of {g gg H n c : Nat} {W : World} (hat : (Value.slice (some ⟨g, 0, none⟩) n c).ownBlock = some gg ∨ gg = H) (hW : W.heap.size = H) : gg = g ∨ W.heap.size ≤ gg := by
  rcases hat with e | e
  · simp [Value.ownBlock] at e; exact .inl e.symm
  · exact .inr (by omega)
/-- one row more: the temporary block, then the growth of block g -/
theorem rws_push {w w1 : World} {L g gg cc : Nat} {ls : List (List Int)} {vs : List Value} {a : Option Addr} {c : Nat} {r : List Int}
    (h2 : ∀ i, i < ls.length → ∃ ai ci, vs[i]? = some (.slice ai (ls.getD i []).length ci) ∧ Rw w g ai (ls.getD i [])) (hvl : vs.length = ls.length)
    (hr : Rw w g a r) (hown : w1.ownsRow L 23 1 (.slice (some ⟨gg, 0, none⟩) (ls.length + 1) cc) (ls.length + 1) (vs ++ [.slice a r.length c])) (hg : w.grownBy w1 (some g)) (hgg : gg = g ∨ w.heap.size ≤ gg) :
    Rws w1 L gg cc (ls ++ [r]) := by
  refine ⟨vs ++ [.slice a r.length c], by rw [List.length_append]; exact hown, fun i hi => ?_⟩
  by_cases hik : i = ls.length
  · subst hik
    refine ⟨a, c, ?_, ?_⟩
    · rw [List.getElem?_append_right (by omega), hvl, Nat.sub_self, List.getD_eq_getElem?_getD, List.getElem?_append_right (by omega), Nat.sub_self]; rfl
    · rw [List.getD_eq_getElem?_getD, List.getElem?_append_right (by omega), Nat.sub_self]; exact hr.grow hg hgg
  · rw [List.length_append, List.length_singleton] at hi
    have hi' : i < ls.length := by omega
    obtain ⟨ai, ci, h3, h4⟩ := h2 i hi'
    have e : (ls ++ [r]).getD i [] = ls.getD i [] := by rw [List.getD_eq_getElem?_getD, List.getD_eq_getElem?_getD, List.getElem?_append_left hi']
    exact ⟨ai, ci, by rw [List.getElem?_append_left (by omega), e]; exact h3, by rw [e]; exact h4.grow hg hgg⟩

set_option maxRecDepth 100000 in
theorem infoRow : (Try.prog.info? 23).map (fun i => (i.zero, i.size, i.bytes)) = some (some (.slice none 0 0), 1, 24) := by kernel_rfl

set_option maxRecDepth 100000 in
set_option maxHeartbeats 1600000 in
theorem sOwn (a : Option Addr) (ca : Nat) (l : List Int) (w : World) (ha : At w a l) (h1 : 1 ≤ l.length) (h2 : l.length ≤ 1048576) :
    Calls Try.prog 88 #[.slice a l.length ca] w (Fresh w l) := by
  obtain ⟨i0, hi, hz0, hz1, hz2⟩ := info_parts info64
  obtain ⟨b1, o1, rfl, hbl1, hc1⟩ := (ha.resolve_left (by intro e; rw [e] at h1; simp at h1))
  have hB0 := (Below.refl w.heap.size w).alloc (Nat.le_refl _) (.cells #[] 2)
  have hO0 := own_none w w.heap.size (Nat.le_refl _)
  have HN := Lib.hid (news_of_at (w := w) (w0 := w.alloc (.cells #[] 2)) (b := b1) (o := o1) (l := l) (fun k hk => (hB0.cell (p := ⟨b1, o1 + k, none⟩) hbl1).trans (hc1 k hk)))
  have hone : Hid (∀ u ∈ l.map (Value.int .i64), u.oneCell' = true) := ints_oneCell .i64 l
  clear hc1 ha
  go_enter Try.func88, Try.ntmps88
  go_wp2_with (at_builtin; refine wpList_append_lies _ rfl _ _ _ rfl w.heap.size 2 i0 _ 1 8 Try.underlying23 hi hz0 hz1 hz2 rfl (by omega) (.slice (some ⟨w.heap.size, 0, none⟩) 0 0) 0 [] rfl hO0 ⟨b1, o1, none⟩ l.length ca (l.map (Value.int .i64)) rfl (by rw [List.length_map, Nat.mul_one]) HN.out hone.out (by omega) (by unfold maxLen; omega) (by omega) (by simp) (w.heap.size + 1) (by simp) ?_; intro g cc w1 hown1 hgrow hat hlt1)
  have hw2 : Below w.heap.size w w1 := hB0.grown hgrow (by simp) (by intro q hq; simp [Value.ownBlock] at hq; omega)
  have ho3 : Own w.heap.size w1 g cc l := by unfold Own; simpa using hown1
  clear hown1 hgrow hat
  go_wp2_with fail
  go_ret
  exact ⟨g, cc, by simp, ho3, hw2⟩

/-- the rows of one number each -/
def ones (l : List Int) : List (List Int) := l.map fun x => cstl x 1

/-- a column -/
def coln (ls : List (List Int)) (k : Nat) : List Int := ls.map fun r => r.getD k 0
theorem coln_take {ls : List (List Int)} {k i : Nat} (h : i < ls.length) : coln (ls.take i) k ++ [(ls.getD i []).getD k 0] = coln (ls.take (i + 1)) k := by
  unfold coln
  rw [List.take_add_one, List.map_append, List.getD_eq_getElem?_getD (l := ls), List.getElem?_eq_getElem h]; rfl

/-- numbers at indices -/
def pick (l at_ : List Int) : List Int := at_.map fun k => l.getD k.toNat 0
theorem pick_take {l m : List Int} {i : Nat} (h : i < m.length) : pick l (m.take i) ++ [l.getD (m.getD i 0).toNat 0] = pick l (m.take (i + 1)) := by
  unfold pick
  rw [List.take_add_one, List.map_append, List.getD_eq_getElem?_getD (l := m), List.getElem?_eq_getElem h]; rfl

end Go.Proofs.Ytiimebiecihpkaa
