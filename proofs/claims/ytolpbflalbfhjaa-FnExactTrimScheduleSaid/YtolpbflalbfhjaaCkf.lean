/- The program follows a schedule along a chain. -/
import Derived.Deep.RegionHeld3
import Derived.Deep.Cut
import Derived.Deep.CutRange
import Derived.Test.YtolpbflalbfhjaaCkp
import Derived.Test.YtolpbflalbfhjaaCkn
import Derived.Test.YtolpbflalbfhjaaRpv
namespace Go.Proofs.Ytolpbflalbfhjaa
open Go.RowKit
set_option linter.unusedVariables false

theorem have_then {P Q : Prop} (h : P) (k : P → Q) : Q := k h
theorem heap_al (w : World) (o : Obj) (X : Nat) : (w.alloc o).heap[X]? = if X = w.heap.size then some o else w.heap[X]? := by
  by_cases h : X = w.heap.size
  · subst h; rw [if_pos rfl]; exact heap_alloc_new w o
  · rw [if_neg h]
    by_cases h2 : X < w.heap.size
    · exact heap_alloc_old w o h2
    · rw [Array.getElem?_eq_none (by simp; omega), Array.getElem?_eq_none (by omega)]
theorem heap_dr (w : World) : w.drew.heap = w.heap := rfl
theorem made_zero {W w2 : World} {L X n : Nat} (hb : Below W.heap.size W w2) (hX : X < W.heap.size) (hW : W.heap[X]? = some (.cells (madeCells #[Value.int .i64 0] n) 2 (0, 0))) (hL : L ≤ X) (hn : n ≤ maxLen) : Own L w2 X n (List.replicate n 0) := by
  have hc : (List.map (Value.int .i64) (List.replicate n 0)).toArray = madeCells #[Value.int .i64 0] n := by
    rw [List.map_replicate, ← toList_madeCells_one]
  exact of_cells List.length_replicate hL hn (by rw [hc, hb.block X hX]; exact hW)
theorem Own.alloc {L : Nat} {w : World} {g cap : Nat} {l : List Int} (h : Own L w g cap l) (o : Obj) : Own L (w.alloc o) g cap l := World.ownsRow.alloc h o
theorem own_new {L : Nat} {w : World} {n : Nat} (hL : L ≤ w.heap.size) (hn : n ≤ maxLen) : Own L (w.alloc (.cells (madeCells #[Value.int .i64 0] n) 2)) w.heap.size n (List.replicate n 0) := by
  have hc : (List.map (Value.int .i64) (List.replicate n 0)).toArray = madeCells #[Value.int .i64 0] n := by
    rw [List.map_replicate, ← toList_madeCells_one]
  exact of_cells List.length_replicate hL hn (by rw [hc]; exact heap_alloc_new _ _)
theorem own_new' {L : Nat} {w : World} {h n : Nat} (hh : h = w.heap.size) (hL : L ≤ h) (hn : n ≤ maxLen) : Own L (w.alloc (.cells (madeCells #[Value.int .i64 0] n) 2)) h n (List.replicate n 0) := by subst hh; exact own_new hL hn
theorem cell_al {W : World} {p : Addr} {v : Value} (o : Obj) (h : W.cell? p = some v) : (W.alloc o).drew.cell? p = some v :=
  (((Below.refl W.heap.size W).alloc (Nat.le_refl _) o).cell (World.block_lt_of_cell? W p h)).trans h
theorem at_one {W : World} {b : Nat} {v : Int} (h1 : b < W.heap.size) (h2 : W.cell? ⟨b, 0, none⟩ = some (.int .i64 v)) : At W (some ⟨b, 0, none⟩) [v] :=
  .inr ⟨b, 0, rfl, h1, fun k hk => by obtain rfl : k = 0 := by simpa using hk
                                      exact h2⟩
/-- the beginning of the program's chain behind the region -/
def Begun (w1 : World) (n m : Nat) (v : Value) (W : World) : Prop :=
  ∃ B g h, v = Value.pointer (some ⟨B, 0, none⟩) ∧ Hid (ChAt W w1.heap.size B g h (cs0 n m) (List.replicate n 0)) ∧ Below w1.heap.size w1 W
abbrev aggC (n m g h : Nat) : Obj := .cells #[Value.int .i64 0, Value.int .i64 n, Value.slice (some ⟨g, 0, none⟩) m m, Value.slice (some ⟨h, 0, none⟩) n n] 67
theorem begun_of {w1 W : World} {n m B g h : Nat} (c0 : W.cell? ⟨B, 0, none⟩ = some (.int .i64 0)) (c1 : W.cell? ⟨B, 1, none⟩ = some (.int .i64 n)) (c2 : W.cell? ⟨B, 2, none⟩ = some (.slice (some ⟨g, 0, none⟩) m m)) (c3 : W.cell? ⟨B, 3, none⟩ = some (.slice (some ⟨h, 0, none⟩) n n))
    (f0 : W.frozen? ⟨B, 0, none⟩ = false) (f1 : W.frozen? ⟨B, 1, none⟩ = false) (hB : w1.heap.size ≤ B ∧ B < W.heap.size) (og : Own w1.heap.size W g m (List.replicate m (-1))) (oh : Own w1.heap.size W h n (List.replicate n 0)) (ne : g ≠ B ∧ h ≠ B ∧ g ≠ h) (hb : Below w1.heap.size w1 W) :
    Begun w1 n m (.pointer (some ⟨B, 0, none⟩)) W := by
  refine ⟨B, g, h, rfl, ⟨c0, c1, ?_, ?_, f0, f1, hB, ?_, ?_, ne⟩, hb⟩
  · rw [show (cs0 n m).slots.length = m from List.length_replicate]; exact c2
  · rw [List.length_replicate]; exact c3
  · rw [show (cs0 n m).slots.length = m from List.length_replicate]; exact og
  · rw [List.length_replicate]; exact oh
section
variable {w1 w2 : World} {n m g h B : Nat} (og : Own w1.heap.size w2 g m (List.replicate m (-1))) (HB : Below w1.heap.size w1 w2) (hn : n ≤ maxLen)
include og HB hn
theorem begun1 : Begun w1 n m (.pointer (some ⟨w2.heap.size + 1, 0, none⟩)) ((w2.alloc (.cells (madeCells #[Value.int .i64 0] n) 2)).alloc (aggC n m g w2.heap.size)) := by
  have hs := HB.size
  have hg := og.base
  have hz : (w2.alloc (.cells (madeCells #[Value.int .i64 0] n) 2)).heap.size = w2.heap.size + 1 := by simp
  rw [← hz]
  refine begun_of (g := g) (h := w2.heap.size) (by simp [go_sem]) (by simp [go_sem]) (by simp [go_sem]) (by simp [go_sem]) (by simp [go_sem]) (by simp [go_sem]) (by simp; omega) ((og.alloc _).alloc _) ((own_new hs hn).alloc _) (by rw [hz]; omega) ((HB.alloc hs _).alloc (by simp; omega) _)
theorem begun2 : Begun w1 n m (.pointer (some ⟨w2.heap.size, 0, none⟩)) ((w2.alloc (aggC n m g (w2.heap.size + 1))).alloc (.cells (madeCells #[Value.int .i64 0] n) 2)) := by
  have hs := HB.size
  have hg := og.base
  have oh : Own w1.heap.size ((w2.alloc (aggC n m g (w2.heap.size + 1))).alloc (.cells (madeCells #[Value.int .i64 0] n) 2)) (w2.heap.size + 1) n (List.replicate n 0) := own_new' (by simp) (by omega) hn
  have k : ∀ p v, (w2.alloc (aggC n m g (w2.heap.size + 1))).cell? p = some v → ((w2.alloc (aggC n m g (w2.heap.size + 1))).alloc (.cells (madeCells #[Value.int .i64 0] n) 2)).cell? p = some v := fun p v hh => cell_al _ hh
  have kf : ∀ o, ((w2.alloc (aggC n m g (w2.heap.size + 1))).alloc (.cells (madeCells #[Value.int .i64 0] n) 2)).frozen? ⟨w2.heap.size, o, none⟩ = (w2.alloc (aggC n m g (w2.heap.size + 1))).frozen? ⟨w2.heap.size, o, none⟩ := fun o =>
    (Kp.of_below (S := fun _ => False) ((Below.refl _ _).alloc (Nat.le_refl _) _)).fz (by simp) id
  refine begun_of (g := g) (h := w2.heap.size + 1) (k _ _ (by simp [go_sem])) (k _ _ (by simp [go_sem])) (k _ _ (by simp [go_sem])) (k _ _ (by simp [go_sem])) ((kf 0).trans (by simp [go_sem])) ((kf 1).trans (by simp [go_sem])) (by simp; omega) ((og.alloc _).alloc _) oh (by omega) ((HB.alloc hs _).alloc (by simp; omega) _)
omit hn in
theorem begun3 (oh : Own w1.heap.size w2 h n (List.replicate n 0)) (hgh : g ≠ h) : Begun w1 n m (.pointer (some ⟨w2.heap.size, 0, none⟩)) (w2.alloc (aggC n m g h)) := by
  have hs := HB.size
  have hg := og.base
  have hh := oh.base
  exact begun_of (g := g) (h := h) (by simp [go_sem]) (by simp [go_sem]) (by simp [go_sem]) (by simp [go_sem]) (by simp [go_sem]) (by simp [go_sem]) (by simp; omega) (og.alloc _) (oh.alloc _) (by omega) (HB.alloc hs _)
omit hn in
theorem begun4 (oh : Own w1.heap.size w2 h n (List.replicate n 0)) {v0 v1 v2 v3 : Value} (c0 : w2.cell? ⟨B, 0, none⟩ = some v0) (c1 : w2.cell? ⟨B, 1, none⟩ = some v1) (c2 : w2.cell? ⟨B, 2, none⟩ = some v2) (c3 : w2.cell? ⟨B, 3, none⟩ = some v3)
    (f0 : w2.frozen? ⟨B, 0, none⟩ = false) (f1 : w2.frozen? ⟨B, 1, none⟩ = false) (hB : w1.heap.size ≤ B) (hB2 : B < w2.heap.size) (hgB : g ≠ B) (hhB : h ≠ B) (hgh : g ≠ h) :
    Begun w1 n m (.pointer (some ⟨B, 0, none⟩)) ((((w2.setCell ⟨B, 0, none⟩ (.int .i64 0)).setCell ⟨B, 1, none⟩ (.int .i64 n)).setCell ⟨B, 2, none⟩ (.slice (some ⟨g, 0, none⟩) m m)).setCell ⟨B, 3, none⟩ (.slice (some ⟨h, 0, none⟩) n n)) := by
  have kk : Kp (fun i => i = B) w2 ((((w2.setCell ⟨B, 0, none⟩ (.int .i64 0)).setCell ⟨B, 1, none⟩ (.int .i64 n)).setCell ⟨B, 2, none⟩ (.slice (some ⟨g, 0, none⟩) m m)).setCell ⟨B, 3, none⟩ (.slice (some ⟨h, 0, none⟩) n n)) :=
    (((Kp.set (S := fun i => i = B) (p := ⟨B, 0, none⟩) rfl).trans (Kp.set (S := fun i => i = B) (p := ⟨B, 1, none⟩) rfl)).trans (Kp.set (S := fun i => i = B) (p := ⟨B, 2, none⟩) rfl)).trans (Kp.set (S := fun i => i = B) (p := ⟨B, 3, none⟩) rfl)
  have ot : ∀ (W : World) (i j : Nat) (v u : Value), i ≠ j → W.cell? ⟨B, i, none⟩ = some v → (W.setCell ⟨B, j, none⟩ u).cell? ⟨B, i, none⟩ = some v := fun W i j v u hij hc => by
    rw [World.cell?_setCell_other _ _ _ _ (by intro e; simp only [Addr.mk.injEq] at e; omega)]; exact hc
  have sm : ∀ (W : World) (i : Nat) (v u : Value), W.cell? ⟨B, i, none⟩ = some v → (W.setCell ⟨B, i, none⟩ u).cell? ⟨B, i, none⟩ = some u := fun W i v u hc => World.cell?_setCell_same _ _ _ hc
  refine begun_of (g := g) (h := h) (ot _ _ _ _ _ (by omega) (ot _ _ _ _ _ (by omega) (ot _ _ _ _ _ (by omega) (sm _ _ _ _ c0)))) (ot _ _ _ _ _ (by omega) (ot _ _ _ _ _ (by omega) (sm _ _ _ _ (ot _ _ _ _ _ (by omega) c1)))) (ot _ _ _ _ _ (by omega) (sm _ _ _ _ (ot _ _ _ _ _ (by omega) (ot _ _ _ _ _ (by omega) c2)))) (sm _ _ _ _ (ot _ _ _ _ _ (by omega) (ot _ _ _ _ _ (by omega) (ot _ _ _ _ _ (by omega) c3))))
    (by simp only [World.frozen?_setCell]; exact f0) (by simp only [World.frozen?_setCell]; exact f1) (by simp; omega) (og.keep kk hgB) (oh.keep kk hhB) ⟨hgB, hhB, hgh⟩ ((((HB.setCell hB _).setCell hB _).setCell hB _).setCell hB _)
theorem begun5 {v0 v1 v2 v3 : Value} (c0 : w2.cell? ⟨B, 0, none⟩ = some v0) (c1 : w2.cell? ⟨B, 1, none⟩ = some v1) (c2 : w2.cell? ⟨B, 2, none⟩ = some v2) (c3 : w2.cell? ⟨B, 3, none⟩ = some v3)
    (f0 : w2.frozen? ⟨B, 0, none⟩ = false) (f1 : w2.frozen? ⟨B, 1, none⟩ = false) (hB : w1.heap.size ≤ B) (hB2 : B < w2.heap.size) (hgB : g ≠ B) :
    Begun w1 n m (.pointer (some ⟨B, 0, none⟩)) (((((w2.setCell ⟨B, 0, none⟩ (.int .i64 0)).setCell ⟨B, 1, none⟩ (.int .i64 n)).setCell ⟨B, 2, none⟩ (.slice (some ⟨g, 0, none⟩) m m)).setCell ⟨B, 3, none⟩ (.slice (some ⟨w2.heap.size, 0, none⟩) n n)).alloc (.cells (madeCells #[Value.int .i64 0] n) 2)) := by
  have hg := og.base
  have hs := HB.size
  generalize hW : ((((w2.setCell ⟨B, 0, none⟩ (.int .i64 0)).setCell ⟨B, 1, none⟩ (.int .i64 n)).setCell ⟨B, 2, none⟩ (.slice (some ⟨g, 0, none⟩) m m)).setCell ⟨B, 3, none⟩ (.slice (some ⟨w2.heap.size, 0, none⟩) n n)) = W
  have hz : W.heap.size = w2.heap.size := by rw [← hW]; simp
  have kk : Kp (fun i => i = B) w2 W := by
    rw [← hW]; exact (((Kp.set (S := fun i => i = B) (p := ⟨B, 0, none⟩) rfl).trans (Kp.set (S := fun i => i = B) (p := ⟨B, 1, none⟩) rfl)).trans (Kp.set (S := fun i => i = B) (p := ⟨B, 2, none⟩) rfl)).trans (Kp.set (S := fun i => i = B) (p := ⟨B, 3, none⟩) rfl)
  have ot : ∀ (W : World) (i j : Nat) (v u : Value), i ≠ j → W.cell? ⟨B, i, none⟩ = some v → (W.setCell ⟨B, j, none⟩ u).cell? ⟨B, i, none⟩ = some v := fun W i j v u hij hc => by
    rw [World.cell?_setCell_other _ _ _ _ (by intro e; simp only [Addr.mk.injEq] at e; omega)]; exact hc
  have sm : ∀ (W : World) (i : Nat) (v u : Value), W.cell? ⟨B, i, none⟩ = some v → (W.setCell ⟨B, i, none⟩ u).cell? ⟨B, i, none⟩ = some u := fun W i v u hc => World.cell?_setCell_same _ _ _ hc
  have d0 : W.cell? ⟨B, 0, none⟩ = some (.int .i64 0) := by rw [← hW]; exact (ot _ _ _ _ _ (by omega) (ot _ _ _ _ _ (by omega) (ot _ _ _ _ _ (by omega) (sm _ _ _ _ c0))))
  have d1 : W.cell? ⟨B, 1, none⟩ = some (.int .i64 n) := by rw [← hW]; exact (ot _ _ _ _ _ (by omega) (ot _ _ _ _ _ (by omega) (sm _ _ _ _ (ot _ _ _ _ _ (by omega) c1))))
  have d2 : W.cell? ⟨B, 2, none⟩ = some (.slice (some ⟨g, 0, none⟩) m m) := by rw [← hW]; exact (ot _ _ _ _ _ (by omega) (sm _ _ _ _ (ot _ _ _ _ _ (by omega) (ot _ _ _ _ _ (by omega) c2))))
  have d3 : W.cell? ⟨B, 3, none⟩ = some (.slice (some ⟨w2.heap.size, 0, none⟩) n n) := by rw [← hW]; exact (sm _ _ _ _ (ot _ _ _ _ _ (by omega) (ot _ _ _ _ _ (by omega) (ot _ _ _ _ _ (by omega) c3))))
  have e0 : W.frozen? ⟨B, 0, none⟩ = false := by rw [← hW]; simp only [World.frozen?_setCell]; exact f0
  have e1 : W.frozen? ⟨B, 1, none⟩ = false := by rw [← hW]; simp only [World.frozen?_setCell]; exact f1
  have hbW : Below w1.heap.size w1 W := by rw [← hW]; exact (((HB.setCell hB _).setCell hB _).setCell hB _).setCell hB _
  have k2 : Kp (fun _ => False) W (W.alloc (.cells (madeCells #[Value.int .i64 0] n) 2)) := Kp.of_below ((Below.refl _ _).alloc (Nat.le_refl _) _)
  exact begun_of (g := g) (h := w2.heap.size) (k2.cell d0 id) (k2.cell d1 id) (k2.cell d2 id) (k2.cell d3 id) ((k2.fz (by omega) id).trans e0) ((k2.fz (by omega) id).trans e1) (by simp; omega) ((og.keep kk hgB).alloc _) (own_new' hz.symm (by omega) hn) (by omega) (hbW.alloc (by omega) _)
end

/-- the counts behind all actions that are possible -/
def goA (s : Cs) (adv : List Int) : List Ac → List Int
  | [] => adv
  | x :: r => if posB s x = true then goA (actS s x) (advA s x adv) r else adv
theorem goA_yes {s : Cs} {adv : List Int} {x : Ac} {r : List Ac} (h : posB s x = true) : goA s adv (x :: r) = goA (actS s x) (advA s x adv) r := if_pos h
theorem goA_no {s : Cs} {adv : List Int} {x : Ac} {r : List Ac} (h : posB s x = false) : goA s adv (x :: r) = adv := if_neg (by rw [h]; simp)
def FarA (s0 : Cs) (a0 : List Int) (l : List Ac) (k : Nat) (s : Cs) (adv : List Int) : Prop := goA s0 a0 l = goA s adv (l.drop k)
theorem farA0 (s0 : Cs) (a0 : List Int) (l : List Ac) : FarA s0 a0 l 0 s0 a0 := by unfold FarA; rw [List.drop_zero]
theorem FarA.step {s0 s : Cs} {a0 adv : List Int} {l : List Ac} {k : Nat} (h : FarA s0 a0 l k s adv) (hk : k < l.length) (hp : posB s (l.getD k noAc) = true) : FarA s0 a0 l (k + 1) (actS s (l.getD k noAc)) (advA s (l.getD k noAc) adv) := by
  unfold FarA at *; rw [h, drop_ac hk, goA_yes hp]
theorem FarA.stop {s0 s : Cs} {a0 adv : List Int} {l : List Ac} {k : Nat} (h : FarA s0 a0 l k s adv) (hk : k < l.length) (hp : posB s (l.getD k noAc) = false) : goA s0 a0 l = adv := by
  unfold FarA at h; rw [h, drop_ac hk, goA_no hp]
theorem FarA.full {s0 s : Cs} {a0 adv : List Int} {l : List Ac} {k : Nat} (h : FarA s0 a0 l k s adv) (hk : k = l.length) : goA s0 a0 l = adv := by
  unfold FarA at h; rw [h, hk, List.drop_length]; rfl
/-- all that holds behind k actions -/
structure Fin (n m : Nat) (l : List Ac) (k : Nat) (s : Cs) (adv : List Int) : Prop where
  far : Far (cs0 n m) l k s
  farA : FarA (cs0 n m) (List.replicate n 0) l k s adv
  iv : Iv n m s
  len : adv.length = n
  bd : ∀ i, 0 ≤ adv.getD i 0 ∧ adv.getD i 0 ≤ k
theorem fin0 (n m : Nat) (l : List Ac) : Fin n m l 0 (cs0 n m) (List.replicate n 0) :=
  ⟨far0 _ _, farA0 _ _ _, iv0 n m, List.length_replicate, fun i => by rw [getD_rep]; split <;> omega⟩
theorem Fin.step {n m : Nat} {l : List Ac} {k : Nat} {s : Cs} {adv : List Int} (h : Fin n m l k s adv) (hk : k < l.length) (hx : acB (l.getD k noAc) = true) (hp : posB s (l.getD k noAc) = true) : Fin n m l (k + 1) (actS s (l.getD k noAc)) (advA s (l.getD k noAc) adv) :=
  ⟨h.far.step hk hp, h.farA.step hk hp, h.iv.act hx hp, (advA_len _ _ _).trans h.len, fun i => by have := advA_bd (s := s) (x := l.getD k noAc) h.bd i; omega⟩
/-- the chain as a value -/
abbrev chv (s : Cs) (adv : List Int) (g h : Nat) : Value := .agg #[.int .i64 s.cur, .int .i64 s.left, .slice (some ⟨g, 0, none⟩) s.slots.length s.slots.length, .slice (some ⟨h, 0, none⟩) adv.length adv.length]
/-- what following a schedule that is one, within bounds, answers -/
def FolP (n m : Nat) (l : List Ac) (w : World) (e : Ending) (w' : World) : Prop :=
  ∃ s adv g h, e = .returned (.tuple #[chv s adv g h, .int .i64 ((goS (cs0 n m) l).1 : Nat), .int .i64 (if allB (cs0 n m) l = true then 0 else 4)]) ∧ s = (goS (cs0 n m) l).2 ∧ adv = goA (cs0 n m) (List.replicate n 0) l ∧ adv.length = n ∧ s.slots.length = m ∧ (∀ i, 0 ≤ adv.getD i 0 ∧ adv.getD i 0 ≤ 400) ∧ (∀ i, -1 ≤ s.slots.getD i 0) ∧
    Own w.heap.size w' g s.slots.length s.slots ∧ Own w.heap.size w' h adv.length adv ∧ Below w.heap.size w w'
/-- four cells of a block written -/
def put4c (W : World) (R : Nat) (v0 v1 v2 v3 : Value) : World := (((W.setCell ⟨R, 0, none⟩ v0).setCell ⟨R, 1, none⟩ v1).setCell ⟨R, 2, none⟩ v2).setCell ⟨R, 3, none⟩ v3
theorem put4c_cells {W : World} {R : Nat} {u0 u1 u2 u3 v0 v1 v2 v3 : Value} (c0 : W.cell? ⟨R, 0, none⟩ = some u0) (c1 : W.cell? ⟨R, 1, none⟩ = some u1) (c2 : W.cell? ⟨R, 2, none⟩ = some u2) (c3 : W.cell? ⟨R, 3, none⟩ = some u3) :
    (put4c W R v0 v1 v2 v3).cell? ⟨R, 0, none⟩ = some v0 ∧ (put4c W R v0 v1 v2 v3).cell? ⟨R, 1, none⟩ = some v1 ∧ (put4c W R v0 v1 v2 v3).cell? ⟨R, 2, none⟩ = some v2 ∧ (put4c W R v0 v1 v2 v3).cell? ⟨R, 3, none⟩ = some v3 := by
  have ot : ∀ (W : World) (i j : Nat) (v u : Value), i ≠ j → W.cell? ⟨R, i, none⟩ = some v → (W.setCell ⟨R, j, none⟩ u).cell? ⟨R, i, none⟩ = some v := fun W i j v u hij hc => by
    rw [World.cell?_setCell_other _ _ _ _ (by intro e; simp only [Addr.mk.injEq] at e; omega)]; exact hc
  have sm : ∀ (W : World) (i : Nat) (v u : Value), W.cell? ⟨R, i, none⟩ = some v → (W.setCell ⟨R, i, none⟩ u).cell? ⟨R, i, none⟩ = some u := fun W i v u hc => World.cell?_setCell_same _ _ _ hc
  exact ⟨ot _ _ _ _ _ (by omega) (ot _ _ _ _ _ (by omega) (ot _ _ _ _ _ (by omega) (sm _ _ _ _ c0))), ot _ _ _ _ _ (by omega) (ot _ _ _ _ _ (by omega) (sm _ _ _ _ (ot _ _ _ _ _ (by omega) c1))), ot _ _ _ _ _ (by omega) (sm _ _ _ _ (ot _ _ _ _ _ (by omega) (ot _ _ _ _ _ (by omega) c2))), sm _ _ _ _ (ot _ _ _ _ _ (by omega) (ot _ _ _ _ _ (by omega) (ot _ _ _ _ _ (by omega) c3)))⟩
theorem put4c_kp (W : World) (R : Nat) (v0 v1 v2 v3 : Value) : Kp (fun i => i = R) W (put4c W R v0 v1 v2 v3) :=
  (((Kp.set (S := fun i => i = R) (p := ⟨R, 0, none⟩) rfl).trans (Kp.set (S := fun i => i = R) (p := ⟨R, 1, none⟩) rfl)).trans (Kp.set (S := fun i => i = R) (p := ⟨R, 2, none⟩) rfl)).trans (Kp.set (S := fun i => i = R) (p := ⟨R, 3, none⟩) rfl)
/-- the end of following -/
theorem folP_end {n m : Nat} {l : List Ac} {w w1 W : World} {s : Cs} {adv : List Int} {g h i : Nat} {c : Int} (hR : w.heap.size < w1.heap.size) (HW : Below w.heap.size w w1) (hw : Below w1.heap.size w1 W) (hG : goS (cs0 n m) l = (i, s)) (hA : goA (cs0 n m) (List.replicate n 0) l = adv) (hc : c = if allB (cs0 n m) l = true then 0 else 4)
    (hF : Fin n m l i s adv) (hi : i ≤ 400) (og : Own w1.heap.size W g s.slots.length s.slots) (oh : Own w1.heap.size W h adv.length adv) (v0 v1 v2 v3 : Value) :
    FolP n m l w (.returned (.tuple #[chv s adv g h, .int .i64 i, .int .i64 c])) (put4c W w.heap.size v0 v1 v2 v3) := by
  have kp := put4c_kp W w.heap.size v0 v1 v2 v3
  have hz := hw.size
  refine ⟨s, adv, g, h, by rw [hG, hc], by rw [hG], hA.symm, hF.len, hF.iv.m, fun j => by have := hF.bd j; omega, hF.iv.s0, (og.keep kp (by have := og.base; omega)).mono (by omega), (oh.keep kp (by have := oh.base; omega)).mono (by omega), ?_⟩
  exact (HW.trans (hw.mono (by omega))).trans (kp.below (by omega) (fun k hk => by omega))
/-- the result's cells are there -/
structure Zc (W : World) (R : Nat) : Prop where
  p0 : W.cell? ⟨R, 0, none⟩ = some (.int .i64 0)
  p1 : W.cell? ⟨R, 1, none⟩ = some (.int .i64 0)
  p2 : W.cell? ⟨R, 2, none⟩ = some (.slice none 0 0)
  p3 : W.cell? ⟨R, 3, none⟩ = some (.slice none 0 0)
  f0 : W.frozen? ⟨R, 0, none⟩ = false
  f1 : W.frozen? ⟨R, 1, none⟩ = false
  f2 : W.frozen? ⟨R, 2, none⟩ = false
  f3 : W.frozen? ⟨R, 3, none⟩ = false
theorem Zc.below {W W' : World} {R L : Nat} (h : Zc W R) (hb : Below L W W') (hR : R < L) : Zc W' R :=
  ⟨(hb.cell (p := ⟨R, 0, none⟩) hR).trans h.p0, (hb.cell (p := ⟨R, 1, none⟩) hR).trans h.p1, (hb.cell (p := ⟨R, 2, none⟩) hR).trans h.p2, (hb.cell (p := ⟨R, 3, none⟩) hR).trans h.p3,
   (hb.frozen (p := ⟨R, 0, none⟩) hR).trans h.f0, (hb.frozen (p := ⟨R, 1, none⟩) hR).trans h.f1, (hb.frozen (p := ⟨R, 2, none⟩) hR).trans h.f2, (hb.frozen (p := ⟨R, 3, none⟩) hR).trans h.f3⟩
theorem zc_new (w : World) (t : TypeId) : Zc (w.alloc (.cells #[.int .i64 0, .int .i64 0, .slice none 0 0, .slice none 0 0] t)) w.heap.size :=
  ⟨by simp [go_sem], by simp [go_sem], by simp [go_sem], by simp [go_sem], by simp [go_sem], by simp [go_sem], by simp [go_sem], by simp [go_sem]⟩

set_option maxRecDepth 100000 in
set_option maxHeartbeats 6400000 in
theorem iFollow_0 (n m : Nat) (hn : n ≤ 40) (hm : m ≤ 8) (l : List Ac) (hl : schB l = true) (a : Option Addr) (cap : Nat) (w : World) (hP : AcAt w 0 w.heap.size l a) :
    Calls Try.prog 62 #[.slice a l.length cap, .int .i64 n, .int .i64 m] w (FolP n m l w) := by
  obtain ⟨i0, hi, hz0, hz1, hz2⟩ := info_parts info64
  have hmk : ∀ w : World, (Instr.makeSlice 22 (.int .i64 (n : Int)) (.int .i64 (n : Int))).run Try.prog w = .ok (.slice (some ⟨w.heap.size, 0, none⟩) n n) (w.alloc (.cells (madeCells #[Value.int .i64 0] n) 2)) := by
    intro w
    have := run_make (P := Try.prog) w 22 2 i0 (.int .i64 0) Try.underlying22 hi hz0 .i64 .i64 n n (by omega) (Int.le_refl _) (by rw [hz2]; omega) (by omega)
    simp only [Int.toNat_natCast] at this
    rw [this]
    simp [Value.cells, hz1]
  have HL := fun W hP => Lib.hid (iValidSchedule l a cap W hP (by have := (schB_t hl).1; omega))
  rw [hl] at HL
  have HN := fun W => Lib.hid (iIx n 41 W)
  have HS := fun W => Lib.hid (iIx m 9 W)
  have e1 : ixB n 41 = true := ixB_of (by omega)
  have e2 : ixB m 9 = true := ixB_of (by omega)
  rw [e1] at HN
  rw [e2] at HS
  clear e1 e2
  go_enter Try.func62, Try.ntmps62
  go_wp2_with fail
  refine (HL _ (hP.next ((Below.refl _ _).alloc (Nat.le_refl _) _))).out.mono ?_; rintro e w1 ⟨rfl, hb⟩
  go_wp2_with fail
  refine (HN _).out.mono ?_; rintro e w' ⟨rfl, rfl⟩
  go_wp2_with fail
  refine (HS _).out.mono ?_; rintro e w' ⟨rfl, rfl⟩
  clear HN HS HL
  go_wp2_with fail
  have HR := fun (a : Option Addr) (W : World) (hA : At W a [-1]) => Lib.hid (iRepeatV (-1) m a 1 W hA (by omega))
  have hw1 : w.heap.size < w1.heap.size := by have := hb.size; simp at this; omega
  have HZ1 : Hid (Zc w1 w.heap.size) := (zc_new w 67).below hb (by simp)
  have HW1 : Below w.heap.size w w1 := ((Below.refl _ _).alloc (Nat.le_refl _) _).trans (hb.mono (by simp))
  have hac := Lib.hid (fun i hi => schB_ac hl i hi)
  have hll := (schB_t hl).1
  have hm8 : m ≤ 1048576 := by omega
  have hmx : n ≤ maxLen := by unfold maxLen; omega
  go_cut [9] from 25 to 31 (fun s9 wx => ∃ B g h, s9 = Value.pointer (some ⟨B, 0, none⟩) ∧ Hid (ChAt wx w1.heap.size B g h (cs0 n m) (List.replicate n 0)) ∧ Below w1.heap.size w1 wx)
  case first =>
    go_region_held3 (fun _ => True) (trivial) ((go_at_call 81; refine (iRepeatV (-1) m _ 1 _ (at_one ?_ ?_) hm8).mono ?_; (focus (first | (simp; done) | (simp; omega))); (focus (first | (simp [go_sem]; done) | exact cell_al _ (by simp [go_sem]) | exact cell_al _ (cell_al _ (by simp [go_sem])))); rintro e w2 ⟨g, rfl, ho, hb2⟩; obtain ⟨hc2, hf2⟩ := tbcell hb2; have hz9 := hb2.size; have hg9 := ho.base; simp at hc2 hf2 hz9 hg9; (try (have x0 := hc2 (w1.heap.size + 1 + 1) 0 (by omega); have x1 := hc2 (w1.heap.size + 1 + 1) 1 (by omega); have x2 := hc2 (w1.heap.size + 1 + 1) 2 (by omega); have x3 := hc2 (w1.heap.size + 1 + 1) 3 (by omega); have xf0 := hf2 (w1.heap.size + 1 + 1) 0 (by omega); have xf1 := hf2 (w1.heap.size + 1 + 1) 1 (by omega); have xf2 := hf2 (w1.heap.size + 1 + 1) 2 (by omega); have xf3 := hf2 (w1.heap.size + 1 + 1) 3 (by omega); simp [go_sem] at x0 x1 x2 x3 xf0 xf1 xf2 xf3)); (try (have y0 := hc2 (w1.heap.size + 1) 0 (by omega); have y1 := hc2 (w1.heap.size + 1) 1 (by omega); have y2 := hc2 (w1.heap.size + 1) 2 (by omega); have y3 := hc2 (w1.heap.size + 1) 3 (by omega); have yf0 := hf2 (w1.heap.size + 1) 0 (by omega); have yf1 := hf2 (w1.heap.size + 1) 1 (by omega); have yf2 := hf2 (w1.heap.size + 1) 2 (by omega); have yf3 := hf2 (w1.heap.size + 1) 3 (by omega); simp [go_sem] at y0 y1 y2 y3 yf0 yf1 yf2 yf3)); (try (have z0 := hc2 (w1.heap.size) 0 (by omega); have z1 := hc2 (w1.heap.size) 1 (by omega); have z2 := hc2 (w1.heap.size) 2 (by omega); have z3 := hc2 (w1.heap.size) 3 (by omega); have zf0 := hf2 (w1.heap.size) 0 (by omega); have zf1 := hf2 (w1.heap.size) 1 (by omega); have zf2 := hf2 (w1.heap.size) 2 (by omega); have zf3 := hf2 (w1.heap.size) 3 (by omega); simp [go_sem] at z0 z1 z2 z3 zf0 zf1 zf2 zf3)); (have hzx : w1.heap.size < w2.heap.size := by omega); (try (refine have_then (P := Own w1.heap.size w2 (w1.heap.size + 1 + 1) n (List.replicate n 0)) ?_ ?_; (focus (refine made_zero hb2 ?_ ?_ ?_ hmx; (focus (first | (simp; done) | (simp; omega))); (focus ((repeat (first | rw [heap_dr] | rw [heap_al])); (first | (simp; done) | (simp +arith; done)))); (focus omega))); intro ox)); (try (refine have_then (P := Own w1.heap.size w2 (w1.heap.size + 1) n (List.replicate n 0)) ?_ ?_; (focus (refine made_zero hb2 ?_ ?_ ?_ hmx; (focus (first | (simp; done) | (simp; omega))); (focus ((repeat (first | rw [heap_dr] | rw [heap_al])); (first | (simp; done) | (simp +arith; done)))); (focus omega))); intro oy)); (try (refine have_then (P := Own w1.heap.size w2 (w1.heap.size) n (List.replicate n 0)) ?_ ?_; (focus (refine made_zero hb2 ?_ ?_ ?_ hmx; (focus (first | (simp; done) | (simp; omega))); (focus ((repeat (first | rw [heap_dr] | rw [heap_al])); (first | (simp; done) | (simp +arith; done)))); (focus omega))); intro oz)); (try (have hzz : w1.heap.size + 1 + 1 < w2.heap.size := by omega)); (try (have hzy : w1.heap.size + 1 < w2.heap.size := by omega)); clear hc2 hf2))
    all_goals
      have og : Own w1.heap.size w2 g m (List.replicate m (-1)) := ho.mono (by simp <;> omega)
      have HB2 : Below w1.heap.size w1 w2 := (show Below w1.heap.size w1 _ from by repeat (first | exact Below.refl _ _ | refine Below.drew ?_ | refine Below.alloc ?_ (by simp <;> omega) _)).trans (hb2.mono (by simp <;> omega))
      go_wp2_with fail
      go_meet
      case rel =>
        show Begun w1 n m _ _
        first
          | with_reducible exact begun1 og HB2 hmx
          | with_reducible exact begun2 og HB2 hmx
          | (with_reducible refine begun3 og HB2 ox ?_; omega)
          | (with_reducible refine begun3 og HB2 oy ?_; omega)
          | (with_reducible refine begun3 og HB2 oz ?_; omega)
          | (with_reducible refine begun5 og HB2 hmx x0 x1 x2 x3 xf0 xf1 ?_ ?_ ?_ <;> omega)
          | (with_reducible refine begun4 og HB2 oy x0 x1 x2 x3 xf0 xf1 ?_ ?_ ?_ ?_ ?_ <;> omega)
          | (with_reducible refine begun4 og HB2 oz x0 x1 x2 x3 xf0 xf1 ?_ ?_ ?_ ?_ ?_ <;> omega)
          | (with_reducible refine begun5 og HB2 hmx y0 y1 y2 y3 yf0 yf1 ?_ ?_ ?_ <;> omega)
          | (with_reducible refine begun4 og HB2 ox y0 y1 y2 y3 yf0 yf1 ?_ ?_ ?_ ?_ ?_ <;> omega)
          | (with_reducible refine begun4 og HB2 oz y0 y1 y2 y3 yf0 yf1 ?_ ?_ ?_ ?_ ?_ <;> omega)
          | (with_reducible refine begun5 og HB2 hmx z0 z1 z2 z3 zf0 zf1 ?_ ?_ ?_ <;> omega)
          | (with_reducible refine begun4 og HB2 ox z0 z1 z2 z3 zf0 zf1 ?_ ?_ ?_ ?_ ?_ <;> omega)
          | (with_reducible refine begun4 og HB2 oy z0 z1 z2 z3 zf0 zf1 ?_ ?_ ?_ ?_ ?_ <;> omega)
  case rest =>
    obtain ⟨B, g, h, rfl, HC, hbw⟩ := hcut
    clear HR hmk hz0 hz1 hz2 hi hb hmx hm8 hl
    go_wp2_with fail
    go_loopw [34] (fun q wr => ∃ (i : Nat) (s : Cs) (adv : List Int), i ≤ l.length ∧ q = .int .i64 i ∧ Hid (Fin n m l i s adv) ∧ Hid (ChAt wr w1.heap.size B g h s adv) ∧ Below w1.heap.size w1 wr) (fun q _ => l.length - (intOf q).toNat)
    case atStart => exact ⟨0, cs0 n m, List.replicate n 0, Nat.zero_le _, rfl, fin0 n m l, HC.out, hbw⟩
    case round =>
      obtain ⟨i, s, adv, hi, rfl, HF, HC, hw⟩ := hrel
      have HZ := Lib.hid (HZ1.out.below hw hw1)
      have HA := Lib.hid ((hP.next HW1).below hw)
      clear hbw
      by_cases hlt : i < l.length
      · have hii : (i : Int) < (l.length : Int) := by omega
        obtain ⟨b, off, rfl, hbB, hall⟩ := (HA.out.resolve_left (by intro e; rw [e] at hlt; simp at hlt))
        obtain ⟨hr, c0, c1⟩ := hall i hlt
        have hacx := hac.out i hlt
        have hsz := hw.size
        have HAl := fun (W : World) (hb : Below wr.heap.size wr W) => Lib.hid (iAllows n m s adv (l.getD i noAc) hacx HF.out.iv hn w1.heap.size B g h W (HC.out.next hb))
        have HDo := fun (W : World) (hp : posB s (l.getD i noAc) = true) (hb : Below wr.heap.size wr W) => Lib.hid (iDo n m s adv (l.getD i noAc) i hacx hp HF.out.iv hn HF.out.len (by omega) HF.out.bd w1.heap.size B g h W (HC.out.next hb))
        have HN := fun (hp : posB s (l.getD i noAc) = true) => Lib.hid (HF.out.step hlt hacx hp)
        have hlo := Lib.hid HC.out.lo
        clear hall hr hP HA hacx
        generalize hx : l.getD i noAc = x at *
        have B2 : ∀ o, Below wr.heap.size wr (wr.alloc o) := fun o => (Below.refl _ _).alloc (Nat.le_refl _) o
        go_wp2_with fail
        refine (HAl _ (B2 _)).out.mono ?_; rintro e w2 ⟨rfl, hb2⟩
        have q0 : w2.cell? ⟨wr.heap.size, 0, none⟩ = some (.int .i64 x.kind) := ((tbcell hb2).1 wr.heap.size 0 (by simp)).trans (by simp [go_sem])
        have q1 : w2.cell? ⟨wr.heap.size, 1, none⟩ = some (.int .i64 x.arg) := ((tbcell hb2).1 wr.heap.size 1 (by simp)).trans (by simp [go_sem])
        have B3 : Below wr.heap.size wr w2 := (B2 _).trans (hb2.mono (by simp))
        have hw2 := hw.trans (B3.mono hsz)
        have hz2 := B3.size
        clear HAl hb2 B2 c0 c1
        cases hp : posB s x with
        | true =>
          have HD := HDo w2 hp B3
          have HN2 := HN hp
          clear HDo HN hp hx
          go_wp2_with fail
          refine HD.out.mono ?_; rintro e w3 ⟨rfl, HC3, hk3⟩
          have HC4 := Lib.hid HC3
          have hw3 := hw2.trans (hk3.below (by omega) hlo.out)
          clear HD HC3 hk3 q0 q1 HC HF HZ B3
          go_wp2_with fail
          go_roundw
          case rel => exact ⟨i + 1, _, _, by omega, by go_num, HN2, HC4, hw3⟩
          case measure => simp [intOf]; omega
        | false =>
          have HC2 := Lib.hid (HC.out.next B3)
          have HZ2 := HZ.out.below (L := w1.heap.size) (B3.mono hsz) hw1
          obtain ⟨d0, d1, d2, d3, _, _, ltB, osl, oad, neB⟩ := HC2.out
          obtain ⟨p0, p1, p2, p3, f0, f1, f2, f3⟩ := HZ2
          have HG : Hid ((goS (cs0 n m) l) = (i, s) ∧ goA (cs0 n m) (List.replicate n 0) l = adv) := by
            subst hx; exact ⟨HF.out.far.stop hlt hp, HF.out.farA.stop hlt hp⟩
          have HE : Hid ((goS (cs0 n m) l).1 = i ∧ allB (cs0 n m) l = false) := ⟨by rw [HG.out.1], by unfold allB; rw [HG.out.1, decide_eq_false (by show ¬ i = l.length; omega), Bool.false_and]⟩
          have hlB := ltB.1
          have HOs := Lib.hid osl
          have HOa := Lib.hid oad
          have HL := Lib.hid HF.out.len
          have HM := Lib.hid HF.out.iv.m
          have HI := Lib.hid HF.out
          clear HDo HN hp hx HC HC2 HZ B3 osl oad ltB neB q0 q1 HF
          go_wp2_with fail
          obtain ⟨r0, r1, r2, r3⟩ := put4c_cells (v0 := .int .i64 s.cur) (v1 := .int .i64 s.left) (v2 := .slice (some ⟨g, 0, none⟩) s.slots.length s.slots.length) (v3 := .slice (some ⟨h, 0, none⟩) adv.length adv.length) p0 p1 p2 p3
          change bodyPost _ _ _ _ _ (put4c w2 w.heap.size (.int .i64 s.cur) (.int .i64 s.left) (.slice (some ⟨g, 0, none⟩) s.slots.length s.slots.length) (.slice (some ⟨h, 0, none⟩) adv.length adv.length))
          refine bodyPost_ret (v := .tuple #[chv s adv g h, .int .i64 i, .int .i64 4]) (by simp [results, Try.results62, go_sem, r0, r1, r2, r3]) rfl ?_
          exact folP_end hw1 HW1 hw2 HG.out.1 HG.out.2 (by rw [HE.out.2]; rfl) HI.out (by omega) HOs.out HOa.out _ _ _ _
      · have hii : ¬ (i : Int) < (l.length : Int) := by omega
        have hil : i = l.length := by omega
        have HG : Hid ((goS (cs0 n m) l) = (i, s) ∧ goA (cs0 n m) (List.replicate n 0) l = adv) := ⟨HF.out.far.full hil, HF.out.farA.full hil⟩
        obtain ⟨d0, d1, d2, d3, _, _, ltB, osl, oad, neB⟩ := HC.out
        obtain ⟨p0, p1, p2, p3, f0, f1, f2, f3⟩ := HZ.out
        have hlB := ltB.1
        have hlB2 := ltB.2
        have HOs := Lib.hid osl
        have HOa := Lib.hid oad
        have HL := Lib.hid HF.out.len
        have HI := Lib.hid HF.out
        have hl4 : i ≤ 400 := by omega
        subst hil
        obtain ⟨r0, r1, r2, r3⟩ := put4c_cells (v0 := .int .i64 s.cur) (v1 := .int .i64 s.left) (v2 := .slice (some ⟨g, 0, none⟩) s.slots.length s.slots.length) (v3 := .slice (some ⟨h, 0, none⟩) adv.length adv.length) p0 p1 p2 p3
        clear HC HZ osl oad ltB neB HF HA hac hP hll hi hlt
        by_cases hq : 0 < s.left
        · have HE : Hid (allB (cs0 n m) l = false) := by show _ = _; unfold allB; rw [HG.out.1, decide_eq_true (by show l.length = l.length; rfl), Bool.true_and]; exact decide_eq_false (by show ¬ s.left ≤ 0; omega)
          go_wp2_with fail
          change bodyPost _ _ _ _ _ (put4c wr w.heap.size (.int .i64 s.cur) (.int .i64 s.left) (.slice (some ⟨g, 0, none⟩) s.slots.length s.slots.length) (.slice (some ⟨h, 0, none⟩) adv.length adv.length))
          refine bodyPost_ret (v := .tuple #[chv s adv g h, .int .i64 l.length, .int .i64 4]) (by simp [results, Try.results62, go_sem, r0, r1, r2, r3]) rfl ?_
          exact folP_end hw1 HW1 hw HG.out.1 HG.out.2 (by rw [HE.out]; rfl) HI.out hl4 HOs.out HOa.out _ _ _ _
        · have HE : Hid (allB (cs0 n m) l = true) := by show _ = _; unfold allB; rw [HG.out.1, decide_eq_true (by show l.length = l.length; rfl), Bool.true_and]; exact decide_eq_true (by show s.left ≤ 0; omega)
          go_wp2_with fail
          change bodyPost _ _ _ _ _ (put4c wr w.heap.size (.int .i64 s.cur) (.int .i64 s.left) (.slice (some ⟨g, 0, none⟩) s.slots.length s.slots.length) (.slice (some ⟨h, 0, none⟩) adv.length adv.length))
          refine bodyPost_ret (v := .tuple #[chv s adv g h, .int .i64 l.length, .int .i64 0]) (by simp [results, Try.results62, go_sem, r0, r1, r2, r3]) rfl ?_
          exact folP_end hw1 HW1 hw HG.out.1 HG.out.2 (by rw [HE.out]; rfl) HI.out hl4 HOs.out HOa.out _ _ _ _


/-- what following answers where it is asked of no schedule, or out of bounds -/
def FolB (c : Int) (w : World) (e : Ending) (w' : World) : Prop :=
  e = .returned (.tuple #[.agg #[.int .i64 0, .int .i64 0, .slice none 0 0, .slice none 0 0], .int .i64 0, .int .i64 c]) ∧ Below w.heap.size w w'
set_option maxRecDepth 100000 in
set_option maxHeartbeats 3200000 in
theorem iFollow_b (l : List Ac) (a : Option Addr) (cap : Nat) (n s : Int) (w : World) (hP : AcAt w 0 w.heap.size l a) (hs : l.length ≤ 1048576) (hc : askC l n s ≠ 0) :
    Calls Try.prog 62 #[.slice a l.length cap, .int .i64 n, .int .i64 s] w (FolB (askC l n s) w) := by
  have HL := fun W hP => Lib.hid (iValidSchedule l a cap W hP hs)
  have HN := fun (W : World) => Lib.hid (iIx n 41 W)
  have HS := fun (W : World) => Lib.hid (iIx s 9 W)
  simp only [inB_ix (show (8 : Int) + 1 = 9 from rfl)] at HS
  simp only [inB_ix (show (40 : Int) + 1 = 41 from rfl)] at HN
  have z := zc_new w 67
  cases h0 : schB l with
  | false =>
    have HF : Hid (askC l n s = 1) := by show _ = _; simp [askC, h0]
    rw [h0] at HL; clear h0 HN HS hc
    go_enter Try.func62, Try.ntmps62
    go_wp2_with fail
    refine (HL _ (hP.next ((Below.refl _ _).alloc (Nat.le_refl _) _))).out.mono ?_; rintro e w1 ⟨rfl, hb⟩
    obtain ⟨p0, p1, p2, p3, f0, f1, f2, f3⟩ := z.below hb (by simp)
    obtain ⟨r0, r1, r2, r3⟩ := put4c_cells (v0 := .int .i64 0) (v1 := .int .i64 0) (v2 := .slice none 0 0) (v3 := .slice none 0 0) p0 p1 p2 p3
    go_wp2_with fail
    change bodyPost _ _ _ _ _ (put4c w1 w.heap.size (.int .i64 0) (.int .i64 0) (.slice none 0 0) (.slice none 0 0))
    refine bodyPost_ret (v := .tuple #[.agg #[.int .i64 0, .int .i64 0, .slice none 0 0, .slice none 0 0], .int .i64 0, .int .i64 1]) (by simp [results, Try.results62, go_sem, r0, r1, r2, r3]) rfl ⟨by rw [HF.out], ?_⟩
    exact (((Below.refl _ _).alloc (Nat.le_refl _) _).trans (hb.mono (by simp))).trans ((put4c_kp w1 w.heap.size _ _ _ _).below (by have := hb.size; simp at this; omega) (fun k hk => by omega))
  | true =>
    rw [h0] at HL
    cases h2 : inB n 0 40 with
    | false =>
      have HF : Hid (askC l n s = 2) := by show _ = _; simp [askC, h0, inR, h2]
      rw [h2] at HN; clear h0 h2 HS hc
      go_enter Try.func62, Try.ntmps62
      go_wp2_with fail
      refine (HL _ (hP.next ((Below.refl _ _).alloc (Nat.le_refl _) _))).out.mono ?_; rintro e w1 ⟨rfl, hb⟩
      obtain ⟨p0, p1, p2, p3, f0, f1, f2, f3⟩ := z.below hb (by simp)
      obtain ⟨r0, r1, r2, r3⟩ := put4c_cells (v0 := .int .i64 0) (v1 := .int .i64 0) (v2 := .slice none 0 0) (v3 := .slice none 0 0) p0 p1 p2 p3
      go_wp2_with fail
      refine (HN _).out.mono ?_; rintro e w' ⟨rfl, rfl⟩
      go_wp2_with fail
      change bodyPost _ _ _ _ _ (put4c w1 w.heap.size (.int .i64 0) (.int .i64 0) (.slice none 0 0) (.slice none 0 0))
      refine bodyPost_ret (v := .tuple #[.agg #[.int .i64 0, .int .i64 0, .slice none 0 0, .slice none 0 0], .int .i64 0, .int .i64 2]) (by simp [results, Try.results62, go_sem, r0, r1, r2, r3]) rfl ⟨by rw [HF.out], ?_⟩
      exact (((Below.refl _ _).alloc (Nat.le_refl _) _).trans (hb.mono (by simp))).trans ((put4c_kp w1 w.heap.size _ _ _ _).below (by have := hb.size; simp at this; omega) (fun k hk => by omega))
    | true =>
      have h1 : inB s 0 8 = false := by
        cases h1 : inB s 0 8 with
        | false => rfl
        | true => exfalso; apply hc; simp [askC, h0, inR, h2, h1]
      have HF : Hid (askC l n s = 2) := by show _ = _; simp [askC, h0, inR, h1]
      rw [h2] at HN; rw [h1] at HS; clear h0 h2 h1 hc
      go_enter Try.func62, Try.ntmps62
      go_wp2_with fail
      refine (HL _ (hP.next ((Below.refl _ _).alloc (Nat.le_refl _) _))).out.mono ?_; rintro e w1 ⟨rfl, hb⟩
      obtain ⟨p0, p1, p2, p3, f0, f1, f2, f3⟩ := z.below hb (by simp)
      obtain ⟨r0, r1, r2, r3⟩ := put4c_cells (v0 := .int .i64 0) (v1 := .int .i64 0) (v2 := .slice none 0 0) (v3 := .slice none 0 0) p0 p1 p2 p3
      go_wp2_with fail
      refine (HN _).out.mono ?_; rintro e w' ⟨rfl, rfl⟩
      go_wp2_with fail
      refine (HS _).out.mono ?_; rintro e w' ⟨rfl, rfl⟩
      go_wp2_with fail
      change bodyPost _ _ _ _ _ (put4c w1 w.heap.size (.int .i64 0) (.int .i64 0) (.slice none 0 0) (.slice none 0 0))
      refine bodyPost_ret (v := .tuple #[.agg #[.int .i64 0, .int .i64 0, .slice none 0 0, .slice none 0 0], .int .i64 0, .int .i64 2]) (by simp [results, Try.results62, go_sem, r0, r1, r2, r3]) rfl ⟨by rw [HF.out], ?_⟩
      exact (((Below.refl _ _).alloc (Nat.le_refl _) _).trans (hb.mono (by simp))).trans ((put4c_kp w1 w.heap.size _ _ _ _).below (by have := hb.size; simp at this; omega) (fun k hk => by omega))

end Go.Proofs.Ytolpbflalbfhjaa
