/- The model's table of least costs: what its levels are in memory, while they are made. -/
import Derived.Test.YtleebjjikpmgoaaClb
import Derived.Test.YtleebjjikpmgoaaTar
namespace Go.Proofs.Ytleebjjikpmgoaa
open Go.RowKit
set_option linter.unusedVariables false

/-- a level: m rows of n + 1 numbers, each in a block of its own -/
structure Lv (W : World) (L gc kc n m : Nat) (R : Nat → Nat) (F : Nat → Nat → Int) : Prop where
  top : W.ownsRow L 22 1 (.slice (some ⟨gc, 0, none⟩) m kc) m ((List.range m).map fun a => .slice (some ⟨R a, 0, none⟩) (n + 1) (n + 1))
  row : ∀ a, a < m → Own L W (R a) (n + 1) (tab (F a) (n + 1))
  ne : ∀ a, a < m → R a ≠ gc
  inj : ∀ a b, a < m → b < m → R a = R b → a = b
theorem Lv.base {W : World} {L gc kc n m : Nat} {R : Nat → Nat} {F : Nat → Nat → Int} (h : Lv W L gc kc n m R F) : L ≤ gc ∧ gc < W.heap.size := h.top.lt gc rfl
theorem Lv.next {W W' : World} {L gc kc n m : Nat} {R : Nat → Nat} {F : Nat → Nat → Int} (h : Lv W L gc kc n m R F) (hb : Below W.heap.size W W') : Lv W' L gc kc n m R F :=
  ⟨h.top.kept (below_grownBy hb) (.inr (by simp [Value.ownBlock])), fun a ha => (h.row a ha).kept hb (h.row a ha).base.2, h.ne, h.inj⟩
/-- another block grows -/
theorem Lv.by {W W' : World} {L gc kc n m g : Nat} {R : Nat → Nat} {F : Nat → Nat → Int} (h : Lv W L gc kc n m R F) (hg : W.grownBy W' (some g)) (hL : g < L) : Lv W' L gc kc n m R F := by
  have hb := h.base
  exact ⟨h.top.kept hg (.inr (by simp [Value.ownBlock]; omega)), fun a ha => (h.row a ha).keptBy hg (by have := (h.row a ha).base; intro e; cases e; omega), h.ne, h.inj⟩
theorem Lv.cell {W : World} {L gc kc n m : Nat} {R : Nat → Nat} {F : Nat → Nat → Int} (h : Lv W L gc kc n m R F) (a : Nat) (ha : a < m) : W.cell? ⟨gc, a, none⟩ = some (.slice (some ⟨R a, 0, none⟩) (n + 1) (n + 1)) := by
  rw [h.top.cellAt a (by omega), List.getElem?_map, List.getElem?_range ha]; rfl
theorem Lv.at {W : World} {L gc kc n m : Nat} {R : Nat → Nat} {F : Nat → Nat → Int} (h : Lv W L gc kc n m R F) (a b : Nat) (ha : a < m) (hb : b ≤ n) : W.cell? ⟨R a, b, none⟩ = some (.int .i64 (F a b)) := by
  have := (h.row a ha).cellAt b (by rw [tab_len]; omega)
  rw [tab_at (by omega)] at this; exact this
theorem Lv.to {W : World} {L gc kc n m : Nat} {R : Nat → Nat} {F F' : Nat → Nat → Int} (h : Lv W L gc kc n m R F) (he : ∀ a b, a < m → b ≤ n → F a b = F' a b) : Lv W L gc kc n m R F' :=
  ⟨h.top, fun a ha => by
    have e : tab (F a) (n + 1) = tab (F' a) (n + 1) := by unfold tab; exact List.map_congr_left (fun b hb => he a b ha (by have := List.mem_range.1 hb; omega))
    rw [← e]; exact h.row a ha, h.ne, h.inj⟩
/-- a number is written -/
theorem Lv.set {W : World} {L gc kc n m : Nat} {R : Nat → Nat} {F : Nat → Nat → Int} (h : Lv W L gc kc n m R F) (a b : Nat) (x : Int) (ha : a < m) (hb : b ≤ n) :
    Lv (W.setCell ⟨R a, b, none⟩ (.int .i64 x)) L gc kc n m R (fun a' b' => if a' = a ∧ b' = b then x else F a' b') := by
  refine ⟨h.top.kept (grownBy_set W (R a) b _) (.inr (by simp [Value.ownBlock]; exact fun e => h.ne a ha e.symm)), fun a' ha' => ?_, h.ne, h.inj⟩
  by_cases e : a' = a
  · subst e
    have h1 := (h.row a' ha').set b x
    have e2 : (tab (F a') (n + 1)).set b x = tab (fun b' => if a' = a' ∧ b' = b then x else F a' b') (n + 1) := by
      refine List.ext_getElem? fun i => ?_
      unfold tab
      rw [List.getElem?_set, List.getElem?_map, List.length_map, List.length_range]
      by_cases hi : b = i
      · subst hi; rw [if_pos rfl, if_pos (by omega), List.getElem?_map, List.getElem?_range (by omega)]; simp
      · rw [if_neg hi, List.getElem?_map]
        by_cases hi2 : i < n + 1
        · rw [List.getElem?_range hi2]; simp; intro e; exact absurd e.symm hi
        · rw [List.getElem?_eq_none (by simp; omega)]; rfl
    rw [e2] at h1; exact h1
  · have h1 := (h.row a' ha').setOther (p := ⟨R a, b, none⟩) (fun e2 => e (h.inj a' a ha' ha (by exact e2.symm))) (.int .i64 x)
    have e2 : tab (F a') (n + 1) = tab (fun b' => if a' = a ∧ b' = b then x else F a' b') (n + 1) := by
      unfold tab; exact List.map_congr_left (fun b' _ => by rw [if_neg (fun h => e h.1)])
    rw [e2] at h1; exact h1
/-- a row of zeros more -/
theorem lv_push {W W1 : World} {L gc gg kc cc n m g1 : Nat} {R : Nat → Nat} {F : Nat → Nat → Int} (h : Lv W L gc kc n m R F) (hr : Own L W g1 (n + 1) (fillz (n + 1) [])) (hgc : g1 ≠ gc) (hRn : ∀ a, a < m → R a ≠ g1)
    (hown : W1.ownsRow L 22 1 (.slice (some ⟨gg, 0, none⟩) (m + 1) cc) (m + 1) (((List.range m).map fun a => .slice (some ⟨R a, 0, none⟩) (n + 1) (n + 1)) ++ [.slice (some ⟨g1, 0, none⟩) (n + 1) (n + 1)])) (hg : W.grownBy W1 (some gc)) (hgg : gg = gc ∨ W.heap.size ≤ gg)
    (hF : ∀ b, F m b = 0) : Lv W1 L gg cc n (m + 1) (fun a => if a = m then g1 else R a) F := by
  have ez : fillz (n + 1) [] = tab (F m) (n + 1) := by
    rw [fillz_zero]; unfold tab
    refine List.ext_getElem? fun i => ?_
    rw [List.getElem?_replicate, List.getElem?_map]
    by_cases hi : i < n + 1
    · rw [if_pos hi, List.getElem?_range hi]; simp [hF]
    · rw [if_neg hi, List.getElem?_eq_none (by simp; omega)]; rfl
  have k1 : Own L W1 g1 (n + 1) (tab (F m) (n + 1)) := by rw [← ez]; exact hr.keptBy hg (by intro e; cases e; exact hgc rfl)
  refine ⟨?_, fun a ha => ?_, fun a ha => ?_, fun a b ha hb => ?_⟩
  · have e : ((List.range (m + 1)).map fun a => (Value.slice (some ⟨if a = m then g1 else R a, 0, none⟩) (n + 1) (n + 1))) = ((List.range m).map fun a => .slice (some ⟨R a, 0, none⟩) (n + 1) (n + 1)) ++ [.slice (some ⟨g1, 0, none⟩) (n + 1) (n + 1)] := by
      rw [List.range_succ, List.map_append]
      congr 1
      · exact List.map_congr_left (fun a ha => by have := List.mem_range.1 ha; rw [if_neg (by omega)])
      · simp
    rw [e]; exact hown
  · by_cases e : a = m
    · subst e; simp; exact k1
    · simp [e]; exact (h.row a (by omega)).keptBy hg (by intro e2; cases e2; exact h.ne a (by omega) rfl)
  · by_cases e : a = m
    · subst e; simp; rcases hgg with e | e
      · rw [e]; exact hgc
      · have := hr.base; omega
    · simp [e]; rcases hgg with e2 | e2
      · rw [e2]; exact h.ne a (by omega)
      · have := (h.row a (by omega)).base; omega
  · by_cases e1 : a = m
    · by_cases e2 : b = m
      · intro _; rw [e1, e2]
      · simp [e1, e2]; intro e; exact absurd e.symm (hRn b (by omega))
    · by_cases e2 : b = m
      · simp [e1, e2]; intro e; exact absurd e (hRn a (by omega))
      · simp [e1, e2]; exact h.inj a b (by omega) (by omega)

/-- a level that is only read -/
def LvR (W : World) (gc n B g : Nat) (F : Nat → Nat → Int) : Prop :=
  ∀ a, a ≤ n → ∃ ga ka, W.cell? ⟨gc, a, none⟩ = some (.slice (some ⟨ga, 0, none⟩) (n + 1) ka) ∧ ga < B ∧ ga ≠ g ∧ ∀ b, b ≤ n → W.cell? ⟨ga, b, none⟩ = some (.int .i64 (F a b))
theorem LvR.keep {S : Nat → Prop} {W W' : World} {gc n B g g' : Nat} {F : Nat → Nat → Int} (h : LvR W gc n B g F) (k : Kp S W W') (hS : ∀ b, S b → b = g ∨ B ≤ b) (hgc : gc < B ∧ gc ≠ g) (hg' : g' = g ∨ B ≤ g') : LvR W' gc n B g' F := by
  have hn : ∀ b, b < B → b ≠ g → ¬ S b := fun b h1 h2 h3 => by rcases hS b h3 with h | h <;> omega
  intro a ha
  obtain ⟨ga, ka, h1, h2, h3, h4⟩ := h a ha
  exact ⟨ga, ka, k.cell h1 (hn gc hgc.1 hgc.2), h2, by omega, fun b hb => k.cell (h4 b hb) (hn ga h2 h3)⟩
/-- a list of levels: all but the list's own block below B -/
def Ta (W : World) (L g kg n c B : Nat) (vs : List Value) (F : Nat → Nat → Nat → Int) : Prop :=
  ∀ i, i < c → ∃ gc kc, vs[i]? = some (.slice (some ⟨gc, 0, none⟩) (n + 1) kc) ∧ gc < B ∧ gc ≠ g ∧ LvR W gc n B g (F i)
theorem Ta.keep {S : Nat → Prop} {W W' : World} {L g g' kg n c B : Nat} {vs : List Value} {F : Nat → Nat → Nat → Int} (h : Ta W L g kg n c B vs F) (k : Kp S W W') (hS : ∀ b, S b → b = g ∨ B ≤ b) (hg' : g' = g ∨ B ≤ g') : Ta W' L g' kg n c B vs F := by
  intro i hi
  obtain ⟨gc, kc, h1, h2, h3, h4⟩ := h i hi
  exact ⟨gc, kc, h1, h2, by omega, h4.keep k hS ⟨h2, h3⟩ hg'⟩
theorem Lv.r {W : World} {L gc kc n : Nat} {R : Nat → Nat} {F : Nat → Nat → Int} (h : Lv W L gc kc n (n + 1) R F) {g B : Nat} (hg : ∀ a, a ≤ n → g ≠ R a) (hB : W.heap.size ≤ B) : LvR W gc n B g F := fun a ha =>
  ⟨R a, n + 1, h.cell a (by omega), by have := (h.row a (by omega)).base; omega, fun e => hg a ha e.symm, fun b hb => h.at a b (by omega) hb⟩
/-- a list of levels, the last of them still open -/
theorem ta_tb3 {W : World} {L Lc g kg n c B gc kc : Nat} {vs : List Value} {R : Nat → Nat} {F : Nat → Nat → Nat → Int} {G : Nat → Nat → Int} (h : Ta W L g kg n c B vs F) (hl : vs.length = c) (hv : W.ownsRow L 57 1 (.slice (some ⟨g, 0, none⟩) (c + 1) kg) (c + 1) (vs ++ [.slice (some ⟨gc, 0, none⟩) (n + 1) kc]))
    (hl2 : Lv W Lc gc kc n (n + 1) R G) : Tb3 W g (c + 1) n (fun i => if i = c then G else F i) := by
  intro i hi
  by_cases e : i = c
  · subst e
    refine ⟨gc, kc, ?_, fun a ha => ⟨R a, n + 1, hl2.cell a (by omega), fun b hb => by simp; exact hl2.at a b (by omega) hb⟩⟩
    rw [hv.cellAt i (by omega), List.getElem?_append_right (by omega), hl]; simp
  · obtain ⟨g1, k1, h1, h2, h3, h4⟩ := h i (by omega)
    refine ⟨g1, k1, ?_, fun a ha => ?_⟩
    · rw [hv.cellAt i (by omega), List.getElem?_append_left (by omega)]; exact h1
    · obtain ⟨ga, ka, q1, q2, q3, q4⟩ := h4 a ha
      exact ⟨ga, ka, q1, fun b hb => by simp [e]; exact q4 b hb⟩
/-- the open level is filled: it is one of the list's -/
theorem ta_full {W : World} {L Lc g kg n c B gc kc : Nat} {vs : List Value} {R : Nat → Nat} {F : Nat → Nat → Nat → Int} (h : Ta W L g kg n c B vs F) (hl : vs.length = c) (hB : B ≤ W.heap.size) (hng : g ≠ gc) (hg : ∀ a, a ≤ n → g ≠ R a) (hl2 : Lv W Lc gc kc n (n + 1) R (F c)) :
    Ta W L g kg n (c + 1) W.heap.size (vs ++ [.slice (some ⟨gc, 0, none⟩) (n + 1) kc]) F := by
  intro i hi
  by_cases e : i = c
  · subst e
    have hb := hl2.base
    exact ⟨gc, kc, by rw [List.getElem?_append_right (by omega), hl]; simp, hb.2, fun e => hng e.symm, hl2.r hg (Nat.le_refl _)⟩
  · obtain ⟨g1, k1, h1, h2, h3, h4⟩ := h i (by omega)
    exact ⟨g1, k1, by rw [List.getElem?_append_left (by omega)]; exact h1, by omega, h3, fun a ha => by obtain ⟨ga, ka, q1, q2, q3, q4⟩ := h4 a ha; exact ⟨ga, ka, q1, by omega, q3, q4⟩⟩

end Go.Proofs.Ytleebjjikpmgoaa
