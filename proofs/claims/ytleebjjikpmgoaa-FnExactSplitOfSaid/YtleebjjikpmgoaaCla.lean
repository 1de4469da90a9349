/- Least costs, plainly: the recursion that the program's table and the model's follow. -/
import Derived.Test.YtleebjjikpmgoaaSmk
namespace Go.Proofs.Ytleebjjikpmgoaa
open Go.RowKit
set_option linter.unusedVariables false

/-- the first least cost among the k places from m on that are allowed, beside what was found before: the program's way (0: none yet) -/
def spl (cost : Nat → Int) (ok : Nat → Bool) : Nat → Nat → Nat × Int → Nat × Int
  | 0, _, r => r
  | k + 1, m, r => spl cost ok k (m + 1) (if ok m = true then (if r.1 = 0 ∨ cost m < r.2 then (m, cost m) else r) else r)
/-- the model's way (below 0: none yet) -/
def splM (cost : Nat → Int) (ok : Nat → Bool) : Nat → Nat → Nat × Int → Nat × Int
  | 0, _, r => r
  | k + 1, m, r => splM cost ok k (m + 1) (if ok m = true then (if r.2 < 0 ∨ cost m < r.2 then (m, cost m) else r) else r)
theorem spl_congr {c1 c2 : Nat → Int} {o1 o2 : Nat → Bool} : ∀ (k m : Nat) (r : Nat × Int), (∀ j, m ≤ j → j < m + k → o1 j = o2 j ∧ (o1 j = true → c1 j = c2 j)) → spl c1 o1 k m r = spl c2 o2 k m r
  | 0, _, _, _ => rfl
  | k + 1, m, r, h => by
    have h0 := h m (Nat.le_refl _) (by omega)
    rw [spl, spl, ← h0.1]
    cases ho : o1 m with
    | false => rw [if_neg (by simp), if_neg (by simp)]; exact spl_congr k (m + 1) _ (fun j h1 h2 => h j (by omega) (by omega))
    | true => rw [if_pos rfl, if_pos rfl, h0.2 ho]; exact spl_congr k (m + 1) _ (fun j h1 h2 => h j (by omega) (by omega))
/-- once a place is found, both ways agree -/
theorem splM_eq {cost : Nat → Int} {ok : Nat → Bool} : ∀ (k m : Nat) (r : Nat × Int), (∀ j, m ≤ j → j < m + k → ok j = true → 0 ≤ cost j) → 1 ≤ m → 1 ≤ r.1 → 0 ≤ r.2 → splM cost ok k m r = spl cost ok k m r
  | 0, _, _, _, _, _, _ => rfl
  | k + 1, m, r, h, hm, h1, h2 => by
    rw [splM, spl]
    have e : (if ok m = true then (if r.2 < 0 ∨ cost m < r.2 then (m, cost m) else r) else r) = (if ok m = true then (if r.1 = 0 ∨ cost m < r.2 then (m, cost m) else r) else r) := by
      by_cases ho : ok m = true
      · rw [if_pos ho, if_pos ho]
        by_cases hc : cost m < r.2
        · rw [if_pos (.inr hc), if_pos (.inr hc)]
        · rw [if_neg (by omega), if_neg (by omega)]
      · rw [if_neg ho, if_neg ho]
    rw [e]
    refine splM_eq k (m + 1) _ (fun j a b => h j (by omega) (by omega)) (by omega) ?_ ?_
    · split
      · split
        · exact hm
        · exact h1
      · exact h1
    · split
      · rename_i ho
        split
        · exact h m (Nat.le_refl _) (by omega) ho
        · exact h2
      · exact h2
/-- from nothing found on: the model's way ends where the program's does, if a place is allowed; else at -1 -/
theorem splM_start {cost : Nat → Int} {ok : Nat → Bool} : ∀ (k m : Nat), (∀ j, m ≤ j → j < m + k → ok j = true → 0 ≤ cost j) → 1 ≤ m → (∃ j, m ≤ j ∧ j < m + k ∧ ok j = true) → splM cost ok k m (0, -1) = spl cost ok k m (0, 0)
  | 0, m, _, _, ⟨j, h1, h2, _⟩ => by omega
  | k + 1, m, h, hm, hex => by
    rw [splM, spl]
    cases ho : ok m with
    | true =>
      rw [if_pos rfl, if_pos rfl, if_pos (.inl (by decide)), if_pos (.inl rfl)]
      exact splM_eq k (m + 1) _ (fun j a b => h j (by omega) (by omega)) (by omega) hm (h m (Nat.le_refl _) (by omega) ho)
    | false =>
      rw [if_neg (by simp), if_neg (by simp)]
      refine splM_start k (m + 1) (fun j a b => h j (by omega) (by omega)) (by omega) ?_
      obtain ⟨j, h1, h2, h3⟩ := hex
      refine ⟨j, ?_, by omega, h3⟩
      rcases Nat.lt_or_ge m j with h | h
      · omega
      · have : j = m := by omega
        rw [this, ho] at h3; cases h3
theorem splM_none {cost : Nat → Int} {ok : Nat → Bool} : ∀ (k m : Nat) (r : Nat × Int), (∀ j, m ≤ j → j < m + k → ok j = false) → splM cost ok k m r = r
  | 0, _, _, _ => rfl
  | k + 1, m, r, h => by
    rw [splM, if_neg (by rw [h m (Nat.le_refl _) (by omega)]; simp)]
    exact splM_none k (m + 1) r (fun j a b => h j (by omega) (by omega))
/-- what the program's way finds is not above an allowed place's cost, and is some allowed place's (if any is) -/
theorem spl_le {cost : Nat → Int} {ok : Nat → Bool} : ∀ (k m : Nat) (r : Nat × Int), 1 ≤ m → (1 ≤ r.1 → (spl cost ok k m r).2 ≤ r.2 ∧ 1 ≤ (spl cost ok k m r).1) ∧ ∀ j, m ≤ j → j < m + k → ok j = true → (spl cost ok k m r).2 ≤ cost j ∧ 1 ≤ (spl cost ok k m r).1
  | 0, m, r, _ => ⟨fun h => ⟨Int.le_refl _, h⟩, fun j h1 h2 _ => by omega⟩
  | k + 1, m, r, hm => by
    rw [spl]
    by_cases ho : ok m = true
    · rw [if_pos ho]
      by_cases hc : r.1 = 0 ∨ cost m < r.2
      · rw [if_pos hc]
        obtain ⟨i1, i2⟩ := spl_le (cost := cost) (ok := ok) k (m + 1) (m, cost m) (by omega)
        refine ⟨fun h => ⟨?_, (i1 hm).2⟩, fun j h1 h2 h3 => ?_⟩
        · have := (i1 hm).1
          rcases hc with hc | hc
          · omega
          · have e : (m, cost m).2 = cost m := rfl
            rw [e] at this; omega
        · rcases Nat.lt_or_ge m j with h | h
          · exact i2 j (by omega) (by omega) h3
          · have : j = m := by omega
            rw [this]; exact i1 hm
      · rw [if_neg hc]
        obtain ⟨i1, i2⟩ := spl_le (cost := cost) (ok := ok) k (m + 1) r (by omega)
        refine ⟨i1, fun j h1 h2 h3 => ?_⟩
        rcases Nat.lt_or_ge m j with h | h
        · exact i2 j (by omega) (by omega) h3
        · have : j = m := by omega
          rw [this]
          have := i1 (by omega)
          exact ⟨by omega, this.2⟩
    · rw [if_neg ho]
      obtain ⟨i1, i2⟩ := spl_le (cost := cost) (ok := ok) k (m + 1) r (by omega)
      refine ⟨i1, fun j h1 h2 h3 => ?_⟩
      rcases Nat.lt_or_ge m j with h | h
      · exact i2 j (by omega) (by omega) h3
      · have : j = m := by omega
        rw [this] at h3; exact absurd h3 ho
theorem spl_nn {cost : Nat → Int} {ok : Nat → Bool} : ∀ (k m : Nat) (r : Nat × Int), (∀ j, m ≤ j → j < m + k → ok j = true → 0 ≤ cost j) → 0 ≤ r.2 → 0 ≤ (spl cost ok k m r).2
  | 0, _, _, _, h => h
  | k + 1, m, r, h, hr => by
    rw [spl]
    refine spl_nn k (m + 1) _ (fun j a b => h j (by omega) (by omega)) ?_
    split
    · rename_i ho
      split
      · exact h m (Nat.le_refl _) (by omega) ho
      · exact hr
    · exact hr
/-- a place may be the split of steps up to b, with c slots -/
def okM (c b m : Nat) : Bool := decide (b - m ≤ 1) || decide (2 ≤ c)
/-- the least cost of the steps a to b - 1 with c slots (c at least 1 where there are two steps) -/
def lcF (w : List Int) : Nat → Nat → Nat → Nat → Int
  | 0, _, _, _ => 0
  | f + 1, c, a, b => if b - a < 2 then 0 else (spl (fun m => sumK w m - sumK w a + lcF w f (c - 1) m b + lcF w f c a m) (okM c b) (b - a - 1) (a + 1) (0, 0)).2
theorem lcF_fuel (w : List Int) : ∀ (f g c a b : Nat), b - a ≤ f → b - a ≤ g → lcF w f c a b = lcF w g c a b
  | 0, 0, _, _, _, _, _ => rfl
  | 0, g + 1, c, a, b, h, _ => by rw [lcF, lcF, if_pos (by omega)]
  | f + 1, 0, c, a, b, _, h => by rw [lcF, lcF, if_pos (by omega)]
  | f + 1, g + 1, c, a, b, h1, h2 => by
    rw [lcF, lcF]
    split
    · rfl
    · rw [spl_congr (c2 := fun m => sumK w m - sumK w a + lcF w g (c - 1) m b + lcF w g c a m) (o2 := okM c b) (b - a - 1) (a + 1) (0, 0) (fun j h3 h4 => ⟨rfl, fun _ => by
        show sumK w j - sumK w a + lcF w f (c - 1) j b + lcF w f c a j = _
        rw [lcF_fuel w f g (c - 1) j b (by omega) (by omega), lcF_fuel w f g c a j (by omega) (by omega)]⟩)]
def lcK (w : List Int) (c a b : Nat) : Int := lcF w (b - a) c a b
/-- the split of the steps and its cost, by the program's way -/
def spK (w : List Int) (c a b : Nat) : Nat × Int := spl (fun m => sumK w m - sumK w a + lcK w (c - 1) m b + lcK w c a m) (okM c b) (b - a - 1) (a + 1) (0, 0)
theorem lcK_small {w : List Int} {c a b : Nat} (h : b - a < 2) : lcK w c a b = 0 := by
  unfold lcK
  cases hf : b - a with
  | zero => rfl
  | succ f => rw [lcF, if_pos h]
theorem lcK_eq {w : List Int} {c a b : Nat} (h : ¬ b - a < 2) : lcK w c a b = (spK w c a b).2 := by
  unfold lcK spK
  obtain ⟨f, hf⟩ : ∃ f, b - a = f + 1 := ⟨b - a - 1, by omega⟩
  rw [hf, lcF, if_neg h]
  rw [spl_congr (c2 := fun m => sumK w m - sumK w a + lcK w (c - 1) m b + lcK w c a m) (o2 := okM c b) (b - a - 1) (a + 1) (0, 0) (fun j h3 h4 => ⟨rfl, fun _ => by
    show sumK w j - sumK w a + lcF w f (c - 1) j b + lcF w f c a j = sumK w j - sumK w a + lcF w (b - j) (c - 1) j b + lcF w (j - a) c a j
    rw [lcF_fuel w f (b - j) (c - 1) j b (by omega) (by omega), lcF_fuel w f (j - a) c a j (by omega) (by omega)]⟩), hf]
theorem sumK_mono {w : List Int} (hw : ∀ k, 0 ≤ w.getD k 0 ∧ w.getD k 0 ≤ 1000) (a : Nat) : ∀ d : Nat, 0 ≤ sumK w (a + d) - sumK w a ∧ sumK w (a + d) - sumK w a ≤ 1000 * d
  | 0 => by simp
  | d + 1 => by
    have h1 := sumK_mono hw a d
    have h2 := hw (a + d)
    rw [show a + (d + 1) = (a + d) + 1 by omega, sumK]
    omega
/-- a cost is not below 0, and is bounded -/
theorem lcK_bd {w : List Int} (hw : ∀ k, 0 ≤ w.getD k 0 ∧ w.getD k 0 ≤ 1000) : ∀ (n c a b : Nat), b - a ≤ n → 0 ≤ lcK w c a b ∧ (1 ≤ c → b ≤ 40 → lcK w c a b ≤ 40000 * ((b - a : Nat) : Int))
  | 0, c, a, b, h => by rw [lcK_small (by omega)]; exact ⟨Int.le_refl _, fun _ _ => by omega⟩
  | n + 1, c, a, b, h => by
    by_cases hs : b - a < 2
    · rw [lcK_small hs]; exact ⟨Int.le_refl _, fun _ _ => by omega⟩
    · rw [lcK_eq hs]
      refine ⟨spl_nn _ _ _ (fun j h1 h2 _ => ?_) (Int.le_refl _), fun hc hb => ?_⟩
      · have s := (sumK_mono hw a (j - a)).1
        rw [show a + (j - a) = j by omega] at s
        have l1 := (lcK_bd hw n (c - 1) j b (by omega)).1
        have l2 := (lcK_bd hw n c a j (by omega)).1
        show 0 ≤ sumK w j - sumK w a + lcK w (c - 1) j b + lcK w c a j
        omega
      · have hle := ((spl_le (cost := fun m => sumK w m - sumK w a + lcK w (c - 1) m b + lcK w c a m) (ok := okM c b) (b - a - 1) (a + 1) (0, 0) (by omega)).2 (b - 1) (by omega) (by omega) (by simp [okM]; omega)).1
        have s := (sumK_mono hw a (b - 1 - a)).2
        rw [show a + (b - 1 - a) = b - 1 by omega] at s
        have l1 : lcK w (c - 1) (b - 1) b = 0 := lcK_small (by omega)
        have l2 := (lcK_bd hw n c a (b - 1) (by omega)).2 hc (by omega)
        have hle : (spK w c a b).2 ≤ sumK w (b - 1) - sumK w a + lcK w (c - 1) (b - 1) b + lcK w c a (b - 1) := hle
        rw [l1] at hle
        omega
/-- the model's table at some place: -1 where there is no cost -/
def tbM (w : List Int) (c a b : Nat) : Int := if b - a < 2 then 0 else if c = 0 then -1 else lcK w c a b

theorem tbM_nn {w : List Int} (hw : ∀ k, 0 ≤ w.getD k 0 ∧ w.getD k 0 ≤ 1000) {c a b : Nat} : tbM w c a b < 0 ↔ 2 ≤ b - a ∧ c = 0 := by
  unfold tbM
  by_cases h1 : b - a < 2
  · rw [if_pos h1]; omega
  · rw [if_neg h1]
    by_cases h2 : c = 0
    · rw [if_pos h2]; omega
    · rw [if_neg h2]
      have := (lcK_bd hw (b - a) c a b (Nat.le_refl _)).1
      omega
theorem tbM_lc {w : List Int} {c a b : Nat} (h : b - a < 2 ∨ 1 ≤ c) : tbM w c a b = lcK w c a b := by
  unfold tbM
  by_cases h1 : b - a < 2
  · rw [if_pos h1, lcK_small h1]
  · rw [if_neg h1, if_neg (by omega)]
/-- the model's split of the steps: the place and the cost -/
def spM (w : List Int) (c a b : Nat) : Nat × Int :=
  if c = 0 then (0, -1) else splM (fun m => sumK w m - sumK w a + tbM w (c - 1) m b + tbM w c a m) (fun m => !(decide (tbM w (c - 1) m b < 0) || decide (tbM w c a m < 0))) (b - a - 1) (a + 1) (0, -1)
theorem splM_congr {c1 c2 : Nat → Int} {o1 o2 : Nat → Bool} : ∀ (k m : Nat) (r : Nat × Int), (∀ j, m ≤ j → j < m + k → o1 j = o2 j ∧ (o1 j = true → c1 j = c2 j)) → splM c1 o1 k m r = splM c2 o2 k m r
  | 0, _, _, _ => rfl
  | k + 1, m, r, h => by
    have h0 := h m (Nat.le_refl _) (by omega)
    rw [splM, splM, ← h0.1]
    cases ho : o1 m with
    | false => rw [if_neg (by simp), if_neg (by simp)]; exact splM_congr k (m + 1) _ (fun j h1 h2 => h j (by omega) (by omega))
    | true => rw [if_pos rfl, if_pos rfl, h0.2 ho]; exact splM_congr k (m + 1) _ (fun j h1 h2 => h j (by omega) (by omega))
/-- the two splits agree -/
theorem spM_eq {w : List Int} (hw : ∀ k, 0 ≤ w.getD k 0 ∧ w.getD k 0 ≤ 1000) {c a b : Nat} (hc : 1 ≤ c) (hs : 2 ≤ b - a) : spM w c a b = spK w c a b := by
  unfold spM spK
  rw [if_neg (by omega)]
  rw [splM_congr (c2 := fun m => sumK w m - sumK w a + lcK w (c - 1) m b + lcK w c a m) (o2 := okM c b) (b - a - 1) (a + 1) (0, -1) (fun j h1 h2 => by
    have e1 := tbM_nn hw (c := c - 1) (a := j) (b := b)
    have e2 := tbM_nn hw (c := c) (a := a) (b := j)
    have eo : (!(decide (tbM w (c - 1) j b < 0) || decide (tbM w c a j < 0))) = okM c b j := by
      rw [decide_eq_false (p := tbM w c a j < 0) (by rw [e2]; omega), Bool.or_false]
      unfold okM
      by_cases h : b - j ≤ 1
      · rw [decide_eq_false (by rw [e1]; omega), decide_eq_true h]; rfl
      · rw [decide_eq_false h, Bool.false_or]
        by_cases h2 : 2 ≤ c
        · rw [decide_eq_false (by rw [e1]; omega), decide_eq_true h2]; rfl
        · rw [decide_eq_true (by rw [e1]; omega), decide_eq_false h2]; rfl
    refine ⟨eo, fun ho => ?_⟩
    have ho2 : okM c b j = true := by rw [← eo]; exact ho
    unfold okM at ho2
    rw [Bool.or_eq_true, decide_eq_true_eq, decide_eq_true_eq] at ho2
    show sumK w j - sumK w a + tbM w (c - 1) j b + tbM w c a j = _
    rw [tbM_lc (c := c - 1) (a := j) (b := b) (by omega), tbM_lc (c := c) (a := a) (b := j) (.inr hc)])]
  refine splM_start (b - a - 1) (a + 1) (fun j h1 h2 _ => ?_) (by omega) ⟨b - 1, by omega, by omega, by simp [okM]; omega⟩
  have s := (sumK_mono hw a (j - a)).1
  rw [show a + (j - a) = j by omega] at s
  have l1 := (lcK_bd hw (b - j) (c - 1) j b (Nat.le_refl _)).1
  have l2 := (lcK_bd hw (j - a) c a j (Nat.le_refl _)).1
  show 0 ≤ sumK w j - sumK w a + lcK w (c - 1) j b + lcK w c a j
  omega
/-- what the model writes into its table is what belongs there -/
theorem spM_tb {w : List Int} (hw : ∀ k, 0 ≤ w.getD k 0 ∧ w.getD k 0 ≤ 1000) {c a b : Nat} (hs : 2 ≤ b - a) : (spM w c a b).2 = tbM w c a b := by
  by_cases hc : c = 0
  · subst hc; unfold spM tbM; rw [if_pos rfl, if_neg (by omega), if_pos rfl]
  · rw [spM_eq hw (by omega) hs]; unfold tbM; rw [if_neg (by omega), if_neg hc, lcK_eq (by omega)]

end Go.Proofs.Ytleebjjikpmgoaa
