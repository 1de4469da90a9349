/- Elimination, plainly: as the model makes it and as the program makes it; both come to one determinant. -/
import Derived.Test.YtiimebiecihpkaaMxc
import Derived.Test.YtiimebiecihpkaaChp
import Derived.Test.YtiimebiecihpkaaOps
namespace Go.Proofs.Ytiimebiecihpkaa
open Go.RowKit
set_option linter.unusedVariables false

/-- a row less a multiple of another one -/
def tk (r q : List Int) (f : Int) : List Int := tab (fun j => mns (r.getD j 0) (tms f (q.getD j 0))) r.length
theorem tk_len (r q : List Int) (f : Int) : (tk r q f).length = r.length := tab_len _ _
theorem tk_at {r q : List Int} {f : Int} {j : Nat} (h : j < r.length) : (tk r q f).getD j 0 = mns (r.getD j 0) (tms f (q.getD j 0)) := tab_at h
/-- a row divided -/
def dv (r : List Int) (d : Int) : List Int := tab (fun j => tms (r.getD j 0) (inv d)) r.length
theorem dv_len (r : List Int) (d : Int) : (dv r d).length = r.length := tab_len _ _
theorem dv_at {r : List Int} {d : Int} {j : Nat} (h : j < r.length) : (dv r d).getD j 0 = tms (r.getD j 0) (inv d) := tab_at h
/-- the first row from c on that has a divisor in column c -/
def nzB (ls : List (List Int)) (c r : Nat) : Bool := !((ls.getD r []).getD c 0 == 0)
def fnz (ls : List (List Int)) (c : Nat) : Option Nat := lst (nzB ls c) (ls.length - c) c
/-- two rows exchanged -/
def swp (ls : List (List Int)) (c r : Nat) : List (List Int) := if r = c then ls else (ls.set r (ls.getD c [])).set c (ls.getD r [])
theorem swp_len (ls : List (List Int)) (c r : Nat) : (swp ls c r).length = ls.length := by unfold swp; split <;> simp
theorem swp_at {ls : List (List Int)} {c r : Nat} (hc : c < ls.length) (hr : r < ls.length) (i : Nat) : (swp ls c r).getD i [] = if i = c then ls.getD r [] else if i = r then ls.getD c [] else ls.getD i [] := by
  unfold swp
  by_cases h : r = c
  · subst h; rw [if_pos rfl]; by_cases h2 : i = r
    · subst h2; simp
    · simp [h2]
  · rw [if_neg h, getD_set_row (by rw [List.length_set]; exact hc), getD_set_row hr]
/-- the model: k rows below c are made less -/
def elM (ls : List (List Int)) (c : Nat) : Nat → List (List Int)
  | 0 => ls
  | k + 1 => (elM ls c k).set (c + 1 + k) (tk (ls.getD (c + 1 + k) []) (ls.getD c []) (tms ((ls.getD (c + 1 + k) []).getD c 0) (inv ((ls.getD c []).getD c 0))))
theorem elM_len (ls : List (List Int)) (c : Nat) : ∀ k, (elM ls c k).length = ls.length
  | 0 => rfl
  | k + 1 => by rw [elM, List.length_set, elM_len ls c k]
theorem elM_at (ls : List (List Int)) (c i : Nat) : ∀ k, c + 1 + k ≤ ls.length → (elM ls c k).getD i [] = if c < i ∧ i < c + 1 + k then tk (ls.getD i []) (ls.getD c []) (tms ((ls.getD i []).getD c 0) (inv ((ls.getD c []).getD c 0))) else ls.getD i []
  | 0, _ => by rw [elM, if_neg (by omega)]
  | k + 1, h => by
    rw [elM, getD_set_row (by rw [elM_len]; omega)]
    by_cases e : i = c + 1 + k
    · subst e; rw [if_pos rfl, if_pos (by omega)]
    · rw [if_neg e, elM_at ls c i k (by omega)]
      by_cases h2 : c < i ∧ i < c + 1 + k
      · rw [if_pos h2, if_pos (by omega)]
      · rw [if_neg h2, if_neg (by omega)]
/-- the program: the row c is divided, and k rows (but for it) are made less -/
def clP (ls : List (List Int)) (c : Nat) : Nat → List (List Int)
  | 0 => ls.set c (dv (ls.getD c []) ((ls.getD c []).getD c 0))
  | k + 1 => if k = c then clP ls c k else (clP ls c k).set k (tk (ls.getD k []) (dv (ls.getD c []) ((ls.getD c []).getD c 0)) ((ls.getD k []).getD c 0))
theorem clP_len (ls : List (List Int)) (c : Nat) : ∀ k, (clP ls c k).length = ls.length
  | 0 => by rw [clP, List.length_set]
  | k + 1 => by rw [clP]; split
                · exact clP_len ls c k
                · rw [List.length_set]; exact clP_len ls c k
theorem clP_at (ls : List (List Int)) (c i : Nat) (hc : c < ls.length) : ∀ k, k ≤ ls.length → (clP ls c k).getD i [] = if i = c then dv (ls.getD c []) ((ls.getD c []).getD c 0) else if i < k then tk (ls.getD i []) (dv (ls.getD c []) ((ls.getD c []).getD c 0)) ((ls.getD i []).getD c 0) else ls.getD i []
  | 0, _ => by rw [clP, getD_set_row hc]; simp
  | k + 1, h => by
    rw [clP]
    by_cases hkc : k = c
    · rw [if_pos hkc, clP_at ls c i hc k (by omega)]
      by_cases e : i = c
      · rw [if_pos e, if_pos e]
      · rw [if_neg e, if_neg e]
        by_cases h2 : i < k
        · rw [if_pos h2, if_pos (by omega)]
        · rw [if_neg h2, if_neg (by omega)]
    · rw [if_neg hkc, getD_set_row (by rw [clP_len]; omega)]
      by_cases e : i = k
      · subst e; rw [if_pos rfl, if_neg hkc, if_pos (by omega)]
      · rw [if_neg e, clP_at ls c i hc k (by omega)]
        by_cases e2 : i = c
        · rw [if_pos e2, if_pos e2]
        · rw [if_neg e2, if_neg e2]
          by_cases h2 : i < k
          · rw [if_pos h2, if_pos (by omega)]
          · rw [if_neg h2, if_neg (by omega)]
def sgn (c r : Nat) (d : Int) : Int := if r = c then d else mns 0 d
/-- the determinant, as the model makes it -/
def detM : Nat → Nat → List (List Int) → Int → Int
  | 0, _, _, d => d
  | f + 1, c, ls, d => match fnz ls c with
    | none => 0
    | some r => detM f (c + 1) (elM (swp ls c r) c (ls.length - c - 1)) (tms (sgn c r d) (((swp ls c r).getD c []).getD c 0))
/-- the determinant and the rows, as the program makes them -/
def detP : Nat → Nat → List (List Int) → Int → Int
  | 0, _, _, d => d
  | f + 1, c, ls, d => match fnz ls c with
    | none => 0
    | some r => detP f (c + 1) (clP (swp ls c r) c ls.length) (tms (sgn c r d) (((swp ls c r).getD c []).getD c 0))
/-- rows from c on are alike in the first n columns -/
structure Sim (n c : Nat) (M P : List (List Int)) : Prop where
  lm : M.length = n
  lp : P.length = n
  wm : ∀ i, i < n → n ≤ (M.getD i []).length
  wp : ∀ i, i < n → n ≤ (P.getD i []).length
  at_ : ∀ i j, c ≤ i → i < n → j < n → (M.getD i []).getD j 0 = (P.getD i []).getD j 0
theorem lst_congr {p q : Nat → Bool} : ∀ (f r : Nat), (∀ i, r ≤ i → i < r + f → p i = q i) → lst p f r = lst q f r
  | 0, _, _ => rfl
  | f + 1, r, h => by
    unfold lst
    rw [h r (Nat.le_refl _) (by omega), lst_congr f (r + 1) (fun i h1 h2 => h i (by omega) (by omega))]
theorem lst_ge {p : Nat → Bool} : ∀ {f r k : Nat}, lst p f r = some k → r ≤ k ∧ p k = true
  | 0, _, _, h => by cases h
  | f + 1, r, k, h => by
    unfold lst at h; split at h
    · rename_i hp; cases h; exact ⟨Nat.le_refl _, hp⟩
    · have := lst_ge h; exact ⟨by omega, this.2⟩
theorem fnz_bd {ls : List (List Int)} {c r : Nat} (hc : c ≤ ls.length) (h : fnz ls c = some r) : c ≤ r ∧ r < ls.length ∧ ¬ (ls.getD r []).getD c 0 = 0 := by
  have h1 := lst_bd h
  have h2 := lst_ge h
  refine ⟨h2.1, by omega, ?_⟩
  have := h2.2
  unfold nzB at this
  simpa using this
theorem Sim.fnz {n c : Nat} {M P : List (List Int)} (h : Sim n c M P) (hc : c < n) : fnz M c = fnz P c := by
  unfold Proofs.Ytiimebiecihpkaa.fnz
  rw [h.lm, h.lp]
  exact lst_congr _ _ (fun i h1 h2 => by unfold nzB; rw [h.at_ i c h1 (by omega) hc])
theorem Sim.swp {n c r : Nat} {M P : List (List Int)} (h : Sim n c M P) (hc : c < n) (hr : r < n) (hcr : c ≤ r) : Sim n c (swp M c r) (swp P c r) := by
  have hm := h.lm; have hp := h.lp
  refine ⟨by rw [swp_len]; exact hm, by rw [swp_len]; exact hp, fun i hi => ?_, fun i hi => ?_, fun i j h1 h2 h3 => ?_⟩
  · rw [swp_at (by omega) (by omega)]; split
    · exact h.wm r hr
    · split
      · exact h.wm c hc
      · exact h.wm i hi
  · rw [swp_at (by omega) (by omega)]; split
    · exact h.wp r hr
    · split
      · exact h.wp c hc
      · exact h.wp i hi
  · rw [swp_at (by omega) (by omega), swp_at (by omega) (by omega)]; split
    · exact h.at_ r j hcr hr h3
    · split
      · exact h.at_ c j (Nat.le_refl _) hc h3
      · exact h.at_ i j h1 h2 h3
theorem tms_swap (a b : Int) : tms a b = tms b a := by unfold tms; rw [Int.mul_comm]
theorem tms_mid (x d q : Int) : tms (tms x d) q = tms x (tms q d) := by
  have h1 : tms (tms x d) q = tms (x * d) q := tms_left (x * d) q
  have h2 : tms x (tms q d) = tms (q * d) x := by rw [tms_swap]; exact tms_left (q * d) x
  rw [h1, h2]; unfold tms
  congr 1
  rw [Int.mul_comm (q * d) x, ← Int.mul_assoc, Int.mul_assoc x d q, Int.mul_comm d q, ← Int.mul_assoc]
theorem Sim.step {n c : Nat} {M P : List (List Int)} (h : Sim n c M P) (hc : c < n) : Sim n (c + 1) (elM M c (n - c - 1)) (clP P c n) := by
  have hm := h.lm; have hp := h.lp
  have wc := h.wp c hc
  refine ⟨by rw [elM_len]; exact hm, by rw [clP_len]; exact hp, fun i hi => ?_, fun i hi => ?_, fun i j h1 h2 h3 => ?_⟩
  · rw [elM_at M c i _ (by omega)]; split
    · rw [tk_len]; exact h.wm i hi
    · exact h.wm i hi
  · rw [clP_at P c i (by omega) n (by omega)]; split
    · rw [dv_len]; exact wc
    · rw [tk_len]; exact h.wp i hi
  · rw [elM_at M c i _ (by omega), if_pos (by omega), clP_at P c i (by omega) n (by omega), if_neg (by omega), if_pos h2]
    have w1 := h.wm i h2
    have w2 := h.wp i h2
    rw [tk_at (by omega), tk_at (by omega), dv_at (by omega), h.at_ i j (by omega) h2 h3, h.at_ i c (by omega) h2 hc, h.at_ c c (Nat.le_refl _) hc hc, h.at_ c j (Nat.le_refl _) hc h3, tms_mid]
theorem det_eq {n : Nat} : ∀ (f c : Nat) (M P : List (List Int)) (d : Int), c + f = n → Sim n c M P → detM f c M d = detP f c P d
  | 0, _, _, _, _, _, _ => rfl
  | f + 1, c, M, P, d, hn, h => by
    have hm := h.lm; have hp := h.lp
    rw [detM, detP, h.fnz (by omega)]
    cases hf : Proofs.Ytiimebiecihpkaa.fnz P c with
    | none => rfl
    | some r =>
      have hb := fnz_bd (by omega) hf
      have hs := h.swp (r := r) (by omega) (by omega) hb.1
      show detM f (c + 1) _ _ = detP f (c + 1) _ _
      rw [hm, hp, hs.at_ c c (Nat.le_refl _) (by omega) (by omega)]
      exact det_eq f (c + 1) _ _ _ (by omega) (hs.step (by omega))
theorem sim_refl {n : Nat} {M : List (List Int)} (hl : M.length = n) (hw : ∀ i, i < n → (M.getD i []).length = n) : Sim n 0 M M := ⟨hl, hl, fun i hi => by rw [hw i hi]; exact Nat.le_refl _, fun i hi => by rw [hw i hi]; exact Nat.le_refl _, fun _ _ _ _ _ => rfl⟩

end Go.Proofs.Ytiimebiecihpkaa
