/- What a schedule uses, plainly: the model's sums along the chain are the program's sums over the steps. -/
import Derived.Test.YtolpbflalbfhjaaCkf
import Derived.Test.YtolpbflalbfhjaaPut
namespace Go.Proofs.Ytolpbflalbfhjaa
open Go.RowKit
set_option linter.unusedVariables false

/-- products of two lists, summed up over the first k places -/
def dotK (l w : List Int) : Nat → Int
  | 0 => 0
  | k + 1 => dotK l w k + l.getD k 0 * w.getD k 0
def sumK (l : List Int) : Nat → Int
  | 0 => 0
  | k + 1 => sumK l k + l.getD k 0
theorem dotK_set (l w : List Int) (i : Nat) (hi : i < l.length) : ∀ k, dotK (l.set i (l.getD i 0 + 1)) w k = dotK l w k + if i < k then w.getD i 0 else 0
  | 0 => by rw [dotK, dotK, if_neg (by omega)]; rfl
  | k + 1 => by
    rw [dotK, dotK, dotK_set l w i hi k, getD_set]
    by_cases h : i = k
    · have e1 : (if i = k ∧ i < l.length then l.getD i 0 + 1 else l.getD k 0) = l.getD i 0 + 1 := if_pos ⟨h, hi⟩
      have e2 : (if i < k then w.getD i 0 else 0) = 0 := if_neg (by omega)
      have e3 : (if i < k + 1 then w.getD i 0 else 0) = w.getD i 0 := if_pos (by omega)
      rw [e1, e2, e3, Int.add_mul, Int.one_mul, h]; omega
    · have e1 : (if i = k ∧ i < l.length then l.getD i 0 + 1 else l.getD k 0) = l.getD k 0 := if_neg (by omega)
      rw [e1]
      by_cases h2 : i < k
      · have e2 : (if i < k then w.getD i 0 else 0) = w.getD i 0 := if_pos h2
        have e3 : (if i < k + 1 then w.getD i 0 else 0) = w.getD i 0 := if_pos (by omega)
        rw [e2, e3]; omega
      · have e2 : (if i < k then w.getD i 0 else 0) = 0 := if_neg h2
        have e3 : (if i < k + 1 then w.getD i 0 else 0) = 0 := if_neg (by omega)
        rw [e2, e3]; omega
theorem sumK_set (l : List Int) (i : Nat) (hi : i < l.length) : ∀ k, sumK (l.set i (l.getD i 0 + 1)) k = sumK l k + if i < k then 1 else 0
  | 0 => by rw [sumK, sumK, if_neg (by omega)]; rfl
  | k + 1 => by
    rw [sumK, sumK, sumK_set l i hi k, getD_set]
    by_cases h : i = k
    · have e1 : (if i = k ∧ i < l.length then l.getD i 0 + 1 else l.getD k 0) = l.getD i 0 + 1 := if_pos ⟨h, hi⟩
      have e2 : (if i < k then (1 : Int) else 0) = 0 := if_neg (by omega)
      have e3 : (if i < k + 1 then (1 : Int) else 0) = 1 := if_pos (by omega)
      rw [e1, e2, e3, h]; omega
    · have e1 : (if i = k ∧ i < l.length then l.getD i 0 + 1 else l.getD k 0) = l.getD k 0 := if_neg (by omega)
      rw [e1]
      by_cases h2 : i < k
      · have e2 : (if i < k then (1 : Int) else 0) = 1 := if_pos h2
        have e3 : (if i < k + 1 then (1 : Int) else 0) = 1 := if_pos (by omega)
        rw [e2, e3]; omega
      · have e2 : (if i < k then (1 : Int) else 0) = 0 := if_neg h2
        have e3 : (if i < k + 1 then (1 : Int) else 0) = 0 := if_neg (by omega)
        rw [e2, e3]; omega
/-- the weights of so many steps from one on -/
def sumW (w : List Int) (c : Nat) : Nat → Int
  | 0 => 0
  | j + 1 => sumW w c j + w.getD (c + j) 0
theorem dotK_adv (adv w : List Int) (c : Nat) : ∀ j, c + j ≤ adv.length → dotK (advT adv c j) w adv.length = dotK adv w adv.length + sumW w c j
  | 0, _ => by rw [advT, sumW, Int.add_zero]
  | j + 1, h => by
    rw [advT, sumW, dotK_set _ _ _ (by rw [advT_len]; omega), if_pos (by omega), dotK_adv adv w c j (by omega)]; omega
theorem sumK_adv (adv : List Int) (c : Nat) : ∀ j, c + j ≤ adv.length → sumK (advT adv c j) adv.length = sumK adv adv.length + j
  | 0, _ => by rw [advT]; simp
  | j + 1, h => by
    rw [advT, sumK_set _ _ (by rw [advT_len]; omega), if_pos (by omega), sumK_adv adv c j (by omega)]; omega
theorem dotK_zero (w : List Int) (n : Nat) : ∀ k, dotK (List.replicate n 0) w k = 0
  | 0 => rfl
  | k + 1 => by rw [dotK, dotK_zero w n k, getD_rep]; split <;> simp
theorem sumK_zero (n : Nat) : ∀ k, sumK (List.replicate n 0) k = 0
  | 0 => rfl
  | k + 1 => by rw [sumK, sumK_zero n k, getD_rep]; split <;> simp

/-- rising -/
def risB : List Int → Prop
  | [] => True
  | x :: l => (∀ y ∈ l, x < y) ∧ risB l
theorem putL_mem {l : List Int} {n x : Int} : x ∈ putL l n ↔ x = n ∨ x ∈ l := by
  induction l with
  | nil => simp [putL]
  | cons y l ih =>
    unfold putL
    split
    · rw [List.mem_cons, ih, List.mem_cons]
      constructor <;> (intro h; rcases h with h | h | h <;> simp [h])
    · split
      · rename_i h; subst h; rw [List.mem_cons]; constructor <;> (intro h; rcases h with h | h <;> simp_all)
      · rw [List.mem_cons, List.mem_cons]
theorem putL_ris {l : List Int} {n : Int} (h : risB l) : risB (putL l n) := by
  induction l with
  | nil => exact ⟨by simp, trivial⟩
  | cons y l ih =>
    unfold putL
    split
    · rename_i hy
      refine ⟨fun z hz => ?_, ih h.2⟩
      rcases putL_mem.1 hz with rfl | hz
      · exact hy
      · exact h.1 z hz
    · split
      · exact h
      · rename_i h1 h2
        refine ⟨fun z hz => ?_, h⟩
        rcases List.mem_cons.1 hz with rfl | hz
        · omega
        · have := h.1 z hz; omega
/-- how many are below -/
def below (l : List Int) (k : Int) : Nat := (l.filter fun x => decide (x < k)).length
theorem below_step {l : List Int} (h : risB l) (k : Int) : below l (k + 1) = below l k + if k ∈ l then 1 else 0 := by
  induction l with
  | nil => rfl
  | cons y l ih =>
    have ih := ih h.2
    unfold below at *
    rw [List.filter_cons, List.filter_cons]
    by_cases h1 : y < k
    · rw [if_pos (by simpa using (by omega : y < k + 1)), if_pos (by simpa using h1), List.length_cons, List.length_cons, ih]
      have : (k ∈ y :: l) ↔ k ∈ l := by rw [List.mem_cons]; constructor; (intro h; rcases h with h | h; omega; exact h); exact .inr
      simp only [this]; omega
    · by_cases h2 : y = k
      · subst h2
        have hn : ¬ y ∈ l := fun hm => by have := h.1 y hm; omega
        rw [if_neg hn] at ih
        rw [if_pos (by simpa using (by omega : y < y + 1)), if_neg (by simp), List.length_cons, ih, if_pos (by simp)]
      · have hn : ¬ k ∈ l := fun hm => by have := h.1 k hm; omega
        rw [if_neg hn] at ih
        rw [if_neg (by simpa using (by omega : ¬ y < k + 1)), if_neg (by simpa using h1), ih, if_neg (by simp [hn]; omega)]
theorem below_all {l : List Int} {m : Int} (h : ∀ x ∈ l, x < m) : below l m = l.length := by
  unfold below; rw [List.filter_eq_self.2 (fun x hx => by simpa using h x hx)]
theorem below_none {l : List Int} (h : ∀ x ∈ l, 0 ≤ x) : below l 0 = 0 := by
  unfold below; rw [List.filter_eq_nil_iff.2 (fun x hx => by simpa using h x hx)]; rfl
/-- how many slots hold a state -/
def cntK (s : List Int) : Nat → Int
  | 0 => 0
  | k + 1 => cntK s k + if s.getD k 0 = -1 then 0 else 1
theorem cntK_eq {s into : List Int} {m : Nat} (hr : risB into) (hb : ∀ x ∈ into, 0 ≤ x ∧ x < m) (hs : ∀ k : Nat, k < m → (s.getD k 0 ≠ -1 ↔ (k : Int) ∈ into)) : cntK s m = into.length := by
  have : ∀ k : Nat, k ≤ m → cntK s k = (below into k : Int) := by
    intro k
    induction k with
    | zero => intro _; rw [cntK, show ((0 : Nat) : Int) = 0 from rfl, below_none (fun x hx => (hb x hx).1)]; rfl
    | succ k ih =>
      intro hk
      rw [cntK, ih (by omega), show ((k + 1 : Nat) : Int) = (k : Int) + 1 from by omega, below_step hr]
      have := hs k (by omega)
      by_cases h : s.getD k 0 = -1
      · rw [if_pos h, if_neg (fun hm => (this.2 hm) h)]; omega
      · rw [if_neg h, if_pos (this.1 h)]; omega
  rw [this m (Nat.le_refl _), below_all (fun x hx => (hb x hx).2)]

/-- what has been used so far -/
structure Us where
  cost : Int
  adv : Int
  st : Int
  ld : Int
  into : List Int
def us0 : Us := ⟨0, 0, 0, 0, []⟩
def stepU (w : List Int) (s : Cs) (x : Ac) (u : Us) : Us :=
  if x.kind = 1 then ⟨u.cost + sumW w s.cur.toNat x.arg.toNat, u.adv + x.arg, u.st, u.ld, u.into⟩
  else if x.kind = 2 then ⟨u.cost, u.adv, u.st + 1, u.ld, putL u.into x.arg⟩
  else if x.kind = 3 then ⟨u.cost, u.adv, u.st, u.ld + 1, u.into⟩
  else u
def goU (w : List Int) (s : Cs) (u : Us) : List Ac → Us
  | [] => u
  | x :: r => goU w (actS s x) (stepU w s x u) r
/-- how many actions are of a kind -/
def cntA (l : List Ac) (kd : Int) : Nat → Int
  | 0 => 0
  | k + 1 => cntA l kd k + if (l.getD k noAc).kind = kd then 1 else 0
/-- the model's numbers beside the program's -/
structure Bes (n m : Nat) (w : List Int) (l : List Ac) (k : Nat) (s : Cs) (adv : List Int) (u : Us) : Prop where
  cost : dotK adv w n = u.cost
  adv : sumK adv n = u.adv
  st : cntA l 2 k = u.st
  ld : cntA l 3 k = u.ld
  ris : risB u.into
  bd : ∀ x ∈ u.into, 0 ≤ x ∧ x < m
  sl : ∀ j : Nat, j < m → (s.slots.getD j 0 ≠ -1 ↔ (j : Int) ∈ u.into)
  far : goU w (cs0 n m) us0 l = goU w s u (l.drop k)
theorem bes0 (n m : Nat) (w : List Int) (l : List Ac) : Bes n m w l 0 (cs0 n m) (List.replicate n 0) us0 := by
  refine ⟨dotK_zero w n n, sumK_zero n n, rfl, rfl, trivial, (fun x hx => absurd hx (by simp [us0])), (fun j hj => ?_), by rw [List.drop_zero]⟩
  rw [show (cs0 n m).slots = List.replicate m (-1) from rfl, getD_rep, if_pos hj]
  exact ⟨fun h => absurd rfl h, fun h => by cases h⟩
theorem Bes.step {n m : Nat} {w : List Int} {l : List Ac} {k : Nat} {s : Cs} {adv : List Int} {u : Us} (h : Bes n m w l k s adv u) (hF : Fin n m l k s adv) (hk : k < l.length) (hx : acB (l.getD k noAc) = true) (hp : posB s (l.getD k noAc) = true) :
    Bes n m w l (k + 1) (actS s (l.getD k noAc)) (advA s (l.getD k noAc) adv) (stepU w s (l.getD k noAc) u) := by
  obtain ⟨h1, h2, h3, h4, h5, h6, h7, h8⟩ := h
  have hfar : goU w (cs0 n m) us0 l = goU w (actS s (l.getD k noAc)) (stepU w s (l.getD k noAc) u) (l.drop (k + 1)) := by rw [h8, drop_ac hk]; rfl
  have hln := hF.len
  rcases ac_cases hx with ⟨y, e, y0, y1⟩ | ⟨y, e, y0, y1⟩ | ⟨y, e, y0, y1⟩ | e
  · have hk2 : cntA l 2 (k + 1) = cntA l 2 k := by rw [cntA, e]; simp
    have hk3 : cntA l 3 (k + 1) = cntA l 3 k := by rw [cntA, e]; simp
    rw [e] at hfar hp ⊢
    rw [posB_1] at hp
    have hp := of_decide_eq_true hp
    have c0 := hF.iv.c0
    have l1 := hF.iv.l1
    have hb : s.cur.toNat + y.toNat ≤ adv.length := by omega
    refine ⟨?_, ?_, hk2.trans h3, hk3.trans h4, h5, h6, h7, hfar⟩
    · show dotK (advT adv s.cur.toNat y.toNat) w n = u.cost + sumW w s.cur.toNat y.toNat
      rw [← hln, dotK_adv _ _ _ _ hb, hln, h1]
    · show sumK (advT adv s.cur.toNat y.toNat) n = u.adv + y
      rw [← hln, sumK_adv _ _ _ hb, hln, h2]; omega
  · have hk2 : cntA l 2 (k + 1) = cntA l 2 k + 1 := by rw [cntA, e]; simp
    have hk3 : cntA l 3 (k + 1) = cntA l 3 k := by rw [cntA, e]; simp
    rw [e] at hfar hp ⊢
    rw [posB_2] at hp
    have hp := of_decide_eq_true hp
    have hm := hF.iv.m
    have c0 := hF.iv.c0
    refine ⟨h1, h2, by rw [hk2, h3]; rfl, hk3.trans h4, putL_ris h5, fun x hx => ?_, fun j hj => ?_, hfar⟩
    · rcases putL_mem.1 hx with rfl | hx
      · omega
      · exact h6 x hx
    · show (s.slots.set y.toNat s.cur).getD j 0 ≠ -1 ↔ (j : Int) ∈ putL u.into y
      rw [putL_mem, getD_set]
      by_cases hj2 : y.toNat = j
      · rw [if_pos (by omega)]
        exact ⟨fun _ => .inl (by omega), fun _ => by omega⟩
      · rw [if_neg (by omega), h7 j hj]
        exact ⟨.inr, fun hh => by rcases hh with hh | hh; omega; exact hh⟩
  · have hk2 : cntA l 2 (k + 1) = cntA l 2 k := by rw [cntA, e]; simp
    have hk3 : cntA l 3 (k + 1) = cntA l 3 k + 1 := by rw [cntA, e]; simp
    rw [e] at hfar hp ⊢
    exact ⟨h1, h2, hk2.trans h3, by rw [hk3, h4]; rfl, h5, h6, h7, hfar⟩
  · have hk2 : cntA l 2 (k + 1) = cntA l 2 k := by rw [cntA, e]; simp
    have hk3 : cntA l 3 (k + 1) = cntA l 3 k := by rw [cntA, e]; simp
    rw [e] at hfar hp ⊢
    exact ⟨h1, h2, hk2.trans h3, hk3.trans h4, h5, h6, h7, hfar⟩

end Go.Proofs.Ytolpbflalbfhjaa
