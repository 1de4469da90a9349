/- Lists of residues: composition is associative, derivatives obey the chain rule, a reversed list undoes from both sides and is the only one. -/
import Derived.Test.YtldbhhocoolloaaGreatComp
namespace Go.Proofs.YtldbhhocoolloaaGreat

theorem eqm_list {l m : List Int} (hl : l.length = m.length) (h1 : Nums l) (h2 : Nums m) (h : Eqm l.length (sq l) (sq m)) : l = m :=
  list_eq hl fun k hk => nums_eq (h1.at k) (h2.at k) (h k hk)
theorem conv_isum (u : Nat → Int) (A : Nat → Nat → Int) (X : Nat → Int) (N k : Nat) : conv (fun m => isum (fun i => u i * A i m) N) X k = isum (fun i => u i * conv (A i) X k) N := by
  show isum (fun m => isum (fun i => u i * A i m) N * X (k - m)) (k + 1) = _
  rw [isum_congr (fun m _ => (isum_mul_right (fun i => u i * A i m) (X (k - m)) N).symm), isum_swap]
  apply isum_congr
  intro i _
  rw [show conv (A i) X k = isum (fun m => A i m * X (k - m)) (k + 1) from rfl, ← isum_mul]
  exact isum_congr fun m _ => Int.mul_assoc _ _ _
theorem addh_sq {l : List Int} {x : Int} {k : Nat} (hk : k < l.length) : sq (addh l x) k % 1000003 = (sq l k + x * dlt k) % 1000003 := by
  unfold sq addh dlt
  cases k with
  | zero =>
    rw [List.getD_eq_getElem?_getD, List.getElem?_set_self hk]
    simp only [Option.getD_some, if_true, Int.mul_one]
    unfold pls; rw [Int.emod_emod]
  | succ k =>
    rw [List.getD_eq_getElem?_getD, List.getElem?_set_ne (by omega), ← List.getD_eq_getElem?_getD, if_neg (by omega), Int.mul_zero, Int.add_zero]
theorem rep_sq (n k : Nat) : sq (List.replicate n 0) k = 0 := by
  unfold sq
  rw [List.getD_eq_getElem?_getD, List.getElem?_replicate]
  split <;> rfl
theorem mull_sq {a b : List Int} {k : Nat} (h : k < a.length) : sq (mull a b) k = conv (sq a) (sq b) k % 1000003 := by
  show (mull a b).getD k 0 = _
  rw [mull_at h, mulc_conv]
theorem cmps_char (a b : List Int) (j : Nat) (hj : j ≤ a.length) (k : Nat) (hk : k < a.length) :
    sq (cmps a b j) k % 1000003 = isum (fun i => sq a (a.length - j + i) * pw (sq b) i k) j % 1000003 := by
  induction j generalizing k with
  | zero => rw [cmps, rep_sq]; rfl
  | succ j ih =>
    rw [cmps, addh_sq (by rw [mull_len, cmps_len]; exact hk), mull_sq (by rw [cmps_len]; exact hk)]
    have e1 : conv (sq (cmps a b j)) (sq b) k % 1000003 = conv (fun m => isum (fun i => sq a (a.length - j + i) * pw (sq b) i m) j) (sq b) k % 1000003 :=
      conv_mod (fun m hm => ih (by omega) m (by omega)) (fun _ _ => rfl)
    rw [conv_isum] at e1
    rw [isum_head]
    have e2 : isum (fun i => sq a (a.length - (j + 1) + (i + 1)) * pw (sq b) (i + 1) k) j = isum (fun i => sq a (a.length - j + i) * conv (pw (sq b) i) (sq b) k) j := by
      apply isum_congr
      intro i hi
      rw [show a.length - (j + 1) + (i + 1) = a.length - j + i from by omega, pw_succ']
    rw [e2]
    have e3 : sq a (a.length - (j + 1) + 0) * pw (sq b) 0 k = a.getD (a.length - 1 - j) 0 * dlt k := by
      rw [show a.length - (j + 1) + 0 = a.length - 1 - j from by omega]; rfl
    rw [e3]
    generalize isum (fun i => sq a (a.length - j + i) * conv (pw (sq b) i) (sq b) k) j = S at e1
    generalize conv (sq (cmps a b j)) (sq b) k = U at e1
    generalize a.getD (a.length - 1 - j) 0 * dlt k = V
    omega
theorem cmpl_char {a b : List Int} (hb : b.getD 0 0 = 0) : Eqm a.length (sq (cmpl a b)) (comp (sq a) (sq b)) := by
  intro k hk
  have h := cmps_char a b a.length (Nat.le_refl _) k hk
  rw [show sq (cmpl a b) = sq (cmps a b a.length) from rfl, h, isum_congr (g := fun i => sq a i * pw (sq b) i k) (fun i _ => by rw [Nat.sub_self, Nat.zero_add]), comp_ext (c := sq b) hb (by omega)]
theorem cmpl_nums (a b : List Int) : Nums (cmpl a b) := cmps_nms a b _
theorem cmpl_zero {a b : List Int} (hb : b.getD 0 0 = 0) (h1 : 1 ≤ a.length) (ha : Nums a) : (cmpl a b).getD 0 0 = a.getD 0 0 := by
  have h := cmpl_char (a := a) hb 0 (by omega)
  rw [comp_zero] at h
  exact nums_eq ((cmpl_nums a b).at 0) (ha.at 0) h
theorem comp_law {a b c : List Int} (h1 : 1 ≤ a.length) (hbl : b.length = a.length) (hcl : c.length = a.length) (hbn : Nums b) (hb : b.getD 0 0 = 0) (hc : c.getD 0 0 = 0) :
    cmpl (cmpl a b) c = cmpl a (cmpl b c) := by
  apply eqm_list (by rw [cmpl_len, cmpl_len, cmpl_len]) (cmpl_nums _ _) (cmpl_nums _ _)
  rw [cmpl_len, cmpl_len]
  have hbc : (cmpl b c).getD 0 0 = 0 := by rw [cmpl_zero hc (by omega) hbn, hb]
  have e1 := cmpl_char (a := cmpl a b) hc
  rw [cmpl_len] at e1
  have e2 : Eqm a.length (comp (sq (cmpl a b)) (sq c)) (comp (comp (sq a) (sq b)) (sq c)) := (cmpl_char hb).comp (Eqm.refl _ _)
  have e3 := cmpl_char (a := b) hc
  rw [hbl] at e3
  have e4 : Eqm a.length (comp (sq a) (sq (cmpl b c))) (comp (sq a) (comp (sq b) (sq c))) := (Eqm.refl _ _).comp e3
  have e5 := cmpl_char (a := a) hbc
  rw [comp_assoc (b := sq b) (c := sq c) hb hc] at e2
  exact (e1.trans e2).trans (e5.trans e4).symm
theorem dls_char (l : List Int) : Eqm (l.length - 1) (sq (dls l)) (der (sq l)) := by
  intro k hk
  unfold sq
  rw [dls_at (by omega)]
  unfold tms der
  rw [Int.emod_emod]
theorem chain_law {a b : List Int} (hbl : b.length = a.length) (hb : b.getD 0 0 = 0) (k : Nat) (hk : k + 1 < a.length) :
    (dls (cmpl a b)).getD k 0 = (mull (cmpl (dls a) b) (dls b)).getD k 0 := by
  apply nums_eq ((dls_nms _).at k) ((mull_nms _ _).at k)
  have h1 := dls_char (cmpl a b) k (by rw [cmpl_len]; omega)
  have h2 := Eqm.der (n := a.length - 1) (f := sq (cmpl a b)) (f' := comp (sq a) (sq b)) (by rw [show a.length - 1 + 1 = a.length from by omega]; exact cmpl_char hb) k (by omega)
  rw [chain (c := sq b) hb] at h2
  have h3 : sq (mull (cmpl (dls a) b) (dls b)) k = conv (sq (cmpl (dls a) b)) (sq (dls b)) k % 1000003 := mull_sq (by rw [cmpl_len, dls_len]; omega)
  have e1 := cmpl_char (a := dls a) hb
  rw [dls_len] at e1
  have e2 : Eqm (a.length - 1) (comp (sq (dls a)) (sq b)) (comp (der (sq a)) (sq b)) := (dls_char a).comp (Eqm.refl _ _)
  have e3 := dls_char b
  rw [hbl] at e3
  have h4 := (Eqm.conv ((e1.mono (by omega)).trans e2) e3) k (by omega)
  show sq (dls (cmpl a b)) k % 1000003 = sq (mull (cmpl (dls a) b) (dls b)) k % 1000003
  rw [h1, h2, h3, Int.emod_emod, h4]

/-- the series t -/
def tl (n : Nat) : List Int := tab tt n
theorem tl_len (n : Nat) : (tl n).length = n := tab_len _ _
theorem tl_sq (n : Nat) : Eqm n (sq (tl n)) tt := fun k hk => by
  show (tab tt n).getD k 0 % 1000003 = _
  rw [tab_at hk]
theorem tl_nums (n : Nat) : Nums (tl n) := tab_nms n fun k => by unfold tt; split <;> omega
theorem tl_zero (n : Nat) : (tl n).getD 0 0 = 0 := by
  cases n with
  | zero => rfl
  | succ n => show (tab tt (n + 1)).getD 0 0 = 0; rw [tab_at (by omega)]; rfl
theorem tl_cmp {a : List Int} (ha : Nums a) (h0 : a.getD 0 0 = 0) : cmpl (tl a.length) a = a := by
  apply eqm_list (by rw [cmpl_len, tl_len]) (cmpl_nums _ _) ha
  have e := cmpl_char (a := tl a.length) h0
  rw [tl_len] at e
  rw [cmpl_len, tl_len]
  have e2 := Eqm.comp (tl_sq a.length) (Eqm.refl a.length (sq a))
  rw [comp_tt (c := sq a) h0] at e2
  exact e.trans e2
theorem cmp_tl {a : List Int} (ha : Nums a) : cmpl a (tl a.length) = a := by
  apply eqm_list (by rw [cmpl_len]) (cmpl_nums _ _) ha
  have e := cmpl_char (a := a) (tl_zero a.length)
  rw [cmpl_len]
  have e2 := Eqm.comp (Eqm.refl a.length (sq a)) (tl_sq a.length)
  rw [tt_comp] at e2
  exact e.trans e2

/-- Lagrange's powers of t / a, and the reversed series that they tell -/
def rpw (a : List Int) : Nat → List Int
  | 0 => cstl 1 (a.length - 1)
  | k + 1 => divl (rpw a k) a.tail
def rco (a : List Int) (k : Nat) : Int := tms ((rpw a (k + 1)).getD k 0) (inv ((k : Int) + 1))
def revl (a : List Int) : List Int := 0 :: tab (rco a) (a.length - 1)
theorem rpw_len (a : List Int) (k : Nat) : (rpw a k).length = a.length - 1 := by
  induction k with
  | zero => exact cstl_len _ _
  | succ k ih => rw [rpw, divl_len, ih]
theorem cstl_nums (n : Nat) : Nums (cstl 1 n) := set_nms (rep_nms n) (by omega)
theorem rpw_nums (a : List Int) (k : Nat) : Nums (rpw a k) := by
  cases k with
  | zero => exact cstl_nums _
  | succ k => exact dvs_nms _ _ _ _
theorem revl_len {a : List Int} (h : 1 ≤ a.length) : (revl a).length = a.length := by
  unfold revl; rw [List.length_cons, tab_len]; omega
theorem revl_nums (a : List Int) : Nums (revl a) := by
  intro n hn
  unfold revl at hn
  rcases List.mem_cons.1 hn with hn | hn
  · rw [hn]; omega
  · exact tab_nms _ (fun k => tms_bd _ _) n hn
theorem revl_zero (a : List Int) : (revl a).getD 0 0 = 0 := rfl
theorem divl_conv {x b : List Int} (hx : Nums x) (hb : Nums b) (h0 : b.getD 0 0 ≠ 0) : Eqm x.length (conv (sq (divl x b)) (sq b)) (sq x) := by
  intro k hk
  have h := mull_sq (a := divl x b) (b := b) (k := k) (by rw [divl_len]; exact hk)
  rw [div_law hx hb h0] at h
  rw [h, Int.emod_emod]
theorem cstl_sq (n : Nat) : Eqm n (sq (cstl 1 n)) dlt := by
  intro k hk
  unfold sq cstl
  cases k with
  | zero => rw [List.getD_eq_getElem?_getD, List.getElem?_set_self (by simpa using hk)]; rfl
  | succ k =>
    rw [List.getD_eq_getElem?_getD, List.getElem?_set_ne (by omega), ← List.getD_eq_getElem?_getD]
    show sq (List.replicate n 0) (k + 1) % 1000003 = _
    rw [rep_sq]; rfl
theorem tail_sq (a : List Int) (i : Nat) : sq a.tail i = sq a (i + 1) := by
  cases a with
  | nil => rfl
  | cons x r => rfl
theorem tail_nums {a : List Int} (h : Nums a) : Nums a.tail := fun n hn => h n (List.mem_of_mem_tail hn)
structure Revs (a : List Int) : Prop where
  two : 2 ≤ a.length
  max : a.length ≤ 1000
  nums : Nums a
  zero : a.getD 0 0 = 0
  unit : a.getD 1 0 ≠ 0
theorem Revs.phi {a : List Int} (h : Revs a) : Eqm (a.length - 1) (conv (sq (rpw a 1)) (sq a.tail)) dlt := by
  have h1 := divl_conv (x := cstl 1 (a.length - 1)) (b := a.tail) (cstl_nums _) (tail_nums h.nums) (by have e := tail_sq a 0; unfold sq at e; rw [e]; exact h.unit)
  rw [cstl_len] at h1
  exact h1.trans (cstl_sq _)
theorem Revs.pows {a : List Int} (h : Revs a) (k : Nat) : Eqm (a.length - 1) (sq (rpw a k)) (pw (sq (rpw a 1)) k) := by
  induction k with
  | zero => exact cstl_sq _
  | succ k ih =>
    apply conv_cancel h.phi
    have h1 := divl_conv (x := rpw a k) (b := a.tail) (rpw_nums _ _) (tail_nums h.nums) (by have e := tail_sq a 0; unfold sq at e; rw [e]; exact h.unit)
    rw [rpw_len] at h1
    have h2 : Eqm (a.length - 1) (conv (pw (sq (rpw a 1)) (k + 1)) (sq a.tail)) (pw (sq (rpw a 1)) k) := by
      rw [pw_succ', conv_assoc']
      have := Eqm.conv (Eqm.refl (a.length - 1) (pw (sq (rpw a 1)) k)) h.phi
      rw [conv_dlt] at this
      exact this
    exact (h1.trans ih).trans h2.symm
theorem revl_at (a : List Int) (k : Nat) (hk : k < a.length - 1) : sq (revl a) (k + 1) = rco a k := by
  show (revl a).getD (k + 1) 0 = _
  unfold revl
  rw [List.getD_cons_succ, tab_at hk]
theorem Revs.left {a : List Int} (h : Revs a) : cmpl (revl a) a = tl a.length := by
  have h1 := h.two
  have hm := h.max
  apply eqm_list (by rw [cmpl_len, tl_len, revl_len (by omega)]) (cmpl_nums _ _) (tl_nums _)
  rw [cmpl_len, revl_len (by omega)]
  have e := cmpl_char (a := revl a) h.zero
  rw [revl_len (by omega)] at e
  have hl := lagrange (N := a.length - 1) (a := sq a) (g := sq a.tail) (φ := sq (rpw a 1)) (r := sq (revl a)) (by omega) h.zero (fun i => (tail_sq a i).symm) h.phi (revl_zero a) (fun k hk => by
    rw [revl_at a k hk]
    unfold rco
    rw [idx_inv _ k (by omega)]
    exact h.pows (k + 1) k hk)
  rw [show a.length - 1 + 1 = a.length from by omega] at hl
  exact (e.trans hl).trans (tl_sq _).symm
theorem Revs.rev {a : List Int} (h : Revs a) : Revs (revl a) := by
  have h1 := h.two
  have hl : (revl a).length = a.length := revl_len (by omega)
  refine ⟨by omega, by have := h.max; omega, revl_nums a, revl_zero a, ?_⟩
  intro hz
  have e1 : sq (revl a) (0 + 1) = rco a 0 := revl_at a 0 (by omega)
  have e2 : sq (revl a) (0 + 1) = 0 := hz
  have e3 := idx_inv ((rpw a (0 + 1)).getD 0 0) 0 (by omega)
  have e4 : tms ((rpw a (0 + 1)).getD 0 0) (inv (((0 : Nat) : Int) + 1)) = 0 := e1.symm.trans e2
  rw [e4] at e3
  have e5 := h.phi 0 (by omega)
  have e6 : conv (sq (rpw a 1)) (sq a.tail) 0 = (rpw a (0 + 1)).getD 0 0 * sq a.tail 0 := by simp [conv, isum, sq]
  rw [e6] at e5
  have e7 := mul_mod (a := (rpw a (0 + 1)).getD 0 0) (a' := 0) (b := sq a.tail 0) (by rw [← e3]; rfl) rfl
  rw [e5, Int.zero_mul] at e7
  exact absurd e7 (by decide)
theorem Revs.right {a : List Int} (h : Revs a) : cmpl a (revl a) = tl a.length := by
  have h1 := h.two
  have hl : (revl a).length = a.length := revl_len (by omega)
  have hs := h.rev.left
  rw [hl] at hs
  have hll : (revl (revl a)).length = a.length := by rw [revl_len (by omega), hl]
  have e := comp_law (a := revl (revl a)) (b := revl a) (c := a) (by omega) (by omega) (by omega) (revl_nums a) (revl_zero a) h.zero
  rw [hs, h.left, tl_cmp h.nums h.zero, ← hll, cmp_tl (revl_nums _)] at e
  rw [← e] at hs
  exact hs
theorem Revs.only {a x : List Int} (h : Revs a) (hx : Nums x) (hl : x.length = a.length) (h0 : x.getD 0 0 = 0) (he : cmpl a x = tl a.length) : x = revl a := by
  have h1 := h.two
  have hrl : (revl a).length = a.length := revl_len (by omega)
  have e := comp_law (a := revl a) (b := a) (c := x) (by omega) (by omega) (by omega) h.nums h.zero h0
  rw [h.left, he, ← hl, tl_cmp hx h0, hl, ← hrl, cmp_tl (revl_nums a)] at e
  exact e

/-- the reversed series, one coefficient after the other -/
def srs (a : List Int) : Nat → List Int
  | 0 => (cstl 0 a.length).set 1 (inv (a.getD 1 0))
  | j + 1 => (srs a j).set (j + 2) (tms (res (-((cmpl a (srs a j)).getD (j + 2) 0))) (inv (a.getD 1 0)))
theorem srs_len (a : List Int) (j : Nat) : (srs a j).length = a.length := by
  induction j with
  | zero => simp [srs, cstl]
  | succ j ih => rw [srs, List.length_set, ih]
theorem srs_nums (a : List Int) (j : Nat) : Nums (srs a j) := by
  induction j with
  | zero => exact set_nms (set_nms (rep_nms _) (by omega)) (pwr_bd _ _)
  | succ j ih => exact set_nms ih (tms_bd _ _)
theorem srs_zero (a : List Int) (j : Nat) : (srs a j).getD 0 0 = 0 := by
  induction j with
  | zero =>
    unfold srs cstl
    rw [List.getD_eq_getElem?_getD, List.getElem?_set_ne (by omega), ← List.getD_eq_getElem?_getD]
    cases a.length <;> rfl
  | succ j ih => rw [srs, List.getD_eq_getElem?_getD, List.getElem?_set_ne (by omega), ← List.getD_eq_getElem?_getD, ih]
theorem srs_high (a : List Int) (j k : Nat) (h : j + 2 ≤ k) : (srs a j).getD k 0 = 0 := by
  induction j with
  | zero =>
    unfold srs cstl
    rw [List.getD_eq_getElem?_getD, List.getElem?_set_ne (by omega), List.getElem?_set_ne (by omega), ← List.getD_eq_getElem?_getD]
    exact rep_sq _ _
  | succ j ih => rw [srs, List.getD_eq_getElem?_getD, List.getElem?_set_ne (by omega), ← List.getD_eq_getElem?_getD, ih (by omega)]
theorem pw_low2 {c c' : Nat → Int} (h : c 0 = 0) (h' : c' 0 = 0) (k : Nat) (he : Eqm k c c') (j : Nat) : pw c (j + 2) k % 1000003 = pw c' (j + 2) k % 1000003 := by
  show isum (fun i => c i * pw c (j + 1) (k - i)) (k + 1) % 1000003 = isum (fun i => c' i * pw c' (j + 1) (k - i)) (k + 1) % 1000003
  apply isum_mod
  intro i hi
  by_cases e0 : i = 0
  · rw [e0, h, h', Int.zero_mul, Int.zero_mul]
  · by_cases e1 : i = k
    · rw [e1, Nat.sub_self, pw_low h (j + 1) 0 (by omega), pw_low h' (j + 1) 0 (by omega), Int.mul_zero, Int.mul_zero]
    · exact mul_mod (he i (by omega)) (he.pw (j + 1) (k - i) (by omega))
theorem comp_two (f c : Nat → Int) (k : Nat) : comp f c (k + 1) = f 1 * c (k + 1) + isum (fun j => f (j + 2) * pw c (j + 2) (k + 1)) k := by
  unfold comp
  rw [isum_head, isum_head]
  have e0 : pw c 0 (k + 1) = 0 := by simp [pw, dlt]
  rw [e0, Int.mul_zero, Int.zero_add]
  show f (0 + 1) * pw c (0 + 1) (k + 1) + _ = _
  rw [show (0 + 1 : Nat) = 1 from rfl, pw_one]
theorem comp_step {f c c' : Nat → Int} (h : c 0 = 0) (h' : c' 0 = 0) (k : Nat) (he : Eqm (k + 1) c c') :
    (comp f c (k + 1) + f 1 * c' (k + 1)) % 1000003 = (comp f c' (k + 1) + f 1 * c (k + 1)) % 1000003 := by
  rw [comp_two, comp_two]
  have e : isum (fun j => f (j + 2) * pw c (j + 2) (k + 1)) k % 1000003 = isum (fun j => f (j + 2) * pw c' (j + 2) (k + 1)) k % 1000003 :=
    isum_mod fun j _ => mul_mod rfl (pw_low2 h h' (k + 1) he j)
  omega
theorem Revs.stage {a : List Int} (h : Revs a) (j : Nat) (hj : j + 2 ≤ a.length) : Eqm (j + 2) (comp (sq a) (sq (srs a j))) tt := by
  have hu : tms (a.getD 1 0) (inv (a.getD 1 0)) = 1 := tms_inv (by have b := h.nums.at 1; rw [res_id b.1 b.2]; exact h.unit)
  induction j with
  | zero =>
    intro k hk
    cases k with
    | zero => rw [comp_zero, show sq a 0 = 0 from h.zero]; rfl
    | succ k =>
      obtain rfl : k = 0 := by omega
      rw [comp_two]
      have e : sq (srs a 0) (0 + 1) = inv (a.getD 1 0) := by
        unfold sq srs
        rw [List.getD_eq_getElem?_getD, List.getElem?_set_self (by rw [cstl_len]; omega)]; rfl
      rw [e]
      show (a.getD 1 0 * inv (a.getD 1 0) + 0) % 1000003 = _
      rw [Int.add_zero]
      exact hu
  | succ j ih =>
    have ih := ih (by omega)
    have hlen := srs_len a j
    have hagree : Eqm (j + 2) (sq (srs a (j + 1))) (sq (srs a j)) := by
      intro k hk
      unfold sq
      rw [srs, List.getD_eq_getElem?_getD, List.getElem?_set_ne (by omega), ← List.getD_eq_getElem?_getD]
    intro k hk
    by_cases e : k < j + 2
    · have h1 := Eqm.comp (Eqm.refl (j + 2) (sq a)) hagree k e
      rw [h1]; exact ih k e
    · obtain rfl : k = j + 1 + 1 := by omega
      have h1 := comp_step (f := sq a) (c := sq (srs a (j + 1))) (c' := sq (srs a j)) (srs_zero a (j + 1)) (srs_zero a j) (j + 1) hagree
      have h2 : sq (srs a j) (j + 1 + 1) = 0 := srs_high a j _ (by omega)
      have h3 : sq (srs a (j + 1)) (j + 1 + 1) = tms (res (-((cmpl a (srs a j)).getD (j + 2) 0))) (inv (a.getD 1 0)) := by
        unfold sq
        rw [srs, List.getD_eq_getElem?_getD, List.getElem?_set_self (by rw [hlen]; omega)]; rfl
      have h4 := cmpl_char (a := a) (srs_zero a j) (j + 1 + 1) (by omega)
      rw [h2, h3, Int.mul_zero, Int.add_zero] at h1
      have h5 : sq a 1 = a.getD 1 0 := rfl
      rw [h5] at h1
      have h6 : sq (cmpl a (srs a j)) (j + 1 + 1) = (cmpl a (srs a j)).getD (j + 2) 0 := rfl
      rw [h6] at h4
      have h7 : (a.getD 1 0 * tms (res (-((cmpl a (srs a j)).getD (j + 2) 0))) (inv (a.getD 1 0))) % 1000003 = (-((cmpl a (srs a j)).getD (j + 2) 0)) % 1000003 := by
        generalize (cmpl a (srs a j)).getD (j + 2) 0 = z
        unfold tms at hu
        unfold tms res
        rw [Int.mul_emod, Int.emod_emod, ← Int.mul_emod, Int.mul_left_comm, Int.mul_emod, hu, Int.mul_one, Int.emod_emod, Int.emod_emod]
      have h8 : tt (j + 1 + 1) = 0 := by unfold tt; rw [if_neg (by omega)]
      rw [h8]
      generalize (cmpl a (srs a j)).getD (j + 2) 0 = z at h1 h4 h7
      generalize a.getD 1 0 * tms (res (-z)) (inv (a.getD 1 0)) = y at h1 h7
      generalize comp (sq a) (sq (srs a (j + 1))) (j + 1 + 1) = x at h1
      generalize comp (sq a) (sq (srs a j)) (j + 1 + 1) = v at h1 h4
      omega
theorem Revs.same {a : List Int} (h : Revs a) : srs a (a.length - 2) = revl a := by
  have h1 := h.two
  refine h.only (srs_nums _ _) (srs_len _ _) (srs_zero _ _) ?_
  apply eqm_list (by rw [cmpl_len, tl_len]) (cmpl_nums _ _) (tl_nums _)
  rw [cmpl_len]
  have e := h.stage (a.length - 2) (by omega)
  rw [show a.length - 2 + 2 = a.length from by omega] at e
  exact ((cmpl_char (srs_zero _ _)).trans e).trans (tl_sq _).symm

end Go.Proofs.YtldbhhocoolloaaGreat
