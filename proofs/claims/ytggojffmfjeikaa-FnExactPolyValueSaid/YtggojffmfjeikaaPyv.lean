/- Which polynomials are valid: as plain functions, and by the model. -/
import Derived.Test.YtggojffmfjeikaaPyd
import Derived.Test.YtggojffmfjeikaaTao
import Derived.Test.YtggojffmfjeikaaQt
namespace Go.Proofs.Ytggojffmfjeikaa
open Go.RowKit
set_option linter.unusedVariables false

/-- none is negative and their sum is at most so much -/
def degB : List Int → Int → Bool
  | [], left => decide (0 ≤ left)
  | x :: r, left => decide (0 ≤ x) && degB r (left - x)
theorem degB_neg {e : List Int} : ∀ {left : Int}, left < 0 → degB e left = false := by
  induction e with
  | nil => intro left h; simp [degB]; omega
  | cons x r ih =>
    intro left h
    by_cases hx : 0 ≤ x
    · simp [degB, hx, ih (show left - x < 0 by omega)]
    · simp [degB, hx]
theorem degB_drop {e : List Int} {k : Nat} {left : Int} (h : k < e.length) : degB (e.drop k) left = (decide (0 ≤ e.getD k 0) && degB (e.drop (k + 1)) (left - e.getD k 0)) := by
  rw [List.drop_eq_getElem_cons h, degB, List.getD_eq_getElem?_getD, List.getElem?_eq_getElem h]; rfl
theorem degB_bad {e : List Int} {k : Nat} {left : Int} (h : k < e.length) (hb : e.getD k 0 < 0 ∨ left < e.getD k 0) : degB (e.drop k) left = false := by
  rw [degB_drop h]
  rcases hb with hb | hb
  · rw [decide_eq_false (by omega)]; rfl
  · rw [degB_neg (show left - e.getD k 0 < 0 by omega)]; simp
theorem degB_good {e : List Int} {k : Nat} {left : Int} (h : k < e.length) (hb : 0 ≤ e.getD k 0) : degB (e.drop k) left = degB (e.drop (k + 1)) (left - e.getD k 0) := by
  rw [degB_drop h, decide_eq_true hb]; rfl
theorem degB_end {e : List Int} {k : Nat} {left : Int} (h : e.length ≤ k) : degB (e.drop k) left = decide (0 ≤ left) := by
  rw [List.drop_eq_nil_of_le h]; rfl
/-- what is known of exponents -/
theorem degB_all {e : List Int} : ∀ {left : Int}, degB e left = true → ∀ k, 0 ≤ e.getD k 0 ∧ (k < e.length → e.getD k 0 ≤ left) := by
  induction e with
  | nil => intro left _ k; simp
  | cons x r ih =>
    intro left h k
    simp only [degB, Bool.and_eq_true, decide_eq_true_eq] at h
    obtain ⟨hx, hr⟩ := h
    have hl : 0 ≤ left - x := by
      by_cases hn : left - x < 0
      · rw [degB_neg hn] at hr; cases hr
      · omega
    cases k with
    | zero => show 0 ≤ x ∧ (_ → x ≤ left); exact ⟨hx, fun _ => by omega⟩
    | succ k =>
      have := ih hr k
      show 0 ≤ r.getD k 0 ∧ (_ → r.getD k 0 ≤ left)
      exact ⟨this.1, fun hk => by have := this.2 (by simpa using hk); omega⟩

/-- the order of lists of one length -/
def cmpL : List Int → List Int → Int
  | x :: a, y :: b => if x < y then -1 else if y < x then 1 else cmpL a b
  | _, _ => 0
theorem cmpL_drop {a b : List Int} {k : Nat} (h : k < a.length) (h2 : k < b.length) : cmpL (a.drop k) (b.drop k) = if a.getD k 0 < b.getD k 0 then -1 else if b.getD k 0 < a.getD k 0 then 1 else cmpL (a.drop (k + 1)) (b.drop (k + 1)) := by
  rw [List.drop_eq_getElem_cons h, List.drop_eq_getElem_cons h2, cmpL, List.getD_eq_getElem?_getD, List.getElem?_eq_getElem h, List.getD_eq_getElem?_getD, List.getElem?_eq_getElem h2]; rfl
theorem cmpL_end {a b : List Int} {k : Nat} (h : a.length ≤ k) : cmpL (a.drop k) (b.drop k) = 0 := by
  rw [List.drop_eq_nil_of_le h]
  cases b.drop k <;> rfl
theorem cmpL_bd (a : List Int) : ∀ b, cmpL a b = -1 ∨ cmpL a b = 0 ∨ cmpL a b = 1 := by
  induction a with
  | nil => intro b; exact .inr (.inl (by cases b <;> rfl))
  | cons x a ih =>
    intro b
    cases b with
    | nil => exact .inr (.inl rfl)
    | cons y b =>
      unfold cmpL
      split
      · exact .inl rfl
      · split
        · exact .inr (.inr rfl)
        · exact ih b

/-- a term of so many variables -/
def termB (x : Tm) (vars : Int) : Bool := decide ((x.exps.length : Int) = vars) && (okNum x.coef && (decide (x.coef ≠ 0) && degB x.exps 12))
def stepB (l : List Tm) (k : Nat) : Bool := decide (k = 0) || decide (cmpL (l.getD (k - 1) noTm).exps (l.getD k noTm).exps < 0)
def rowsB (q : Py) : Bool := (List.range q.terms.length).all fun k => termB (q.terms.getD k noTm) q.vars && stepB q.terms k
def polyB (q : Py) : Bool := decide (0 ≤ q.vars ∧ q.vars ≤ 12 ∧ q.terms.length ≤ 120) && rowsB q
theorem polyB_head {q : Py} (h : ¬ (0 ≤ q.vars ∧ q.vars ≤ 12 ∧ q.terms.length ≤ 120)) : polyB q = false := by unfold polyB; rw [decide_eq_false h, Bool.false_and]
theorem polyB_bad {q : Py} {k : Nat} (hk : k < q.terms.length) (h : termB (q.terms.getD k noTm) q.vars = false ∨ stepB q.terms k = false) : polyB q = false := by
  have : rowsB q = false := allB_f hk (by
    rcases h with h | h
    · rw [h]; exact Bool.false_and _
    · rw [h]; exact Bool.and_false _)
  unfold polyB; rw [this, Bool.and_false]
theorem polyB_all {q : Py} (h : 0 ≤ q.vars ∧ q.vars ≤ 12 ∧ q.terms.length ≤ 120) (ha : ∀ k, k < q.terms.length → termB (q.terms.getD k noTm) q.vars = true ∧ stepB q.terms k = true) : polyB q = true := by
  have : rowsB q = true := allB_t (fun i hi => by rw [(ha i hi).1, (ha i hi).2]; rfl)
  unfold polyB; rw [this, decide_eq_true h]; rfl
/-- what is known of a valid polynomial -/
structure Okp (q : Py) : Prop where
  vars : 0 ≤ q.vars ∧ q.vars ≤ 12
  size : q.terms.length ≤ 120
  len : ∀ k, k < q.terms.length → ((q.terms.getD k noTm).exps.length : Int) = q.vars
  coef : ∀ k, k < q.terms.length → 0 < (q.terms.getD k noTm).coef ∧ (q.terms.getD k noTm).coef < 1000003
  deg : ∀ k, k < q.terms.length → degB (q.terms.getD k noTm).exps 12 = true
  lt : ∀ k, k + 1 < q.terms.length → cmpL (q.terms.getD k noTm).exps (q.terms.getD (k + 1) noTm).exps < 0
theorem polyB_ok {q : Py} (h : polyB q = true) : Okp q := by
  simp only [polyB, Bool.and_eq_true, decide_eq_true_eq] at h
  obtain ⟨⟨h1, h2, h3⟩, h4⟩ := h
  have hk : ∀ k, k < q.terms.length → termB (q.terms.getD k noTm) q.vars = true ∧ stepB q.terms k = true := fun k hk => by have := allB_at h4 hk; rwa [Bool.and_eq_true] at this
  have ht : ∀ k, k < q.terms.length → ((q.terms.getD k noTm).exps.length : Int) = q.vars ∧ okNum (q.terms.getD k noTm).coef = true ∧ (q.terms.getD k noTm).coef ≠ 0 ∧ degB (q.terms.getD k noTm).exps 12 = true := fun k hk' => by
    have := (hk k hk').1
    simpa [termB] using this
  refine ⟨⟨h1, h2⟩, h3, fun k hk' => (ht k hk').1, fun k hk' => ?_, fun k hk' => (ht k hk').2.2.2, fun k hk' => ?_⟩
  · have := okNum_t (ht k hk').2.1; have := (ht k hk').2.2.1; omega
  · have := (hk (k + 1) hk').2
    simpa [stepB] using this

/- by the model -/
set_option maxRecDepth 100000 in
set_option maxHeartbeats 1600000 in
theorem sCmp (a b : Option Addr) (ca cb : Nat) (l m : List Int) (w : World) (hA : At w a l) (hB : At w b m) (he : m.length = l.length) (hl : l.length ≤ 1048576) :
    Calls Try.prog 76 #[.slice a l.length ca, .slice b m.length cb] w (Qui (.int .i64 (cmpL l m)) w) := by
  have H0 : Hid (cmpL l m = cmpL (l.drop 0) (m.drop 0)) := rfl
  have HQ0 : Hid (Drw w w) := Drw.refl w
  have HE := Lib.hid he
  clear he
  go_enter Try.func76, Try.ntmps76
  go_wp2_with fail
  go_loopw [5] (fun i wr => ∃ k : Nat, k ≤ l.length ∧ i = .int .i64 k ∧ Hid (cmpL l m = cmpL (l.drop k) (m.drop k)) ∧ Hid (Drw w wr)) (fun i _ => l.length - (intOf i).toNat)
  case atStart => exact ⟨0, Nat.zero_le _, rfl, H0, HQ0⟩
  case round =>
    obtain ⟨k, hk, rfl, HX, HQ⟩ := hrel
    clear H0 HQ0
    by_cases hlt : k < l.length
    · have hlt2 : k < m.length := by have := HE.out; omega
      obtain ⟨b1, o1, rfl, hbl1, hc1⟩ := ((hA.drw HQ.out).resolve_left (by intro e; rw [e] at hlt; simp at hlt))
      obtain ⟨b2, o2, rfl, hbl2, hc2⟩ := ((hB.drw HQ.out).resolve_left (by intro e; rw [e] at hlt2; simp at hlt2))
      have h1 := hc1 k hlt
      have h2 := hc2 k hlt2
      have hi : (k : Int) < (l.length : Int) := by omega
      have hi2 : (k : Int) < (m.length : Int) := by omega
      have HC := Lib.hid (cmpL_drop hlt hlt2)
      have HQ2 := fun (n : Nat) => Lib.hid (HQ.out.more n)
      clear hc1 hc2 hA hB
      generalize l.getD k 0 = x at h1 HC
      generalize m.getD k 0 = y at h2 HC
      by_cases c1 : x < y
      · have d1 : decide (x < y) = true := decide_eq_true c1
        have HF : Hid (cmpL l m = -1) := by show _ = _; rw [HX.out, HC.out, if_pos c1]
        go_wp2_with fail
        go_quiet (fail)
        go_wp2_with fail
        go_ret
        exact ⟨ret_int HF.out.symm, (HQ2 _).out⟩
      · have d1 : decide (x < y) = false := decide_eq_false c1
        by_cases c2 : y < x
        · have d2 : decide (y < x) = true := decide_eq_true c2
          have HF : Hid (cmpL l m = 1) := by show _ = _; rw [HX.out, HC.out, if_neg c1, if_pos c2]
          go_wp2_with fail
          go_quiet (fail)
          go_wp2_with fail
          go_quiet (fail)
          go_wp2_with fail
          go_ret
          exact ⟨ret_int HF.out.symm, ((HQ2 _).out.more _)⟩
        · have d2 : decide (y < x) = false := decide_eq_false c2
          have HF : Hid (cmpL l m = cmpL (l.drop (k + 1)) (m.drop (k + 1))) := by show _ = _; rw [HX.out, HC.out, if_neg c1, if_neg c2]
          go_wp2_with fail
          go_quiet (fail)
          go_wp2_with fail
          go_quiet (fail)
          go_wp2_with fail
          go_roundw
          case rel => exact ⟨k + 1, by omega, by go_num, HF, HQ2 _⟩
          case measure => simp [intOf]; omega
    · have HF : Hid (cmpL l m = 0) := by show _ = _; rw [HX.out, cmpL_end (by omega)]
      have hi : ¬ (k : Int) < (l.length : Int) := by omega
      go_wp2_with fail
      go_ret
      exact ⟨ret_int HF.out.symm, HQ.out⟩

/-- the two cells of a term -/
structure TermAt (w : World) (b o : Nat) (x : Tm) (a : Option Addr) (c : Nat) : Prop where
  c0 : w.cell? ⟨b, o, none⟩ = some (.slice a x.exps.length c)
  c1 : w.cell? ⟨b, o + 1, none⟩ = some (.int .i64 x.coef)
  at' : At w a x.exps

theorem termB_len {x : Tm} {v : Int} (h : ¬ (x.exps.length : Int) = v) : termB x v = false := by simp [termB, h]
theorem termB_num {x : Tm} {v : Int} (h : okNum x.coef = false) : termB x v = false := by simp [termB, h]
theorem termB_zero {x : Tm} {v : Int} (h : x.coef = 0) : termB x v = false := by simp [termB, h]
theorem termB_deg {x : Tm} {v : Int} (h0 : (x.exps.length : Int) = v) (h1 : okNum x.coef = true) (h2 : ¬ x.coef = 0) : termB x v = degB (x.exps.drop 0) 12 := by simp [termB, h0, h1, h2]
set_option maxRecDepth 100000 in
set_option maxHeartbeats 3200000 in
theorem sTerm (x : Tm) (a : Option Addr) (c b o : Nat) (vars : Int) (w : World) (hT : TermAt w b o x a c) (hl : x.exps.length ≤ 1048576) :
    Calls Try.prog 75 #[.pointer (some ⟨b, o, none⟩), .int .i64 vars] w fun e w' => e = .returned (.bool (termB x vars)) ∧ w = w' := by
  obtain ⟨c0, c1, hA⟩ := hT
  by_cases h0 : (x.exps.length : Int) = vars
  rotate_left
  · have hd : ((x.exps.length : Int) != vars) = true := by simpa using h0
    have HF := Lib.hid (termB_len h0)
    clear h0
    go_enter Try.func75, Try.ntmps75
    go_wp2_with fail
    go_ret
    exact ⟨ret_bool HF.out.symm, rfl⟩
  have hd : ((x.exps.length : Int) != vars) = false := by simpa using h0
  have HN := Lib.hid (sNumber x.coef w)
  cases h1 : okNum x.coef with
  | false =>
    have HF := Lib.hid (termB_num (v := vars) h1)
    rw [h1] at HN
    clear h0 h1
    go_enter Try.func75, Try.ntmps75
    go_wp2_with fail
    refine HN.out.mono ?_; rintro e w' ⟨rfl, rfl⟩
    go_wp2_with fail
    go_ret
    exact ⟨ret_bool HF.out.symm, rfl⟩
  | true =>
    by_cases h2 : x.coef = 0
    · have hd2 : (x.coef == 0) = true := by simpa using h2
      have HF := Lib.hid (termB_zero (v := vars) h2)
      rw [h1] at HN
      clear h0 h1 h2
      go_enter Try.func75, Try.ntmps75
      go_wp2_with fail
      refine HN.out.mono ?_; rintro e w' ⟨rfl, rfl⟩
      go_wp2_with fail
      go_ret
      exact ⟨ret_bool HF.out.symm, rfl⟩
    · have hd2 : (x.coef == 0) = false := by simpa using h2
      have HF := Lib.hid (termB_deg h0 h1 h2)
      rw [h1] at HN
      clear h0 h1 h2
      go_enter Try.func75, Try.ntmps75
      go_wp2_with fail
      refine HN.out.mono ?_; rintro e w' ⟨rfl, rfl⟩
      clear HN
      go_wp2_with fail
      go_loopw [5, 6] (fun q i wr => ∃ (k : Nat) (y : Int), k ≤ x.exps.length ∧ i = .int .i64 k ∧ q = .int .i64 y ∧ 0 ≤ y ∧ y ≤ 12 ∧ Hid (termB x vars = degB (x.exps.drop k) y) ∧ wr = w) (fun _ i _ => x.exps.length - (intOf i).toNat)
      case atStart => exact ⟨0, 12, Nat.zero_le _, rfl, rfl, by omega, by omega, HF, rfl⟩
      case round =>
        obtain ⟨k, y, hk, rfl, rfl, hy0, hy1, HX, rfl⟩ := hrel
        clear HF
        by_cases hlt : k < x.exps.length
        · obtain ⟨b1, o1, rfl, hbl1, hc1⟩ := (hA.resolve_left (by intro e; rw [e] at hlt; simp at hlt))
          have f0 := hc1 k hlt
          have hi : (k : Int) < (x.exps.length : Int) := by omega
          by_cases hg : 0 ≤ x.exps.getD k 0 ∧ x.exps.getD k 0 ≤ y
          · have HC := Lib.hid (inT (x.exps.getD k 0) 0 y hg.1 hg.2 wr)
            have HX2 := Lib.hid (HX.out.trans (degB_good hlt hg.1))
            obtain ⟨g1, g2⟩ := hg
            clear hc1 hA HX
            generalize x.exps.getD k 0 = v at f0 HC HX2 g1 g2
            go_wp2_with fail
            refine HC.out.mono ?_; rintro e w' ⟨rfl, rfl⟩
            go_wp2_with fail
            go_roundw
            case rel => exact ⟨k + 1, y - v, by omega, by go_num, by go_num, by omega, by omega, HX2, by trivial⟩
            case measure => simp [intOf]; omega
          · have HC := Lib.hid (inF (x.exps.getD k 0) 0 y (by omega) wr)
            have HX2 := Lib.hid (HX.out.trans (degB_bad hlt (by omega)))
            clear hc1 hA HX hg
            generalize x.exps.getD k 0 = v at f0 HC
            go_wp2_with fail
            refine HC.out.mono ?_; rintro e w' ⟨rfl, rfl⟩
            go_wp2_with fail
            go_ret
            exact ⟨ret_bool HX2.out.symm, rfl⟩
        · have hi : ¬ (k : Int) < (x.exps.length : Int) := by omega
          have HX2 : Hid (termB x vars = true) := by show _ = _; rw [HX.out, degB_end (by omega), decide_eq_true hy0]
          go_wp2_with fail
          go_ret
          exact ⟨ret_bool HX2.out.symm, rfl⟩

theorem stepB_t {l : List Tm} {k : Nat} (h : k ≠ 0) (h2 : cmpL (l.getD (k - 1) noTm).exps (l.getD k noTm).exps < 0) : stepB l k = true := by unfold stepB; rw [decide_eq_true h2, Bool.or_true]
theorem stepB_0 {l : List Tm} : stepB l 0 = true := rfl
theorem stepB_f {l : List Tm} {k : Nat} (h : k ≠ 0) (h2 : ¬ cmpL (l.getD (k - 1) noTm).exps (l.getD k noTm).exps < 0) : stepB l k = false := by unfold stepB; rw [decide_eq_false h2, decide_eq_false h]; rfl
/-- what a place among valid ones knows -/
def Sofar (q : Py) (k : Nat) : Prop := ∀ i, i < k → termB (q.terms.getD i noTm) q.vars = true ∧ stepB q.terms i = true
theorem Sofar.next {q : Py} {k : Nat} (h : Sofar q k) (h1 : termB (q.terms.getD k noTm) q.vars = true) (h2 : stepB q.terms k = true) : Sofar q (k + 1) := fun i hi => by
  by_cases e : i = k
  · subst e; exact ⟨h1, h2⟩
  · exact h i (by omega)
theorem termB_ln {x : Tm} {v : Int} (h : termB x v = true) : (x.exps.length : Int) = v := by
  unfold termB at h
  rw [Bool.and_eq_true] at h
  exact of_decide_eq_true h.1
theorem TmAt.term {w : World} {l : List Tm} {b off : Nat} (h : TmAt w 0 w.heap.size l (some ⟨b, off, none⟩)) {k : Nat} (hk : k < l.length) : ∃ a c, TermAt w b (off + k * 2) (l.getD k noTm) a c ∧ RTm (l.getD k noTm) := by
  rcases h with rfl | ⟨b', off', e, h2, h3⟩
  · simp at hk
  · simp only [Option.some.injEq, Addr.mk.injEq] at e
    obtain ⟨rfl, rfl, _⟩ := e
    obtain ⟨r, x, y, c0, c1, ho⟩ := h3 k hk
    exact ⟨x, y, ⟨c0, c1, ho.at (Nat.le_refl _)⟩, r⟩

set_option maxRecDepth 100000 in
set_option maxHeartbeats 6400000 in
theorem sOkPoly (q : Py) (a : Option Addr) (c b o : Nat) (w : World) (hp0 : w.cell? ⟨b, o, none⟩ = some (.int .i64 q.vars)) (hp1 : w.cell? ⟨b, o + 1, none⟩ = some (.slice a q.terms.length c))
    (hP : TmAt w 0 w.heap.size q.terms a) (hs : tmSize q.terms ≤ 1048576) :
    Calls Try.prog 35 #[.pointer (some ⟨b, o, none⟩)] w (Qui (.bool (polyB q)) w) := by
  have hlen : q.terms.length ≤ 1048576 := by unfold tmSize at hs; omega
  by_cases h1 : 0 ≤ q.vars ∧ q.vars ≤ 12
  rotate_left
  · have HF : Hid (polyB q = false) := polyB_head (by omega)
    have HC := fun W => Lib.hid (inF q.vars 0 12 (by omega) W)
    clear hP h1
    go_enter Try.func35, Try.ntmps35
    go_wp2_with fail
    refine (HC _).out.mono ?_; rintro e w' ⟨rfl, rfl⟩
    go_wp2_with fail
    go_ret
    exact ⟨ret_bool HF.out.symm, 0, rfl⟩
  have HC := fun W => Lib.hid (inT q.vars 0 12 h1.1 h1.2 W)
  by_cases h2 : 120 < q.terms.length
  · have HF : Hid (polyB q = false) := polyB_head (by omega)
    have d2 : decide ((120 : Int) < (q.terms.length : Int)) = true := decide_eq_true (by omega)
    clear hP h1
    go_enter Try.func35, Try.ntmps35
    go_wp2_with fail
    refine (HC _).out.mono ?_; rintro e w' ⟨rfl, rfl⟩
    go_wp2_with fail
    go_ret
    exact ⟨ret_bool HF.out.symm, 0, rfl⟩
  have d2 : decide ((120 : Int) < (q.terms.length : Int)) = false := decide_eq_false (by omega)
  have HH := Lib.hid h1
  have HL := Lib.hid (show q.terms.length ≤ 120 by omega)
  have HA := Lib.hid (show ∀ k, k < q.terms.length → (q.terms.getD k noTm).exps.length ≤ 1048576 from fun k hk => by have := tmSum_le hk; unfold tmSize at hs; omega)
  have HS0 : Hid (Sofar q 0) := fun i hi => by omega
  have HQ0 : Hid (Drw w w) := Drw.refl w
  clear h1 h2
  go_enter Try.func35, Try.ntmps35
  go_wp2_with fail
  refine (HC _).out.mono ?_; rintro e w' ⟨rfl, rfl⟩
  clear HC
  go_wp2_with fail
  go_loopw [3] (fun i wr => ∃ k : Nat, k ≤ q.terms.length ∧ i = .int .i64 k ∧ Hid (Sofar q k) ∧ Hid (Drw w wr)) (fun i _ => q.terms.length - (intOf i).toNat)
  case atStart => exact ⟨0, Nat.zero_le _, rfl, HS0, HQ0⟩
  case round =>
    obtain ⟨k, hk, rfl, HX, HQ⟩ := hrel
    clear HS0 HQ0 d2
    have hp0' : wr.cell? ⟨b, o, none⟩ = some (.int .i64 q.vars) := HQ.out.cell.trans hp0
    have hp1' : wr.cell? ⟨b, o + 1, none⟩ = some (.slice a q.terms.length c) := HQ.out.cell.trans hp1
    have hP' : TmAt wr 0 wr.heap.size q.terms a := hP.next HQ.out.below
    by_cases hlt : k < q.terms.length
    · obtain ⟨bt, off, rfl⟩ : ∃ bt off, a = some ⟨bt, off, none⟩ := by
        rcases hP with e | ⟨bt, off, e, _⟩
        · rw [e] at hlt; simp at hlt
        · exact ⟨bt, off, e⟩
      have HQ2 := fun (n : Nat) => Lib.hid (HQ.out.more n)
      have hi : (k : Int) < (q.terms.length : Int) := by omega
      obtain ⟨a1, c1, hT, hR⟩ := hP'.term hlt
      have HT := fun (n : Nat) => Lib.hid (sTerm (q.terms.getD k noTm) a1 c1 bt (off + k * 2) q.vars (wr.drewN n) ⟨hT.c0, hT.c1, hT.at'.drw ⟨n, rfl⟩⟩ (HA.out k hlt))
      cases hb : termB (q.terms.getD k noTm) q.vars with
      | false =>
        have HF : Hid (polyB q = false) := polyB_bad hlt (.inl hb)
        rw [hb] at HT
        clear hP hP' hT hR hb HX HA hp0 hp1
        go_wp2_with fail
        go_quiet ((go_at_call 75; exact quiet_same (HT _).out))
        go_wp2_with fail
        go_ret
        exact ⟨ret_bool HF.out.symm, (HQ2 _).out⟩
      | true =>
        rw [hb] at HT
        by_cases hk0 : k = 0
        · have d0 : decide (0 < k) = false := decide_eq_false (by omega)
          have HX2 : Hid (Sofar q (k + 1)) := HX.out.next hb (by rw [hk0]; exact stepB_0)
          clear hP hP' hT hR hb HX HA hk0 hp0 hp1
          go_wp2_with fail
          go_quiet ((go_at_call 75; exact quiet_same (HT _).out))
          go_wp2_with fail
          go_roundw
          case rel => exact ⟨k + 1, by omega, by go_num, HX2, HQ2 _⟩
          case measure => simp [intOf]; omega
        · have d0 : decide (0 < k) = true := decide_eq_true (by omega)
          have hk1 : k - 1 < q.terms.length := by omega
          have e1 : (k : Int) - 1 = ((k - 1 : Nat) : Int) := by omega
          obtain ⟨a2, c2, hT2, hR2⟩ := hP'.term hk1
          have g0 := hT.c0
          have g1 := hT2.c0
          have hln : ((q.terms.getD k noTm).exps.length : Int) = q.vars := termB_ln hb
          have hln2 : ((q.terms.getD (k - 1) noTm).exps.length : Int) = q.vars := termB_ln (HX.out (k - 1) (by omega)).1
          have HM := fun (n : Nat) => Lib.hid (sCmp a2 a1 c2 c1 (q.terms.getD (k - 1) noTm).exps (q.terms.getD k noTm).exps (wr.drewN n) (hT2.at'.drw ⟨n, rfl⟩) (hT.at'.drw ⟨n, rfl⟩) (by omega) (HA.out _ hk1))
          have HBD := Lib.hid (cmpL_bd (q.terms.getD (k - 1) noTm).exps (q.terms.getD k noTm).exps)
          by_cases hc : cmpL (q.terms.getD (k - 1) noTm).exps (q.terms.getD k noTm).exps < 0
          · have HX2 : Hid (Sofar q (k + 1)) := HX.out.next hb (stepB_t hk0 hc)
            have d3 : decide (0 ≤ cmpL (q.terms.getD (k - 1) noTm).exps (q.terms.getD k noTm).exps) = false := decide_eq_false (by omega)
            have hi1 : ((k - 1 : Nat) : Int) < (q.terms.length : Int) := by omega
            clear hP hP' hT hR hb HX HA hk0 hT2 hR2 hln hln2 hc HBD hp0 hp1
            generalize cmpL (q.terms.getD (k - 1) noTm).exps (q.terms.getD k noTm).exps = z at HM d3
            generalize (q.terms.getD (k - 1) noTm).exps.length = l1 at g1 HM
            generalize (q.terms.getD k noTm).exps.length = l2 at g0 HM
            go_wp2_with fail
            go_quiet ((first | (go_at_call 75; exact quiet_same (HT _).out) | (go_at_call 76; exact qui_q (HM _).out)))
            go_wp2_with fail
            go_roundw
            case rel => exact ⟨k + 1, by omega, by go_num, HX2, HQ2 _⟩
            case measure => simp [intOf]; omega
          · have HF : Hid (polyB q = false) := polyB_bad hlt (.inr (stepB_f hk0 hc))
            have d3 : decide (0 ≤ cmpL (q.terms.getD (k - 1) noTm).exps (q.terms.getD k noTm).exps) = true := decide_eq_true (by omega)
            have hi1 : ((k - 1 : Nat) : Int) < (q.terms.length : Int) := by omega
            clear hP hP' hT hR hb HX HA hk0 hT2 hR2 hln hln2 hc HBD hp0 hp1
            generalize cmpL (q.terms.getD (k - 1) noTm).exps (q.terms.getD k noTm).exps = z at HM d3
            generalize (q.terms.getD (k - 1) noTm).exps.length = l1 at g1 HM
            generalize (q.terms.getD k noTm).exps.length = l2 at g0 HM
            go_wp2_with fail
            go_quiet ((first | (go_at_call 75; exact quiet_same (HT _).out) | (go_at_call 76; exact qui_q (HM _).out)))
            go_wp2_with fail
            go_ret
            exact ⟨ret_bool HF.out.symm, (HQ2 _).out⟩
    · have hkk : k = q.terms.length := by omega
      have HF : Hid (polyB q = true) := polyB_all ⟨HH.out.1, HH.out.2, HL.out⟩ (fun i hi => HX.out i (by omega))
      have hi : ¬ (k : Int) < (q.terms.length : Int) := by omega
      clear hP hP' HX hp0 hp1
      go_wp2_with fail
      go_ret
      exact ⟨ret_bool HF.out.symm, HQ.out⟩

set_option maxRecDepth 100000 in
set_option maxHeartbeats 1600000 in
theorem sValidPoly (q : Py) (a : Option Addr) (c : Nat) (w : World) (hP : TmAt w 0 w.heap.size q.terms a) (hs : tmSize q.terms ≤ 1048576) :
    Calls Try.prog 10 #[pyv q a c] w fun e w' => e = .returned (.bool (polyB q)) ∧ Below w.heap.size w w' := by
  unfold pyv
  obtain ⟨w0, hw0⟩ : ∃ w0, w0 = w.alloc (.cells #[.int .i64 q.vars, .slice a q.terms.length c] 29) := ⟨_, rfl⟩
  have HB : Below w.heap.size w w0 := by rw [hw0]; exact (Below.refl _ _).alloc (Nat.le_refl _) _
  have HC := Lib.hid (sOkPoly q a c w.heap.size 0 w0 (by rw [hw0]; simp [go_sem]) (by rw [hw0]; simp [go_sem]) (hP.next HB) hs)
  clear hP
  go_enter Try.func10, Try.ntmps10
  go_wp2_with fail
  rw [← hw0]
  refine HC.out.mono ?_; rintro e w' ⟨rfl, hd⟩
  go_wp2_with fail
  go_ret
  exact ⟨rfl, HB.trans ((show Drw w0 w' from hd).below.mono HB.size)⟩

end Go.Proofs.Ytggojffmfjeikaa
