/- Polynomials: opened, measured, copied and compared. -/
import Derived.Test.YtggojffmfjeikaaPyc
namespace Go.Proofs.Ytggojffmfjeikaa
open Go.ChangeShapes Go.WideShapes Go.ChangeAt Go.RowKit
set_option linter.unusedVariables false

/-- A polynomial. -/
structure Py where
  vars : Int
  terms : List Tm
abbrev pyv (q : Py) (a : Option Addr) (c : Nat) : Value := .agg #[.int .i64 q.vars, .slice a q.terms.length c]
def IsPoly (W : World) (v : Value) : Prop := ∃ q a c, v = pyv q a c ∧ TmAt W 0 W.heap.size q.terms a ∧ I64 q.vars ∧ q.terms.length ≤ maxLen

set_option maxRecDepth 100000 in
theorem cellsPoly : Try.prog.cellsOf 24 = 2 := by kernel_rfl

set_option maxRecDepth 100000 in
theorem openPoly {H : Type} {enc : TypeId × Value → H} {W : World} {base : Nat} {v : Value} {d : DataW H} {p : List MemPlace} (hw : Value.okWide Try.prog W .any base 24 v) (h : DataW.Trod enc Try.prog W 0 (fun _ => true) true 24 v d p) : IsPoly W v := by
  obtain ⟨cs, rfl, hsz⟩ := okWide_struct Try.underlying24 hw
  obtain ⟨l⟩ := cs
  match l, hsz.trans cellsPoly with
  | [c0, c1], _ =>
    obtain ⟨fuel, hf⟩ := h
    obtain ⟨xs, n', rfl, _, _, hxl, hf⟩ := DataW.trod_struct Try.underlying24 hf
    have q0 := hf 0 _ rfl
    have q1 := hf 1 _ rfl
    obtain ⟨k, e0, _, r0⟩ := DataW.trod_int Try.underlying2 (q0.trans (List.getElem?_eq_getElem (by rw [hxl]; decide)))
    obtain ⟨a, l, c, e1, hl, hm⟩ := openTms n' _ _ (q1.trans (List.getElem?_eq_getElem (by rw [hxl]; decide)))
    obtain rfl : c0 = .int .i64 k := List.head_eq_of_cons_eq e0
    obtain rfl : c1 = .slice a l.length c := List.head_eq_of_cons_eq e1
    exact ⟨⟨k, l⟩, a, c, rfl, hl, bounds_i64 r0, hm⟩

set_option maxRecDepth 100000 in
set_option maxHeartbeats 1600000 in
theorem szPoly (q : Py) (a : Option Addr) (cap : Nat) (left : Int) (w : World) (hP : TmAt w 0 w.heap.size q.terms a) (hlen : q.terms.length ≤ maxLen) (h0 : 0 ≤ left) (h1 : left ≤ 1048576) :
    Calls Try.prog 9 #[pyv q a cap, .int .i64 left] w fun e w' => e = .returned (.int .i64 (szv (tmSize q.terms) left)) ∧ Below w.heap.size w w' := by
  unfold pyv
  have B1 : ∀ o, Below w.heap.size w (w.alloc o) := fun o => (Below.refl _ _).alloc (Nat.le_refl _) o
  go_enter Try.func9, Try.ntmps9
  go_wp2_with fail
  refine (szTermS q.terms a cap left _ ((hP.below (B1 _)).mono (Nat.le_refl _) (by simp)) hlen h0 h1).mono ?_; rintro e w' ⟨rfl, hb⟩
  have hb2 := (B1 _).trans (hb.mono (by simp))
  by_cases hs : ((tmSize q.terms : Nat) : Int) ≤ left
  · have HZ := Lib.hid (szv_t hs)
    rw [HZ.out]
    have hy : 0 ≤ left - ((tmSize q.terms : Nat) : Int) := by omega
    have hd : decide (left - ((tmSize q.terms : Nat) : Int) < 0) = false := decide_eq_false (by omega)
    generalize left - ((tmSize q.terms : Nat) : Int) = y at hy hd HZ
    clear hs hb
    go_wp2_with fail
    go_ret
    exact ⟨ret_int HZ.out.symm, hb2⟩
  · have HZ := Lib.hid (szv_f hs)
    rw [HZ.out]
    clear hs hb
    go_wp2_with fail
    go_ret
    exact ⟨ret_int HZ.out.symm, hb2⟩

/-- The call answers a copy of a polynomial in blocks of its own. -/
def FreshPy (w : World) (q : Py) (e : Ending) (w' : World) : Prop :=
  ∃ g gs, e = .returned (pyv q (some ⟨g, 0, none⟩) q.terms.length) ∧ TmW w' w.heap.size q.terms g gs ∧ Below w.heap.size w w'

theorem TmW.agree {w w' : World} {L : Nat} {l : List Tm} {b : Nat} {gs : Nat → Nat} (h : TmW w L l b gs) (hb : ∀ k, L ≤ k → k < w.heap.size → w'.heap[k]? = w.heap[k]?) (hz : w'.heap.size = w.heap.size) : TmW w' L l b gs := by
  obtain ⟨h1, h2, h3, h4⟩ := h
  have cl : ∀ o v, w.cell? ⟨b, o, none⟩ = some v → w'.cell? ⟨b, o, none⟩ = some v := fun o v h => (World.cell?_of_block (a := ⟨b, o, none⟩) (hb b h1.1 h1.2)).trans h
  refine ⟨by omega, fun o => (World.frozen?_of_block (a := ⟨b, o, none⟩) (hb b h1.1 h1.2)).trans (h2 o), fun i hi => ?_, h4⟩
  obtain ⟨hr, hn, y, k0, k1, ho⟩ := h3 i hi
  refine ⟨hr, hn, y, cl _ _ k0, cl _ _ k1, ?_⟩
  have hg := ho.base
  obtain ⟨o1, o2⟩ := ho
  refine ⟨o1, ?_⟩
  rcases o2 with o2 | ⟨g', cap', cur, hv, hg', hh, r⟩
  · exact Or.inl o2
  · refine Or.inr ⟨g', cap', cur, hv, hg', ?_, r⟩
    have : gs i = g' := by simp only [Value.slice.injEq, Option.some.injEq, Addr.mk.injEq] at hv; exact hv.1.1
    rw [hb g' (by omega) (by omega)]; exact hh
theorem Own.baseUp {B B' : Nat} {w : World} {g cap : Nat} {l : List Int} (h : Own B w g cap l) (hB : B' ≤ g) : Own B' w g cap l := by
  obtain ⟨o1, o2⟩ := h
  refine ⟨o1, ?_⟩
  rcases o2 with o2 | ⟨g', cap', cur, hv, hg', r⟩
  · exact Or.inl o2
  · have : g = g' := by simp only [Value.slice.injEq, Option.some.injEq, Addr.mk.injEq] at hv; exact hv.1.1
    exact Or.inr ⟨g', cap', cur, hv, by omega, r⟩
theorem TmW.low {w : World} {L L' : Nat} {l : List Tm} {b : Nat} {gs : Nat → Nat} (h : TmW w L l b gs) (hL : L' ≤ L) : TmW w L' l b gs := by
  obtain ⟨h1, h2, h3, h4⟩ := h
  refine ⟨by omega, h2, fun i hi => ?_, h4⟩
  obtain ⟨hr, hn, y, k0, k1, ho⟩ := h3 i hi
  exact ⟨hr, hn, y, k0, k1, ho.mono hL⟩

set_option maxRecDepth 100000 in
set_option maxHeartbeats 1600000 in
theorem toPoly (q : Py) (a : Option Addr) (cap : Nat) (w : World) (hP : TmAt w 0 w.heap.size q.terms a) (hs : tmSize q.terms ≤ 1048576) :
    Calls Try.prog 11 #[pyv q a cap] w (FreshPy w q) := by
  unfold pyv
  have B1 : ∀ o, Below w.heap.size w (w.alloc o) := fun o => (Below.refl _ _).alloc (Nat.le_refl _) o
  go_enter Try.func11, Try.ntmps11
  go_wp2_with fail
  refine (toTermS q.terms a cap _ ((hP.below (((B1 _).alloc (by simp) _).alloc (by simp; omega) _)).mono (Nat.le_refl _) (by simp; omega)) hs).mono ?_; rintro e w' ⟨g, gs, rfl, hk, hb⟩
  obtain ⟨hc, hf⟩ := tbcell hb
  have hz := hb.size
  simp at hz
  go_wp2_with fail
  have hB := (((B1 (Obj.cells #[Value.int .i64 q.vars, Value.slice a q.terms.length cap] 24)).alloc (by simp) (Obj.cells #[Value.int .i64 0, Value.slice none 0 0] 29)).alloc (by simp; omega) (Obj.cells #[Value.int .i64 q.vars, Value.slice none 0 0] 29)).trans (hb.mono (by simp; omega))
  refine bodyPost_ret (v := pyv q (some ⟨g, 0, none⟩) q.terms.length) (by simp [results, Try.results11, go_sem, hc]) rfl ⟨g, gs, rfl, ?_, ?_⟩
  · simp at hk
    refine (hk.agree (w' := _) (fun j h1 h2 => ?_) (by simp)).low (by omega)
    iterate 2 rw [Below.heap_setCell _ _ _ _ (by show j ≠ w.heap.size + 1; omega)]
    rw [Below.heap_setCell _ _ _ _ (by show j ≠ w.heap.size + 1 + 1; omega)]
  · exact ((hB.setCell (by simp; omega) _).setCell (by simp) _).setCell (by simp) _

set_option maxRecDepth 100000 in
set_option maxHeartbeats 1600000 in
theorem eqPoly (q : Py) (a b : Option Addr) (ca cb : Nat) (w : World) (hP : TmAt w 0 w.heap.size q.terms a) (hQ : TmAt w 0 w.heap.size q.terms b) (hl : tmSize q.terms ≤ 1048576) :
    Calls Try.prog 13 #[pyv q a ca, pyv q b cb] w fun e w' => e = .returned (.bool true) ∧ Below w.heap.size w w' := by
  unfold pyv
  have B1 : ∀ o, Below w.heap.size w (w.alloc o) := fun o => (Below.refl _ _).alloc (Nat.le_refl _) o
  have e1 : (q.vars != q.vars) = false := by simp
  go_enter Try.func13, Try.ntmps13
  go_wp2_with fail
  refine (eqTermS q.terms a b ca cb _ ((hP.below ((B1 _).alloc (by simp) _)).mono (Nat.le_refl _) (by simp; omega)) ((hQ.below ((B1 _).alloc (by simp) _)).mono (Nat.le_refl _) (by simp; omega)) hl).mono ?_; rintro e w' ⟨rfl, hb⟩
  have hB := ((B1 _).alloc (by simp) _).trans (hb.mono (by simp; omega))
  go_wp2_with fail
  go_ret
  exact ⟨rfl, hB⟩

end Go.Proofs.Ytggojffmfjeikaa
