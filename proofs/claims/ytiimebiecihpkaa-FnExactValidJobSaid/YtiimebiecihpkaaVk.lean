/- Jobs as they come in; the law's sizes, copies and comparisons of them; valid jobs by the model. -/
import Derived.Test.YtiimebiecihpkaaVj
import Derived.Test.YtiimebiecihpkaaTap
namespace Go.Proofs.Ytiimebiecihpkaa
open Go.ChangeShapes Go.WideShapes Go.ChangeAt Go.RowKit
set_option linter.unusedVariables false

set_option maxRecDepth 100000 in
theorem openMatL {H : Type} {enc : TypeId × Value → H} {W : World} (fuel : Nat) (cs : List Value) (x : DataW H × List MemPlace) (h : DataW.trod enc Try.prog W 0 (fun _ => true) true fuel 22 cs = some x) :
    ∃ a ls cap, cs = [.slice a (List.length ls) cap] ∧ Mat W a ls ∧ (∀ i, Rng (ls.getD i [])) ∧ ls.length ≤ 9223372036854775807 ∧ ∀ i, (ls.getD i []).length ≤ 9223372036854775807 := by
  rcases Go.Deep.open_int_rows Try.underlying22 Try.underlying23 Try.underlying2 (by kernel_rfl) (by kernel_rfl) h with ⟨rfl, _⟩ | ⟨a, len0, cap0, A, L, C, Z, rfl, _, hl, hm, _, hrow⟩
  · exact ⟨none, [], 0, rfl, .inl rfl, fun i => by simp [rng_nil], by simp, fun i => by simp⟩
  · have hlen : ((List.range len0).map fun r => (Z r).take (L r)).length = len0 := by simp
    have hget : ∀ i, i < len0 → ((List.range len0).map fun r => (Z r).take (L r)).getD i [] = (Z i).take (L i) := fun i hi => by simp [List.getD_eq_getElem?_getD, hi]
    have hout : ∀ i, ¬ i < len0 → ((List.range len0).map fun r => (Z r).take (L r)).getD i [] = [] := fun i hi => by rw [List.getD_eq_getElem?_getD, List.getElem?_eq_none (by simp; omega)]; rfl
    refine ⟨some a, (List.range len0).map fun r => (Z r).take (L r), cap0, by rw [hlen], ?_, fun i => ?_, by rw [hlen]; unfold maxLen at hm; omega, fun i => ?_⟩
    · by_cases h0 : len0 = 0
      · left; rw [h0]; rfl
      · have hc0 := (hrow 0 (by omega)).1
        obtain ⟨b, off, spot⟩ := a
        have hspot : spot = none := by simpa [Addr.add] using World.cell?_spot hc0
        subst hspot
        have h1 : W.cell? ⟨b, off, none⟩ = some (.slice (A 0) (L 0) (C 0)) := by simpa [Addr.add] using hc0
        refine .inr ⟨b, off, rfl, cell_lt h1, fun i hi => ?_⟩
        rw [hlen] at hi
        obtain ⟨r1, r2, r3, r4, r5, r6, r7⟩ := hrow i (by omega)
        have e : (⟨b, off, none⟩ : Addr).add i = ⟨b, off + i, none⟩ := by cases i <;> simp [Addr.add]
        rw [e] at r1
        refine ⟨A i, C i, ?_, ?_⟩
        · rw [hget i hi, List.length_take, r4, Nat.min_eq_left r2]; exact r1
        · rw [hget i hi]; exact row_at r2 r4 r6 r7
    · by_cases hi : i < len0
      · rw [hget i hi]
        obtain ⟨_, _, _, _, r5, _⟩ := hrow i (by omega)
        exact fun n hn => bounds_i64 (r5 n (List.mem_of_mem_take hn))
      · rw [hout i hi]; exact rng_nil
    · by_cases hi : i < len0
      · rw [hget i hi, List.length_take]
        obtain ⟨_, r2, r3, r4, _⟩ := hrow i (by omega)
        unfold maxLen at r3; omega
      · rw [hout i hi]; simp

/-- a job that came in -/
def IsJob (W : World) (v : Value) : Prop := ∃ (ap : Option Addr) (capp : Nat) (fs : List Fn) (fu sh : Int) (apt : Option Addr) (cpt : Nat) (pt : List Int) (att : Option Addr) (ct : Nat) (ls : List (List Int)),
  v = .agg #[.slice ap fs.length capp, .int .i64 fu, .int .i64 sh, .slice apt pt.length cpt, .slice att ls.length ct] ∧ (Pat W 0 W.heap.size fs ap ∧ fs.length ≤ maxLen) ∧
  ((-9223372036854775808 ≤ fu ∧ fu ≤ 9223372036854775807) ∧ (-9223372036854775808 ≤ sh ∧ sh ≤ 9223372036854775807)) ∧ (At W apt pt ∧ Rng pt ∧ pt.length ≤ 9223372036854775807) ∧ (Mat W att ls ∧ (∀ i, Rng (ls.getD i [])) ∧ ls.length ≤ 9223372036854775807 ∧ ∀ i, (ls.getD i []).length ≤ 9223372036854775807)

set_option maxRecDepth 100000 in
theorem cellsJob : Try.prog.cellsOf 68 = 5 := by kernel_rfl
set_option maxRecDepth 100000 in
theorem openJob {H : Type} {enc : TypeId × Value → H} {W : World} {base : Nat} {v : Value} {d : DataW H} {p : List MemPlace} (hw : Value.okWide Try.prog W .any base 68 v) (h : DataW.Trod enc Try.prog W 0 (fun _ => true) true 68 v d p) : IsJob W v := by
  obtain ⟨cs, rfl, hsz⟩ := okWide_struct Try.underlying68 hw
  obtain ⟨l⟩ := cs
  match l, hsz.trans cellsJob with
  | [c0, c1, c2, c3, c4], _ =>
    obtain ⟨fuel, hf⟩ := h
    obtain ⟨xs, n', rfl, _, _, hxl, hf⟩ := DataW.trod_struct Try.underlying68 hf
    have q0 := hf 0 _ rfl
    have q1 := hf 1 _ rfl
    have q2 := hf 2 _ rfl
    have q3 := hf 3 _ rfl
    have q4 := hf 4 _ rfl
    obtain ⟨xs', n'', hx', _, _, hxl', hf'⟩ := DataW.trod_struct Try.underlying40 (q0.trans (List.getElem?_eq_getElem (by rw [hxl]; decide)))
    have p0 := hf' 0 _ rfl
    obtain ⟨ap, fs, capp, e0, hP, hPl⟩ := openFuncs n'' _ _ (p0.trans (List.getElem?_eq_getElem (by rw [hxl']; decide)))
    obtain ⟨fu, e1, _, r1⟩ := DataW.trod_int Try.underlying2 (q1.trans (List.getElem?_eq_getElem (by rw [hxl]; decide)))
    obtain ⟨sh, e2, _, r2⟩ := DataW.trod_int Try.underlying2 (q2.trans (List.getElem?_eq_getElem (by rw [hxl]; decide)))
    obtain ⟨apt, pt, cpt, e3, ho, hr, hol⟩ := openInts n' _ _ (q3.trans (List.getElem?_eq_getElem (by rw [hxl]; decide)))
    obtain ⟨att, ls, ct, e4, hM, hMr, hMl, hMk⟩ := openMatL n' _ _ (q4.trans (List.getElem?_eq_getElem (by rw [hxl]; decide)))
    obtain rfl : c0 = .slice ap fs.length capp := List.head_eq_of_cons_eq e0
    obtain rfl : c1 = .int .i64 fu := List.head_eq_of_cons_eq e1
    obtain rfl : c2 = .int .i64 sh := List.head_eq_of_cons_eq e2
    obtain rfl : c3 = .slice apt pt.length cpt := List.head_eq_of_cons_eq e3
    obtain rfl : c4 = .slice att ls.length ct := List.head_eq_of_cons_eq e4
    exact ⟨ap, capp, fs, fu, sh, apt, cpt, pt, att, ct, ls, rfl, ⟨hP, hPl⟩, ⟨bounds_i64 r1, bounds_i64 r2⟩, ⟨ho, hr, by unfold maxLen at hol; omega⟩, hM, hMr, hMl, hMk⟩

/-- the size of a job -/
def jSz (fs : List Fn) (pt : List Int) (ls : List (List Int)) : Nat := pgSize fs + pt.length + mSz ls
set_option maxRecDepth 100000 in
set_option maxHeartbeats 3200000 in
theorem szJob (fs : List Fn) (fu sh : Int) (pt : List Int) (ls : List (List Int)) (ap : Option Addr) (capp : Nat) (apt : Option Addr) (cpt : Nat) (att : Option Addr) (ct : Nat) (left : Int) (w : World)
    (hP : Pat w 0 w.heap.size fs ap) (hPl : fs.length ≤ maxLen) (hpl : pt.length ≤ 9223372036854775807) (hM : Mat w att ls) (hMl : ls.length ≤ 9223372036854775807) (hMk : ∀ i, (ls.getD i []).length ≤ 9223372036854775807) (h0 : 0 ≤ left) (h1 : left ≤ 1048576) :
    Calls Try.prog 47 #[.agg #[.slice ap fs.length capp, .int .i64 fu, .int .i64 sh, .slice apt pt.length cpt, .slice att ls.length ct], .int .i64 left] w fun e w' => e = .returned (.int .i64 (szv (jSz fs pt ls) left)) ∧ Below w.heap.size w w' := by
  obtain ⟨w0, hw0⟩ : ∃ w0, w0 = w.alloc (.cells #[.slice ap fs.length capp, .int .i64 fu, .int .i64 sh, .slice apt pt.length cpt, .slice att ls.length ct] 68) := ⟨_, rfl⟩
  have hb0 : Below w.heap.size w w0 := by rw [hw0]; exact (Below.refl _ _).alloc (Nat.le_refl _) _
  have z0 : w0.heap.size = w.heap.size + 1 := by rw [hw0]; simp
  have c0 : w0.cell? ⟨w.heap.size, 0, none⟩ = some (.slice ap fs.length capp) := by rw [hw0]; simp [go_sem]
  have c3 : w0.cell? ⟨w.heap.size, 3, none⟩ = some (.slice apt pt.length cpt) := by rw [hw0]; simp [go_sem]
  have c4 : w0.cell? ⟨w.heap.size, 4, none⟩ = some (.slice att ls.length ct) := by rw [hw0]; simp [go_sem]
  have HZ := Lib.hid (szProgram fs ap capp left w0 ((hP.below hb0).mono (Nat.le_refl _) hb0.size) hPl h0 h1)
  have HM := Lib.hid (hM.below hb0 (Nat.le_refl _))
  clear hP hM
  by_cases h2 : ((pgSize fs : Nat) : Int) ≤ left
  rotate_left
  · have HE : Hid (szv (jSz fs pt ls) left = -1) := szv_f (by unfold jSz; omega)
    rw [szv_f h2] at HZ
    clear HM c0 c3 c4 h2
    go_enter Try.func47, Try.ntmps47
    go_wp2_with fail
    rw [← hw0]
    clear hw0
    refine HZ.out.mono ?_; rintro e w1 ⟨rfl, hb1⟩
    go_wp2_with fail
    go_ret
    exact ⟨ret_int HE.out.symm, hb0.trans (hb1.mono (by omega))⟩
  rw [szv_t h2] at HZ
  obtain ⟨y, hy⟩ : ∃ y, y = left - ((pgSize fs : Nat) : Int) := ⟨_, rfl⟩
  rw [← hy] at HZ
  have hy0 : 0 ≤ y := by omega
  have hyd : decide (y < 0) = false := decide_eq_false (by omega)
  by_cases h3 : (pt.length : Int) ≤ y
  rotate_left
  · have HE : Hid (szv (jSz fs pt ls) left = -1) := szv_f (by unfold jSz; omega)
    have HO := fun W => Lib.hid (szOuts_f apt pt.length cpt y W (by omega) hy0 (by omega))
    clear HM hy h2 h3 hpl
    go_enter Try.func47, Try.ntmps47
    go_wp2_with fail
    rw [← hw0]
    clear hw0
    refine HZ.out.mono ?_; rintro e w1 ⟨rfl, hb1⟩
    have e3 := (hb1.cell (p := ⟨w.heap.size, 3, none⟩) (by show w.heap.size < _; omega)).trans c3
    clear c0 c3 c4
    go_wp2_with fail
    refine (HO _).out.mono ?_; rintro e w2 ⟨rfl, rfl⟩
    go_wp2_with fail
    go_ret
    exact ⟨ret_int HE.out.symm, hb0.trans (hb1.mono (by omega))⟩
  have HO := fun W => Lib.hid (szOuts_t apt pt.length cpt y W h3 (by omega))
  obtain ⟨x, hx⟩ : ∃ x, x = y - (pt.length : Int) := ⟨_, rfl⟩
  rw [← hx] at HO
  have hx0 : 0 ≤ x := by omega
  have hxd : decide (x < 0) = false := decide_eq_false (by omega)
  have HS := fun (W : World) (hW : Below w0.heap.size w0 W) => Lib.hid (szMat att ct ls x W (HM.out.below hW (Nat.le_refl _)) hMl hMk hx0 (by omega))
  have HE : Hid (szv (jSz fs pt ls) left = mzR ls x) := by
    show _ = _
    unfold mzR
    by_cases h4 : (mSz ls : Int) ≤ x
    · rw [if_pos h4, szv_t (by unfold jSz; omega)]; unfold jSz; omega
    · rw [if_neg h4, szv_f (by unfold jSz; omega)]
  have hm : mzR ls x = -1 ∨ 0 ≤ mzR ls x := by
    unfold mzR; split
    · right; omega
    · left; rfl
  clear HM hy h2 h3 hpl hx hMl hMk
  generalize mzR ls x = mm at *
  rcases hm with rfl | hm
  · go_enter Try.func47, Try.ntmps47
    go_wp2_with fail
    rw [← hw0]
    clear hw0
    refine HZ.out.mono ?_; rintro e w1 ⟨rfl, hb1⟩
    have e3 := (hb1.cell (p := ⟨w.heap.size, 3, none⟩) (by show w.heap.size < _; omega)).trans c3
    have e4 := (hb1.cell (p := ⟨w.heap.size, 4, none⟩) (by show w.heap.size < _; omega)).trans c4
    clear c0 c3 c4
    go_wp2_with fail
    refine (HO _).out.mono ?_; rintro e w2 ⟨rfl, rfl⟩
    go_wp2_with fail
    refine (HS _ hb1).out.mono ?_; rintro e w2 ⟨rfl, rfl⟩
    go_wp2_with fail
    go_ret
    exact ⟨ret_int HE.out.symm, hb0.trans (hb1.mono (by omega))⟩
  · have hmd : decide (mm < 0) = false := decide_eq_false (by omega)
    go_enter Try.func47, Try.ntmps47
    go_wp2_with fail
    rw [← hw0]
    clear hw0
    refine HZ.out.mono ?_; rintro e w1 ⟨rfl, hb1⟩
    have e3 := (hb1.cell (p := ⟨w.heap.size, 3, none⟩) (by show w.heap.size < _; omega)).trans c3
    have e4 := (hb1.cell (p := ⟨w.heap.size, 4, none⟩) (by show w.heap.size < _; omega)).trans c4
    clear c0 c3 c4
    go_wp2_with fail
    refine (HO _).out.mono ?_; rintro e w2 ⟨rfl, rfl⟩
    go_wp2_with fail
    refine (HS _ hb1).out.mono ?_; rintro e w2 ⟨rfl, rfl⟩
    go_wp2_with fail
    go_ret
    exact ⟨ret_int HE.out.symm, hb0.trans (hb1.mono (by omega))⟩

end Go.Proofs.Ytiimebiecihpkaa
