/- The law's copies and comparisons of jobs. -/
import Derived.Test.YtiimebiecihpkaaVk
import Derived.Test.YtiimebiecihpkaaMxu
namespace Go.Proofs.Ytiimebiecihpkaa
open Go.RowKit
set_option linter.unusedVariables false

/-- a block of the call's own holds these cells -/
structure Bk (n : Nat) (w : World) (b : Nat) (v : Nat → Value) : Prop where
  cell : ∀ i, i < n → w.cell? ⟨b, i, none⟩ = some (v i)
  frz : ∀ o, w.frozen? ⟨b, o, none⟩ = false
theorem Bk.next {n : Nat} {w w' : World} {b C : Nat} {v : Nat → Value} (h : Bk n w b v) (hb : Below C w w') (hC : b < C) : Bk n w' b v :=
  ⟨fun i hi => (hb.cell (p := ⟨b, i, none⟩) hC).trans (h.cell i hi), fun o => (hb.frozen (p := ⟨b, o, none⟩) hC).trans (h.frz o)⟩
theorem Bk.set {n : Nat} {w : World} {b : Nat} {v : Nat → Value} (h : Bk n w b v) (i : Nat) (x : Value) : Bk n (w.setCell ⟨b, i, none⟩ x) b (fun j => if j = i then x else v j) := by
  refine ⟨fun j hj => ?_, fun o => (World.frozen?_setCell _ _ _ _).trans (h.frz o)⟩
  by_cases e : j = i
  · subst e; simp only [if_true]; exact World.cell?_setCell_same _ _ _ (h.cell j hj)
  · simp only [e, if_false]
    rw [World.cell?_setCell_other _ _ _ _ (by intro e2; simp only [Addr.mk.injEq] at e2; omega)]
    exact h.cell j hj
theorem Bk.other {n : Nat} {w : World} {b : Nat} {v : Nat → Value} (h : Bk n w b v) {p : Addr} (x : Value) (hp : p.block ≠ b) : Bk n (w.setCell p x) b v :=
  ⟨fun j hj => by rw [World.cell?_setCell_other _ _ _ _ (by intro e2; apply hp; rw [e2])]; exact h.cell j hj, fun o => (World.frozen?_setCell _ _ _ _).trans (h.frz o)⟩
theorem Mo.setOther {W : World} {L g kg n k : Nat} {ls : List (List Int)} {R K : Nat → Nat} (h : Mo W L g kg n k ls R K) {p : Addr} (hp : p.block < L) (u : Value) : Mo (W.setCell p u) L g kg n k ls R K := by
  obtain ⟨vs, h1, h2⟩ := h.top
  have hbg := h.base
  obtain ⟨pb, po, ps⟩ := p
  exact ⟨⟨vs, h1.kept (row := some pb) ⟨rfl, rfl, rfl, by simp [World.setCell], fun j _ hj => Below.heap_setCell _ _ _ _ (by intro e; apply hj; rw [e])⟩ (.inr (by simp [Value.ownBlock]; exact fun e => by have hp2 : pb < L := hp; omega)), h2⟩, fun i hi => (h.row i hi).setOther (fun e => by have := (h.row i hi).base; have hp2 : pb < L := hp; have e2 : pb = R i := e; omega) _, h.ne, h.inj⟩
theorem Wpt.setOther {w : World} {L B : Nat} {l : List Fn} {b : Nat} (h : Wpt w L B l b) {p : Addr} (hp : p.block < L) (u : Value) : Wpt (w.setCell p u) L B l b :=
  h.agree (fun k h1 h2 => Below.heap_setCell _ _ _ _ (by omega))

/-- a copy of a job -/
def FreshJob (w : World) (fs : List Fn) (fu sh : Int) (pt : List Int) (ls : List (List Int)) (e : Ending) (w' : World) : Prop :=
  ∃ g1 g2 g3, e = .returned (.agg #[.slice (some ⟨g1, 0, none⟩) fs.length fs.length, .int .i64 fu, .int .i64 sh, .slice (some ⟨g2, 0, none⟩) pt.length pt.length, .slice (some ⟨g3, 0, none⟩) ls.length ls.length]) ∧
    Wpt w' w.heap.size w'.heap.size fs g1 ∧ Own w.heap.size w' g2 pt.length pt ∧ (∃ R K, Mo w' w.heap.size g3 ls.length ls.length ls.length ls R K) ∧ Below w.heap.size w w'

set_option maxRecDepth 100000 in
set_option maxHeartbeats 6400000 in
theorem toJob (fs : List Fn) (fu sh : Int) (pt : List Int) (ls : List (List Int)) (ap : Option Addr) (capp : Nat) (apt : Option Addr) (cpt : Nat) (att : Option Addr) (ct : Nat) (w : World)
    (hP : Pat w 0 w.heap.size fs ap) (hA : At w apt pt) (hM : Mat w att ls) (hs : jSz fs pt ls ≤ 1048576) :
    Calls Try.prog 49 #[.agg #[.slice ap fs.length capp, .int .i64 fu, .int .i64 sh, .slice apt pt.length cpt, .slice att ls.length ct]] w (FreshJob w fs fu sh pt ls) := by
  have hs1 : pgSize fs ≤ 1048576 := by unfold jSz at hs; omega
  have hs2 : pt.length ≤ 1048576 := by unfold jSz at hs; omega
  have hs3 : mSz ls ≤ 1048576 := by unfold jSz at hs; omega
  obtain ⟨w0, hw0⟩ : ∃ w0, w0 = ((w.alloc (.cells #[.slice ap fs.length capp, .int .i64 fu, .int .i64 sh, .slice apt pt.length cpt, .slice att ls.length ct] 68)).alloc (.cells #[.slice none 0 0, .int .i64 0, .int .i64 0, .slice none 0 0, .slice none 0 0] 72)).alloc (.cells #[.slice none 0 0, .int .i64 0, .int .i64 0, .slice none 0 0, .slice none 0 0] 72) := ⟨_, rfl⟩
  have A0 : Below w.heap.size w w0 := by rw [hw0]; exact (((Below.refl _ _).alloc (Nat.le_refl _) _).alloc (by simp) _).alloc (by simp; omega) _
  have z0 : w0.heap.size = w.heap.size + 1 + 1 + 1 := by rw [hw0]; simp
  have J0 : Bk 5 w0 w.heap.size (fun j => match j with | 0 => .slice ap fs.length capp | 1 => .int .i64 fu | 2 => .int .i64 sh | 3 => .slice apt pt.length cpt | _ => .slice att ls.length ct) := by
    refine ⟨fun i hi => ?_, fun o => by rw [hw0]; simp [go_sem]⟩
    match i, hi with
    | 0, _ => rw [hw0]; simp [go_sem]
    | 1, _ => rw [hw0]; simp [go_sem]
    | 2, _ => rw [hw0]; simp [go_sem]
    | 3, _ => rw [hw0]; simp [go_sem]
    | 4, _ => rw [hw0]; simp [go_sem]
  have R0 : Bk 5 w0 (w.heap.size + 1) (fun j => match j with | 0 => .slice none 0 0 | 1 => .int .i64 0 | 2 => .int .i64 0 | _ => .slice none 0 0) := by
    refine ⟨fun i hi => ?_, fun o => by rw [hw0]; simp [go_sem]⟩
    match i, hi with
    | 0, _ => rw [hw0]; simp [go_sem]
    | 1, _ => rw [hw0]; simp [go_sem]
    | 2, _ => rw [hw0]; simp [go_sem]
    | 3, _ => rw [hw0]; simp [go_sem]
    | 4, _ => rw [hw0]; simp [go_sem]
  have O0 : Bk 5 w0 (w.heap.size + 1 + 1) (fun j => match j with | 0 => .slice none 0 0 | 1 => .int .i64 0 | 2 => .int .i64 0 | _ => .slice none 0 0) := by
    refine ⟨fun i hi => ?_, fun o => by rw [hw0]; simp [go_sem]⟩
    match i, hi with
    | 0, _ => rw [hw0]; simp [go_sem]
    | 1, _ => rw [hw0]; simp [go_sem]
    | 2, _ => rw [hw0]; simp [go_sem]
    | 3, _ => rw [hw0]; simp [go_sem]
    | 4, _ => rw [hw0]; simp [go_sem]
  have ne1 : w.heap.size ≠ w.heap.size + 1 + 1 := by omega
  have ne2 : w.heap.size + 1 ≠ w.heap.size + 1 + 1 := by omega
  have ne3 : w.heap.size ≠ w.heap.size + 1 := by omega
  have HP := Lib.hid (toProgramW fs ap capp w0 ((hP.below A0).mono (Nat.le_refl _) A0.size) hs1)
  have c0 : w0.cell? ⟨w.heap.size, 0, none⟩ = some (.slice ap fs.length capp) := J0.cell 0 (by omega)
  go_enter Try.func49, Try.ntmps49
  go_wp2_with fail
  rw [← hw0]
  clear hw0 hP
  refine HP.out.mono ?_; rintro e w1 ⟨g1, rfl, W1, b1⟩
  have z1 := b1.size
  have A1 := A0.trans (b1.mono A0.size)
  have J1 := J0.next b1 (by omega)
  have R1 := R0.next b1 (by omega)
  have O1 := O0.next b1 (by omega)
  clear HP J0 R0 O0 c0
  have c1 : w1.cell? ⟨w.heap.size, 1, none⟩ = some (.int .i64 fu) := J1.cell 1 (by omega)
  have c2 : w1.cell? ⟨w.heap.size, 2, none⟩ = some (.int .i64 sh) := J1.cell 2 (by omega)
  have c3 : w1.cell? ⟨w.heap.size, 3, none⟩ = some (.slice apt pt.length cpt) := J1.cell 3 (by omega)
  have o0 : w1.cell? ⟨w.heap.size + 1 + 1, 0, none⟩ = some (.slice none 0 0) := O1.cell 0 (by omega)
  have o1 : w1.cell? ⟨w.heap.size + 1 + 1, 1, none⟩ = some (.int .i64 0) := O1.cell 1 (by omega)
  have o2 : w1.cell? ⟨w.heap.size + 1 + 1, 2, none⟩ = some (.int .i64 0) := O1.cell 2 (by omega)
  have fz0 := O1.frz 0
  have fz1 := O1.frz 1
  have fz2 := O1.frz 2
  go_wp2_with fail
  obtain ⟨w2, hw2⟩ : ∃ w2, w2 = (((w1).setCell ⟨w.heap.size + 1 + 1, 0, none⟩ (.slice (some ⟨g1, 0, none⟩) fs.length fs.length)).setCell ⟨w.heap.size + 1 + 1, 1, none⟩ (.int .i64 fu)).setCell ⟨w.heap.size + 1 + 1, 2, none⟩ (.int .i64 sh) := ⟨_, rfl⟩
  have A2 : Below w.heap.size w w2 := by rw [hw2]; exact (((A1.setCell (p := ⟨w.heap.size + 1 + 1, 0, none⟩) (by show w.heap.size ≤ w.heap.size + 1 + 1; omega) _).setCell (p := ⟨w.heap.size + 1 + 1, 1, none⟩) (by show w.heap.size ≤ w.heap.size + 1 + 1; omega) _).setCell (p := ⟨w.heap.size + 1 + 1, 2, none⟩) (by show w.heap.size ≤ w.heap.size + 1 + 1; omega) _)
  have z2 : w2.heap.size = w1.heap.size := by rw [hw2]; simp
  have J2 := (((J1.other (p := ⟨w.heap.size + 1 + 1, 0, none⟩) (.slice (some ⟨g1, 0, none⟩) fs.length fs.length) (by show w.heap.size + 1 + 1 ≠ _; omega)).other (p := ⟨w.heap.size + 1 + 1, 1, none⟩) (.int .i64 fu) (by show w.heap.size + 1 + 1 ≠ _; omega)).other (p := ⟨w.heap.size + 1 + 1, 2, none⟩) (.int .i64 sh) (by show w.heap.size + 1 + 1 ≠ _; omega))
  have R2 := (((R1.other (p := ⟨w.heap.size + 1 + 1, 0, none⟩) (.slice (some ⟨g1, 0, none⟩) fs.length fs.length) (by show w.heap.size + 1 + 1 ≠ _; omega)).other (p := ⟨w.heap.size + 1 + 1, 1, none⟩) (.int .i64 fu) (by show w.heap.size + 1 + 1 ≠ _; omega)).other (p := ⟨w.heap.size + 1 + 1, 2, none⟩) (.int .i64 sh) (by show w.heap.size + 1 + 1 ≠ _; omega))
  have O2 := (((O1.set 0 (.slice (some ⟨g1, 0, none⟩) fs.length fs.length)).set 1 (.int .i64 fu)).set 2 (.int .i64 sh))
  have W2 := ((((W1.mono (L' := w0.heap.size) (Nat.le_refl _) (Nat.le_refl _)).setOther (p := ⟨w.heap.size + 1 + 1, 0, none⟩) (by show w.heap.size + 1 + 1 < _; omega) (.slice (some ⟨g1, 0, none⟩) fs.length fs.length)).setOther (p := ⟨w.heap.size + 1 + 1, 1, none⟩) (by show w.heap.size + 1 + 1 < _; omega) (.int .i64 fu)).setOther (p := ⟨w.heap.size + 1 + 1, 2, none⟩) (by show w.heap.size + 1 + 1 < _; omega) (.int .i64 sh))
  rw [← hw2] at J2 R2 O2 W2
  rw [← z2] at W2
  rw [← hw2]
  clear hw2 J1 R1 O1 W1 c1 c2 c3 o0 o1 o2 fz0 fz1 fz2 b1 A1
  refine (toInt64E apt cpt pt w2 (hA.below A2 (Nat.le_refl _)) hs2).mono ?_; rintro e w3 ⟨g2, rfl, P3, b3⟩
  have z3 := b3.size
  have A3 := A2.trans (b3.mono A2.size)
  have J3 := J2.next b3 (by omega)
  have R3 := R2.next b3 (by omega)
  have O3 := O2.next b3 (by omega)
  have W3 := W2.agree (w' := w3) (fun k _ h2 => b3.block k h2)
  clear J2 R2 O2 W2 A2
  have c4 : w3.cell? ⟨w.heap.size, 4, none⟩ = some (.slice att ls.length ct) := J3.cell 4 (by omega)
  have o3 : w3.cell? ⟨w.heap.size + 1 + 1, 3, none⟩ = some (.slice none 0 0) := O3.cell 3 (by omega)
  have fz3 := O3.frz 3
  go_wp2_with fail
  obtain ⟨w4, hw4⟩ : ∃ w4, w4 = (w3).setCell ⟨w.heap.size + 1 + 1, 3, none⟩ (.slice (some ⟨g2, 0, none⟩) pt.length pt.length) := ⟨_, rfl⟩
  have A4 : Below w.heap.size w w4 := by rw [hw4]; exact (A3.setCell (p := ⟨w.heap.size + 1 + 1, 3, none⟩) (by show w.heap.size ≤ w.heap.size + 1 + 1; omega) _)
  have z4 : w4.heap.size = w3.heap.size := by rw [hw4]; simp
  have R4 := (R3.other (p := ⟨w.heap.size + 1 + 1, 3, none⟩) (.slice (some ⟨g2, 0, none⟩) pt.length pt.length) (by show w.heap.size + 1 + 1 ≠ _; omega))
  have O4 := (O3.set 3 (.slice (some ⟨g2, 0, none⟩) pt.length pt.length))
  have W4 := (W3.setOther (p := ⟨w.heap.size + 1 + 1, 3, none⟩) (by show w.heap.size + 1 + 1 < _; omega) (.slice (some ⟨g2, 0, none⟩) pt.length pt.length))
  have hpb3 := P3.base
  have P4 := (P3.setOther (p := ⟨w.heap.size + 1 + 1, 3, none⟩) (by show w.heap.size + 1 + 1 ≠ _; omega) (.slice (some ⟨g2, 0, none⟩) pt.length pt.length))
  rw [← hw4] at R4 O4 W4 P4
  rw [← hw4]
  clear hw4 J3 R3 O3 W3 P3 c4 o3 fz3 b3 A3
  refine (toMat att ct ls w4 (hM.below A4 (Nat.le_refl _)) hs3).mono ?_; rintro e w5 ⟨g3, rfl, ⟨RR, KK, M5⟩, b5⟩
  have z5 := b5.size
  have A5 := A4.trans (b5.mono A4.size)
  have R5 := R4.next b5 (by omega)
  have O5 := O4.next b5 (by omega)
  have W5 := W4.agree (w' := w5) (fun k _ h2 => b5.block k (by omega))
  have P5 := P4.kept b5 P4.base.2
  clear R4 O4 W4 P4 A4
  have o0 : w5.cell? ⟨w.heap.size + 1 + 1, 0, none⟩ = some (.slice (some ⟨g1, 0, none⟩) fs.length fs.length) := O5.cell 0 (by omega)
  have o1 : w5.cell? ⟨w.heap.size + 1 + 1, 1, none⟩ = some (.int .i64 fu) := O5.cell 1 (by omega)
  have o2 : w5.cell? ⟨w.heap.size + 1 + 1, 2, none⟩ = some (.int .i64 sh) := O5.cell 2 (by omega)
  have o3 : w5.cell? ⟨w.heap.size + 1 + 1, 3, none⟩ = some (.slice (some ⟨g2, 0, none⟩) pt.length pt.length) := O5.cell 3 (by omega)
  have o4 : w5.cell? ⟨w.heap.size + 1 + 1, 4, none⟩ = some (.slice none 0 0) := O5.cell 4 (by omega)
  have fz4 := O5.frz 4
  have r0 : w5.cell? ⟨w.heap.size + 1, 0, none⟩ = some (.slice none 0 0) := R5.cell 0 (by omega)
  have r1 : w5.cell? ⟨w.heap.size + 1, 1, none⟩ = some (.int .i64 0) := R5.cell 1 (by omega)
  have r2 : w5.cell? ⟨w.heap.size + 1, 2, none⟩ = some (.int .i64 0) := R5.cell 2 (by omega)
  have r3 : w5.cell? ⟨w.heap.size + 1, 3, none⟩ = some (.slice none 0 0) := R5.cell 3 (by omega)
  have r4 : w5.cell? ⟨w.heap.size + 1, 4, none⟩ = some (.slice none 0 0) := R5.cell 4 (by omega)
  have rz0 := R5.frz 0
  have rz1 := R5.frz 1
  have rz2 := R5.frz 2
  have rz3 := R5.frz 3
  have rz4 := R5.frz 4
  have hpb := P5.base
  go_wp2_with fail
  refine bodyPost_ret (v := .agg #[.slice (some ⟨g1, 0, none⟩) fs.length fs.length, .int .i64 fu, .int .i64 sh, .slice (some ⟨g2, 0, none⟩) pt.length pt.length, .slice (some ⟨g3, 0, none⟩) ls.length ls.length]) (by simp [results, Try.results49, go_sem, r0, r1, r2, r3, r4]) rfl ⟨g1, g2, g3, rfl, ?_, ?_, ⟨RR, KK, ?_⟩, ?_⟩
  · exact (((((((W5.setOther (p := ⟨w.heap.size + 1 + 1, 4, none⟩) (by show w.heap.size + 1 + 1 < _; omega) (.slice (some ⟨g3, 0, none⟩) ls.length ls.length)).setOther (p := ⟨w.heap.size + 1, 0, none⟩) (by show w.heap.size + 1 < _; omega) (.slice (some ⟨g1, 0, none⟩) fs.length fs.length)).setOther (p := ⟨w.heap.size + 1, 1, none⟩) (by show w.heap.size + 1 < _; omega) (.int .i64 fu)).setOther (p := ⟨w.heap.size + 1, 2, none⟩) (by show w.heap.size + 1 < _; omega) (.int .i64 sh)).setOther (p := ⟨w.heap.size + 1, 3, none⟩) (by show w.heap.size + 1 < _; omega) (.slice (some ⟨g2, 0, none⟩) pt.length pt.length)).setOther (p := ⟨w.heap.size + 1, 4, none⟩) (by show w.heap.size + 1 < _; omega) (.slice (some ⟨g3, 0, none⟩) ls.length ls.length))).mono (by omega) (by simp; omega)
  · exact (((((((P5.setOther (p := ⟨w.heap.size + 1 + 1, 4, none⟩) (by show w.heap.size + 1 + 1 ≠ _; omega) (.slice (some ⟨g3, 0, none⟩) ls.length ls.length)).setOther (p := ⟨w.heap.size + 1, 0, none⟩) (by show w.heap.size + 1 ≠ _; omega) (.slice (some ⟨g1, 0, none⟩) fs.length fs.length)).setOther (p := ⟨w.heap.size + 1, 1, none⟩) (by show w.heap.size + 1 ≠ _; omega) (.int .i64 fu)).setOther (p := ⟨w.heap.size + 1, 2, none⟩) (by show w.heap.size + 1 ≠ _; omega) (.int .i64 sh)).setOther (p := ⟨w.heap.size + 1, 3, none⟩) (by show w.heap.size + 1 ≠ _; omega) (.slice (some ⟨g2, 0, none⟩) pt.length pt.length)).setOther (p := ⟨w.heap.size + 1, 4, none⟩) (by show w.heap.size + 1 ≠ _; omega) (.slice (some ⟨g3, 0, none⟩) ls.length ls.length))).mono (by omega)
  · exact (((((((M5.setOther (p := ⟨w.heap.size + 1 + 1, 4, none⟩) (by show w.heap.size + 1 + 1 < _; omega) (.slice (some ⟨g3, 0, none⟩) ls.length ls.length)).setOther (p := ⟨w.heap.size + 1, 0, none⟩) (by show w.heap.size + 1 < _; omega) (.slice (some ⟨g1, 0, none⟩) fs.length fs.length)).setOther (p := ⟨w.heap.size + 1, 1, none⟩) (by show w.heap.size + 1 < _; omega) (.int .i64 fu)).setOther (p := ⟨w.heap.size + 1, 2, none⟩) (by show w.heap.size + 1 < _; omega) (.int .i64 sh)).setOther (p := ⟨w.heap.size + 1, 3, none⟩) (by show w.heap.size + 1 < _; omega) (.slice (some ⟨g2, 0, none⟩) pt.length pt.length)).setOther (p := ⟨w.heap.size + 1, 4, none⟩) (by show w.heap.size + 1 < _; omega) (.slice (some ⟨g3, 0, none⟩) ls.length ls.length))).mono (by omega)
  · exact ((((((A5.setCell (p := ⟨w.heap.size + 1 + 1, 4, none⟩) (by show w.heap.size ≤ w.heap.size + 1 + 1; omega) (.slice (some ⟨g3, 0, none⟩) ls.length ls.length)).setCell (p := ⟨w.heap.size + 1, 0, none⟩) (by show w.heap.size ≤ w.heap.size + 1; omega) (.slice (some ⟨g1, 0, none⟩) fs.length fs.length)).setCell (p := ⟨w.heap.size + 1, 1, none⟩) (by show w.heap.size ≤ w.heap.size + 1; omega) (.int .i64 fu)).setCell (p := ⟨w.heap.size + 1, 2, none⟩) (by show w.heap.size ≤ w.heap.size + 1; omega) (.int .i64 sh)).setCell (p := ⟨w.heap.size + 1, 3, none⟩) (by show w.heap.size ≤ w.heap.size + 1; omega) (.slice (some ⟨g2, 0, none⟩) pt.length pt.length)).setCell (p := ⟨w.heap.size + 1, 4, none⟩) (by show w.heap.size ≤ w.heap.size + 1; omega) (.slice (some ⟨g3, 0, none⟩) ls.length ls.length))

set_option maxRecDepth 100000 in
set_option maxHeartbeats 3200000 in
theorem eqJob (fs : List Fn) (fu sh : Int) (pt : List Int) (ls : List (List Int)) (a1 b1 a2 b2 a3 b3 : Option Addr) (ca1 cb1 ca2 cb2 ca3 cb3 : Nat) (w : World)
    (hP : Pat w 0 w.heap.size fs a1) (hQ : Pat w 0 w.heap.size fs b1) (hl : fs.length ≤ maxLen) (h2 : At w a2 pt) (k2 : At w b2 pt) (hp : pt.length ≤ 1048576) (h3 : Mat w a3 ls) (k3 : Mat w b3 ls) (hs : mSz ls ≤ 1048576) :
    Calls Try.prog 51 #[.agg #[.slice a1 fs.length ca1, .int .i64 fu, .int .i64 sh, .slice a2 pt.length ca2, .slice a3 ls.length ca3], .agg #[.slice b1 fs.length cb1, .int .i64 fu, .int .i64 sh, .slice b2 pt.length cb2, .slice b3 ls.length cb3]] w fun e w' => e = .returned (.bool true) ∧ Below w.heap.size w w' := by
  obtain ⟨w0, hw0⟩ : ∃ w0, w0 = (w.alloc (.cells #[.slice a1 fs.length ca1, .int .i64 fu, .int .i64 sh, .slice a2 pt.length ca2, .slice a3 ls.length ca3] 72)).alloc (.cells #[.slice b1 fs.length cb1, .int .i64 fu, .int .i64 sh, .slice b2 pt.length cb2, .slice b3 ls.length cb3] 72) := ⟨_, rfl⟩
  have A0 : Below w.heap.size w w0 := by rw [hw0]; exact ((Below.refl _ _).alloc (Nat.le_refl _) _).alloc (by simp) _
  have z0 : w0.heap.size = w.heap.size + 1 + 1 := by rw [hw0]; simp
  have J0 : Bk 5 w0 w.heap.size (fun j => match j with | 0 => .slice a1 fs.length ca1 | 1 => .int .i64 fu | 2 => .int .i64 sh | 3 => .slice a2 pt.length ca2 | _ => .slice a3 ls.length ca3) := by
    refine ⟨fun i hi => ?_, fun o => by rw [hw0]; simp [go_sem]⟩
    match i, hi with
    | 0, _ => rw [hw0]; simp [go_sem]
    | 1, _ => rw [hw0]; simp [go_sem]
    | 2, _ => rw [hw0]; simp [go_sem]
    | 3, _ => rw [hw0]; simp [go_sem]
    | 4, _ => rw [hw0]; simp [go_sem]
  have K0 : Bk 5 w0 (w.heap.size + 1) (fun j => match j with | 0 => .slice b1 fs.length cb1 | 1 => .int .i64 fu | 2 => .int .i64 sh | 3 => .slice b2 pt.length cb2 | _ => .slice b3 ls.length cb3) := by
    refine ⟨fun i hi => ?_, fun o => by rw [hw0]; simp [go_sem]⟩
    match i, hi with
    | 0, _ => rw [hw0]; simp [go_sem]
    | 1, _ => rw [hw0]; simp [go_sem]
    | 2, _ => rw [hw0]; simp [go_sem]
    | 3, _ => rw [hw0]; simp [go_sem]
    | 4, _ => rw [hw0]; simp [go_sem]
  have HP := Lib.hid (eqProgram fs a1 b1 ca1 cb1 w0 ((hP.below A0).mono (Nat.le_refl _) A0.size) ((hQ.below A0).mono (Nat.le_refl _) A0.size) hl)
  have c0 : w0.cell? ⟨w.heap.size, 0, none⟩ = some (.slice a1 fs.length ca1) := J0.cell 0 (by omega)
  have d0 : w0.cell? ⟨w.heap.size + 1, 0, none⟩ = some (.slice b1 fs.length cb1) := K0.cell 0 (by omega)
  clear hP hQ
  go_enter Try.func51, Try.ntmps51
  go_wp2_with fail
  rw [← hw0]
  clear hw0
  refine HP.out.mono ?_; rintro e w1 ⟨rfl, hb1⟩
  have z1 := hb1.size
  have A1 := A0.trans (hb1.mono A0.size)
  have J1 := J0.next hb1 (by omega)
  have K1 := K0.next hb1 (by omega)
  clear HP J0 K0 c0 d0
  have c1 : w1.cell? ⟨w.heap.size, 1, none⟩ = some (.int .i64 fu) := J1.cell 1 (by omega)
  have c2 : w1.cell? ⟨w.heap.size, 2, none⟩ = some (.int .i64 sh) := J1.cell 2 (by omega)
  have c3 : w1.cell? ⟨w.heap.size, 3, none⟩ = some (.slice a2 pt.length ca2) := J1.cell 3 (by omega)
  have d1 : w1.cell? ⟨w.heap.size + 1, 1, none⟩ = some (.int .i64 fu) := K1.cell 1 (by omega)
  have d2 : w1.cell? ⟨w.heap.size + 1, 2, none⟩ = some (.int .i64 sh) := K1.cell 2 (by omega)
  have d3 : w1.cell? ⟨w.heap.size + 1, 3, none⟩ = some (.slice b2 pt.length cb2) := K1.cell 3 (by omega)
  have e1 : (fu != fu) = false := by simp
  have e2 : (sh != sh) = false := by simp
  go_wp2_with fail
  refine (eqInt64S a2 b2 ca2 cb2 pt w1 (h2.below A1 (Nat.le_refl _)) (k2.below A1 (Nat.le_refl _)) (by omega)).mono ?_; rintro e w2 ⟨rfl, hb2⟩
  have z2 := hb2.size
  have A2 := A1.trans (hb2.mono A1.size)
  have J2 := J1.next hb2 (by omega)
  have K2 := K1.next hb2 (by omega)
  clear J1 K1 c1 c2 c3 d1 d2 d3
  have c4 : w2.cell? ⟨w.heap.size, 4, none⟩ = some (.slice a3 ls.length ca3) := J2.cell 4 (by omega)
  have d4 : w2.cell? ⟨w.heap.size + 1, 4, none⟩ = some (.slice b3 ls.length cb3) := K2.cell 4 (by omega)
  go_wp2_with fail
  refine (eqMat a3 b3 ca3 cb3 ls w2 (h3.below A2 (Nat.le_refl _)) (k3.below A2 (Nat.le_refl _)) hs).mono ?_; rintro e w3 ⟨rfl, hb3⟩
  go_wp2_with fail
  go_ret
  exact ⟨rfl, A2.trans (hb3.mono A2.size)⟩

end Go.Proofs.Ytiimebiecihpkaa
