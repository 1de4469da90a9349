/- The program: which expressions are valid in an environment. -/
import Derived.Test.YtiimebiecihpkaaIm
import Derived.Test.YtiimebiecihpkaaSy
namespace Go.Proofs.Ytiimebiecihpkaa
open Go.RowKit
set_option linter.unusedVariables false

theorem accB_full {fs : List Fn} {vars funcs : Int} {k n p c : Int} {kk : Fo} (h1 : 0 ≤ vars ∧ vars ≤ 412) (h2 : 0 ≤ funcs ∧ funcs ≤ (fs.length : Int)) :
    accB fs funcs vars 60 400 k n p c kk = exprE fs vars funcs k n p c kk := by
  by_cases h3 : (kk.size : Int) + 1 ≤ 400
  · exact accB_exprE h1 h2 h3 (by omega)
  · have e1 : decide ((kk.size : Int) + 1 ≤ 400) = false := decide_eq_false h3
    have e2 : decide (kk.size + 1 ≤ 400) = false := decide_eq_false (by omega)
    unfold accB exprE
    rw [e1, e2]; simp
theorem exprE_bad {fs : List Fn} {vars funcs : Int} {k n p c : Int} {kk : Fo} (h : ¬ ((0 ≤ vars ∧ vars ≤ 412) ∧ (0 ≤ funcs ∧ funcs ≤ (fs.length : Int)))) : exprE fs vars funcs k n p c kk = false := by
  unfold exprE
  by_cases h1 : 0 ≤ vars ∧ vars ≤ 412
  · have h2 : ¬ (0 ≤ funcs ∧ funcs ≤ (fs.length : Int)) := fun h2 => h ⟨h1, h2⟩
    rw [decide_eq_false h2]; simp
  · rw [decide_eq_false h1]; simp

/-- What is answered for an environment. -/
def ScopeRes (v : Value) (b : Bool) (w : World) (e : Ending) (w' : World) : Prop := e = .returned (.tuple #[v, .bool b]) ∧ Below w.heap.size w w'

set_option maxRecDepth 100000 in
set_option maxHeartbeats 3200000 in
theorem iScopeT (ba oa m capp fn : Nat) (vars : Int) (w : World) (h1 : 0 ≤ vars ∧ vars ≤ 412) (h2 : fn ≤ m) (hc : m ≤ capp) (hcm : capp ≤ 1048576) :
    Calls Try.prog 103 #[.agg #[.slice (some ⟨ba, oa, none⟩) m capp], .int .i64 vars, .int .i64 fn] w (ScopeRes (.agg #[.slice (some ⟨ba, oa, none⟩) fn capp, .int .i64 vars]) true w) := by
  have d1 : decide (vars < 0) = false := decide_eq_false (by omega)
  have d2 : decide (412 < vars) = false := decide_eq_false (by omega)
  have d3 : decide ((fn : Int) < 0) = false := decide_eq_false (by omega)
  have d4 : decide ((m : Int) < (fn : Int)) = false := decide_eq_false (by omega)
  have d5 : (fn : Int) ≤ (capp : Int) := by omega
  have d6 : fn ≤ capp := by omega
  go_enter Try.func103, Try.ntmps103
  go_wp2_with fail
  refine bodyPost_ret (v := .tuple #[.agg #[.slice (some ⟨ba, oa, none⟩) fn capp, .int .i64 vars], .bool true]) (by simp [results, Try.results103, go_sem]) rfl ⟨rfl, ?_⟩
  exact ((Below.refl _ _).alloc (Nat.le_refl _) _).alloc (by simp) _
set_option maxRecDepth 100000 in
set_option maxHeartbeats 3200000 in
theorem iScopeF (ba oa m capp : Nat) (vars funcs : Int) (w : World) (h : ¬ ((0 ≤ vars ∧ vars ≤ 412) ∧ (0 ≤ funcs ∧ funcs ≤ (m : Int)))) (hm : m ≤ 1048576) :
    Calls Try.prog 103 #[.agg #[.slice (some ⟨ba, oa, none⟩) m capp], .int .i64 vars, .int .i64 funcs] w (ScopeRes (.agg #[.slice none 0 0, .int .i64 0]) false w) := by
  have hmi : (m : Int) ≤ 1048576 := by omega
  rcases (by omega : vars < 0 ∨ (0 ≤ vars ∧ 412 < vars) ∨ ((0 ≤ vars ∧ vars ≤ 412) ∧ funcs < 0) ∨ ((0 ≤ vars ∧ vars ≤ 412) ∧ 0 ≤ funcs ∧ (m : Int) < funcs)) with g | ⟨g1, g2⟩ | ⟨g1, g2⟩ | ⟨g1, g2, g3⟩
  · have d1 : decide (vars < 0) = true := decide_eq_true g
    clear h
    go_enter Try.func103, Try.ntmps103
    go_wp2_with fail
    refine bodyPost_ret (v := .tuple #[.agg #[.slice none 0 0, .int .i64 0], .bool false]) (by simp [results, Try.results103, go_sem]) rfl ⟨rfl, ?_⟩
    exact ((Below.refl _ _).alloc (Nat.le_refl _) _).alloc (by simp) _
  · have d1 : decide (vars < 0) = false := decide_eq_false (by omega)
    have d2 : decide (412 < vars) = true := decide_eq_true g2
    clear h
    go_enter Try.func103, Try.ntmps103
    go_wp2_with fail
    refine bodyPost_ret (v := .tuple #[.agg #[.slice none 0 0, .int .i64 0], .bool false]) (by simp [results, Try.results103, go_sem]) rfl ⟨rfl, ?_⟩
    exact ((Below.refl _ _).alloc (Nat.le_refl _) _).alloc (by simp) _
  · have d1 : decide (vars < 0) = false := decide_eq_false (by omega)
    have d2 : decide (412 < vars) = false := decide_eq_false (by omega)
    have d3 : decide (funcs < 0) = true := decide_eq_true g2
    clear h
    go_enter Try.func103, Try.ntmps103
    go_wp2_with fail
    refine bodyPost_ret (v := .tuple #[.agg #[.slice none 0 0, .int .i64 0], .bool false]) (by simp [results, Try.results103, go_sem]) rfl ⟨rfl, ?_⟩
    exact ((Below.refl _ _).alloc (Nat.le_refl _) _).alloc (by simp) _
  · have d1 : decide (vars < 0) = false := decide_eq_false (by omega)
    have d2 : decide (412 < vars) = false := decide_eq_false (by omega)
    have d3 : decide (funcs < 0) = false := decide_eq_false (by omega)
    have d4 : decide ((m : Int) < funcs) = true := decide_eq_true g3
    clear h
    go_enter Try.func103, Try.ntmps103
    go_wp2_with fail
    refine bodyPost_ret (v := .tuple #[.agg #[.slice none 0 0, .int .i64 0], .bool false]) (by simp [results, Try.results103, go_sem]) rfl ⟨rfl, ?_⟩
    exact ((Below.refl _ _).alloc (Nat.le_refl _) _).alloc (by simp) _

set_option maxRecDepth 100000 in
set_option maxHeartbeats 3200000 in
theorem iHolds (fs : List Fn) (ap : Option Addr) (fn capp : Nat) (k n p c : Int) (ks : Fo) (a : Option Addr) (cap : Nat) (vars : Int) (w : World)
    (hP : Pat w 0 w.heap.size fs ap) (hR : R4 k n p c) (hF : Fat w 0 w.heap.size ks a) (hl : fs.length ≤ 1048576) (hs : ks.size ≤ 1048576) (hfn : fn ≤ fs.length) (hv : 0 ≤ vars ∧ vars ≤ 412) :
    Calls Try.prog 104 #[.agg #[.slice ap fn capp, .int .i64 vars], .agg #[.int .i64 k, .int .i64 n, .int .i64 p, .int .i64 c, .slice a ks.len cap]] w fun e w' => e = .returned (.bool (exprE fs vars fn k n p c ks)) ∧ Below w.heap.size w w' := by
  obtain ⟨w2, hw2⟩ : ∃ w2, w2 = ((w.alloc (.cells #[.slice ap fn capp, .int .i64 vars] 142)).alloc (.cells #[.int .i64 k, .int .i64 n, .int .i64 p, .int .i64 c, .slice a ks.len cap] 53)).alloc (.cells #[.int .i64 400] 2) := ⟨_, rfl⟩
  have hB2 : Below w.heap.size w w2 := by rw [hw2]; exact (((Below.refl _ _).alloc (Nat.le_refl _) _).alloc (by simp) _).alloc (by simp; omega) _
  have z2 : w2.heap.size = w.heap.size + 3 := by rw [hw2]; simp
  have q0 : w2.cell? ⟨w.heap.size + 2, 0, none⟩ = some (.int .i64 400) := by rw [hw2]; simp [go_sem]
  have qz : w2.frozen? ⟨w.heap.size + 2, 0, none⟩ = false := by rw [hw2]; simp [go_sem]
  have e0 : w2.cell? ⟨w.heap.size + 1, 0, none⟩ = some (.int .i64 k) := by rw [hw2]; simp [go_sem]
  have e1 : w2.cell? ⟨w.heap.size + 1, 1, none⟩ = some (.int .i64 n) := by rw [hw2]; simp [go_sem]
  have e2 : w2.cell? ⟨w.heap.size + 1, 2, none⟩ = some (.int .i64 p) := by rw [hw2]; simp [go_sem]
  have e3 : w2.cell? ⟨w.heap.size + 1, 3, none⟩ = some (.int .i64 c) := by rw [hw2]; simp [go_sem]
  have e4 : w2.cell? ⟨w.heap.size + 1, 4, none⟩ = some (.slice a ks.len cap) := by rw [hw2]; simp [go_sem]
  have s0 : w2.cell? ⟨w.heap.size, 0, none⟩ = some (.slice ap fn capp) := by rw [hw2]; simp [go_sem]
  have s1 : w2.cell? ⟨w.heap.size, 1, none⟩ = some (.int .i64 vars) := by rw [hw2]; simp [go_sem]
  have HE := Lib.hid (accB_full (fs := fs) (k := k) (n := n) (p := p) (c := c) (kk := ks) hv (funcs := fn) ⟨by omega, by omega⟩)
  have HC := Lib.hid (iAccepts_all fs ap fn capp hfn hl (ks.size + 1) ks (by omega) k n p c a cap vars 60 400 (w.heap.size + 2) w2 ((hP.below hB2).mono (Nat.le_refl _) (by omega)) ((hF.below hB2).mono (Nat.le_refl _) (by omega)) hR (by omega) (by omega) q0 qz (by omega) (by omega) (by omega) (by omega) ⟨by omega, by omega⟩)
  rw [HE.out] at HC
  generalize hT : exprE fs vars (fn : Int) k n p c ks = T at HC
  have HT := Lib.hid hT
  clear hT
  clear hP hF HE q0 qz
  go_enter Try.func104, Try.ntmps104
  go_wp2_with fail
  rw [← hw2]
  clear hw2
  refine (HC.out).mono ?_; rintro e w7 ⟨rfl, _, _, hg7⟩
  have hbx : Below w.heap.size w w7 := ⟨hg7.os.trans hB2.os, hg7.tape.trans hB2.tape, hg7.output.trans hB2.output, Nat.le_trans hB2.size hg7.size, fun j hj => (hg7.block j (by omega) (by simp; omega)).trans (hB2.block j hj)⟩
  clear HC hg7
  go_wp2_with fail
  go_ret
  first | exact ⟨rfl, hbx⟩ | exact ⟨ret_bool HT.out.symm, hbx⟩

set_option maxRecDepth 100000 in
set_option maxHeartbeats 3200000 in
theorem iValidExpr (fs : List Fn) (ba oa capp : Nat) (k n p c : Int) (ks : Fo) (a : Option Addr) (cap : Nat) (vars funcs : Int) (w : World)
    (hP : Pat w 0 w.heap.size fs (some ⟨ba, oa, none⟩)) (hR : R4 k n p c) (hF : Fat w 0 w.heap.size ks a) (hl : fs.length ≤ 1048576) (hs : ks.size ≤ 1048576) (hcap : fs.length ≤ capp) (hcm : capp ≤ 1048576) :
    Calls Try.prog 35 #[.agg #[.slice (some ⟨ba, oa, none⟩) fs.length capp], .agg #[.int .i64 k, .int .i64 n, .int .i64 p, .int .i64 c, .slice a ks.len cap], .int .i64 vars, .int .i64 funcs] w fun e w' => e = .returned (.bool (exprE fs vars funcs k n p c ks)) ∧ Below w.heap.size w w' := by
  obtain ⟨w0, hw0⟩ : ∃ w0, w0 = (w.alloc (.cells #[.slice (some ⟨ba, oa, none⟩) fs.length capp] 49)).alloc (.cells #[.int .i64 k, .int .i64 n, .int .i64 p, .int .i64 c, .slice a ks.len cap] 53) := ⟨_, rfl⟩
  have hb0 : Below w.heap.size w w0 := by rw [hw0]; exact ((Below.refl _ _).alloc (Nat.le_refl _) _).alloc (by simp) _
  have z0 : w0.heap.size = w.heap.size + 2 := by rw [hw0]; simp
  have e0 : w0.cell? ⟨w.heap.size + 1, 0, none⟩ = some (.int .i64 k) := by rw [hw0]; simp [go_sem]
  have e1 : w0.cell? ⟨w.heap.size + 1, 1, none⟩ = some (.int .i64 n) := by rw [hw0]; simp [go_sem]
  have e2 : w0.cell? ⟨w.heap.size + 1, 2, none⟩ = some (.int .i64 p) := by rw [hw0]; simp [go_sem]
  have e3 : w0.cell? ⟨w.heap.size + 1, 3, none⟩ = some (.int .i64 c) := by rw [hw0]; simp [go_sem]
  have e4 : w0.cell? ⟨w.heap.size + 1, 4, none⟩ = some (.slice a ks.len cap) := by rw [hw0]; simp [go_sem]
  by_cases hok : (0 ≤ vars ∧ vars ≤ 412) ∧ (0 ≤ funcs ∧ funcs ≤ (fs.length : Int))
  · obtain ⟨fn, rfl⟩ := Int.eq_ofNat_of_zero_le hok.2.1
    have hfn : fn ≤ fs.length := by omega
    have HS := Lib.hid (iScopeT ba oa fs.length capp fn vars w0 hok.1 hfn hcap hcm)
    have HE := Lib.hid (accB_full (fs := fs) (k := k) (n := n) (p := p) (c := c) (kk := ks) hok.1 hok.2)
    have hok1 := hok.1
    clear hok
    go_enter Try.func35, Try.ntmps35
    go_wp2_with fail
    rw [← hw0]
    clear hw0
    refine (HS.out).mono ?_; rintro e w1 ⟨rfl, hb1⟩
    have z1 := hb1.size
    have hB1 : Below w.heap.size w w1 := hb0.trans (hb1.mono (by omega))
    have g0 := (hb1.cell (p := ⟨w.heap.size + 1, 0, none⟩) (by show w.heap.size + 1 < _; omega)).trans e0
    have g1 := (hb1.cell (p := ⟨w.heap.size + 1, 1, none⟩) (by show w.heap.size + 1 < _; omega)).trans e1
    have g2 := (hb1.cell (p := ⟨w.heap.size + 1, 2, none⟩) (by show w.heap.size + 1 < _; omega)).trans e2
    have g3 := (hb1.cell (p := ⟨w.heap.size + 1, 3, none⟩) (by show w.heap.size + 1 < _; omega)).trans e3
    have g4 := (hb1.cell (p := ⟨w.heap.size + 1, 4, none⟩) (by show w.heap.size + 1 < _; omega)).trans e4
    obtain ⟨w2, hw2⟩ : ∃ w2, w2 = w1.alloc (.cells #[.slice (some ⟨ba, oa, none⟩) fn capp, .int .i64 vars] 142) := ⟨_, rfl⟩
    have hb2 : Below w1.heap.size w1 w2 := by rw [hw2]; exact (Below.refl _ _).alloc (Nat.le_refl _) _
    have z2 : w2.heap.size = w1.heap.size + 1 := by rw [hw2]; simp
    have hB2 : Below w.heap.size w w2 := hB1.trans (hb2.mono (by omega))
    have s0 : w2.cell? ⟨w1.heap.size, 0, none⟩ = some (.slice (some ⟨ba, oa, none⟩) fn capp) := by rw [hw2]; simp [go_sem]
    have s1 : w2.cell? ⟨w1.heap.size, 1, none⟩ = some (.int .i64 vars) := by rw [hw2]; simp [go_sem]
    have k0 := (hb2.cell (p := ⟨w.heap.size + 1, 0, none⟩) (by show w.heap.size + 1 < _; omega)).trans g0
    have k1 := (hb2.cell (p := ⟨w.heap.size + 1, 1, none⟩) (by show w.heap.size + 1 < _; omega)).trans g1
    have k2 := (hb2.cell (p := ⟨w.heap.size + 1, 2, none⟩) (by show w.heap.size + 1 < _; omega)).trans g2
    have k3 := (hb2.cell (p := ⟨w.heap.size + 1, 3, none⟩) (by show w.heap.size + 1 < _; omega)).trans g3
    have k4 := (hb2.cell (p := ⟨w.heap.size + 1, 4, none⟩) (by show w.heap.size + 1 < _; omega)).trans g4
    have HC := Lib.hid (iHolds fs (some ⟨ba, oa, none⟩) fn capp k n p c ks a cap vars w2 ((hP.below hB2).mono (Nat.le_refl _) (by omega)) hR ((hF.below hB2).mono (Nat.le_refl _) (by omega)) hl hs hfn hok1)
    have lw : w.heap.size + 1 < w1.heap.size := by omega
    have lw2 : w.heap.size < w1.heap.size := by omega
    clear hP hF HS HE e0 e1 e2 e3 e4
    generalize hT : exprE fs vars (fn : Int) k n p c ks = T at HC
    have HT := Lib.hid hT
    clear hT
    go_wp2_with fail
    rw [← hw2]
    clear hw2
    refine (HC.out).mono ?_; rintro e w7 ⟨rfl, hb7⟩
    clear HC
    go_wp2_with fail
    go_ret
    first | exact ⟨ret_bool HT.out.symm, hB2.trans (hb7.mono (by omega))⟩ | exact ⟨rfl, hB2.trans (hb7.mono (by omega))⟩
  · have HF := Lib.hid (exprE_bad (k := k) (n := n) (p := p) (c := c) (kk := ks) hok)
    have HS := Lib.hid (iScopeF ba oa fs.length capp vars funcs w0 hok hl)
    clear hok hP hF
    go_enter Try.func35, Try.ntmps35
    go_wp2_with fail
    rw [← hw0]
    clear hw0
    refine (HS.out).mono ?_; rintro e w1 ⟨rfl, hb1⟩
    have z1 := hb1.size
    have hB1 : Below w.heap.size w w1 := hb0.trans (hb1.mono (by omega))
    have lw : w.heap.size + 1 < w1.heap.size := by omega
    have lw2 : w.heap.size < w1.heap.size := by omega
    clear e0 e1 e2 e3 e4
    go_wp2_with fail
    go_ret
    exact ⟨ret_bool HF.out.symm, hB1.alloc (by omega) _⟩

end Go.Proofs.Ytiimebiecihpkaa
