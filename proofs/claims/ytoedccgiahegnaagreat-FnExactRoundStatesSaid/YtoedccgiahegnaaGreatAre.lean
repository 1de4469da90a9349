/- The function of a program at an index, with where its outputs lie. Tapes: copies, as the laws make them. Tapes: comparisons and marks, as the laws make them. Tapes: which ones are valid by the model. Tapes: which ones are valid by the model, whole. Tapes: which ones are valid by the program. Lists of so many numbers, by the program. -/
import Derived.Lib.LazyBuf
import Derived.Test.YtoedccgiahegnaaGreatVr
import Derived.Test.YtoedccgiahegnaaGreatCkr
import Derived.Test.YtoedccgiahegnaaGreatFit
namespace Go.Proofs.YtoedccgiahegnaaGreat
open Go.RowKit
set_option linter.unusedVariables false

def FnResF (B : Nat) (fs : List Fn) (f : Int) (w : World) (e : Ending) (w' : World) : Prop := Below w.heap.size w w' ∧
  ((¬ FnAt fs f ∧ e = .returned (.tuple #[.agg #[.string ⟨#[]⟩, .int .i64 0, .slice none 0 0], .int .i64 (if progB fs = true then 2 else 1)])) ∨
   (FnAt fs f ∧ ∃ af cf, e = .returned (.tuple #[.agg #[.string (fs.getD f.toNat noFn).name, .int .i64 (fs.getD f.toNat noFn).params, .slice af (fs.getD f.toNat noFn).outs.len cf], .int .i64 0]) ∧ Fat w 0 B (fs.getD f.toNat noFn).outs af))

set_option maxRecDepth 100000 in
set_option maxHeartbeats 3200000 in
theorem iFunctionOfF (fs : List Fn) (ap : Option Addr) (capp : Nat) (f : Int) (w : World) (B : Nat) (hBB : B ≤ w.heap.size) (hPB : Pat w 0 B fs ap) (hsz : pgSize fs ≤ 1048576) (hcap : fs.length ≤ capp) (hcm : capp ≤ 1048576) :
    Calls Tryz.prog 71 #[.agg #[.slice ap fs.length capp], .int .i64 f] w (FnResF B fs f w) := by
  have hP := hPB.mono (Nat.le_refl 0) hBB
  have hl : fs.length ≤ 1048576 := by unfold pgSize at hsz; omega
  obtain ⟨w0, hw0⟩ : ∃ w0, w0 = (w.alloc (.cells #[.slice ap fs.length capp] 31)).alloc (.cells #[.string ⟨#[]⟩, .int .i64 0, .slice none 0 0] 63) := ⟨_, rfl⟩
  have hb0 : Below w.heap.size w w0 := by rw [hw0]; exact ((Below.refl _ _).alloc (Nat.le_refl _) _).alloc (by simp) _
  have z0 : w0.heap.size = w.heap.size + 2 := by rw [hw0]; simp
  have c0 : w0.cell? ⟨w.heap.size, 0, none⟩ = some (.slice ap fs.length capp) := by rw [hw0]; simp [go_sem]
  have r0 : w0.cell? ⟨w.heap.size + 1, 0, none⟩ = some (.string ⟨#[]⟩) := by rw [hw0]; simp [go_sem]
  have r1 : w0.cell? ⟨w.heap.size + 1, 1, none⟩ = some (.int .i64 0) := by rw [hw0]; simp [go_sem]
  have r2 : w0.cell? ⟨w.heap.size + 1, 2, none⟩ = some (.slice none 0 0) := by rw [hw0]; simp [go_sem]
  have rz : ∀ o, w0.frozen? ⟨w.heap.size + 1, o, none⟩ = false := fun o => by rw [hw0]; simp [go_sem]
  have hP0 : Pat w0 0 w0.heap.size fs ap := (hP.below hb0).mono (Nat.le_refl _) hb0.size
  have HV := Lib.hid (iValidProgram fs ap capp w0 hP0 hsz hcap hcm)
  cases hpb : progB fs with
  | false =>
    have HN : Hid (¬ FnAt fs f) := fun h => by have := h.1; rw [hpb] at this; cases this
    have HPB := Lib.hid hpb
    rw [hpb] at HV
    clear hpb hP hP0
    go_enter Tryz.func71, Tryz.ntmps71
    go_wp2_with fail
    rw [← hw0]
    clear hw0
    refine (HV.out).mono ?_; rintro e w1 ⟨rfl, hb1⟩
    have hB1 := hb0.trans (hb1.mono (by omega))
    have k0 := (hb1.cell (p := ⟨w.heap.size + 1, 0, none⟩) (by show w.heap.size + 1 < _; omega)).trans r0
    have k1 := (hb1.cell (p := ⟨w.heap.size + 1, 1, none⟩) (by show w.heap.size + 1 < _; omega)).trans r1
    have k2 := (hb1.cell (p := ⟨w.heap.size + 1, 2, none⟩) (by show w.heap.size + 1 < _; omega)).trans r2
    have kz0 := (hb1.frozen (p := ⟨w.heap.size + 1, 0, none⟩) (by show w.heap.size + 1 < _; omega)).trans (rz 0)
    have kz1 := (hb1.frozen (p := ⟨w.heap.size + 1, 1, none⟩) (by show w.heap.size + 1 < _; omega)).trans (rz 1)
    have kz2 := (hb1.frozen (p := ⟨w.heap.size + 1, 2, none⟩) (by show w.heap.size + 1 < _; omega)).trans (rz 2)
    clear c0 r0 r1 r2 rz HV hb1
    go_wp2_with fail
    refine bodyPost_ret (v := .tuple #[.agg #[.string ⟨#[]⟩, .int .i64 0, .slice none 0 0], .int .i64 1]) (by simp [results, Tryz.results71, go_sem, k0, k1, k2]) rfl ⟨?_, .inl ⟨HN.out, by rw [HPB.out]; rfl⟩⟩
    exact ((hB1.setCell (p := ⟨w.heap.size + 1, 0, none⟩) (by show w.heap.size ≤ w.heap.size + 1; omega) _).setCell (p := ⟨w.heap.size + 1, 1, none⟩) (by show w.heap.size ≤ w.heap.size + 1; omega) _).setCell (p := ⟨w.heap.size + 1, 2, none⟩) (by show w.heap.size ≤ w.heap.size + 1; omega) _
  | true =>
    rw [hpb] at HV
    by_cases hf : 0 ≤ f ∧ f < (fs.length : Int)
    · have HN : Hid (FnAt fs f) := ⟨hpb, hf⟩
      have HX := fun W => Lib.hid (iIndex f (fs.length : Int) W)
      rw [decide_eq_true hf] at HX
      have hf2 := hf.2
      obtain ⟨j, rfl⟩ := Int.eq_ofNat_of_zero_le hf.1
      have hj : j < fs.length := by omega
      obtain ⟨bf, of, rfl, hbB, hall⟩ := hPB.resolve_left (by intro e; rw [e] at hj; simp at hj)
      obtain ⟨hrr, af, cf, f0, f1, f2, hFo⟩ := hall j hj
      clear hpb hP hf hall
      go_enter Tryz.func71, Tryz.ntmps71
      go_wp2_with fail
      rw [← hw0]
      clear hw0
      refine (HV.out).mono ?_; rintro e w1 ⟨rfl, hb1⟩
      have hB1 := hb0.trans (hb1.mono (by omega))
      have k := (hb1.cell (p := ⟨w.heap.size, 0, none⟩) (by show w.heap.size < _; omega)).trans c0
      have k0 := (hb1.cell (p := ⟨w.heap.size + 1, 0, none⟩) (by show w.heap.size + 1 < _; omega)).trans r0
      have k1 := (hb1.cell (p := ⟨w.heap.size + 1, 1, none⟩) (by show w.heap.size + 1 < _; omega)).trans r1
      have k2 := (hb1.cell (p := ⟨w.heap.size + 1, 2, none⟩) (by show w.heap.size + 1 < _; omega)).trans r2
      have kz0 := (hb1.frozen (p := ⟨w.heap.size + 1, 0, none⟩) (by show w.heap.size + 1 < _; omega)).trans (rz 0)
      have kz1 := (hb1.frozen (p := ⟨w.heap.size + 1, 1, none⟩) (by show w.heap.size + 1 < _; omega)).trans (rz 1)
      have kz2 := (hb1.frozen (p := ⟨w.heap.size + 1, 2, none⟩) (by show w.heap.size + 1 < _; omega)).trans (rz 2)
      replace f0 := (hB1.cell (p := ⟨bf, of + j * 3, none⟩) (by show bf < _; omega)).trans f0
      replace f1 := (hB1.cell (p := ⟨bf, of + j * 3 + 1, none⟩) (by show bf < _; omega)).trans f1
      replace f2 := (hB1.cell (p := ⟨bf, of + j * 3 + 2, none⟩) (by show bf < _; omega)).trans f2
      have HFO := Lib.hid hFo
      have HRES : Hid (FnAt fs (j : Int) ∧ Ending.returned (.tuple #[.agg #[.string (fs.getD j noFn).name, .int .i64 (fs.getD j noFn).params, .slice af (fs.getD j noFn).outs.len cf], .int .i64 0]) = .returned (.tuple #[.agg #[.string (fs.getD (j : Int).toNat noFn).name, .int .i64 (fs.getD (j : Int).toNat noFn).params, .slice af (fs.getD (j : Int).toNat noFn).outs.len cf], .int .i64 0])) := ⟨HN.out, rfl⟩
      clear hrr hFo c0 r0 r1 r2 rz HV hb1 hP0
      have HFO2 : Hid (Fat w 0 B (fs.getD (j : Int).toNat noFn).outs af) := HFO.out
      clear HFO
      generalize (fs.getD j noFn).name = nm at *
      generalize (fs.getD j noFn).outs.len = mo at *
      generalize (fs.getD j noFn).params = pa at *
      go_wp2_with fail
      refine (HX _).out.mono ?_; rintro e w2 ⟨rfl, rfl⟩
      go_wp2_with fail
      refine bodyPost_ret (v := .tuple #[.agg #[.string nm, .int .i64 pa, .slice af mo cf], .int .i64 0]) (by simp [results, Tryz.results71, go_sem, k0, k1, k2]) rfl ⟨?_, .inr ⟨HRES.out.1, af, cf, HRES.out.2, HFO2.out⟩⟩
      exact ((hB1.setCell (p := ⟨w.heap.size + 1, 0, none⟩) (by show w.heap.size ≤ w.heap.size + 1; omega) _).setCell (p := ⟨w.heap.size + 1, 1, none⟩) (by show w.heap.size ≤ w.heap.size + 1; omega) _).setCell (p := ⟨w.heap.size + 1, 2, none⟩) (by show w.heap.size ≤ w.heap.size + 1; omega) _
    · have HN : Hid (¬ FnAt fs f) := fun h => hf h.2
      have HPB := Lib.hid hpb
      have HX := fun W => Lib.hid (iIndex f (fs.length : Int) W)
      rw [decide_eq_false hf] at HX
      clear hpb hP hf hP0
      go_enter Tryz.func71, Tryz.ntmps71
      go_wp2_with fail
      rw [← hw0]
      clear hw0
      refine (HV.out).mono ?_; rintro e w1 ⟨rfl, hb1⟩
      have hB1 := hb0.trans (hb1.mono (by omega))
      have k := (hb1.cell (p := ⟨w.heap.size, 0, none⟩) (by show w.heap.size < _; omega)).trans c0
      have k0 := (hb1.cell (p := ⟨w.heap.size + 1, 0, none⟩) (by show w.heap.size + 1 < _; omega)).trans r0
      have k1 := (hb1.cell (p := ⟨w.heap.size + 1, 1, none⟩) (by show w.heap.size + 1 < _; omega)).trans r1
      have k2 := (hb1.cell (p := ⟨w.heap.size + 1, 2, none⟩) (by show w.heap.size + 1 < _; omega)).trans r2
      have kz0 := (hb1.frozen (p := ⟨w.heap.size + 1, 0, none⟩) (by show w.heap.size + 1 < _; omega)).trans (rz 0)
      have kz1 := (hb1.frozen (p := ⟨w.heap.size + 1, 1, none⟩) (by show w.heap.size + 1 < _; omega)).trans (rz 1)
      have kz2 := (hb1.frozen (p := ⟨w.heap.size + 1, 2, none⟩) (by show w.heap.size + 1 < _; omega)).trans (rz 2)
      clear c0 r0 r1 r2 rz HV hb1
      go_wp2_with fail
      refine (HX _).out.mono ?_; rintro e w2 ⟨rfl, rfl⟩
      go_wp2_with fail
      refine bodyPost_ret (v := .tuple #[.agg #[.string ⟨#[]⟩, .int .i64 0, .slice none 0 0], .int .i64 2]) (by simp [results, Tryz.results71, go_sem, k0, k1, k2]) rfl ⟨?_, .inl ⟨HN.out, by rw [HPB.out]; rfl⟩⟩
      exact ((hB1.setCell (p := ⟨w.heap.size + 1, 0, none⟩) (by show w.heap.size ≤ w.heap.size + 1; omega) _).setCell (p := ⟨w.heap.size + 1, 1, none⟩) (by show w.heap.size ≤ w.heap.size + 1; omega) _).setCell (p := ⟨w.heap.size + 1, 2, none⟩) (by show w.heap.size ≤ w.heap.size + 1; omega) _

end Go.Proofs.YtoedccgiahegnaaGreat

namespace Go.Proofs.YtoedccgiahegnaaGreat
open Go.RowKit
set_option linter.unusedVariables false

abbrev inst (x : In4) : Value := .agg #[.int .i64 x.op, .int .i64 x.a, .int .i64 x.b, .int .i64 x.num]
abbrev gdv (x : Gd) : Value := .agg #[.int .i64 x.reg, .bool x.zero]

/-- The first k instructions of a row are copied. -/
def HalfC (l : List In4) (xs : List Value) (k : Nat) : Prop :=
  ∀ i, i < k → xs[i * 4]? = some (.int .i64 (l.getD i no4).op) ∧ xs[i * 4 + 1]? = some (.int .i64 (l.getD i no4).a) ∧ xs[i * 4 + 2]? = some (.int .i64 (l.getD i no4).b) ∧ xs[i * 4 + 3]? = some (.int .i64 (l.getD i no4).num)
def put4 (xs : List Value) (i : Nat) (x : In4) : List Value :=
  (((xs.set (i * 4) (.int .i64 x.op)).set (i * 4 + 1) (.int .i64 x.a)).set (i * 4 + 2) (.int .i64 x.b)).set (i * 4 + 3) (.int .i64 x.num)
theorem put4_old {xs : List Value} {i : Nat} {x : In4} {j : Nat} (h : j < i * 4) : (put4 xs i x)[j]? = xs[j]? := by
  unfold put4
  iterate 4 rw [List.getElem?_set_ne (by omega)]
theorem put4_new {xs : List Value} {i : Nat} {x : In4} (h : i * 4 + 3 < xs.length) : (put4 xs i x)[i * 4]? = some (.int .i64 x.op) ∧ (put4 xs i x)[i * 4 + 1]? = some (.int .i64 x.a) ∧
    (put4 xs i x)[i * 4 + 2]? = some (.int .i64 x.b) ∧ (put4 xs i x)[i * 4 + 3]? = some (.int .i64 x.num) := by
  unfold put4
  refine ⟨?_, ?_, ?_, ?_⟩ <;> simp (disch := omega) [List.getElem?_set] <;> omega
theorem halfC_step {l : List In4} {xs : List Value} {k : Nat} (H : HalfC l xs k) (hlen : k * 4 + 3 < xs.length) : HalfC l (put4 xs k (l.getD k no4)) (k + 1) := by
  intro i hi
  by_cases hik : i = k
  · subst hik; exact put4_new hlen
  · obtain ⟨h0, h1, h2, h3⟩ := H i (by omega)
    exact ⟨(put4_old (by omega)).trans h0, (put4_old (by omega)).trans h1, (put4_old (by omega)).trans h2, (put4_old (by omega)).trans h3⟩
def HalfG (l : List Gd) (xs : List Value) (k : Nat) : Prop :=
  ∀ i, i < k → xs[i * 2]? = some (.int .i64 (l.getD i noG).reg) ∧ xs[i * 2 + 1]? = some (.bool (l.getD i noG).zero)
def put2 (xs : List Value) (i : Nat) (x : Gd) : List Value := (xs.set (i * 2) (.int .i64 x.reg)).set (i * 2 + 1) (.bool x.zero)
theorem put2_old {xs : List Value} {i : Nat} {x : Gd} {j : Nat} (h : j < i * 2) : (put2 xs i x)[j]? = xs[j]? := by
  unfold put2
  iterate 2 rw [List.getElem?_set_ne (by omega)]
theorem put2_new {xs : List Value} {i : Nat} {x : Gd} (h : i * 2 + 1 < xs.length) : (put2 xs i x)[i * 2]? = some (.int .i64 x.reg) ∧ (put2 xs i x)[i * 2 + 1]? = some (.bool x.zero) := by
  unfold put2
  refine ⟨?_, ?_⟩ <;> simp (disch := omega) [List.getElem?_set] <;> omega
theorem halfG_step {l : List Gd} {xs : List Value} {k : Nat} (H : HalfG l xs k) (hlen : k * 2 + 1 < xs.length) : HalfG l (put2 xs k (l.getD k noG)) (k + 1) := by
  intro i hi
  by_cases hik : i = k
  · subst hik; exact put2_new hlen
  · obtain ⟨h0, h1⟩ := H i (by omega)
    exact ⟨(put2_old (by omega)).trans h0, (put2_old (by omega)).trans h1⟩

/-- The call answers a copy in a block of its own that may be written. -/
def FreshC (w : World) (l : List In4) (e : Ending) (w' : World) : Prop :=
  ∃ g, e = .returned (.slice (some ⟨g, 0, none⟩) l.length l.length) ∧ Cat w' w.heap.size w'.heap.size l (some ⟨g, 0, none⟩) ∧ Wr w' w.heap.size w'.heap.size (l.length * 4) g ∧ Below w.heap.size w w'
def FreshGd (w : World) (l : List Gd) (e : Ending) (w' : World) : Prop :=
  ∃ g, e = .returned (.slice (some ⟨g, 0, none⟩) l.length l.length) ∧ Gat w' w.heap.size w'.heap.size l (some ⟨g, 0, none⟩) ∧ Wr w' w.heap.size w'.heap.size (l.length * 2) g ∧ Below w.heap.size w w'

theorem Gat.ri {w : World} {L B : Nat} {l : List Gd} {a : Option Addr} (h : Gat w L B l a) (k : Nat) : I64 (l.getD k noG).reg := by
  by_cases hk : k < l.length
  · rcases h with rfl | ⟨_, _, _, _, h⟩
    · simp at hk
    · exact (h k hk).1
  · rw [List.getD_eq_getElem?_getD, List.getElem?_eq_none (by omega)]; exact ⟨by decide, by decide⟩

/-- The call answers a copy of a tape in blocks of its own that may be written. -/
def FreshT (w : World) (t : Tp) (e : Ending) (w' : World) : Prop :=
  ∃ g1 g2 g3 c3, e = .returned (tpv t (some ⟨g1, 0, none⟩) t.code.length (some ⟨g2, 0, none⟩) t.guards.length (some ⟨g3, 0, none⟩) c3) ∧ Tat w' w.heap.size w'.heap.size t (some ⟨g1, 0, none⟩) (some ⟨g2, 0, none⟩) (some ⟨g3, 0, none⟩) ∧
    Wr w' w.heap.size w'.heap.size (t.code.length * 4) g1 ∧ Wr w' w.heap.size w'.heap.size (t.guards.length * 2) g2 ∧ Wr w' w.heap.size w'.heap.size t.outs.length g3 ∧ Below w.heap.size w w'

end Go.Proofs.YtoedccgiahegnaaGreat

namespace Go.Proofs.YtoedccgiahegnaaGreat
open Go.RowKit
set_option linter.unusedVariables false

set_option maxRecDepth 100000 in
set_option maxHeartbeats 3200000 in
theorem markOuts (L B n g cap : Nat) (k0 : Nat) (w : World) (h : Wr w L B n g) (hl : n ≤ 1048576) (hk0 : k0 ≤ 16777216) :
    Calls Tryz.prog 18 #[.slice (some ⟨g, 0, none⟩) n cap, .int .i64 k0] w fun e w' => e = .returned (.int .i64 ((k0 + n : Nat) : Int)) ∧ Trn L B w w' := by
  have hb := h.1
  go_enter Tryz.func18, Tryz.ntmps18
  go_wp2_with fail
  go_loopw [1, 5] (fun q i wr => ∃ k : Nat, k ≤ n ∧ i = .int .i64 k ∧ q = .int .i64 ((k0 + k : Nat) : Int) ∧ Trn L B w wr) (fun _ i _ => n - (intOf i).toNat)
  case atStart => exact ⟨0, Nat.zero_le _, rfl, rfl, Trn.refl _ _ _⟩
  case round =>
    obtain ⟨k, hk, rfl, rfl, hT⟩ := hrel
    by_cases hlt : k < n
    · have hi : (k : Int) < (n : Int) := by omega
      obtain ⟨_, hfz, hcl⟩ := hT.wr h
      obtain ⟨v0, c0⟩ := hcl k (by omega)
      have f0 := hfz k
      have T4 := fun (x0 : Value) => hT.trans (Trn.set (o := k) (v := x0) hb)
      have E : Hid (((k0 + k : Nat) : Int) + 1 = ((k0 + (k + 1) : Nat) : Int)) := by show _ = _; omega
      have x0 : 0 ≤ ((k0 + k : Nat) : Int) := by omega
      have x1 : ((k0 + k : Nat) : Int) ≤ 1099511627776 := by omega
      clear hcl hfz hT
      generalize ((k0 + k : Nat) : Int) = x at *
      go_wp2_with fail
      go_roundw
      case rel => exact ⟨k + 1, by omega, by go_num, by rw [← E.out], T4 _⟩
      case measure => simp [intOf]; omega
    · have hkk : k = n := by omega
      subst hkk
      have hi : ¬ (k : Int) < (k : Int) := by omega
      go_wp2_with fail
      go_ret
      exact ⟨rfl, hT⟩

end Go.Proofs.YtoedccgiahegnaaGreat

namespace Go.Proofs.YtoedccgiahegnaaGreat
open Go.RowKit
set_option linter.unusedVariables false

theorem tne_beq {a b : Int} (h : a ≠ b) : (a == b) = false := by simpa using h
set_option maxHeartbeats 400000 in
theorem sIx (x n : Int) (w : World) : Calls Tryz.prog 48 #[.int .i64 x, .int .i64 0, .int .i64 (n - 1)] w fun e w' => e = .returned (.bool (ixB x n)) ∧ w = w' := by
  by_cases h : 0 ≤ x ∧ x < n
  · rw [ixB_of h]; exact inT x 0 (n - 1) h.1 (by omega) w
  · rw [ixB_no h]; exact inF x 0 (n - 1) (by omega) w
theorem okNum_ix (x : Int) : okNum x = ixB x 1000003 := rfl

end Go.Proofs.YtoedccgiahegnaaGreat

namespace Go.Proofs.YtoedccgiahegnaaGreat
open Go.RowKit
set_option linter.unusedVariables false

theorem tbdrew {B : Nat} {a w : World} (h : Below B a w) : Below B a w.drew := h.trans ⟨rfl, rfl, rfl, Nat.le_refl _, fun _ _ => rfl⟩
/-- the four cells of a tape -/
structure TCells (w : World) (bt o : Nat) (t : Tp) (ac : Option Addr) (cc : Nat) (ag : Option Addr) (cg : Nat) (ao : Option Addr) (co : Nat) : Prop where
  c0 : w.cell? ⟨bt, o, none⟩ = some (.int .i64 t.inputs)
  c1 : w.cell? ⟨bt, o + 1, none⟩ = some (.slice ac t.code.length cc)
  c2 : w.cell? ⟨bt, o + 2, none⟩ = some (.slice ag t.guards.length cg)
  c3 : w.cell? ⟨bt, o + 3, none⟩ = some (.slice ao t.outs.length co)
theorem TCells.below {w w' : World} {bt o : Nat} {t : Tp} {ac : Option Addr} {cc : Nat} {ag : Option Addr} {cg : Nat} {ao : Option Addr} {co B : Nat} (h : TCells w bt o t ac cc ag cg ao co) (hb : Below B w w') (hB : bt < B) : TCells w' bt o t ac cc ag cg ao co :=
  ⟨(hb.cell (p := ⟨bt, o, none⟩) hB).trans h.c0, (hb.cell (p := ⟨bt, o + 1, none⟩) hB).trans h.c1, (hb.cell (p := ⟨bt, o + 2, none⟩) hB).trans h.c2, (hb.cell (p := ⟨bt, o + 3, none⟩) hB).trans h.c3⟩
theorem TCells.lt {w : World} {bt o : Nat} {t : Tp} {ac : Option Addr} {cc : Nat} {ag : Option Addr} {cg : Nat} {ao : Option Addr} {co : Nat} (h : TCells w bt o t ac cc ag cg ao co) : bt < w.heap.size := cell_lt h.c0

end Go.Proofs.YtoedccgiahegnaaGreat

namespace Go.Proofs.YtoedccgiahegnaaGreat
open Go.RowKit
set_option linter.unusedVariables false

set_option maxHeartbeats 400000 in
theorem tIx (k n : Int) (w : World) : Calls Tryz.prog 62 #[.int .i64 k, .int .i64 n] w fun e w' => e = .returned (.bool (ixB k n)) ∧ w = w' := by
  by_cases h1 : 0 ≤ k
  · by_cases h2 : k < n
    · have HF : Hid (ixB k n = true) := decide_eq_true ⟨h1, h2⟩
      have d1 : decide (0 ≤ k) = true := decide_eq_true h1
      have d2 : decide (k < n) = true := decide_eq_true h2
      go_enter Tryz.func62, Tryz.ntmps62
      go_wp2
      go_ret
      exact ⟨ret_bool HF.out.symm, rfl⟩
    · have HF : Hid (ixB k n = false) := decide_eq_false (by omega)
      have d1 : decide (0 ≤ k) = true := decide_eq_true h1
      have d2 : decide (k < n) = false := decide_eq_false h2
      go_enter Tryz.func62, Tryz.ntmps62
      go_wp2
      go_ret
      exact ⟨ret_bool HF.out.symm, rfl⟩
  · have HF : Hid (ixB k n = false) := decide_eq_false (by omega)
    have d1 : decide (0 ≤ k) = false := decide_eq_false h1
    go_enter Tryz.func62, Tryz.ntmps62
    go_wp2
    go_ret
    exact ⟨ret_bool HF.out.symm, rfl⟩

theorem news_of_at {w w0 : World} {b o : Nat} {l : List Int} (hc : ∀ k, k < l.length → w0.cell? ⟨b, o + k, none⟩ = some (.int .i64 (l.getD k 0))) :
    ∀ (j : Nat) (u : Value), (l.map (Value.int .i64))[j]? = some u → w0.cell? ((⟨b, o, none⟩ : Addr).add j) = some u := by
  intro j u hj
  rw [List.getElem?_map] at hj
  have hjl : j < l.length := by
    apply Nat.lt_of_not_le
    intro hge
    rw [List.getElem?_eq_none hge] at hj
    cases hj
  have e : (⟨b, o, none⟩ : Addr).add j = ⟨b, o + j, none⟩ := by cases j <;> simp [Addr.add]
  rw [e, hc j hjl, ← hj, List.getElem?_eq_getElem hjl, List.getD_eq_getElem?_getD, List.getElem?_eq_getElem hjl]
  rfl

set_option maxRecDepth 100000 in
set_option maxHeartbeats 1600000 in
theorem iClone (a : Option Addr) (ca : Nat) (l : List Int) (w : World) (ha : At w a l) (h1 : 1 ≤ l.length) (h2 : l.length ≤ 1048576) :
    Calls Tryz.prog 87 #[.slice a l.length ca] w (Fresh w l) := by
  obtain ⟨i0, hi, hz0, hz1, hz2⟩ := info_parts info64
  obtain ⟨b1, o1, rfl, hbl1, hc1⟩ := (ha.resolve_left (by intro e; rw [e] at h1; simp at h1))
  have hB0 := (Below.refl w.heap.size w).alloc (Nat.le_refl _) (.cells #[] 2)
  have hO0 := own_none w w.heap.size (Nat.le_refl _)
  have HN := Lib.hid (news_of_at (w := w) (w0 := w.alloc (.cells #[] 2)) (b := b1) (o := o1) (l := l) (fun k hk => (hB0.cell (p := ⟨b1, o1 + k, none⟩) hbl1).trans (hc1 k hk)))
  have hone : Hid (∀ u ∈ l.map (Value.int .i64), u.oneCell' = true) := ints_oneCell .i64 l
  have hnil := fun (W : World) => Lib.run_eql_slice_nil (P := Tryz.prog) W 25 2 (some ⟨b1, o1, none⟩) l.length ca 0 0 Tryz.underlying25
  clear hc1 ha
  go_enter Tryz.func87, Tryz.ntmps87
  go_wp2_with (at_builtin; refine wpList_append_lies _ rfl _ _ _ rfl w.heap.size 2 i0 _ 1 8 Tryz.underlying25 hi hz0 hz1 hz2 rfl (by omega) (.slice (some ⟨w.heap.size, 0, none⟩) 0 0) 0 [] rfl hO0 ⟨b1, o1, none⟩ l.length ca (l.map (Value.int .i64)) rfl (by rw [List.length_map, Nat.mul_one]) HN.out hone.out (by omega) (by unfold maxLen; omega) (by omega) (by simp) (w.heap.size + 1) (by simp) ?_; intro g cc w1 hown1 hgrow hat hlt1)
  have hw2 : Below w.heap.size w w1 := hB0.grown hgrow (by simp) (by intro q hq; simp [Value.ownBlock] at hq; omega)
  have ho3 : Own w.heap.size w1 g cc l := by unfold Own; simpa using hown1
  clear hown1 hgrow hat
  go_wp2_with fail
  go_ret
  exact ⟨g, cc, by simp, ho3, hw2⟩

end Go.Proofs.YtoedccgiahegnaaGreat

namespace Go.Proofs.YtoedccgiahegnaaGreat
open Go.RowKit
set_option linter.unusedVariables false

/-- so many numbers -/
def areB (l : List Int) (n : Int) : Bool := decide ((l.length : Int) = n) && okNums l
theorem areB_len {l : List Int} {n : Int} (h : ¬ (l.length : Int) = n) : areB l n = false := by unfold areB; rw [decide_eq_false h, Bool.false_and]
theorem areB_of {l : List Int} {n : Int} (h : (l.length : Int) = n) : areB l n = okNums l := by unfold areB; rw [decide_eq_true h, Bool.true_and]
set_option maxRecDepth 100000 in
set_option maxHeartbeats 1600000 in
theorem iAre (a : Option Addr) (ca : Nat) (l : List Int) (n : Int) (w : World) (hA : At w a l) (hl : l.length ≤ 1048576) :
    Calls Tryz.prog 72 #[.slice a l.length ca, .int .i64 n] w fun e w' => e = .returned (.bool (areB l n)) ∧ w = w' := by
  by_cases h1 : (l.length : Int) = n
  · have hne : ((l.length : Int) != n) = false := by simp [h1]
    have hnn : n = (l.length : Int) := h1.symm
    have H0 := Lib.hid (okNums_take_zero l)
    have HA := Lib.hid (areB_of h1)
    subst hnn
    clear h1
    go_enter Tryz.func72, Tryz.ntmps72
    go_wp2_with fail
    go_loopw [13] (fun q wr => ∃ i : Nat, i ≤ l.length ∧ q = .int .i64 i ∧ Hid (okNums (l.take i) = true) ∧ wr = w) (fun q _ => l.length - (intOf q).toNat)
    case atStart => exact ⟨0, Nat.zero_le _, rfl, H0, rfl⟩
    case round =>
      obtain ⟨i, hi, rfl, HX, rfl⟩ := hrel
      by_cases hlt : i < l.length
      · have hii : (i : Int) < (l.length : Int) := by omega
        obtain ⟨bf, of, rfl, hbB, hall⟩ := (hA.resolve_left (by intro e; rw [e] at hlt; simp at hlt))
        have f0 := hall i hlt
        have HC := Lib.hid (tIx (l.getD i 0) 1000003 wr)
        rw [← okNum_ix] at HC
        cases hb : okNum (l.getD i 0) with
        | true =>
          have HX2 := Lib.hid (okNums_succ hlt HX.out hb)
          rw [hb] at HC
          clear hall HX hA hb H0
          generalize l.getD i 0 = x at f0 HC
          go_wp2_with fail
          refine HC.out.mono ?_; rintro e w1 ⟨rfl, rfl⟩
          go_wp2_with fail
          go_roundw
          case rel => exact ⟨i + 1, by omega, by go_num, HX2, by trivial⟩
          case measure => simp [intOf]; omega
        | false =>
          have HX2 := Lib.hid (okNums_bad hlt hb)
          rw [hb] at HC
          clear hall HX hA hb H0
          generalize l.getD i 0 = x at f0 HC
          go_wp2_with fail
          refine HC.out.mono ?_; rintro e w1 ⟨rfl, rfl⟩
          go_wp2_with fail
          go_ret
          exact ⟨ret_bool (HA.out.trans HX2.out).symm, rfl⟩
      · have hii : ¬ (i : Int) < (l.length : Int) := by omega
        have hki : i = l.length := by omega
        subst hki
        have HX2 := Lib.hid (show okNums l = true by have := HX.out; rwa [List.take_length] at this)
        clear HX hA H0
        go_wp2_with fail
        go_ret
        exact ⟨ret_bool (HA.out.trans HX2.out).symm, rfl⟩
  · have hne : ((l.length : Int) != n) = true := by simp [h1]
    have HF := Lib.hid (areB_len h1)
    clear h1
    go_enter Tryz.func72, Tryz.ntmps72
    go_wp2_with fail
    go_ret
    exact ⟨ret_bool HF.out.symm, rfl⟩

end Go.Proofs.YtoedccgiahegnaaGreat
