/- Tapes: comparisons and marks, as the laws make them. -/
import Derived.Test.YtiimebiecihpkaaTac
namespace Go.Proofs.Ytiimebiecihpkaa
open Go.RowKit
set_option linter.unusedVariables false

/- comparisons -/
set_option maxRecDepth 100000 in
set_option maxHeartbeats 1600000 in
theorem eqInstr (x : In4) (w : World) : Calls Try.prog 191 #[inst x, inst x] w fun e w' => e = .returned (.bool true) ∧ Below w.heap.size w w' := by
  unfold inst
  have B1 : ∀ o, Below w.heap.size w (w.alloc o) := fun o => (Below.refl _ _).alloc (Nat.le_refl _) o
  obtain ⟨o, a, b, n⟩ := x
  have e0 : (o != o) = false := by simp
  have e1 : (a != a) = false := by simp
  have e2 : (b != b) = false := by simp
  have e3 : (n != n) = false := by simp
  go_enter Try.func191, Try.ntmps191
  go_wp2_with fail
  go_ret
  exact ⟨rfl, (B1 _).alloc (by simp) _⟩
set_option maxRecDepth 100000 in
set_option maxHeartbeats 1600000 in
theorem eqGuard (x : Gd) (w : World) : Calls Try.prog 192 #[gdv x, gdv x] w fun e w' => e = .returned (.bool true) ∧ Below w.heap.size w w' := by
  unfold gdv
  have B1 : ∀ o, Below w.heap.size w (w.alloc o) := fun o => (Below.refl _ _).alloc (Nat.le_refl _) o
  obtain ⟨o, a⟩ := x
  have e0 : (o != o) = false := by simp
  have e1 : (a != a) = false := by simp
  go_enter Try.func192, Try.ntmps192
  go_wp2_with fail
  go_ret
  exact ⟨rfl, (B1 _).alloc (by simp) _⟩

set_option maxRecDepth 100000 in
set_option maxHeartbeats 1600000 in
theorem eqInstrS (l : List In4) (a b : Option Addr) (ca cb : Nat) (w : World) (hP : Cat w 0 w.heap.size l a) (hQ : Cat w 0 w.heap.size l b) (hlen : l.length ≤ 1048576) :
    Calls Try.prog 132 #[.slice a l.length ca, .slice b l.length cb] w fun e w' => e = .returned (.bool true) ∧ Below w.heap.size w w' := by
  go_enter Try.func132, Try.ntmps132
  go_wp2_with fail
  go_loopw [5] (fun i wr => ∃ k : Nat, k ≤ l.length ∧ i = .int .i64 k ∧ Below w.heap.size w wr) (fun i _ => l.length - (intOf i).toNat)
  case atStart => exact ⟨0, Nat.zero_le _, rfl, Below.refl _ _⟩
  case round =>
    obtain ⟨k, hk, rfl, hw⟩ := hrel
    by_cases hlt : k < l.length
    · obtain ⟨b1, o1, rfl, hbB1, hall1⟩ := ((hP.below hw).resolve_left (by intro e; rw [e] at hlt; simp at hlt))
      obtain ⟨b2, o2, rfl, hbB2, hall2⟩ := ((hQ.below hw).resolve_left (by intro e; rw [e] at hlt; simp at hlt))
      obtain ⟨hr, c0, c1, c2, c3⟩ := hall1 k hlt
      obtain ⟨_, f0, f1, f2, f3⟩ := hall2 k hlt
      have HC := fun (W : World) => Lib.hid (eqInstr (l.getD k no4) W)
      have hi : (k : Int) < (l.length : Int) := by omega
      clear hall1 hall2 hP hQ hr
      generalize l.getD k no4 = f at c0 c1 c2 c3 f0 f1 f2 f3 HC
      go_wp2_with fail
      go_still_tail 8, (by kernel_rfl)
      change wpList _ _ _ _ _ wr.drew
      have hdw : Below wr.heap.size wr wr.drew := ⟨rfl, rfl, rfl, Nat.le_refl _, fun _ _ => rfl⟩
      generalize wr.drew = w2 at hdw ⊢
      have HC2 := HC w2
      clear c0 c1 c2 c3 f0 f1 f2 f3 HC
      go_wp2_with fail
      refine (HC2.out).mono ?_; rintro e w' ⟨rfl, hb⟩
      have hw2 := (hw.trans (hdw.mono hw.size)).trans (hb.mono (Nat.le_trans hw.size hdw.size))
      clear HC2
      go_wp2_with fail
      go_roundw
      case rel => exact ⟨k + 1, by omega, by go_num, hw2⟩
      case measure => simp [intOf]; omega
    · have hi : ¬ (k : Int) < (l.length : Int) := by omega
      go_wp2_with fail
      go_ret
      exact ⟨rfl, hw⟩

set_option maxRecDepth 100000 in
set_option maxHeartbeats 1600000 in
theorem eqGuardS (l : List Gd) (a b : Option Addr) (ca cb : Nat) (w : World) (hP : Gat w 0 w.heap.size l a) (hQ : Gat w 0 w.heap.size l b) (hlen : l.length ≤ 1048576) :
    Calls Try.prog 133 #[.slice a l.length ca, .slice b l.length cb] w fun e w' => e = .returned (.bool true) ∧ Below w.heap.size w w' := by
  go_enter Try.func133, Try.ntmps133
  go_wp2_with fail
  go_loopw [5] (fun i wr => ∃ k : Nat, k ≤ l.length ∧ i = .int .i64 k ∧ Below w.heap.size w wr) (fun i _ => l.length - (intOf i).toNat)
  case atStart => exact ⟨0, Nat.zero_le _, rfl, Below.refl _ _⟩
  case round =>
    obtain ⟨k, hk, rfl, hw⟩ := hrel
    by_cases hlt : k < l.length
    · obtain ⟨b1, o1, rfl, hbB1, hall1⟩ := ((hP.below hw).resolve_left (by intro e; rw [e] at hlt; simp at hlt))
      obtain ⟨b2, o2, rfl, hbB2, hall2⟩ := ((hQ.below hw).resolve_left (by intro e; rw [e] at hlt; simp at hlt))
      obtain ⟨hr, c0, c1⟩ := hall1 k hlt
      obtain ⟨_, f0, f1⟩ := hall2 k hlt
      have HC := fun (W : World) => Lib.hid (eqGuard (l.getD k noG) W)
      have hi : (k : Int) < (l.length : Int) := by omega
      clear hall1 hall2 hP hQ hr
      generalize l.getD k noG = f at c0 c1 f0 f1 HC
      go_wp2_with fail
      go_still_tail 8, (by kernel_rfl)
      change wpList _ _ _ _ _ wr.drew
      have hdw : Below wr.heap.size wr wr.drew := ⟨rfl, rfl, rfl, Nat.le_refl _, fun _ _ => rfl⟩
      generalize wr.drew = w2 at hdw ⊢
      have HC2 := HC w2
      clear c0 c1 f0 f1 HC
      go_wp2_with fail
      refine (HC2.out).mono ?_; rintro e w' ⟨rfl, hb⟩
      have hw2 := (hw.trans (hdw.mono hw.size)).trans (hb.mono (Nat.le_trans hw.size hdw.size))
      clear HC2
      go_wp2_with fail
      go_roundw
      case rel => exact ⟨k + 1, by omega, by go_num, hw2⟩
      case measure => simp [intOf]; omega
    · have hi : ¬ (k : Int) < (l.length : Int) := by omega
      go_wp2_with fail
      go_ret
      exact ⟨rfl, hw⟩

set_option maxRecDepth 100000 in
set_option maxHeartbeats 1600000 in
theorem eqTape (t : Tp) (ac ag ao bc bg bo : Option Addr) (cc cg co dc dg d : Nat) (w : World) (hP : Tat w 0 w.heap.size t ac ag ao) (hQ : Tat w 0 w.heap.size t bc bg bo) (hs : tpSize t ≤ 1048576) :
    Calls Try.prog 56 #[tpv t ac cc ag cg ao co, tpv t bc dc bg dg bo d] w fun e w' => e = .returned (.bool true) ∧ Below w.heap.size w w' := by
  unfold tpv
  have hs1 : t.code.length ≤ 1048576 := by unfold tpSize at hs; omega
  have hs2 : t.guards.length ≤ 1048576 := by unfold tpSize at hs; omega
  have hs3 : t.outs.length ≤ 1048576 := by unfold tpSize at hs; omega
  have e0 : (t.inputs != t.inputs) = false := by simp
  obtain ⟨w0, hw0⟩ : ∃ w0, w0 = (w.alloc (.cells #[.int .i64 t.inputs, .slice ac t.code.length cc, .slice ag t.guards.length cg, .slice ao t.outs.length co] 85)).alloc (.cells #[.int .i64 t.inputs, .slice bc t.code.length dc, .slice bg t.guards.length dg, .slice bo t.outs.length d] 85) := ⟨_, rfl⟩
  have A0 : Below w.heap.size w w0 := by rw [hw0]; exact ((Below.refl _ _).alloc (Nat.le_refl _) _).alloc (by simp) _
  have z0 : w0.heap.size = w.heap.size + 1 + 1 := by rw [hw0]; simp
  have p1 : w0.cell? ⟨w.heap.size, 1, none⟩ = some (.slice ac t.code.length cc) := by rw [hw0]; simp [go_sem]
  have p2 : w0.cell? ⟨w.heap.size, 2, none⟩ = some (.slice ag t.guards.length cg) := by rw [hw0]; simp [go_sem]
  have p3 : w0.cell? ⟨w.heap.size, 3, none⟩ = some (.slice ao t.outs.length co) := by rw [hw0]; simp [go_sem]
  have q1 : w0.cell? ⟨w.heap.size + 1, 1, none⟩ = some (.slice bc t.code.length dc) := by rw [hw0]; simp [go_sem]
  have q2 : w0.cell? ⟨w.heap.size + 1, 2, none⟩ = some (.slice bg t.guards.length dg) := by rw [hw0]; simp [go_sem]
  have q3 : w0.cell? ⟨w.heap.size + 1, 3, none⟩ = some (.slice bo t.outs.length d) := by rw [hw0]; simp [go_sem]
  have P0 := (hP.below A0).mono (Nat.le_refl _) A0.size
  have Q0 := (hQ.below A0).mono (Nat.le_refl _) A0.size
  go_enter Try.func56, Try.ntmps56
  go_wp2_with fail
  rw [← hw0]
  clear hw0 hP hQ
  refine (eqInstrS t.code ac bc cc dc _ P0.code Q0.code hs1).mono ?_; rintro e w1 ⟨rfl, b1⟩
  obtain ⟨hc, hf⟩ := tbcell b1
  have z1 := b1.size
  rw [← hc _ _ (by omega)] at p2 p3 q2 q3
  have A1 := A0.trans (b1.mono A0.size)
  have P1 := (P0.below b1).mono (Nat.le_refl _) b1.size
  have Q1 := (Q0.below b1).mono (Nat.le_refl _) b1.size
  clear hc hf p1 q1 P0 Q0
  go_wp2_with fail
  refine (eqGuardS t.guards ag bg cg dg _ P1.guards Q1.guards hs2).mono ?_; rintro e w2 ⟨rfl, b2⟩
  obtain ⟨hc, hf⟩ := tbcell b2
  have z2 := b2.size
  rw [← hc _ _ (by omega)] at p3 q3
  have A2 := A1.trans (b2.mono A1.size)
  have P2 := (P1.below b2).mono (Nat.le_refl _) b2.size
  have Q2 := (Q1.below b2).mono (Nat.le_refl _) b2.size
  clear hc hf p2 q2 P1 Q1
  go_wp2_with fail
  refine (eqInt64S ao bo co d t.outs _ (P2.outs.at (Nat.le_refl _)) (Q2.outs.at (Nat.le_refl _)) (by omega)).mono ?_; rintro e w3 ⟨rfl, b3⟩
  have A3 := A2.trans (b3.mono A2.size)
  go_wp2_with fail
  go_ret
  exact ⟨rfl, A3⟩

/- marks -/
set_option maxRecDepth 100000 in
set_option maxHeartbeats 3200000 in
theorem markInstrS (L B n g cap : Nat) (k0 : Nat) (w : World) (h : Wr w L B (n * 4) g) (hl : n ≤ 1048576) (hk0 : k0 ≤ 16777216) :
    Calls Try.prog 134 #[.slice (some ⟨g, 0, none⟩) n cap, .int .i64 k0] w fun e w' => e = .returned (.int .i64 ((k0 + 4 * n : Nat) : Int)) ∧ Trn L B w w' := by
  have hb := h.1
  go_enter Try.func134, Try.ntmps134
  go_wp2_with fail
  go_loopw [1, 5] (fun q i wr => ∃ k : Nat, k ≤ n ∧ i = .int .i64 k ∧ q = .int .i64 ((k0 + 4 * k : Nat) : Int) ∧ Trn L B w wr) (fun _ i _ => n - (intOf i).toNat)
  case atStart => exact ⟨0, Nat.zero_le _, rfl, rfl, Trn.refl _ _ _⟩
  case round =>
    obtain ⟨k, hk, rfl, rfl, hT⟩ := hrel
    by_cases hlt : k < n
    · have hi : (k : Int) < (n : Int) := by omega
      obtain ⟨_, hfz, hcl⟩ := hT.wr h
      obtain ⟨v0, c0⟩ := hcl (k * 4) (by omega)
      obtain ⟨v1, c1⟩ := hcl (k * 4 + 1) (by omega)
      obtain ⟨v2, c2⟩ := hcl (k * 4 + 2) (by omega)
      obtain ⟨v3, c3⟩ := hcl (k * 4 + 3) (by omega)
      have f0 := hfz (k * 4)
      have f1 := hfz (k * 4 + 1)
      have f2 := hfz (k * 4 + 2)
      have f3 := hfz (k * 4 + 3)
      have T4 := fun (x0 x1 x2 x3 : Value) => (((hT.trans (Trn.set (o := k * 4) (v := x0) hb)).trans (Trn.set (o := k * 4 + 1) (v := x1) hb)).trans (Trn.set (o := k * 4 + 2) (v := x2) hb)).trans (Trn.set (o := k * 4 + 3) (v := x3) hb)
      have E : Hid (((k0 + 4 * k : Nat) : Int) + 1 + 1 + 1 + 1 = ((k0 + 4 * (k + 1) : Nat) : Int)) := by show _ = _; omega
      have x0 : 0 ≤ ((k0 + 4 * k : Nat) : Int) := by omega
      have x1 : ((k0 + 4 * k : Nat) : Int) ≤ 1099511627776 := by omega
      clear hcl hfz hT
      generalize ((k0 + 4 * k : Nat) : Int) = x at *
      go_wp2_with fail
      go_roundw
      case rel => exact ⟨k + 1, by omega, by go_num, by rw [← E.out], T4 _ _ _ _⟩
      case measure => simp [intOf]; omega
    · have hkk : k = n := by omega
      subst hkk
      have hi : ¬ (k : Int) < (k : Int) := by omega
      go_wp2_with fail
      go_ret
      exact ⟨rfl, hT⟩

set_option maxRecDepth 100000 in
set_option maxHeartbeats 3200000 in
theorem markGuardS (L B n g cap : Nat) (k0 : Nat) (w : World) (h : Wr w L B (n * 2) g) (hl : n ≤ 1048576) (hk0 : k0 ≤ 16777216) :
    Calls Try.prog 135 #[.slice (some ⟨g, 0, none⟩) n cap, .int .i64 k0] w fun e w' => e = .returned (.int .i64 ((k0 + 2 * n : Nat) : Int)) ∧ Trn L B w w' := by
  have hb := h.1
  go_enter Try.func135, Try.ntmps135
  go_wp2_with fail
  go_loopw [1, 5] (fun q i wr => ∃ k : Nat, k ≤ n ∧ i = .int .i64 k ∧ q = .int .i64 ((k0 + 2 * k : Nat) : Int) ∧ Trn L B w wr) (fun _ i _ => n - (intOf i).toNat)
  case atStart => exact ⟨0, Nat.zero_le _, rfl, rfl, Trn.refl _ _ _⟩
  case round =>
    obtain ⟨k, hk, rfl, rfl, hT⟩ := hrel
    by_cases hlt : k < n
    · have hi : (k : Int) < (n : Int) := by omega
      obtain ⟨_, hfz, hcl⟩ := hT.wr h
      obtain ⟨v0, c0⟩ := hcl (k * 2) (by omega)
      obtain ⟨v1, c1⟩ := hcl (k * 2 + 1) (by omega)
      have f0 := hfz (k * 2)
      have f1 := hfz (k * 2 + 1)
      have T4 := fun (x0 x1 : Value) => (hT.trans (Trn.set (o := k * 2) (v := x0) hb)).trans (Trn.set (o := k * 2 + 1) (v := x1) hb)
      have E : Hid (((k0 + 2 * k : Nat) : Int) + 1 + 1 = ((k0 + 2 * (k + 1) : Nat) : Int)) := by show _ = _; omega
      have x0 : 0 ≤ ((k0 + 2 * k : Nat) : Int) := by omega
      have x1 : ((k0 + 2 * k : Nat) : Int) ≤ 1099511627776 := by omega
      clear hcl hfz hT
      generalize ((k0 + 2 * k : Nat) : Int) = x at *
      go_wp2_with fail
      go_roundw
      case rel => exact ⟨k + 1, by omega, by go_num, by rw [← E.out], T4 _ _⟩
      case measure => simp [intOf]; omega
    · have hkk : k = n := by omega
      subst hkk
      have hi : ¬ (k : Int) < (k : Int) := by omega
      go_wp2_with fail
      go_ret
      exact ⟨rfl, hT⟩

set_option maxRecDepth 100000 in
set_option maxHeartbeats 3200000 in
theorem markOuts (L B n g cap : Nat) (k0 : Nat) (w : World) (h : Wr w L B n g) (hl : n ≤ 1048576) (hk0 : k0 ≤ 16777216) :
    Calls Try.prog 23 #[.slice (some ⟨g, 0, none⟩) n cap, .int .i64 k0] w fun e w' => e = .returned (.int .i64 ((k0 + n : Nat) : Int)) ∧ Trn L B w w' := by
  have hb := h.1
  go_enter Try.func23, Try.ntmps23
  go_wp2_with fail
  go_loopw [1, 5] (fun q i wr => ∃ k : Nat, k ≤ n ∧ i = .int .i64 k ∧ q = .int .i64 ((k0 + k : Nat) : Int) ∧ Trn L B w wr) (fun _ i _ => n - (intOf i).toNat)
  case atStart => exact ⟨0, Nat.zero_le _, rfl, rfl, Trn.refl _ _ _⟩
  case round =>
    obtain ⟨k, hk, rfl, rfl, hT⟩ := hrel
    by_cases hlt : k < n
    · have hi : (k : Int) < (n : Int) := by omega
      obtain ⟨_, hfz, hcl⟩ := hT.wr h
      obtain ⟨v0, c0⟩ := hcl k (by omega)
      have f0 := hfz k
      have T4 := fun (x0 : Value) => hT.trans (Trn.set (o := k) (v := x0) hb)
      have E : Hid (((k0 + k : Nat) : Int) + 1 = ((k0 + (k + 1) : Nat) : Int)) := by show _ = _; omega
      have x0 : 0 ≤ ((k0 + k : Nat) : Int) := by omega
      have x1 : ((k0 + k : Nat) : Int) ≤ 1099511627776 := by omega
      clear hcl hfz hT
      generalize ((k0 + k : Nat) : Int) = x at *
      go_wp2_with fail
      go_roundw
      case rel => exact ⟨k + 1, by omega, by go_num, by rw [← E.out], T4 _⟩
      case measure => simp [intOf]; omega
    · have hkk : k = n := by omega
      subst hkk
      have hi : ¬ (k : Int) < (k : Int) := by omega
      go_wp2_with fail
      go_ret
      exact ⟨rfl, hT⟩

set_option maxRecDepth 100000 in
set_option maxHeartbeats 3200000 in
theorem markTape (L B : Nat) (t : Tp) (g1 g2 g3 cc cg co : Nat) (w : World) (h1 : Wr w L B (t.code.length * 4) g1) (h2 : Wr w L B (t.guards.length * 2) g2) (h3 : Wr w L B t.outs.length g3) (hB : B ≤ w.heap.size) (hs : tpSize t ≤ 1048576) :
    Calls Try.prog 57 #[tpv t (some ⟨g1, 0, none⟩) cc (some ⟨g2, 0, none⟩) cg (some ⟨g3, 0, none⟩) co, .int .i64 1] w fun e w' => (∃ x : Nat, x ≤ 8388608 ∧ e = .returned (.int .i64 x)) ∧ Trn L B w w' := by
  unfold tpv
  have hs1 : t.code.length ≤ 1048576 := by unfold tpSize at hs; omega
  have hs2 : t.guards.length ≤ 1048576 := by unfold tpSize at hs; omega
  have hs3 : t.outs.length ≤ 1048576 := by unfold tpSize at hs; omega
  obtain ⟨w0, hw0⟩ : ∃ w0, w0 = w.alloc (.cells #[.int .i64 t.inputs, .slice (some ⟨g1, 0, none⟩) t.code.length cc, .slice (some ⟨g2, 0, none⟩) t.guards.length cg, .slice (some ⟨g3, 0, none⟩) t.outs.length co] 85) := ⟨_, rfl⟩
  have A0 : Below w.heap.size w w0 := by rw [hw0]; exact (Below.refl _ _).alloc (Nat.le_refl _) _
  have z0 : w0.heap.size = w.heap.size + 1 := by rw [hw0]; simp
  have T0 : Trn L B w w0 := ⟨A0.os, A0.tape, A0.output, A0.size, fun k hk _ => A0.block k hk, fun {L' B' n g} h => by
    obtain ⟨x1, x2, x3⟩ := h
    have hg : ∀ o, w0.frozen? ⟨g, o, none⟩ = false := fun o => by rw [hw0, frozen?_alloc_cells]; exact x2 o
    refine ⟨x1, hg, fun o ho => ?_⟩
    obtain ⟨v, hv⟩ := x3 o ho
    exact ⟨v, (A0.cell (p := ⟨g, o, none⟩) (cell_lt hv)).trans hv⟩⟩
  have p2 : w0.cell? ⟨w.heap.size, 2, none⟩ = some (.slice (some ⟨g2, 0, none⟩) t.guards.length cg) := by rw [hw0]; simp [go_sem]
  have p3 : w0.cell? ⟨w.heap.size, 3, none⟩ = some (.slice (some ⟨g3, 0, none⟩) t.outs.length co) := by rw [hw0]; simp [go_sem]
  go_enter Try.func57, Try.ntmps57
  go_wp2_with fail
  rw [← hw0]
  clear hw0
  refine (markInstrS L B t.code.length g1 cc 1 _ (T0.wr h1) hs1 (by omega)).mono ?_; rintro e w1 ⟨rfl, T1⟩
  have k1 : ∀ o v, w0.cell? ⟨w.heap.size, o, none⟩ = some v → w1.cell? ⟨w.heap.size, o, none⟩ = some v := fun o v h => (World.cell?_of_block (a := ⟨w.heap.size, o, none⟩) (T1.block _ (by show w.heap.size < _; omega) (by show ¬ (L ≤ w.heap.size ∧ w.heap.size < B); omega))).trans h
  have p2' := k1 _ _ p2
  have p3' := k1 _ _ p3
  have U1 := T0.trans T1
  have m1 : 1 + 4 * t.code.length ≤ 4194305 := by omega
  clear p2 p3 k1
  have z1 := T1.size
  generalize 1 + 4 * t.code.length = x1 at m1 ⊢
  go_wp2_with fail
  refine (markGuardS L B t.guards.length g2 cg x1 _ (U1.wr h2) hs2 (by omega)).mono ?_; rintro e w2 ⟨rfl, T2⟩
  have k1 : ∀ o v, w1.cell? ⟨w.heap.size, o, none⟩ = some v → w2.cell? ⟨w.heap.size, o, none⟩ = some v := fun o v h => (World.cell?_of_block (a := ⟨w.heap.size, o, none⟩) (T2.block _ (by show w.heap.size < _; omega) (by show ¬ (L ≤ w.heap.size ∧ w.heap.size < B); omega))).trans h
  have p3 := k1 _ _ p3'
  have U2 := U1.trans T2
  have m2 : x1 + 2 * t.guards.length ≤ 6291457 := by omega
  clear p2' p3' k1
  generalize x1 + 2 * t.guards.length = x2 at m2 ⊢
  go_wp2_with fail
  refine (markOuts L B t.outs.length g3 co x2 _ (U2.wr h3) hs3 (by omega)).mono ?_; rintro e w3 ⟨rfl, T3⟩
  have U3 := U2.trans T3
  have m3 : x2 + t.outs.length ≤ 8388608 := by omega
  generalize x2 + t.outs.length = x3 at m3 ⊢
  go_wp2_with fail
  go_ret
  exact ⟨⟨x3, m3, rfl⟩, U3⟩

end Go.Proofs.Ytiimebiecihpkaa
