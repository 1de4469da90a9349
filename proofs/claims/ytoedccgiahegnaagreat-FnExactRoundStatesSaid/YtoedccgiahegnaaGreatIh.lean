/- The program: the root of a node, and what an environment admits. The program: what an environment admits. -/
import Derived.Test.YtoedccgiahegnaaGreatSy
import Derived.Test.YtoedccgiahegnaaGreatIf
namespace Go.Proofs.YtoedccgiahegnaaGreat
open Go.RowKit
set_option linter.unusedVariables false

set_option maxHeartbeats 400000 in
theorem iIndex (k n : Int) (w : World) :
    Calls Tryz.prog 62 #[.int .i64 k, .int .i64 n] w fun e w' => e = .returned (.bool (decide (0 ≤ k ∧ k < n))) ∧ w = w' := by
  by_cases h1 : 0 ≤ k
  · by_cases h2 : k < n
    · have HF : Hid (decide (0 ≤ k ∧ k < n) = true) := decide_eq_true ⟨h1, h2⟩
      have d1 : decide (0 ≤ k) = true := decide_eq_true h1
      have d2 : decide (k < n) = true := decide_eq_true h2
      go_enter Tryz.func62, Tryz.ntmps62
      go_wp2
      go_ret
      exact ⟨ret_bool HF.out.symm, rfl⟩
    · have HF : Hid (decide (0 ≤ k ∧ k < n) = false) := decide_eq_false (by omega)
      have d1 : decide (0 ≤ k) = true := decide_eq_true h1
      have d2 : decide (k < n) = false := decide_eq_false h2
      go_enter Tryz.func62, Tryz.ntmps62
      go_wp2
      go_ret
      exact ⟨rfl, rfl⟩
  · have HF : Hid (decide (0 ≤ k ∧ k < n) = false) := decide_eq_false (by omega)
    have d1 : decide (0 ≤ k) = false := decide_eq_false h1
    go_enter Tryz.func62, Tryz.ntmps62
    go_wp2
    go_ret
    exact ⟨rfl, rfl⟩

set_option maxRecDepth 100000 in
set_option maxHeartbeats 1600000 in
theorem iMore (k n p c : Int) (m : Nat) (a : Option Addr) (cap : Nat) (i : Nat) (w : World) :
    Calls Tryz.prog 149 #[.agg #[.int .i64 k, .int .i64 n, .int .i64 p, .int .i64 c, .slice a m cap], .int .i64 i] w fun e w' => e = .returned (.int .i64 (more k i)) ∧ w' = w.alloc (.cells #[.int .i64 k, .int .i64 n, .int .i64 p, .int .i64 c, .slice a m cap] 137) := by
  by_cases h9 : k = 9
  · subst h9
    by_cases h1 : i = 1
    · subst h1
      go_enter Tryz.func149, Tryz.ntmps149
      go_wp2_with fail
      go_ret
      exact ⟨rfl, rfl⟩
    · have d1 : ((i : Int) == 1) = false := ne_beq (by omega)
      have HF : Hid (more 9 i = 0) := if_neg (by omega)
      clear h1
      go_enter Tryz.func149, Tryz.ntmps149
      go_wp2_with fail
      go_ret
      exact ⟨ret_int HF.out.symm, rfl⟩
  · have d1 : (k == 9) = false := ne_beq h9
    have HF : Hid (more k i = 0) := if_neg (by omega)
    clear h9
    go_enter Tryz.func149, Tryz.ntmps149
    go_wp2_with fail
    go_ret
    exact ⟨ret_int HF.out.symm, rfl⟩

/-- The value that stands for the root of a node with the right form. -/
def NodeIs (k n p c : Int) (m : Nat) (a : Option Addr) (cap : Nat) (v : Value) : Prop :=
  (k = 1 ∧ v = .iface 168 (.agg #[.int .i64 n])) ∨ (k = 2 ∧ v = .iface 170 (.agg #[.int .i64 n])) ∨
  (k = 10 ∧ v = .iface 184 (.agg #[.int .i64 n, .int .i64 p, .slice a m cap])) ∨ (k = 11 ∧ v = .iface 187 (.agg #[.int .i64 n, .int .i64 p, .int .i64 c, .slice a m cap])) ∨
  ((k ≠ 1 ∧ k ≠ 2 ∧ k ≠ 10 ∧ k ≠ 11) ∧ ∃ T x, v = .iface T x ∧ (T = 175 ∨ T = 178 ∨ T = 181 ∨ T = 172))
def NodeRes (k n p c : Int) (m : Nat) (a : Option Addr) (cap : Nat) (w : World) (e : Ending) (w' : World) : Prop := ∃ v, e = .returned v ∧ NodeIs k n p c m a cap v ∧ Below w.heap.size w w'

theorem Fat.nodeAt {w : World} {L B : Nat} {f : Fo} {b off i : Nat} (h : Fat w L B f (some ⟨b, off, none⟩)) (hi : i < f.len) : ∃ k n p c m a cap, NodeAt w b (off + i * 5) k n p c m a cap := by
  obtain ⟨k, n, p, c, ks, a', cap, _, _, _, h0, h1, h2, h3, h4, _⟩ := h.node hi
  exact ⟨k, n, p, c, ks.len, a', cap, h0, h1, h2, h3, h4⟩

set_option maxRecDepth 100000 in
set_option maxHeartbeats 3200000 in
theorem iNode (k n p c : Int) (ks : Fo) (a : Option Addr) (cap : Nat) (w : World) (hF : Fat w 0 w.heap.size ks a) (hl : ks.len ≤ 1048576)
    (h7 : k = 7 → 1 ≤ ks.len) (h8 : k = 8 → 3 ≤ ks.len) (h9 : k = 9 → 2 ≤ ks.len) (hk : 1 ≤ k ∧ k ≤ 11) :
    Calls Tryz.prog 114 #[.agg #[.int .i64 k, .int .i64 n, .int .i64 p, .int .i64 c, .slice a ks.len cap]] w (NodeRes k n p c ks.len a cap w) := by
  have B1 : ∀ o, Below w.heap.size w (w.alloc o) := fun o => (Below.refl _ _).alloc (Nat.le_refl _) o
  rcases (by omega : k = 1 ∨ k = 2 ∨ k = 7 ∨ k = 8 ∨ k = 9 ∨ k = 10 ∨ k = 11 ∨ (k ≠ 1 ∧ k ≠ 2 ∧ k ≠ 7 ∧ k ≠ 8 ∧ k ≠ 9 ∧ k ≠ 10 ∧ k ≠ 11)) with rfl | rfl | rfl | rfl | rfl | rfl | rfl | ⟨g1, g2, g7, g8, g9, g10, g11⟩
  · go_enter Tryz.func114, Tryz.ntmps114
    go_wp2_with fail
    go_ret
    exact ⟨_, rfl, .inl ⟨rfl, rfl⟩, B1 _⟩
  · go_enter Tryz.func114, Tryz.ntmps114
    go_wp2_with fail
    go_ret
    exact ⟨_, rfl, .inr (.inl ⟨rfl, rfl⟩), B1 _⟩
  · have hm := h7 rfl
    obtain ⟨b, off, rfl, hbB⟩ := hF.blk (by omega)
    obtain ⟨k0, n0, p0, c0, m0, a0, cap0, x0, x1, x2, x3, x4⟩ := hF.nodeAt (i := 0) (by omega)
    simp only [Nat.zero_mul, Nat.add_zero] at x0 x1 x2 x3 x4
    have hlt := hbB.2
    have hmi : (0 : Int) < (ks.len : Int) := by omega
    have hmi2 : 0 < ks.len := by omega
    clear hF h7 h8 h9 hk hm
    go_enter Tryz.func114, Tryz.ntmps114
    go_wp2_with fail
    go_ret
    exact ⟨_, rfl, .inr (.inr (.inr (.inr ⟨by omega, _, _, rfl, .inl rfl⟩))), B1 _⟩
  · have hm := h8 rfl
    obtain ⟨b, off, rfl, hbB⟩ := hF.blk (by omega)
    obtain ⟨k0, n0, p0, c0, m0, a0, cap0, x0, x1, x2, x3, x4⟩ := hF.nodeAt (i := 0) (by omega)
    obtain ⟨k1, n1, p1, c1, m1, a1, cap1, y0, y1, y2, y3, y4⟩ := hF.nodeAt (i := 1) (by omega)
    obtain ⟨k2, n2, p2, c2, m2, a2, cap2, z0, z1, z2, z3, z4⟩ := hF.nodeAt (i := 2) (by omega)
    simp only [Nat.zero_mul, Nat.add_zero, Nat.one_mul, Nat.reduceMul] at x0 x1 x2 x3 x4 y0 y1 y2 y3 y4 z0 z1 z2 z3 z4
    have hlt := hbB.2
    have hmi : (0 : Int) < (ks.len : Int) := by omega
    have hmi2 : 0 < ks.len := by omega
    have hmi3 : (1 : Int) < (ks.len : Int) := by omega
    have hmi4 : (2 : Int) < (ks.len : Int) := by omega
    have hmi5 : 1 < ks.len := by omega
    have hmi6 : 2 < ks.len := by omega
    clear hF h7 h8 h9 hk hm
    go_enter Tryz.func114, Tryz.ntmps114
    go_wp2_with fail
    go_quiet (fail)
    go_wp2_with fail
    go_ret
    exact ⟨_, rfl, .inr (.inr (.inr (.inr ⟨by omega, _, _, rfl, .inr (.inl rfl)⟩))), below_drewN (B1 _) _⟩
  · have hm := h9 rfl
    obtain ⟨b, off, rfl, hbB⟩ := hF.blk (by omega)
    obtain ⟨k0, n0, p0, c0, m0, a0, cap0, x0, x1, x2, x3, x4⟩ := hF.nodeAt (i := 0) (by omega)
    obtain ⟨k1, n1, p1, c1, m1, a1, cap1, y0, y1, y2, y3, y4⟩ := hF.nodeAt (i := 1) (by omega)
    simp only [Nat.zero_mul, Nat.add_zero, Nat.one_mul] at x0 x1 x2 x3 x4 y0 y1 y2 y3 y4
    have hlt := hbB.2
    have hmi : (0 : Int) < (ks.len : Int) := by omega
    have hmi2 : 0 < ks.len := by omega
    have hmi3 : (1 : Int) < (ks.len : Int) := by omega
    have hmi5 : 1 < ks.len := by omega
    clear hF h7 h8 h9 hk hm
    go_enter Tryz.func114, Tryz.ntmps114
    go_wp2_with fail
    go_quiet (fail)
    go_wp2_with fail
    go_ret
    exact ⟨_, rfl, .inr (.inr (.inr (.inr ⟨by omega, _, _, rfl, .inr (.inr (.inl rfl))⟩))), below_drewN (B1 _) _⟩
  · go_enter Tryz.func114, Tryz.ntmps114
    go_wp2_with fail
    go_ret
    exact ⟨_, rfl, .inr (.inr (.inl ⟨rfl, rfl⟩)), B1 _⟩
  · go_enter Tryz.func114, Tryz.ntmps114
    go_wp2_with fail
    go_ret
    exact ⟨_, rfl, .inr (.inr (.inr (.inl ⟨rfl, rfl⟩))), B1 _⟩
  · have d1 := ne_beq g1
    have d2 := ne_beq g2
    have d7 := ne_beq g7
    have d8 := ne_beq g8
    have d9 := ne_beq g9
    have d10 := ne_beq g10
    have d11 := ne_beq g11
    go_enter Tryz.func114, Tryz.ntmps114
    go_wp2_with fail
    go_ret
    exact ⟨_, rfl, .inr (.inr (.inr (.inr ⟨⟨g1, g2, g10, g11⟩, _, _, rfl, .inr (.inr (.inr rfl))⟩))), B1 _⟩

/-- there is a function with an output, for so many arguments -/
def offB (fs : List Fn) (funcs n p : Int) (m : Nat) : Bool :=
  decide (0 ≤ n ∧ n < funcs) && (decide (0 ≤ p ∧ p < ((fs.getD n.toNat noFn).outs.len : Int)) && decide ((m : Int) = (fs.getD n.toNat noFn).params))
def repB (fs : List Fn) (n : Int) : Bool := decide (1 ≤ (fs.getD n.toNat noFn).params) && decide (((fs.getD n.toNat noFn).outs.len : Int) = (fs.getD n.toNat noFn).params)

set_option maxRecDepth 100000 in
set_option maxHeartbeats 3200000 in
theorem iOffers (fs : List Fn) (ap : Option Addr) (fn capp : Nat) (vars n p : Int) (m : Nat) (a : Option Addr) (cap : Nat) (w : World) (hP : Pat w 0 w.heap.size fs ap) (hfn : fn ≤ fs.length) (hl : fs.length ≤ 1048576) (hm : m ≤ 1048576) :
    Calls Tryz.prog 153 #[.agg #[.slice ap fn capp, .int .i64 vars], .int .i64 n, .int .i64 p, .slice a m cap] w fun e w' => e = .returned (.bool (offB fs fn n p m)) ∧ Below w.heap.size w w' := by
  have B1 : ∀ o, Below w.heap.size w (w.alloc o) := fun o => (Below.refl _ _).alloc (Nat.le_refl _) o
  have hfi : (fn : Int) ≤ 1048576 := by omega
  by_cases h1 : 0 ≤ n ∧ n < (fn : Int)
  · obtain ⟨j, rfl⟩ := Int.eq_ofNat_of_zero_le h1.1
    have hj : j < fs.length := by omega
    obtain ⟨bf, of, rfl, hbB, hall⟩ := (hP.resolve_left (by intro e; rw [e] at hj; simp at hj))
    obtain ⟨hr, af, cf, f0, f1, f2, _⟩ := hall j hj
    have hlf := hr.2.2
    unfold maxLen at hlf
    have hlf2 : (fs.getD j noFn).outs.len ≤ 9223372036854775807 := by omega
    have HB : Hid (offB fs fn (j : Int) p m = (decide (0 ≤ p ∧ p < ((fs.getD j noFn).outs.len : Int)) && decide ((m : Int) = (fs.getD j noFn).params))) := by
      show _ = _
      unfold offB
      rw [decide_eq_true h1, Bool.true_and]; rfl
    have hji : (j : Int) < (fn : Int) := h1.2
    have HI := fun W => Lib.hid (iIndex (j : Int) (fn : Int) W)
    have hbl := hbB.2
    rw [decide_eq_true h1] at HI
    clear hall hP hr hlf h1
    generalize (fs.getD j noFn).name = nm at f0
    generalize (fs.getD j noFn).outs.len = mo at HB f2 hlf2
    generalize (fs.getD j noFn).params = pa at HB f1
    have HI2 := fun W => Lib.hid (iIndex p (mo : Int) W)
    cases h2 : decide (0 ≤ p ∧ p < (mo : Int)) with
    | true =>
      rw [h2] at HI2 HB
      have HB2 : Hid (offB fs fn (j : Int) p m = decide ((m : Int) = pa)) := by show _ = _; rw [HB.out, Bool.true_and]
      clear HB h2
      go_enter Tryz.func153, Tryz.ntmps153
      go_wp2_with fail
      refine (HI _).out.mono ?_; rintro e w' ⟨rfl, rfl⟩
      go_wp2_with fail
      refine (HI2 _).out.mono ?_; rintro e w' ⟨rfl, rfl⟩
      go_wp2_with fail
      go_ret
      exact ⟨ret_bool (by rw [HB2.out]; rfl), (B1 _).alloc (by simp) _⟩
    | false =>
      rw [h2] at HI2 HB
      have HB2 : Hid (offB fs fn (j : Int) p m = false) := by show _ = _; rw [HB.out, Bool.false_and]
      clear HB h2
      go_enter Tryz.func153, Tryz.ntmps153
      go_wp2_with fail
      refine (HI _).out.mono ?_; rintro e w' ⟨rfl, rfl⟩
      go_wp2_with fail
      refine (HI2 _).out.mono ?_; rintro e w' ⟨rfl, rfl⟩
      go_wp2_with fail
      go_ret
      exact ⟨ret_bool HB2.out.symm, (B1 _).alloc (by simp) _⟩
  · have HB : Hid (offB fs fn n p m = false) := by
      show _ = _
      unfold offB
      rw [decide_eq_false h1, Bool.false_and]
    have HI := fun W => Lib.hid (iIndex n (fn : Int) W)
    rw [decide_eq_false h1] at HI
    clear h1
    go_enter Tryz.func153, Tryz.ntmps153
    go_wp2_with fail
    refine (HI _).out.mono ?_; rintro e w' ⟨rfl, rfl⟩
    go_wp2_with fail
    go_ret
    exact ⟨ret_bool HB.out.symm, B1 _⟩

set_option maxRecDepth 100000 in
set_option maxHeartbeats 3200000 in
theorem iRepeats (nm : ByteArray) (pa : Int) (af : Option Addr) (mo cf : Nat) (w : World) (hm : mo ≤ 9223372036854775807) :
    Calls Tryz.prog 86 #[.agg #[.string nm, .int .i64 pa, .slice af mo cf]] w fun e w' => e = .returned (.bool (decide (1 ≤ pa) && decide ((mo : Int) = pa))) ∧ Below w.heap.size w w' := by
  have B1 : ∀ o, Below w.heap.size w (w.alloc o) := fun o => (Below.refl _ _).alloc (Nat.le_refl _) o
  by_cases h2 : 1 ≤ pa
  · have HB2 : Hid ((decide (1 ≤ pa) && decide ((mo : Int) = pa)) = decide ((mo : Int) = pa)) := by show _ = _; rw [decide_eq_true h2, Bool.true_and]
    go_enter Tryz.func86, Tryz.ntmps86
    go_wp2_with fail
    go_ret
    exact ⟨ret_bool (by rw [HB2.out]; rfl), B1 _⟩
  · have HB2 : Hid ((decide (1 ≤ pa) && decide ((mo : Int) = pa)) = false) := by show _ = _; rw [decide_eq_false h2, Bool.false_and]
    go_enter Tryz.func86, Tryz.ntmps86
    go_wp2_with fail
    go_ret
    exact ⟨ret_bool HB2.out.symm, B1 _⟩

end Go.Proofs.YtoedccgiahegnaaGreat

namespace Go.Proofs.YtoedccgiahegnaaGreat
open Go.RowKit
set_option linter.unusedVariables false

/-- the fields of a node are within the environment -/
def admB (fs : List Fn) (vars funcs : Int) (k n p c : Int) (m : Nat) : Bool :=
  if k = 1 then decide (0 ≤ n ∧ n < 1000003) else if k = 2 then decide (0 ≤ n ∧ n < vars) else if k = 10 then offB fs funcs n p m else
  if k = 11 then offB fs funcs n p m && (repB fs n && decide (0 ≤ c ∧ c < 9)) else true

theorem formAdm (fs : List Fn) (vars funcs : Int) (k n p c : Int) (m : Nat) : (formB k n p c m && admB fs vars funcs k n p c m) = nodeB fs vars funcs k n p c m := by
  rw [Bool.eq_iff_iff]
  rcases kind_all k with rfl | rfl | rfl | rfl | rfl | rfl | rfl | rfl | rfl | rfl | rfl | ⟨h1, h2, h3, h4, h5, h6, h7, h8, h9, h10, h11⟩
  iterate 11
    · simp [formB, admB, nodeB, leafB, innerB, kidsNo, offB, repB]
      try omega
  · simp [formB, admB, nodeB, kidsNo, h1, h2, h3, h4, h5, h6, h7, h8, h9, h10, h11]
    try omega

theorem zeroNum (W : World) : (do pure (Value.tuple #[← zeroValue 168, .bool false]) : Sem Value).run Tryz.prog W = .ok (.tuple #[.agg #[.int .i64 0], .bool false]) W := by kernel_rfl
theorem asNum_yes (W : World) (v : Value) : (Instr.typeAssert (.iface 168 v) 165 168 true).run Tryz.prog W = .ok (.tuple #[v, .bool true]) W := by kernel_rfl
theorem asNum_no (W : World) (u : TypeId) (v : Value) (h : u ≠ 168) : (Instr.typeAssert (.iface u v) 165 168 true).run Tryz.prog W = .ok (.tuple #[.agg #[.int .i64 0], .bool false]) W := by
  have e : (Instr.typeAssert (.iface u v) 165 168 true).run Tryz.prog W = (if u = 168 then (pure (Value.tuple #[v, .bool true]) : Sem Value) else (do pure (Value.tuple #[← zeroValue 168, .bool false]))).run Tryz.prog W := by kernel_rfl
  rw [e, if_neg h]
  exact zeroNum W
theorem zeroVar (W : World) : (do pure (Value.tuple #[← zeroValue 170, .bool false]) : Sem Value).run Tryz.prog W = .ok (.tuple #[.agg #[.int .i64 0], .bool false]) W := by kernel_rfl
theorem asVar_yes (W : World) (v : Value) : (Instr.typeAssert (.iface 170 v) 165 170 true).run Tryz.prog W = .ok (.tuple #[v, .bool true]) W := by kernel_rfl
theorem asVar_no (W : World) (u : TypeId) (v : Value) (h : u ≠ 170) : (Instr.typeAssert (.iface u v) 165 170 true).run Tryz.prog W = .ok (.tuple #[.agg #[.int .i64 0], .bool false]) W := by
  have e : (Instr.typeAssert (.iface u v) 165 170 true).run Tryz.prog W = (if u = 170 then (pure (Value.tuple #[v, .bool true]) : Sem Value) else (do pure (Value.tuple #[← zeroValue 170, .bool false]))).run Tryz.prog W := by kernel_rfl
  rw [e, if_neg h]
  exact zeroVar W
theorem zeroCall (W : World) : (do pure (Value.tuple #[← zeroValue 184, .bool false]) : Sem Value).run Tryz.prog W = .ok (.tuple #[.agg #[.int .i64 0, .int .i64 0, .slice none 0 0], .bool false]) W := by kernel_rfl
theorem asCall_yes (W : World) (v : Value) : (Instr.typeAssert (.iface 184 v) 165 184 true).run Tryz.prog W = .ok (.tuple #[v, .bool true]) W := by kernel_rfl
theorem asCall_no (W : World) (u : TypeId) (v : Value) (h : u ≠ 184) : (Instr.typeAssert (.iface u v) 165 184 true).run Tryz.prog W = .ok (.tuple #[.agg #[.int .i64 0, .int .i64 0, .slice none 0 0], .bool false]) W := by
  have e : (Instr.typeAssert (.iface u v) 165 184 true).run Tryz.prog W = (if u = 184 then (pure (Value.tuple #[v, .bool true]) : Sem Value) else (do pure (Value.tuple #[← zeroValue 184, .bool false]))).run Tryz.prog W := by kernel_rfl
  rw [e, if_neg h]
  exact zeroCall W
theorem zeroLoop (W : World) : (do pure (Value.tuple #[← zeroValue 187, .bool false]) : Sem Value).run Tryz.prog W = .ok (.tuple #[.agg #[.int .i64 0, .int .i64 0, .int .i64 0, .slice none 0 0], .bool false]) W := by kernel_rfl
theorem asLoop_yes (W : World) (v : Value) : (Instr.typeAssert (.iface 187 v) 165 187 true).run Tryz.prog W = .ok (.tuple #[v, .bool true]) W := by kernel_rfl
theorem asLoop_no (W : World) (u : TypeId) (v : Value) (h : u ≠ 187) : (Instr.typeAssert (.iface u v) 165 187 true).run Tryz.prog W = .ok (.tuple #[.agg #[.int .i64 0, .int .i64 0, .int .i64 0, .slice none 0 0], .bool false]) W := by
  have e : (Instr.typeAssert (.iface u v) 165 187 true).run Tryz.prog W = (if u = 187 then (pure (Value.tuple #[v, .bool true]) : Sem Value) else (do pure (Value.tuple #[← zeroValue 187, .bool false]))).run Tryz.prog W := by kernel_rfl
  rw [e, if_neg h]
  exact zeroLoop W

set_option maxRecDepth 100000 in
set_option maxHeartbeats 3200000 in
theorem iAdmits (fs : List Fn) (ap : Option Addr) (fn capp : Nat) (vars : Int) (k n p c : Int) (m : Nat) (a : Option Addr) (cap : Nat) (v : Value) (w : World) (hV : NodeIs k n p c m a cap v) (hP : Pat w 0 w.heap.size fs ap) (hfn : fn ≤ fs.length) (hl : fs.length ≤ 1048576) (hm : m ≤ 1048576) :
    Calls Tryz.prog 148 #[.agg #[.slice ap fn capp, .int .i64 vars], v] w fun e w' => e = .returned (.bool (admB fs vars fn k n p c m)) ∧ Below w.heap.size w w' := by
  have B1 : ∀ o, Below w.heap.size w (w.alloc o) := fun o => (Below.refl _ _).alloc (Nat.le_refl _) o
  rcases hV with ⟨rfl, rfl⟩ | ⟨rfl, rfl⟩ | ⟨rfl, rfl⟩ | ⟨rfl, rfl⟩ | ⟨⟨h1, h2, h10, h11⟩, T, x, rfl, hT⟩
  · have HF : Hid (admB fs vars fn 1 n p c m = decide (0 ≤ n ∧ n < 1000003)) := rfl
    have HI := fun W => Lib.hid (iIndex n 1000003 W)
    generalize decide (0 ≤ n ∧ n < 1000003) = r at HF HI
    have qNum := fun W v => asNum_yes W v
    go_enter Tryz.func148, Tryz.ntmps148
    go_wp2_with fail
    refine (HI _).out.mono ?_; rintro e w' ⟨rfl, rfl⟩
    go_wp2_with fail
    go_ret
    exact ⟨ret_bool HF.out.symm, (B1 _).alloc (by simp) _⟩
  · have HF : Hid (admB fs vars fn 2 n p c m = decide (0 ≤ n ∧ n < vars)) := rfl
    have HI := fun W => Lib.hid (iIndex n vars W)
    generalize decide (0 ≤ n ∧ n < vars) = r at HF HI
    have qNum := fun W v => asNum_no W 170 v (by decide)
    have qVar := fun W v => asVar_yes W v
    go_enter Tryz.func148, Tryz.ntmps148
    go_wp2_with fail
    refine (HI _).out.mono ?_; rintro e w' ⟨rfl, rfl⟩
    go_wp2_with fail
    go_ret
    exact ⟨ret_bool HF.out.symm, (B1 _).alloc (by simp) _⟩
  · have HF : Hid (admB fs vars fn 10 n p c m = offB fs fn n p m) := rfl
    have qNum := fun W v => asNum_no W 184 v (by decide)
    have qVar := fun W v => asVar_no W 184 v (by decide)
    have qCall := fun W v => asCall_yes W v
    go_enter Tryz.func148, Tryz.ntmps148
    go_wp2_with fail
    refine (iOffers fs ap fn capp vars n p m a cap _ ((hP.below ((B1 _).alloc (by simp) _)).mono (Nat.le_refl _) (by simp; omega)) hfn hl hm).mono ?_; rintro e w' ⟨rfl, hb⟩
    have hB := ((B1 _).alloc (by simp) _).trans (hb.mono (by simp; omega))
    generalize offB fs fn n p m = r at HF
    go_wp2_with fail
    go_ret
    exact ⟨ret_bool HF.out.symm, hB⟩
  · have HF : Hid (admB fs vars fn 11 n p c m = (offB fs fn n p m && (repB fs n && decide (0 ≤ c ∧ c < 9)))) := rfl
    have qNum := fun W v => asNum_no W 187 v (by decide)
    have qVar := fun W v => asVar_no W 187 v (by decide)
    have qCall := fun W v => asCall_no W 187 v (by decide)
    have qLoop := fun W v => asLoop_yes W v
    go_enter Tryz.func148, Tryz.ntmps148
    go_wp2_with fail
    refine (iOffers fs ap fn capp vars n p m a cap _ ((hP.below ((B1 _).alloc (by simp) _)).mono (Nat.le_refl _) (by simp; omega)) hfn hl hm).mono ?_; rintro e w' ⟨rfl, hb⟩
    have hB := ((B1 _).alloc (by simp) _).trans (hb.mono (by simp; omega))
    cases ho : offB fs fn n p m with
    | false =>
      have HF2 : Hid (admB fs vars fn 11 n p c m = false) := by show _ = _; rw [HF.out, ho, Bool.false_and]
      clear HF ho
      go_wp2_with fail
      go_ret
      exact ⟨ret_bool HF2.out.symm, hB⟩
    | true =>
      have HF2 : Hid (admB fs vars fn 11 n p c m = (repB fs n && decide (0 ≤ c ∧ c < 9))) := by show _ = _; rw [HF.out, ho, Bool.true_and]
      have hn : 0 ≤ n ∧ n < (fn : Int) := by
        unfold offB at ho
        simp only [Bool.and_eq_true, decide_eq_true_eq] at ho
        exact ho.1
      obtain ⟨hc, hf⟩ := bcell hb
      have hz := hb.size
      simp at hz
      clear HF ho
      obtain ⟨j, rfl⟩ := Int.eq_ofNat_of_zero_le hn.1
      have hj : j < fs.length := by omega
      obtain ⟨bf, of, rfl, hbB, hall⟩ := (((hP.below hB).mono (Nat.le_refl _) hB.size).resolve_left (by intro e; rw [e] at hj; simp at hj))
      obtain ⟨hrr, af, cf, f0, f1, f2, _⟩ := hall j hj
      have hlf := hrr.2.2
      unfold maxLen at hlf
      have HR : Hid (Calls Tryz.prog 86 #[.agg #[.string (fs.getD j noFn).name, .int .i64 (fs.getD j noFn).params, .slice af (fs.getD j noFn).outs.len cf]] w' fun e w2 => e = .returned (.bool (repB fs (j : Int))) ∧ Below w'.heap.size w' w2) := iRepeats (fs.getD j noFn).name (fs.getD j noFn).params af (fs.getD j noFn).outs.len cf w' (by omega)
      have hji : (j : Int) < (fn : Int) := hn.2
      clear hall hrr hlf hn
      generalize (fs.getD j noFn).name = nm at f0 HR
      generalize (fs.getD j noFn).outs.len = mo at f2 HR
      generalize (fs.getD j noFn).params = pa at f1 HR
      go_wp2_with fail
      refine (HR.out).mono ?_; rintro e w2 ⟨rfl, hb2⟩
      have hB2 := hB.trans (hb2.mono hB.size)
      obtain ⟨hc2, hf2⟩ := bcell hb2
      have hz2 := hb2.size
      have hz3 : w.heap.size < w'.heap.size := by omega
      have hz4 : w.heap.size + 1 < w'.heap.size := by omega
      clear HR
      cases hr : repB fs (j : Int) with
      | false =>
        have HF3 : Hid (admB fs vars fn 11 (j : Int) p c m = false) := by show _ = _; rw [HF2.out, hr, Bool.false_and]
        clear HF2 hr
        go_wp2_with fail
        go_ret
        exact ⟨ret_bool HF3.out.symm, hB2⟩
      | true =>
        have HF3 : Hid (admB fs vars fn 11 (j : Int) p c m = decide (0 ≤ c ∧ c < 9)) := by show _ = _; rw [HF2.out, hr, Bool.true_and]
        have HI := fun W => Lib.hid (iIndex c 9 W)
        generalize decide (0 ≤ c ∧ c < 9) = r at HF3 HI
        clear HF2 hr
        go_wp2_with fail
        refine (HI _).out.mono ?_; rintro e w3 ⟨rfl, rfl⟩
        go_wp2_with fail
        go_ret
        exact ⟨ret_bool HF3.out.symm, hB2⟩
  · have HF : Hid (admB fs vars fn k n p c m = true) := by
      show _ = _
      unfold admB
      rw [if_neg h1, if_neg h2, if_neg h10, if_neg h11]
    clear h1 h2 h10 h11
    have qNum := fun W v => asNum_no W T v (by rcases hT with rfl | rfl | rfl | rfl <;> decide)
    have qVar := fun W v => asVar_no W T v (by rcases hT with rfl | rfl | rfl | rfl <;> decide)
    have qCall := fun W v => asCall_no W T v (by rcases hT with rfl | rfl | rfl | rfl <;> decide)
    have qLoop := fun W v => asLoop_no W T v (by rcases hT with rfl | rfl | rfl | rfl <;> decide)
    clear hT
    iterate 1
      · go_enter Tryz.func148, Tryz.ntmps148
        go_wp2_with fail
        go_ret
        exact ⟨ret_bool HF.out.symm, B1 _⟩

end Go.Proofs.YtoedccgiahegnaaGreat
