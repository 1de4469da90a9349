/- The program's nodes with all that they hold. The methods of the arithmetic of numbers. -/
import Derived.Handy
import Derived.Deep.RegionHeld3
import Derived.BigQuiet
import Derived.Test.YtoedccgiahegnaaGreatIh
import Derived.Test.YtoedccgiahegnaaGreatFit
namespace Go.Proofs.YtoedccgiahegnaaGreat
open Go.RowKit
set_option linter.unusedVariables false

set_option maxRecDepth 100000 in
set_option maxHeartbeats 1600000 in
theorem iNodeNeg (n p c : Int) (b off m cap : Nat) {k0 n0 p0 c0 : Int} {m0 : Nat} {a0 : Option Addr} {cap0 : Nat} (w : World) (hb : b < w.heap.size) (N0 : NodeAt w b off k0 n0 p0 c0 m0 a0 cap0) (hm : 1 ≤ m) :
    Calls Tryz.prog 114 #[.agg #[.int .i64 7, .int .i64 n, .int .i64 p, .int .i64 c, .slice (some ⟨b, off, none⟩) m cap]] w fun e w' => e = .returned (.iface 175 (.agg #[.int .i64 k0, .int .i64 n0, .int .i64 p0, .int .i64 c0, .slice a0 m0 cap0])) ∧ Below w.heap.size w w' := by
  have B1 : ∀ o, Below w.heap.size w (w.alloc o) := fun o => (Below.refl _ _).alloc (Nat.le_refl _) o
  obtain ⟨x0, x1, x2, x3, x4⟩ := N0
  have hmi : (0 : Int) < (m : Int) := by omega
  have hmi2 : 0 < m := by omega
  go_enter Tryz.func114, Tryz.ntmps114
  go_wp2_with fail
  go_ret
  exact ⟨rfl, B1 _⟩
set_option maxRecDepth 100000 in
set_option maxHeartbeats 1600000 in
theorem iNodeIf (n p c : Int) (b off m cap : Nat) {k0 n0 p0 c0 k1 n1 p1 c1 k2 n2 p2 c2 : Int} {m0 m1 m2 : Nat} {a0 a1 a2 : Option Addr} {cap0 cap1 cap2 : Nat} (w : World) (hb : b < w.heap.size) (N0 : NodeAt w b off k0 n0 p0 c0 m0 a0 cap0) (N1 : NodeAt w b (off + 5) k1 n1 p1 c1 m1 a1 cap1) (N2 : NodeAt w b (off + 10) k2 n2 p2 c2 m2 a2 cap2) (hm : 3 ≤ m) :
    Calls Tryz.prog 114 #[.agg #[.int .i64 8, .int .i64 n, .int .i64 p, .int .i64 c, .slice (some ⟨b, off, none⟩) m cap]] w fun e w' => e = .returned (.iface 178 (.agg #[.int .i64 k0, .int .i64 n0, .int .i64 p0, .int .i64 c0, .slice a0 m0 cap0, .int .i64 k1, .int .i64 n1, .int .i64 p1, .int .i64 c1, .slice a1 m1 cap1, .int .i64 k2, .int .i64 n2, .int .i64 p2, .int .i64 c2, .slice a2 m2 cap2])) ∧ Below w.heap.size w w' := by
  have B1 : ∀ o, Below w.heap.size w (w.alloc o) := fun o => (Below.refl _ _).alloc (Nat.le_refl _) o
  obtain ⟨x0, x1, x2, x3, x4⟩ := N0
  obtain ⟨y0, y1, y2, y3, y4⟩ := N1
  obtain ⟨z0, z1, z2, z3, z4⟩ := N2
  have hmi : (0 : Int) < (m : Int) := by omega
  have hmi2 : 0 < m := by omega
  have hmi3 : (1 : Int) < (m : Int) := by omega
  have hmi4 : (2 : Int) < (m : Int) := by omega
  have hmi5 : 1 < m := by omega
  have hmi6 : 2 < m := by omega
  go_enter Tryz.func114, Tryz.ntmps114
  go_wp2_with fail
  go_quiet (fail)
  go_wp2_with fail
  go_ret
  exact ⟨rfl, below_drewN (B1 _) _⟩
set_option maxRecDepth 100000 in
set_option maxHeartbeats 1600000 in
theorem iNodeLet (n p c : Int) (b off m cap : Nat) {k0 n0 p0 c0 k1 n1 p1 c1 : Int} {m0 m1 : Nat} {a0 a1 : Option Addr} {cap0 cap1 : Nat} (w : World) (hb : b < w.heap.size) (N0 : NodeAt w b off k0 n0 p0 c0 m0 a0 cap0) (N1 : NodeAt w b (off + 5) k1 n1 p1 c1 m1 a1 cap1) (hm : 2 ≤ m) :
    Calls Tryz.prog 114 #[.agg #[.int .i64 9, .int .i64 n, .int .i64 p, .int .i64 c, .slice (some ⟨b, off, none⟩) m cap]] w fun e w' => e = .returned (.iface 181 (.agg #[.int .i64 k0, .int .i64 n0, .int .i64 p0, .int .i64 c0, .slice a0 m0 cap0, .int .i64 k1, .int .i64 n1, .int .i64 p1, .int .i64 c1, .slice a1 m1 cap1])) ∧ Below w.heap.size w w' := by
  have B1 : ∀ o, Below w.heap.size w (w.alloc o) := fun o => (Below.refl _ _).alloc (Nat.le_refl _) o
  obtain ⟨x0, x1, x2, x3, x4⟩ := N0
  obtain ⟨y0, y1, y2, y3, y4⟩ := N1
  have hmi : (0 : Int) < (m : Int) := by omega
  have hmi2 : 0 < m := by omega
  have hmi3 : (1 : Int) < (m : Int) := by omega
  have hmi5 : 1 < m := by omega
  go_enter Tryz.func114, Tryz.ntmps114
  go_wp2_with fail
  go_quiet (fail)
  go_wp2_with fail
  go_ret
  exact ⟨rfl, below_drewN (B1 _) _⟩
set_option maxRecDepth 100000 in
set_option maxHeartbeats 1600000 in
theorem iNodeOp (k n p c : Int) (a : Option Addr) (m cap : Nat) (w : World) (h : k ≠ 1 ∧ k ≠ 2 ∧ k ≠ 7 ∧ k ≠ 8 ∧ k ≠ 9 ∧ k ≠ 10 ∧ k ≠ 11) :
    Calls Tryz.prog 114 #[.agg #[.int .i64 k, .int .i64 n, .int .i64 p, .int .i64 c, .slice a m cap]] w fun e w' => e = .returned (.iface 172 (.agg #[.int .i64 k, .slice a m cap])) ∧ Below w.heap.size w w' := by
  have B1 : ∀ o, Below w.heap.size w (w.alloc o) := fun o => (Below.refl _ _).alloc (Nat.le_refl _) o
  obtain ⟨g1, g2, g7, g8, g9, g10, g11⟩ := h
  have d1 := ne_beq g1
  have d2 := ne_beq g2
  have d7 := ne_beq g7
  have d8 := ne_beq g8
  have d9 := ne_beq g9
  have d10 := ne_beq g10
  have d11 := ne_beq g11
  go_enter Tryz.func114, Tryz.ntmps114
  go_wp2_with fail
  go_ret
  exact ⟨rfl, B1 _⟩
set_option maxRecDepth 100000 in
set_option maxHeartbeats 1600000 in
theorem iNodeNum (n p c : Int) (a : Option Addr) (m cap : Nat) (w : World) :
    Calls Tryz.prog 114 #[.agg #[.int .i64 1, .int .i64 n, .int .i64 p, .int .i64 c, .slice a m cap]] w fun e w' => e = .returned (.iface 168 (.agg #[.int .i64 n])) ∧ Below w.heap.size w w' := by
  go_enter Tryz.func114, Tryz.ntmps114
  go_wp2_with fail
  go_ret
  exact ⟨rfl, (Below.refl _ _).alloc (Nat.le_refl _) _⟩
set_option maxRecDepth 100000 in
set_option maxHeartbeats 1600000 in
theorem iNodeVar (n p c : Int) (a : Option Addr) (m cap : Nat) (w : World) :
    Calls Tryz.prog 114 #[.agg #[.int .i64 2, .int .i64 n, .int .i64 p, .int .i64 c, .slice a m cap]] w fun e w' => e = .returned (.iface 170 (.agg #[.int .i64 n])) ∧ Below w.heap.size w w' := by
  go_enter Tryz.func114, Tryz.ntmps114
  go_wp2_with fail
  go_ret
  exact ⟨rfl, (Below.refl _ _).alloc (Nat.le_refl _) _⟩
set_option maxRecDepth 100000 in
set_option maxHeartbeats 1600000 in
theorem iNodeCall (n p c : Int) (a : Option Addr) (m cap : Nat) (w : World) :
    Calls Tryz.prog 114 #[.agg #[.int .i64 10, .int .i64 n, .int .i64 p, .int .i64 c, .slice a m cap]] w fun e w' => e = .returned (.iface 184 (.agg #[.int .i64 n, .int .i64 p, .slice a m cap])) ∧ Below w.heap.size w w' := by
  go_enter Tryz.func114, Tryz.ntmps114
  go_wp2_with fail
  go_ret
  exact ⟨rfl, (Below.refl _ _).alloc (Nat.le_refl _) _⟩
set_option maxRecDepth 100000 in
set_option maxHeartbeats 1600000 in
theorem iNodeLoop (n p c : Int) (a : Option Addr) (m cap : Nat) (w : World) :
    Calls Tryz.prog 114 #[.agg #[.int .i64 11, .int .i64 n, .int .i64 p, .int .i64 c, .slice a m cap]] w fun e w' => e = .returned (.iface 187 (.agg #[.int .i64 n, .int .i64 p, .int .i64 c, .slice a m cap])) ∧ Below w.heap.size w w' := by
  go_enter Tryz.func114, Tryz.ntmps114
  go_wp2_with fail
  go_ret
  exact ⟨rfl, (Below.refl _ _).alloc (Nat.le_refl _) _⟩

set_option maxRecDepth 100000
theorem zeroOp (W : World) : (do pure (Value.tuple #[← zeroValue 172, .bool false]) : Sem Value).run Tryz.prog W = .ok (.tuple #[.agg #[.int .i64 0, .slice none 0 0], .bool false]) W := by kernel_rfl
theorem asOp_yes (W : World) (v : Value) : (Instr.typeAssert (.iface 172 v) 165 172 true).run Tryz.prog W = .ok (.tuple #[v, .bool true]) W := by kernel_rfl
theorem asOp_no (W : World) (u : TypeId) (v : Value) (h : u ≠ 172) : (Instr.typeAssert (.iface u v) 165 172 true).run Tryz.prog W = .ok (.tuple #[.agg #[.int .i64 0, .slice none 0 0], .bool false]) W := by
  have e : (Instr.typeAssert (.iface u v) 165 172 true).run Tryz.prog W = (if u = 172 then (pure (Value.tuple #[v, .bool true]) : Sem Value) else (do pure (Value.tuple #[← zeroValue 172, .bool false]))).run Tryz.prog W := by kernel_rfl
  rw [e, if_neg h]
  exact zeroOp W
theorem zeroNeg (W : World) : (do pure (Value.tuple #[← zeroValue 175, .bool false]) : Sem Value).run Tryz.prog W = .ok (.tuple #[.agg #[.int .i64 0, .int .i64 0, .int .i64 0, .int .i64 0, .slice none 0 0], .bool false]) W := by kernel_rfl
theorem asNeg_yes (W : World) (v : Value) : (Instr.typeAssert (.iface 175 v) 165 175 true).run Tryz.prog W = .ok (.tuple #[v, .bool true]) W := by kernel_rfl
theorem asNeg_no (W : World) (u : TypeId) (v : Value) (h : u ≠ 175) : (Instr.typeAssert (.iface u v) 165 175 true).run Tryz.prog W = .ok (.tuple #[.agg #[.int .i64 0, .int .i64 0, .int .i64 0, .int .i64 0, .slice none 0 0], .bool false]) W := by
  have e : (Instr.typeAssert (.iface u v) 165 175 true).run Tryz.prog W = (if u = 175 then (pure (Value.tuple #[v, .bool true]) : Sem Value) else (do pure (Value.tuple #[← zeroValue 175, .bool false]))).run Tryz.prog W := by kernel_rfl
  rw [e, if_neg h]
  exact zeroNeg W
theorem zeroIf (W : World) : (do pure (Value.tuple #[← zeroValue 178, .bool false]) : Sem Value).run Tryz.prog W = .ok (.tuple #[.agg #[.int .i64 0, .int .i64 0, .int .i64 0, .int .i64 0, .slice none 0 0, .int .i64 0, .int .i64 0, .int .i64 0, .int .i64 0, .slice none 0 0, .int .i64 0, .int .i64 0, .int .i64 0, .int .i64 0, .slice none 0 0], .bool false]) W := by kernel_rfl
theorem asIf_yes (W : World) (v : Value) : (Instr.typeAssert (.iface 178 v) 165 178 true).run Tryz.prog W = .ok (.tuple #[v, .bool true]) W := by kernel_rfl
theorem asIf_no (W : World) (u : TypeId) (v : Value) (h : u ≠ 178) : (Instr.typeAssert (.iface u v) 165 178 true).run Tryz.prog W = .ok (.tuple #[.agg #[.int .i64 0, .int .i64 0, .int .i64 0, .int .i64 0, .slice none 0 0, .int .i64 0, .int .i64 0, .int .i64 0, .int .i64 0, .slice none 0 0, .int .i64 0, .int .i64 0, .int .i64 0, .int .i64 0, .slice none 0 0], .bool false]) W := by
  have e : (Instr.typeAssert (.iface u v) 165 178 true).run Tryz.prog W = (if u = 178 then (pure (Value.tuple #[v, .bool true]) : Sem Value) else (do pure (Value.tuple #[← zeroValue 178, .bool false]))).run Tryz.prog W := by kernel_rfl
  rw [e, if_neg h]
  exact zeroIf W
theorem zeroLet (W : World) : (do pure (Value.tuple #[← zeroValue 181, .bool false]) : Sem Value).run Tryz.prog W = .ok (.tuple #[.agg #[.int .i64 0, .int .i64 0, .int .i64 0, .int .i64 0, .slice none 0 0, .int .i64 0, .int .i64 0, .int .i64 0, .int .i64 0, .slice none 0 0], .bool false]) W := by kernel_rfl
theorem asLet_yes (W : World) (v : Value) : (Instr.typeAssert (.iface 181 v) 165 181 true).run Tryz.prog W = .ok (.tuple #[v, .bool true]) W := by kernel_rfl
theorem asLet_no (W : World) (u : TypeId) (v : Value) (h : u ≠ 181) : (Instr.typeAssert (.iface u v) 165 181 true).run Tryz.prog W = .ok (.tuple #[.agg #[.int .i64 0, .int .i64 0, .int .i64 0, .int .i64 0, .slice none 0 0, .int .i64 0, .int .i64 0, .int .i64 0, .int .i64 0, .slice none 0 0], .bool false]) W := by
  have e : (Instr.typeAssert (.iface u v) 165 181 true).run Tryz.prog W = (if u = 181 then (pure (Value.tuple #[v, .bool true]) : Sem Value) else (do pure (Value.tuple #[← zeroValue 181, .bool false]))).run Tryz.prog W := by kernel_rfl
  rw [e, if_neg h]
  exact zeroLet W

end Go.Proofs.YtoedccgiahegnaaGreat

namespace Go.Proofs.YtoedccgiahegnaaGreat
open Go.RowKit
set_option linter.unusedVariables false

/-- what a function of numbers answers, and nothing turned below -/
def Num1 (w : World) (n : Int) (e : Ending) (w' : World) : Prop := e = .returned (.int .i64 n) ∧ Below w.heap.size w w'
theorem below_box (w : World) (t : TypeId) : Below w.heap.size w (w.alloc (.cells #[] t)) := (Below.refl _ _).alloc (Nat.le_refl _) _

set_option maxRecDepth 100000 in
theorem nPlus (a b : Int) (ha : 0 ≤ a ∧ a < 1000003) (hb : 0 ≤ b ∧ b < 1000003) (w : World) :
    Calls Tryz.prog 176 #[.agg #[], .int .i64 a, .int .i64 b] w (Num1 w (pls a b)) := by
  go_enter Tryz.func176, Tryz.ntmps176
  go_wp2_with fail
  refine (iPlus a b (by omega) (by omega) _).mono ?_; rintro e w' ⟨rfl, rfl⟩
  go_wp2_with fail
  go_ret
  exact ⟨rfl, below_box _ _⟩
set_option maxRecDepth 100000 in
theorem nMinus (a b : Int) (ha : 0 ≤ a ∧ a < 1000003) (hb : 0 ≤ b ∧ b < 1000003) (w : World) :
    Calls Tryz.prog 173 #[.agg #[], .int .i64 a, .int .i64 b] w (Num1 w (mns a b)) := by
  go_enter Tryz.func173, Tryz.ntmps173
  go_wp2_with fail
  refine (imns a b (by omega) (by omega) _).mono ?_; rintro e w' ⟨rfl, rfl⟩
  go_wp2_with fail
  go_ret
  exact ⟨rfl, below_box _ _⟩
set_option maxRecDepth 100000 in
theorem nTimes (a b : Int) (ha : 0 ≤ a ∧ a < 1000003) (hb : 0 ≤ b ∧ b < 1000003) (w : World) :
    Calls Tryz.prog 177 #[.agg #[], .int .i64 a, .int .i64 b] w (Num1 w (tms a b)) := by
  go_enter Tryz.func177, Tryz.ntmps177
  go_wp2_with fail
  refine (iTimes a b (by omega) (by omega) _).mono ?_; rintro e w' ⟨rfl, rfl⟩
  go_wp2_with fail
  go_ret
  exact ⟨rfl, below_box _ _⟩
set_option maxRecDepth 100000 in
theorem nOver (a b : Int) (ha : 0 ≤ a ∧ a < 1000003) (hb : 0 ≤ b ∧ b < 1000003) (w : World) :
    Calls Tryz.prog 175 #[.agg #[], .int .i64 a, .int .i64 b] w (Num1 w (tms a (inv b))) := by
  have hi := pwr_bd b 1000001
  go_enter Tryz.func175, Tryz.ntmps175
  go_wp2_with fail
  refine (iinv b (by omega) _).mono ?_; rintro e w' ⟨rfl, rfl⟩
  go_wp2_with fail
  refine (iTimes a (inv b) (by omega) (by unfold inv; omega) _).mono ?_; rintro e w' ⟨rfl, rfl⟩
  go_wp2_with fail
  go_ret
  exact ⟨rfl, below_box _ _⟩
set_option maxRecDepth 100000 in
theorem nNeg (a : Int) (ha : 0 ≤ a ∧ a < 1000003) (w : World) :
    Calls Tryz.prog 174 #[.agg #[], .int .i64 a] w (Num1 w (mns 0 a)) := by
  go_enter Tryz.func174, Tryz.ntmps174
  go_wp2_with fail
  refine (imns 0 a (by omega) (by omega) _).mono ?_; rintro e w' ⟨rfl, rfl⟩
  go_wp2_with fail
  go_ret
  exact ⟨rfl, below_box _ _⟩
set_option maxRecDepth 100000 in
theorem nConst (a : Int) (w : World) :
    Calls Tryz.prog 170 #[.agg #[], .int .i64 a] w (Num1 w a) := by
  go_enter Tryz.func170, Tryz.ntmps170
  go_wp2_with fail
  go_ret
  exact ⟨rfl, below_box _ _⟩
set_option maxRecDepth 100000 in
theorem nZero (a : Int) (w : World) :
    Calls Tryz.prog 172 #[.agg #[], .int .i64 a] w fun e w' => e = .returned (.bool (a == 0)) ∧ Below w.heap.size w w' := by
  go_enter Tryz.func172, Tryz.ntmps172
  go_wp2_with fail
  go_ret
  exact ⟨rfl, below_box _ _⟩

/-- the arithmetic of numbers, as a value -/
abbrev ofN : Value := .iface 72 (.agg #[])
set_option maxRecDepth 100000 in
theorem negAhead (W : World) : (nilAhead 339 72 (.agg #[]) "loop.example/g01091/impl.negative").run Tryz.prog W = .ok (some false) W := by kernel_rfl
set_option maxRecDepth 100000 in
theorem negMeth (W : World) : (method 339 72 (.agg #[]) "loop.example/g01091/impl.negative").run Tryz.prog W = .ok (174, .agg #[]) W := by kernel_rfl

set_option maxRecDepth 100000 in
theorem timAhead (W : World) : (nilAhead 339 72 (.agg #[]) "loop.example/g01091/impl.times").run Tryz.prog W = .ok (some false) W := by kernel_rfl
set_option maxRecDepth 100000 in
theorem timMeth (W : World) : (method 339 72 (.agg #[]) "loop.example/g01091/impl.times").run Tryz.prog W = .ok (177, .agg #[]) W := by kernel_rfl
set_option maxRecDepth 100000 in
theorem minAhead (W : World) : (nilAhead 339 72 (.agg #[]) "loop.example/g01091/impl.minus").run Tryz.prog W = .ok (some false) W := by kernel_rfl
set_option maxRecDepth 100000 in
theorem minMeth (W : World) : (method 339 72 (.agg #[]) "loop.example/g01091/impl.minus").run Tryz.prog W = .ok (173, .agg #[]) W := by kernel_rfl
set_option maxRecDepth 100000 in
theorem ovrAhead (W : World) : (nilAhead 339 72 (.agg #[]) "loop.example/g01091/impl.over").run Tryz.prog W = .ok (some false) W := by kernel_rfl
set_option maxRecDepth 100000 in
theorem ovrMeth (W : World) : (method 339 72 (.agg #[]) "loop.example/g01091/impl.over").run Tryz.prog W = .ok (175, .agg #[]) W := by kernel_rfl
set_option maxRecDepth 100000 in
theorem cstAhead (W : World) : (nilAhead 339 72 (.agg #[]) "loop.example/g01091/impl.constant").run Tryz.prog W = .ok (some false) W := by kernel_rfl
set_option maxRecDepth 100000 in
theorem cstMeth (W : World) : (method 339 72 (.agg #[]) "loop.example/g01091/impl.constant").run Tryz.prog W = .ok (170, .agg #[]) W := by kernel_rfl
set_option maxRecDepth 100000 in
theorem zerAhead (W : World) : (nilAhead 339 72 (.agg #[]) "loop.example/g01091/impl.isZero").run Tryz.prog W = .ok (some false) W := by kernel_rfl
set_option maxRecDepth 100000 in
theorem zerMeth (W : World) : (method 339 72 (.agg #[]) "loop.example/g01091/impl.isZero").run Tryz.prog W = .ok (172, .agg #[]) W := by kernel_rfl
set_option maxRecDepth 100000 in
theorem plsAhead (W : World) : (nilAhead 339 72 (.agg #[]) "loop.example/g01091/impl.plus").run Tryz.prog W = .ok (some false) W := by kernel_rfl
set_option maxRecDepth 100000 in
theorem plsMeth (W : World) : (method 339 72 (.agg #[]) "loop.example/g01091/impl.plus").run Tryz.prog W = .ok (176, .agg #[]) W := by kernel_rfl

end Go.Proofs.YtoedccgiahegnaaGreat
