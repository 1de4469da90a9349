/- The methods of the arithmetic of numbers. -/
import Derived.Test.YtldbhhocoolloaaGreatOps
import Derived.Handy
import Derived.Deep.RegionHeld3
import Derived.BigQuiet
namespace Go.Proofs.YtldbhhocoolloaaGreat
open Go.RowKit
set_option linter.unusedVariables false

/-- what a function of numbers answers, and nothing turned below -/
def Num1 (w : World) (n : Int) (e : Ending) (w' : World) : Prop := e = .returned (.int .i64 n) ∧ Below w.heap.size w w'
theorem below_box (w : World) (t : TypeId) : Below w.heap.size w (w.alloc (.cells #[] t)) := (Below.refl _ _).alloc (Nat.le_refl _) _

set_option maxRecDepth 100000 in
theorem nPlus (a b : Int) (ha : 0 ≤ a ∧ a < 1000003) (hb : 0 ≤ b ∧ b < 1000003) (w : World) :
    Calls Tryz.prog 212 #[.agg #[], .int .i64 a, .int .i64 b] w (Num1 w (pls a b)) := by
  go_enter Tryz.func212, Tryz.ntmps212
  go_wp2_with fail
  refine (iPlus a b (by omega) (by omega) _).mono ?_; rintro e w' ⟨rfl, rfl⟩
  go_wp2_with fail
  go_ret
  exact ⟨rfl, below_box _ _⟩
set_option maxRecDepth 100000 in
theorem nMinus (a b : Int) (ha : 0 ≤ a ∧ a < 1000003) (hb : 0 ≤ b ∧ b < 1000003) (w : World) :
    Calls Tryz.prog 209 #[.agg #[], .int .i64 a, .int .i64 b] w (Num1 w (mns a b)) := by
  go_enter Tryz.func209, Tryz.ntmps209
  go_wp2_with fail
  refine (imns a b (by omega) (by omega) _).mono ?_; rintro e w' ⟨rfl, rfl⟩
  go_wp2_with fail
  go_ret
  exact ⟨rfl, below_box _ _⟩
set_option maxRecDepth 100000 in
theorem nTimes (a b : Int) (ha : 0 ≤ a ∧ a < 1000003) (hb : 0 ≤ b ∧ b < 1000003) (w : World) :
    Calls Tryz.prog 213 #[.agg #[], .int .i64 a, .int .i64 b] w (Num1 w (tms a b)) := by
  go_enter Tryz.func213, Tryz.ntmps213
  go_wp2_with fail
  refine (iTimes a b (by omega) (by omega) _).mono ?_; rintro e w' ⟨rfl, rfl⟩
  go_wp2_with fail
  go_ret
  exact ⟨rfl, below_box _ _⟩
set_option maxRecDepth 100000 in
theorem nOver (a b : Int) (ha : 0 ≤ a ∧ a < 1000003) (hb : 0 ≤ b ∧ b < 1000003) (w : World) :
    Calls Tryz.prog 211 #[.agg #[], .int .i64 a, .int .i64 b] w (Num1 w (tms a (inv b))) := by
  have hi := pwr_bd b 1000001
  go_enter Tryz.func211, Tryz.ntmps211
  go_wp2_with fail
  refine (iinv b (by omega) _).mono ?_; rintro e w' ⟨rfl, rfl⟩
  go_wp2_with fail
  refine (iTimes a (inv b) (by omega) (by unfold inv; omega) _).mono ?_; rintro e w' ⟨rfl, rfl⟩
  go_wp2_with fail
  go_ret
  exact ⟨rfl, below_box _ _⟩
set_option maxRecDepth 100000 in
theorem nNeg (a : Int) (ha : 0 ≤ a ∧ a < 1000003) (w : World) :
    Calls Tryz.prog 210 #[.agg #[], .int .i64 a] w (Num1 w (mns 0 a)) := by
  go_enter Tryz.func210, Tryz.ntmps210
  go_wp2_with fail
  refine (imns 0 a (by omega) (by omega) _).mono ?_; rintro e w' ⟨rfl, rfl⟩
  go_wp2_with fail
  go_ret
  exact ⟨rfl, below_box _ _⟩
set_option maxRecDepth 100000 in
theorem nConst (a : Int) (w : World) :
    Calls Tryz.prog 206 #[.agg #[], .int .i64 a] w (Num1 w a) := by
  go_enter Tryz.func206, Tryz.ntmps206
  go_wp2_with fail
  go_ret
  exact ⟨rfl, below_box _ _⟩
set_option maxRecDepth 100000 in
theorem nZero (a : Int) (w : World) :
    Calls Tryz.prog 208 #[.agg #[], .int .i64 a] w fun e w' => e = .returned (.bool (a == 0)) ∧ Below w.heap.size w w' := by
  go_enter Tryz.func208, Tryz.ntmps208
  go_wp2_with fail
  go_ret
  exact ⟨rfl, below_box _ _⟩

/-- the arithmetic of numbers, as a value -/
abbrev ofN : Value := .iface 78 (.agg #[])
set_option maxRecDepth 100000 in
theorem negAhead (W : World) : (nilAhead 379 78 (.agg #[]) "loop.example/g01091/impl.negative").run Tryz.prog W = .ok (some false) W := by kernel_rfl
set_option maxRecDepth 100000 in
theorem negMeth (W : World) : (method 379 78 (.agg #[]) "loop.example/g01091/impl.negative").run Tryz.prog W = .ok (210, .agg #[]) W := by kernel_rfl

set_option maxRecDepth 100000 in
theorem timAhead (W : World) : (nilAhead 379 78 (.agg #[]) "loop.example/g01091/impl.times").run Tryz.prog W = .ok (some false) W := by kernel_rfl
set_option maxRecDepth 100000 in
theorem timMeth (W : World) : (method 379 78 (.agg #[]) "loop.example/g01091/impl.times").run Tryz.prog W = .ok (213, .agg #[]) W := by kernel_rfl
set_option maxRecDepth 100000 in
theorem minAhead (W : World) : (nilAhead 379 78 (.agg #[]) "loop.example/g01091/impl.minus").run Tryz.prog W = .ok (some false) W := by kernel_rfl
set_option maxRecDepth 100000 in
theorem minMeth (W : World) : (method 379 78 (.agg #[]) "loop.example/g01091/impl.minus").run Tryz.prog W = .ok (209, .agg #[]) W := by kernel_rfl
set_option maxRecDepth 100000 in
theorem ovrAhead (W : World) : (nilAhead 379 78 (.agg #[]) "loop.example/g01091/impl.over").run Tryz.prog W = .ok (some false) W := by kernel_rfl
set_option maxRecDepth 100000 in
theorem ovrMeth (W : World) : (method 379 78 (.agg #[]) "loop.example/g01091/impl.over").run Tryz.prog W = .ok (211, .agg #[]) W := by kernel_rfl
set_option maxRecDepth 100000 in
theorem cstAhead (W : World) : (nilAhead 379 78 (.agg #[]) "loop.example/g01091/impl.constant").run Tryz.prog W = .ok (some false) W := by kernel_rfl
set_option maxRecDepth 100000 in
theorem cstMeth (W : World) : (method 379 78 (.agg #[]) "loop.example/g01091/impl.constant").run Tryz.prog W = .ok (206, .agg #[]) W := by kernel_rfl
set_option maxRecDepth 100000 in
theorem zerAhead (W : World) : (nilAhead 379 78 (.agg #[]) "loop.example/g01091/impl.isZero").run Tryz.prog W = .ok (some false) W := by kernel_rfl
set_option maxRecDepth 100000 in
theorem zerMeth (W : World) : (method 379 78 (.agg #[]) "loop.example/g01091/impl.isZero").run Tryz.prog W = .ok (208, .agg #[]) W := by kernel_rfl
set_option maxRecDepth 100000 in
theorem plsAhead (W : World) : (nilAhead 379 78 (.agg #[]) "loop.example/g01091/impl.plus").run Tryz.prog W = .ok (some false) W := by kernel_rfl
set_option maxRecDepth 100000 in
theorem plsMeth (W : World) : (method 379 78 (.agg #[]) "loop.example/g01091/impl.plus").run Tryz.prog W = .ok (212, .agg #[]) W := by kernel_rfl

end Go.Proofs.YtldbhhocoolloaaGreat
