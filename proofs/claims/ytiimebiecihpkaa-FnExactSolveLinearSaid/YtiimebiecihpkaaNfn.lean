/- The methods of the arithmetic of numbers. -/
import Derived.Test.YtiimebiecihpkaaOps
import Derived.Handy
import Derived.Deep.RegionHeld3
import Derived.BigQuiet
namespace Go.Proofs.Ytiimebiecihpkaa
open Go.RowKit
set_option linter.unusedVariables false

/-- what a function of numbers answers, and nothing turned below -/
def Num1 (w : World) (n : Int) (e : Ending) (w' : World) : Prop := e = .returned (.int .i64 n) ∧ Below w.heap.size w w'
theorem below_box (w : World) (t : TypeId) : Below w.heap.size w (w.alloc (.cells #[] t)) := (Below.refl _ _).alloc (Nat.le_refl _) _

set_option maxRecDepth 100000 in
theorem nPlus (a b : Int) (ha : 0 ≤ a ∧ a < 1000003) (hb : 0 ≤ b ∧ b < 1000003) (w : World) :
    Calls Try.prog 247 #[.agg #[], .int .i64 a, .int .i64 b] w (Num1 w (pls a b)) := by
  go_enter Try.func247, Try.ntmps247
  go_wp2_with fail
  refine (iPlus a b (by omega) (by omega) _).mono ?_; rintro e w' ⟨rfl, rfl⟩
  go_wp2_with fail
  go_ret
  exact ⟨rfl, below_box _ _⟩
set_option maxRecDepth 100000 in
theorem nMinus (a b : Int) (ha : 0 ≤ a ∧ a < 1000003) (hb : 0 ≤ b ∧ b < 1000003) (w : World) :
    Calls Try.prog 244 #[.agg #[], .int .i64 a, .int .i64 b] w (Num1 w (mns a b)) := by
  go_enter Try.func244, Try.ntmps244
  go_wp2_with fail
  refine (imns a b (by omega) (by omega) _).mono ?_; rintro e w' ⟨rfl, rfl⟩
  go_wp2_with fail
  go_ret
  exact ⟨rfl, below_box _ _⟩
set_option maxRecDepth 100000 in
theorem nTimes (a b : Int) (ha : 0 ≤ a ∧ a < 1000003) (hb : 0 ≤ b ∧ b < 1000003) (w : World) :
    Calls Try.prog 248 #[.agg #[], .int .i64 a, .int .i64 b] w (Num1 w (tms a b)) := by
  go_enter Try.func248, Try.ntmps248
  go_wp2_with fail
  refine (iTimes a b (by omega) (by omega) _).mono ?_; rintro e w' ⟨rfl, rfl⟩
  go_wp2_with fail
  go_ret
  exact ⟨rfl, below_box _ _⟩
set_option maxRecDepth 100000 in
theorem nOver (a b : Int) (ha : 0 ≤ a ∧ a < 1000003) (hb : 0 ≤ b ∧ b < 1000003) (w : World) :
    Calls Try.prog 246 #[.agg #[], .int .i64 a, .int .i64 b] w (Num1 w (tms a (inv b))) := by
  have hi := pwr_bd b 1000001
  go_enter Try.func246, Try.ntmps246
  go_wp2_with fail
  refine (iinv b (by omega) _).mono ?_; rintro e w' ⟨rfl, rfl⟩
  go_wp2_with fail
  refine (iTimes a (inv b) (by omega) (by unfold inv; omega) _).mono ?_; rintro e w' ⟨rfl, rfl⟩
  go_wp2_with fail
  go_ret
  exact ⟨rfl, below_box _ _⟩
set_option maxRecDepth 100000 in
theorem nNeg (a : Int) (ha : 0 ≤ a ∧ a < 1000003) (w : World) :
    Calls Try.prog 245 #[.agg #[], .int .i64 a] w (Num1 w (mns 0 a)) := by
  go_enter Try.func245, Try.ntmps245
  go_wp2_with fail
  refine (imns 0 a (by omega) (by omega) _).mono ?_; rintro e w' ⟨rfl, rfl⟩
  go_wp2_with fail
  go_ret
  exact ⟨rfl, below_box _ _⟩
set_option maxRecDepth 100000 in
theorem nConst (a : Int) (w : World) :
    Calls Try.prog 242 #[.agg #[], .int .i64 a] w (Num1 w a) := by
  go_enter Try.func242, Try.ntmps242
  go_wp2_with fail
  go_ret
  exact ⟨rfl, below_box _ _⟩
set_option maxRecDepth 100000 in
theorem nZero (a : Int) (w : World) :
    Calls Try.prog 243 #[.agg #[], .int .i64 a] w fun e w' => e = .returned (.bool (a == 0)) ∧ Below w.heap.size w w' := by
  go_enter Try.func243, Try.ntmps243
  go_wp2_with fail
  go_ret
  exact ⟨rfl, below_box _ _⟩

/-- the arithmetic of numbers, as a value -/
abbrev ofN : Value := .iface 120 (.agg #[])
set_option maxRecDepth 100000 in
theorem negAhead (W : World) : (nilAhead 410 120 (.agg #[]) "loop.example/g01091/impl.negative").run Try.prog W = .ok (some false) W := by kernel_rfl
set_option maxRecDepth 100000 in
theorem negMeth (W : World) : (method 410 120 (.agg #[]) "loop.example/g01091/impl.negative").run Try.prog W = .ok (245, .agg #[]) W := by kernel_rfl

set_option maxRecDepth 100000 in
theorem timAhead (W : World) : (nilAhead 410 120 (.agg #[]) "loop.example/g01091/impl.times").run Try.prog W = .ok (some false) W := by kernel_rfl
set_option maxRecDepth 100000 in
theorem timMeth (W : World) : (method 410 120 (.agg #[]) "loop.example/g01091/impl.times").run Try.prog W = .ok (248, .agg #[]) W := by kernel_rfl
set_option maxRecDepth 100000 in
theorem minAhead (W : World) : (nilAhead 410 120 (.agg #[]) "loop.example/g01091/impl.minus").run Try.prog W = .ok (some false) W := by kernel_rfl
set_option maxRecDepth 100000 in
theorem minMeth (W : World) : (method 410 120 (.agg #[]) "loop.example/g01091/impl.minus").run Try.prog W = .ok (244, .agg #[]) W := by kernel_rfl
set_option maxRecDepth 100000 in
theorem ovrAhead (W : World) : (nilAhead 410 120 (.agg #[]) "loop.example/g01091/impl.over").run Try.prog W = .ok (some false) W := by kernel_rfl
set_option maxRecDepth 100000 in
theorem ovrMeth (W : World) : (method 410 120 (.agg #[]) "loop.example/g01091/impl.over").run Try.prog W = .ok (246, .agg #[]) W := by kernel_rfl
set_option maxRecDepth 100000 in
theorem cstAhead (W : World) : (nilAhead 410 120 (.agg #[]) "loop.example/g01091/impl.constant").run Try.prog W = .ok (some false) W := by kernel_rfl
set_option maxRecDepth 100000 in
theorem cstMeth (W : World) : (method 410 120 (.agg #[]) "loop.example/g01091/impl.constant").run Try.prog W = .ok (242, .agg #[]) W := by kernel_rfl
set_option maxRecDepth 100000 in
theorem zerAhead (W : World) : (nilAhead 410 120 (.agg #[]) "loop.example/g01091/impl.isZero").run Try.prog W = .ok (some false) W := by kernel_rfl
set_option maxRecDepth 100000 in
theorem zerMeth (W : World) : (method 410 120 (.agg #[]) "loop.example/g01091/impl.isZero").run Try.prog W = .ok (243, .agg #[]) W := by kernel_rfl
set_option maxRecDepth 100000 in
theorem plsAhead (W : World) : (nilAhead 410 120 (.agg #[]) "loop.example/g01091/impl.plus").run Try.prog W = .ok (some false) W := by kernel_rfl
set_option maxRecDepth 100000 in
theorem plsMeth (W : World) : (method 410 120 (.agg #[]) "loop.example/g01091/impl.plus").run Try.prog W = .ok (247, .agg #[]) W := by kernel_rfl

end Go.Proofs.Ytiimebiecihpkaa
