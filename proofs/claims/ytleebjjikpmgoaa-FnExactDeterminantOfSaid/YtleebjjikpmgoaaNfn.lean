/- The methods of the arithmetic of numbers. -/
import Derived.Test.YtleebjjikpmgoaaOps
import Derived.Handy
import Derived.Deep.RegionHeld3
import Derived.BigQuiet
namespace Go.Proofs.Ytleebjjikpmgoaa
open Go.RowKit
set_option linter.unusedVariables false

/-- what a function of numbers answers, and nothing turned below -/
def Num1 (w : World) (n : Int) (e : Ending) (w' : World) : Prop := e = .returned (.int .i64 n) ∧ Below w.heap.size w w'
theorem below_box (w : World) (t : TypeId) : Below w.heap.size w (w.alloc (.cells #[] t)) := (Below.refl _ _).alloc (Nat.le_refl _) _

set_option maxRecDepth 100000 in
theorem nPlus (a b : Int) (ha : 0 ≤ a ∧ a < 1000003) (hb : 0 ≤ b ∧ b < 1000003) (w : World) :
    Calls Try.prog 175 #[.agg #[], .int .i64 a, .int .i64 b] w (Num1 w (pls a b)) := by
  go_enter Try.func175, Try.ntmps175
  go_wp2_with fail
  refine (iPlus a b (by omega) (by omega) _).mono ?_; rintro e w' ⟨rfl, rfl⟩
  go_wp2_with fail
  go_ret
  exact ⟨rfl, below_box _ _⟩
set_option maxRecDepth 100000 in
theorem nMinus (a b : Int) (ha : 0 ≤ a ∧ a < 1000003) (hb : 0 ≤ b ∧ b < 1000003) (w : World) :
    Calls Try.prog 172 #[.agg #[], .int .i64 a, .int .i64 b] w (Num1 w (mns a b)) := by
  go_enter Try.func172, Try.ntmps172
  go_wp2_with fail
  refine (imns a b (by omega) (by omega) _).mono ?_; rintro e w' ⟨rfl, rfl⟩
  go_wp2_with fail
  go_ret
  exact ⟨rfl, below_box _ _⟩
set_option maxRecDepth 100000 in
theorem nTimes (a b : Int) (ha : 0 ≤ a ∧ a < 1000003) (hb : 0 ≤ b ∧ b < 1000003) (w : World) :
    Calls Try.prog 176 #[.agg #[], .int .i64 a, .int .i64 b] w (Num1 w (tms a b)) := by
  go_enter Try.func176, Try.ntmps176
  go_wp2_with fail
  refine (iTimes a b (by omega) (by omega) _).mono ?_; rintro e w' ⟨rfl, rfl⟩
  go_wp2_with fail
  go_ret
  exact ⟨rfl, below_box _ _⟩
set_option maxRecDepth 100000 in
theorem nOver (a b : Int) (ha : 0 ≤ a ∧ a < 1000003) (hb : 0 ≤ b ∧ b < 1000003) (w : World) :
    Calls Try.prog 174 #[.agg #[], .int .i64 a, .int .i64 b] w (Num1 w (tms a (inv b))) := by
  have hi := pwr_bd b 1000001
  go_enter Try.func174, Try.ntmps174
  go_wp2_with fail
  refine (iinv b (by omega) _).mono ?_; rintro e w' ⟨rfl, rfl⟩
  go_wp2_with fail
  refine (iTimes a (inv b) (by omega) (by unfold inv; omega) _).mono ?_; rintro e w' ⟨rfl, rfl⟩
  go_wp2_with fail
  go_ret
  exact ⟨rfl, below_box _ _⟩
set_option maxRecDepth 100000 in
theorem nNeg (a : Int) (ha : 0 ≤ a ∧ a < 1000003) (w : World) :
    Calls Try.prog 173 #[.agg #[], .int .i64 a] w (Num1 w (mns 0 a)) := by
  go_enter Try.func173, Try.ntmps173
  go_wp2_with fail
  refine (imns 0 a (by omega) (by omega) _).mono ?_; rintro e w' ⟨rfl, rfl⟩
  go_wp2_with fail
  go_ret
  exact ⟨rfl, below_box _ _⟩
set_option maxRecDepth 100000 in
theorem nConst (a : Int) (w : World) :
    Calls Try.prog 170 #[.agg #[], .int .i64 a] w (Num1 w a) := by
  go_enter Try.func170, Try.ntmps170
  go_wp2_with fail
  go_ret
  exact ⟨rfl, below_box _ _⟩
set_option maxRecDepth 100000 in
theorem nZero (a : Int) (w : World) :
    Calls Try.prog 171 #[.agg #[], .int .i64 a] w fun e w' => e = .returned (.bool (a == 0)) ∧ Below w.heap.size w w' := by
  go_enter Try.func171, Try.ntmps171
  go_wp2_with fail
  go_ret
  exact ⟨rfl, below_box _ _⟩

/-- the arithmetic of numbers, as a value -/
abbrev ofN : Value := .iface 116 (.agg #[])
set_option maxRecDepth 100000 in
theorem negAhead (W : World) : (nilAhead 303 116 (.agg #[]) "loop.example/g01091/impl.negative").run Try.prog W = .ok (some false) W := by kernel_rfl
set_option maxRecDepth 100000 in
theorem negMeth (W : World) : (method 303 116 (.agg #[]) "loop.example/g01091/impl.negative").run Try.prog W = .ok (173, .agg #[]) W := by kernel_rfl

set_option maxRecDepth 100000 in
theorem timAhead (W : World) : (nilAhead 303 116 (.agg #[]) "loop.example/g01091/impl.times").run Try.prog W = .ok (some false) W := by kernel_rfl
set_option maxRecDepth 100000 in
theorem timMeth (W : World) : (method 303 116 (.agg #[]) "loop.example/g01091/impl.times").run Try.prog W = .ok (176, .agg #[]) W := by kernel_rfl
set_option maxRecDepth 100000 in
theorem minAhead (W : World) : (nilAhead 303 116 (.agg #[]) "loop.example/g01091/impl.minus").run Try.prog W = .ok (some false) W := by kernel_rfl
set_option maxRecDepth 100000 in
theorem minMeth (W : World) : (method 303 116 (.agg #[]) "loop.example/g01091/impl.minus").run Try.prog W = .ok (172, .agg #[]) W := by kernel_rfl
set_option maxRecDepth 100000 in
theorem ovrAhead (W : World) : (nilAhead 303 116 (.agg #[]) "loop.example/g01091/impl.over").run Try.prog W = .ok (some false) W := by kernel_rfl
set_option maxRecDepth 100000 in
theorem ovrMeth (W : World) : (method 303 116 (.agg #[]) "loop.example/g01091/impl.over").run Try.prog W = .ok (174, .agg #[]) W := by kernel_rfl
set_option maxRecDepth 100000 in
theorem cstAhead (W : World) : (nilAhead 303 116 (.agg #[]) "loop.example/g01091/impl.constant").run Try.prog W = .ok (some false) W := by kernel_rfl
set_option maxRecDepth 100000 in
theorem cstMeth (W : World) : (method 303 116 (.agg #[]) "loop.example/g01091/impl.constant").run Try.prog W = .ok (170, .agg #[]) W := by kernel_rfl
set_option maxRecDepth 100000 in
theorem zerAhead (W : World) : (nilAhead 303 116 (.agg #[]) "loop.example/g01091/impl.isZero").run Try.prog W = .ok (some false) W := by kernel_rfl
set_option maxRecDepth 100000 in
theorem zerMeth (W : World) : (method 303 116 (.agg #[]) "loop.example/g01091/impl.isZero").run Try.prog W = .ok (171, .agg #[]) W := by kernel_rfl
set_option maxRecDepth 100000 in
theorem plsAhead (W : World) : (nilAhead 303 116 (.agg #[]) "loop.example/g01091/impl.plus").run Try.prog W = .ok (some false) W := by kernel_rfl
set_option maxRecDepth 100000 in
theorem plsMeth (W : World) : (method 303 116 (.agg #[]) "loop.example/g01091/impl.plus").run Try.prog W = .ok (175, .agg #[]) W := by kernel_rfl

end Go.Proofs.Ytleebjjikpmgoaa
