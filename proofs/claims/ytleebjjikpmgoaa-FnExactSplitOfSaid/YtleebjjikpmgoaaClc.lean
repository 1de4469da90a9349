/- The program's table of least costs, read. -/
import Derived.Test.YtleebjjikpmgoaaClb
import Derived.Test.YtleebjjikpmgoaaChp
import Derived.Deep.QuietTactic
import Derived.BigQuiet
namespace Go.Proofs.Ytleebjjikpmgoaa
open Go.RowKit
set_option linter.unusedVariables false

/-- the table of 41 x 41 x 9 numbers in a block -/
def TabAt (W : World) (g : Nat) (F : Nat → Nat → Nat → Int) : Prop := ∀ a b c, a ≤ 40 → b ≤ 40 → c ≤ 8 → W.cell? ⟨g, a * 369 + b * 9 + c, none⟩ = some (.int .i64 (F c a b))
set_option maxRecDepth 100000 in
theorem iAt (g a b c : Nat) (F : Nat → Nat → Nat → Int) (ha : a ≤ 40) (hb : b ≤ 40) (hc : c ≤ 8) (W : World) (hT : TabAt W g F) :
    Calls Try.prog 107 #[.pointer (some ⟨g, 0, none⟩), .int .i64 a, .int .i64 b, .int .i64 c] W fun e w' => e = .returned (.int .i64 (F c a b)) ∧ W = w' := by
  have h0 := hT a b c ha hb hc
  have ha1 : (a : Int) < 41 := by omega
  have hb1 : (b : Int) < 41 := by omega
  have hc1 : (c : Int) < 9 := by omega
  clear hT
  go_enter Try.func107, Try.ntmps107
  go_wp2_with fail
  go_ret
  exact ⟨rfl, rfl⟩

end Go.Proofs.Ytleebjjikpmgoaa
