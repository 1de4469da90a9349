/-
  NARROWER THAN 'FOR EVERY INPUT', by the rows' own cells (each row's printed sentence says how): FnExactEvaluate: loops · FnExactDirectional: loops · FnExactPartial: loops · FnExactSlopeAlong: loops · FnExactRoundStates: loops · FnExactGradientOf: loops · FnExactJacobianOf: loops.
  DERIVED. THE GIVEN ROWS OF THIS SEAT. 7 by the template 'for every input the law returns true; each argument reads behind the call as it read before'; 0 by the template 'total and deterministic' (their statements: YtoedccgiahegnaaGreatTotals.lean).
  GIVEN WITH THE SEED: the statements are not yours to turn. If you find one false, say at which input.
  Laid BY PROGRAM, IN A SANDBOX (cutbox-rows.mjs): the forced cells as the released guide's own fill.sh prints them over the translation c64fb7eb7de5fa8f… (all of the seat's roots in one cut). By AI agents, Wed Nov 11 2026. No macro, syntax, notation, axiom, sorry.
-/
import Derived.Test.YtoedccgiahegnaaGreatChecked
import GoSem.Claim
import GoSem.ClaimJoined
import GoSem.ClaimMapViews
import Derived.JoinedTies
import Derived.KernelRfl
namespace Go.Proofs.YtoedccgiahegnaaGreat
/- THE CELL 'sum', in the pinned program and in every row, IS THE sha256 OF THE DUMP (.gsa) THAT YtoedccgiahegnaaGreatProg.lean LOADS. Nothing in Lean hashes anything: it is a label: what it is worth is what the hold of that sum in a sandbox is worth. -/
noncomputable def Tryz.pinned : Pinned := { name := "ytoedccgiahegnaagreat", sum := "c64fb7eb7de5fa8f35605af1dd63c69c8f555d182d13eb1f6565266eacfda288", checked := Tryz.checked }
namespace Rows
def none {H : Type} : Left H := { results := [], args := [] }

/-- 'laws.FnExactEvaluate': WHATEVER THE INPUT: true; the input reads as it did. -/
def fnExactEvaluateSpec : ChangeSpec := { name := "fnExactEvaluate", fn := fun _ => fun
  | [d1, d2, d3] => { results := [.lit (.bool true)], args := [d1, d2, d3] }
  | _ => none }
def fnExactEvaluateRow : OpenClaim := { program := "ytoedccgiahegnaagreat", sum := "c64fb7eb7de5fa8f35605af1dd63c69c8f555d182d13eb1f6565266eacfda288", func := "loop.example/g01091/laws.FnExactEvaluate", spec := "fnExactEvaluate", unfollowed := true, recurses := true, loops := true, apart := false }
def FnExactEvaluateSaid : Prop := fnExactEvaluateRow.holds Tryz.pinned (OpenSpec.ofChange fnExactEvaluateSpec)

/-- ITS FALSE NEIGHBOUR: 'it returns false'. Refute it at one input. -/
def fnExactEvaluateWrong : ChangeSpec := { name := "fnExactEvaluate", fn := fun _ => fun
  | [d1, d2, d3] => { results := [.lit (.bool false)], args := [d1, d2, d3] }
  | _ => none }
def FnExactEvaluateWrongFalsely : Prop := fnExactEvaluateRow.holds Tryz.pinned (OpenSpec.ofChange fnExactEvaluateWrong)

/-- 'laws.FnExactDirectional': WHATEVER THE INPUT: true; the input reads as it did. -/
def fnExactDirectionalSpec : ChangeSpec := { name := "fnExactDirectional", fn := fun _ => fun
  | [d1, d2, d3, d4] => { results := [.lit (.bool true)], args := [d1, d2, d3, d4] }
  | _ => none }
def fnExactDirectionalRow : OpenClaim := { program := "ytoedccgiahegnaagreat", sum := "c64fb7eb7de5fa8f35605af1dd63c69c8f555d182d13eb1f6565266eacfda288", func := "loop.example/g01091/laws.FnExactDirectional", spec := "fnExactDirectional", unfollowed := true, recurses := true, loops := true, apart := false }
def FnExactDirectionalSaid : Prop := fnExactDirectionalRow.holds Tryz.pinned (OpenSpec.ofChange fnExactDirectionalSpec)

/-- ITS FALSE NEIGHBOUR: 'it returns false'. Refute it at one input. -/
def fnExactDirectionalWrong : ChangeSpec := { name := "fnExactDirectional", fn := fun _ => fun
  | [d1, d2, d3, d4] => { results := [.lit (.bool false)], args := [d1, d2, d3, d4] }
  | _ => none }
def FnExactDirectionalWrongFalsely : Prop := fnExactDirectionalRow.holds Tryz.pinned (OpenSpec.ofChange fnExactDirectionalWrong)

/-- 'laws.FnExactPartial': WHATEVER THE INPUT: true; the input reads as it did. -/
def fnExactPartialSpec : ChangeSpec := { name := "fnExactPartial", fn := fun _ => fun
  | [d1, d2, d3, d4] => { results := [.lit (.bool true)], args := [d1, d2, d3, d4] }
  | _ => none }
def fnExactPartialRow : OpenClaim := { program := "ytoedccgiahegnaagreat", sum := "c64fb7eb7de5fa8f35605af1dd63c69c8f555d182d13eb1f6565266eacfda288", func := "loop.example/g01091/laws.FnExactPartial", spec := "fnExactPartial", unfollowed := true, recurses := true, loops := true, apart := false }
def FnExactPartialSaid : Prop := fnExactPartialRow.holds Tryz.pinned (OpenSpec.ofChange fnExactPartialSpec)

/-- ITS FALSE NEIGHBOUR: 'it returns false'. Refute it at one input. -/
def fnExactPartialWrong : ChangeSpec := { name := "fnExactPartial", fn := fun _ => fun
  | [d1, d2, d3, d4] => { results := [.lit (.bool false)], args := [d1, d2, d3, d4] }
  | _ => none }
def FnExactPartialWrongFalsely : Prop := fnExactPartialRow.holds Tryz.pinned (OpenSpec.ofChange fnExactPartialWrong)

/-- 'laws.FnExactSlopeAlong': WHATEVER THE INPUT: true; the input reads as it did. -/
def fnExactSlopeAlongSpec : ChangeSpec := { name := "fnExactSlopeAlong", fn := fun _ => fun
  | [d1, d2, d3, d4, d5, d6] => { results := [.lit (.bool true)], args := [d1, d2, d3, d4, d5, d6] }
  | _ => none }
def fnExactSlopeAlongRow : OpenClaim := { program := "ytoedccgiahegnaagreat", sum := "c64fb7eb7de5fa8f35605af1dd63c69c8f555d182d13eb1f6565266eacfda288", func := "loop.example/g01091/laws.FnExactSlopeAlong", spec := "fnExactSlopeAlong", unfollowed := true, recurses := true, loops := true, apart := false }
def FnExactSlopeAlongSaid : Prop := fnExactSlopeAlongRow.holds Tryz.pinned (OpenSpec.ofChange fnExactSlopeAlongSpec)

/-- ITS FALSE NEIGHBOUR: 'it returns false'. Refute it at one input. -/
def fnExactSlopeAlongWrong : ChangeSpec := { name := "fnExactSlopeAlong", fn := fun _ => fun
  | [d1, d2, d3, d4, d5, d6] => { results := [.lit (.bool false)], args := [d1, d2, d3, d4, d5, d6] }
  | _ => none }
def FnExactSlopeAlongWrongFalsely : Prop := fnExactSlopeAlongRow.holds Tryz.pinned (OpenSpec.ofChange fnExactSlopeAlongWrong)

/-- 'laws.FnExactRoundStates': WHATEVER THE INPUT: true; the input reads as it did. -/
def fnExactRoundStatesSpec : ChangeSpec := { name := "fnExactRoundStates", fn := fun _ => fun
  | [d1, d2, d3, d4] => { results := [.lit (.bool true)], args := [d1, d2, d3, d4] }
  | _ => none }
def fnExactRoundStatesRow : OpenClaim := { program := "ytoedccgiahegnaagreat", sum := "c64fb7eb7de5fa8f35605af1dd63c69c8f555d182d13eb1f6565266eacfda288", func := "loop.example/g01091/laws.FnExactRoundStates", spec := "fnExactRoundStates", unfollowed := true, recurses := true, loops := true, apart := false }
def FnExactRoundStatesSaid : Prop := fnExactRoundStatesRow.holds Tryz.pinned (OpenSpec.ofChange fnExactRoundStatesSpec)

/-- ITS FALSE NEIGHBOUR: 'it returns false'. Refute it at one input. -/
def fnExactRoundStatesWrong : ChangeSpec := { name := "fnExactRoundStates", fn := fun _ => fun
  | [d1, d2, d3, d4] => { results := [.lit (.bool false)], args := [d1, d2, d3, d4] }
  | _ => none }
def FnExactRoundStatesWrongFalsely : Prop := fnExactRoundStatesRow.holds Tryz.pinned (OpenSpec.ofChange fnExactRoundStatesWrong)

/-- 'laws.FnExactGradientOf': WHATEVER THE INPUT: true; the input reads as it did. -/
def fnExactGradientOfSpec : ChangeSpec := { name := "fnExactGradientOf", fn := fun _ => fun
  | [d1, d2, d3, d4] => { results := [.lit (.bool true)], args := [d1, d2, d3, d4] }
  | _ => none }
def fnExactGradientOfRow : OpenClaim := { program := "ytoedccgiahegnaagreat", sum := "c64fb7eb7de5fa8f35605af1dd63c69c8f555d182d13eb1f6565266eacfda288", func := "loop.example/g01091/laws.FnExactGradientOf", spec := "fnExactGradientOf", unfollowed := true, recurses := true, loops := true, apart := false }
def FnExactGradientOfSaid : Prop := fnExactGradientOfRow.holds Tryz.pinned (OpenSpec.ofChange fnExactGradientOfSpec)

/-- ITS FALSE NEIGHBOUR: 'it returns false'. Refute it at one input. -/
def fnExactGradientOfWrong : ChangeSpec := { name := "fnExactGradientOf", fn := fun _ => fun
  | [d1, d2, d3, d4] => { results := [.lit (.bool false)], args := [d1, d2, d3, d4] }
  | _ => none }
def FnExactGradientOfWrongFalsely : Prop := fnExactGradientOfRow.holds Tryz.pinned (OpenSpec.ofChange fnExactGradientOfWrong)

/-- 'laws.FnExactJacobianOf': WHATEVER THE INPUT: true; the input reads as it did. -/
def fnExactJacobianOfSpec : ChangeSpec := { name := "fnExactJacobianOf", fn := fun _ => fun
  | [d1, d2, d3] => { results := [.lit (.bool true)], args := [d1, d2, d3] }
  | _ => none }
def fnExactJacobianOfRow : OpenClaim := { program := "ytoedccgiahegnaagreat", sum := "c64fb7eb7de5fa8f35605af1dd63c69c8f555d182d13eb1f6565266eacfda288", func := "loop.example/g01091/laws.FnExactJacobianOf", spec := "fnExactJacobianOf", unfollowed := true, recurses := true, loops := true, apart := false }
def FnExactJacobianOfSaid : Prop := fnExactJacobianOfRow.holds Tryz.pinned (OpenSpec.ofChange fnExactJacobianOfSpec)

/-- ITS FALSE NEIGHBOUR: 'it returns false'. Refute it at one input. -/
def fnExactJacobianOfWrong : ChangeSpec := { name := "fnExactJacobianOf", fn := fun _ => fun
  | [d1, d2, d3] => { results := [.lit (.bool false)], args := [d1, d2, d3] }
  | _ => none }
def FnExactJacobianOfWrongFalsely : Prop := fnExactJacobianOfRow.holds Tryz.pinned (OpenSpec.ofChange fnExactJacobianOfWrong)

/- THE SECOND FORM. 'bulk': how many values and letters a reading holds, each counted each time it is reached (what is shared counts as often as it is met; a slice's spare places count too). A statement '..UptoSaid' is the law's where the arguments, and the package variables that the reading takes, are together of bulk at most 1048576: NARROWER than '..Said'. Prove '..Said' where nothing that the law and all that it calls make is longer than what came in: it says more and counts as full. Else prove '..UptoSaid'. A law counts once. -/
mutual
def uptoBulk {H : Type} : DataW H → Nat
  | .lit (.string bytes) => bytes.length + 1
  | .lit _ => 1
  | .nil => 1
  | .ptr d => uptoBulk d + 1
  | .slice elems spare => uptoBulkAll elems + uptoBulkAll spare + 1
  | .agg parts => uptoBulkAll parts + 1
  | .iface _ d => uptoBulk d + 1
  | .map entries => uptoBulkEntries entries + 1
  | .held _ => 1
def uptoBulkAll {H : Type} : List (DataW H) → Nat
  | [] => 0
  | d :: r => uptoBulk d + uptoBulkAll r
def uptoBulkEntries {H : Type} : List (Lit × DataW H) → Nat
  | [] => 0
  | x :: r => uptoBulkEntry x + uptoBulkEntries r
def uptoBulkEntry {H : Type} : Lit × DataW H → Nat
  | (.string bytes, d) => bytes.length + uptoBulk d + 1
  | (_, d) => uptoBulk d + 1
 end
def uptoSmall : (H : Type) → List (DataW H) → Bool := fun _ ds => decide (uptoBulkAll ds ≤ 1048576)
def OpenSpec.upto (s : _root_.Go.ChangeSpec) : _root_.Go.OpenSpec := { _root_.Go.OpenSpec.ofChange s with cond := some uptoSmall }

/-- 'laws.FnExactEvaluate', WHERE WHAT IT READS IS OF BULK AT MOST 1048576: true; the input reads as it did. -/
def fnExactEvaluateUptoRow : OpenClaim := { program := "ytoedccgiahegnaagreat", sum := "c64fb7eb7de5fa8f35605af1dd63c69c8f555d182d13eb1f6565266eacfda288", func := "loop.example/g01091/laws.FnExactEvaluate", spec := "fnExactEvaluate", unfollowed := true, recurses := true, loops := true, apart := false, narrowed := true }
def FnExactEvaluateUptoSaid : Prop := fnExactEvaluateUptoRow.holds Tryz.pinned (OpenSpec.upto fnExactEvaluateSpec)

/-- 'laws.FnExactDirectional', WHERE WHAT IT READS IS OF BULK AT MOST 1048576: true; the input reads as it did. -/
def fnExactDirectionalUptoRow : OpenClaim := { program := "ytoedccgiahegnaagreat", sum := "c64fb7eb7de5fa8f35605af1dd63c69c8f555d182d13eb1f6565266eacfda288", func := "loop.example/g01091/laws.FnExactDirectional", spec := "fnExactDirectional", unfollowed := true, recurses := true, loops := true, apart := false, narrowed := true }
def FnExactDirectionalUptoSaid : Prop := fnExactDirectionalUptoRow.holds Tryz.pinned (OpenSpec.upto fnExactDirectionalSpec)

/-- 'laws.FnExactPartial', WHERE WHAT IT READS IS OF BULK AT MOST 1048576: true; the input reads as it did. -/
def fnExactPartialUptoRow : OpenClaim := { program := "ytoedccgiahegnaagreat", sum := "c64fb7eb7de5fa8f35605af1dd63c69c8f555d182d13eb1f6565266eacfda288", func := "loop.example/g01091/laws.FnExactPartial", spec := "fnExactPartial", unfollowed := true, recurses := true, loops := true, apart := false, narrowed := true }
def FnExactPartialUptoSaid : Prop := fnExactPartialUptoRow.holds Tryz.pinned (OpenSpec.upto fnExactPartialSpec)

/-- 'laws.FnExactSlopeAlong', WHERE WHAT IT READS IS OF BULK AT MOST 1048576: true; the input reads as it did. -/
def fnExactSlopeAlongUptoRow : OpenClaim := { program := "ytoedccgiahegnaagreat", sum := "c64fb7eb7de5fa8f35605af1dd63c69c8f555d182d13eb1f6565266eacfda288", func := "loop.example/g01091/laws.FnExactSlopeAlong", spec := "fnExactSlopeAlong", unfollowed := true, recurses := true, loops := true, apart := false, narrowed := true }
def FnExactSlopeAlongUptoSaid : Prop := fnExactSlopeAlongUptoRow.holds Tryz.pinned (OpenSpec.upto fnExactSlopeAlongSpec)

/-- 'laws.FnExactRoundStates', WHERE WHAT IT READS IS OF BULK AT MOST 1048576: true; the input reads as it did. -/
def fnExactRoundStatesUptoRow : OpenClaim := { program := "ytoedccgiahegnaagreat", sum := "c64fb7eb7de5fa8f35605af1dd63c69c8f555d182d13eb1f6565266eacfda288", func := "loop.example/g01091/laws.FnExactRoundStates", spec := "fnExactRoundStates", unfollowed := true, recurses := true, loops := true, apart := false, narrowed := true }
def FnExactRoundStatesUptoSaid : Prop := fnExactRoundStatesUptoRow.holds Tryz.pinned (OpenSpec.upto fnExactRoundStatesSpec)

/-- 'laws.FnExactGradientOf', WHERE WHAT IT READS IS OF BULK AT MOST 1048576: true; the input reads as it did. -/
def fnExactGradientOfUptoRow : OpenClaim := { program := "ytoedccgiahegnaagreat", sum := "c64fb7eb7de5fa8f35605af1dd63c69c8f555d182d13eb1f6565266eacfda288", func := "loop.example/g01091/laws.FnExactGradientOf", spec := "fnExactGradientOf", unfollowed := true, recurses := true, loops := true, apart := false, narrowed := true }
def FnExactGradientOfUptoSaid : Prop := fnExactGradientOfUptoRow.holds Tryz.pinned (OpenSpec.upto fnExactGradientOfSpec)

/-- 'laws.FnExactJacobianOf', WHERE WHAT IT READS IS OF BULK AT MOST 1048576: true; the input reads as it did. -/
def fnExactJacobianOfUptoRow : OpenClaim := { program := "ytoedccgiahegnaagreat", sum := "c64fb7eb7de5fa8f35605af1dd63c69c8f555d182d13eb1f6565266eacfda288", func := "loop.example/g01091/laws.FnExactJacobianOf", spec := "fnExactJacobianOf", unfollowed := true, recurses := true, loops := true, apart := false, narrowed := true }
def FnExactJacobianOfUptoSaid : Prop := fnExactJacobianOfUptoRow.holds Tryz.pinned (OpenSpec.upto fnExactJacobianOfSpec)

end Rows
end Go.Proofs.YtoedccgiahegnaaGreat
