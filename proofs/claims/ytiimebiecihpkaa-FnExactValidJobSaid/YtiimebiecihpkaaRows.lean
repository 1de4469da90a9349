/-
  NARROWER THAN 'FOR EVERY INPUT', by the rows' own cells (each row's printed sentence says how): FnExactValidExpr: loops · FnExactValidProgram: loops · FnExactFuncNamed: loops · FnExactCallsOf: loops · FnExactValidRound: loops · FnExactValidJob: loops.
  DERIVED. THE GIVEN ROWS OF THIS SEAT. 12 by the template 'for every input the law returns true; each argument reads behind the call as it read before'; 0 by the template 'total and deterministic' (their statements: YtiimebiecihpkaaTotals.lean).
  GIVEN WITH THE SEED: the statements are not yours to turn. If you find one false, say at which input.
  Laid BY PROGRAM, IN A SANDBOX (cutbox-rows.mjs): the forced cells as the released guide's own fill.sh prints them over the translation 431c51ae731818d6… (all of the seat's roots in one cut). By AI agents, Wed Nov 11 2026. No macro, syntax, notation, axiom, sorry.
-/
import Derived.Test.YtiimebiecihpkaaChecked
import GoSem.Claim
import GoSem.ClaimJoined
import GoSem.ClaimMapViews
import Derived.JoinedTies
import Derived.KernelRfl
namespace Go.Proofs.Ytiimebiecihpkaa
/- THE CELL 'sum', in the pinned program and in every row, IS THE sha256 OF THE DUMP (.gsa) THAT YtiimebiecihpkaaProg.lean LOADS. Nothing in Lean hashes anything: it is a label: what it is worth is what the hold of that sum in a sandbox is worth. -/
noncomputable def Try.pinned : Pinned := { name := "ytiimebiecihpkaa", sum := "431c51ae731818d67d303eb0fc8c9e28ba8fbbf950877df1246ff638eef96f21", checked := Try.checked }
namespace Rows
def none {H : Type} : Left H := { results := [], args := [] }

/-- 'laws.FnExactSolveLinear': WHATEVER THE INPUT: true; the input reads as it did. -/
def fnExactSolveLinearSpec : ChangeSpec := { name := "fnExactSolveLinear", fn := fun _ => fun
  | [d1, d2] => { results := [.lit (.bool true)], args := [d1, d2] }
  | _ => none }
def fnExactSolveLinearRow : OpenClaim := { program := "ytiimebiecihpkaa", sum := "431c51ae731818d67d303eb0fc8c9e28ba8fbbf950877df1246ff638eef96f21", func := "loop.example/g01091/laws.FnExactSolveLinear", spec := "fnExactSolveLinear", unfollowed := true, recurses := true, plainKeys := false, apart := false }
def FnExactSolveLinearSaid : Prop := fnExactSolveLinearRow.holds Try.pinned (OpenSpec.ofChange fnExactSolveLinearSpec)

/-- ITS FALSE NEIGHBOUR: 'it returns false'. Refute it at one input. -/
def fnExactSolveLinearWrong : ChangeSpec := { name := "fnExactSolveLinear", fn := fun _ => fun
  | [d1, d2] => { results := [.lit (.bool false)], args := [d1, d2] }
  | _ => none }
def FnExactSolveLinearWrongFalsely : Prop := fnExactSolveLinearRow.holds Try.pinned (OpenSpec.ofChange fnExactSolveLinearWrong)

/-- 'laws.FnExactInverseMatrix': WHATEVER THE INPUT: true; the input reads as it did. -/
def fnExactInverseMatrixSpec : ChangeSpec := { name := "fnExactInverseMatrix", fn := fun _ => fun
  | [d] => { results := [.lit (.bool true)], args := [d] }
  | _ => none }
def fnExactInverseMatrixRow : OpenClaim := { program := "ytiimebiecihpkaa", sum := "431c51ae731818d67d303eb0fc8c9e28ba8fbbf950877df1246ff638eef96f21", func := "loop.example/g01091/laws.FnExactInverseMatrix", spec := "fnExactInverseMatrix", unfollowed := true, recurses := true, plainKeys := false, apart := false }
def FnExactInverseMatrixSaid : Prop := fnExactInverseMatrixRow.holds Try.pinned (OpenSpec.ofChange fnExactInverseMatrixSpec)

/-- ITS FALSE NEIGHBOUR: 'it returns false'. Refute it at one input. -/
def fnExactInverseMatrixWrong : ChangeSpec := { name := "fnExactInverseMatrix", fn := fun _ => fun
  | [d] => { results := [.lit (.bool false)], args := [d] }
  | _ => none }
def FnExactInverseMatrixWrongFalsely : Prop := fnExactInverseMatrixRow.holds Try.pinned (OpenSpec.ofChange fnExactInverseMatrixWrong)

/-- 'laws.FnExactLinearFlow': WHATEVER THE INPUT: true; the input reads as it did. -/
def fnExactLinearFlowSpec : ChangeSpec := { name := "fnExactLinearFlow", fn := fun _ => fun
  | [d1, d2, d3] => { results := [.lit (.bool true)], args := [d1, d2, d3] }
  | _ => none }
def fnExactLinearFlowRow : OpenClaim := { program := "ytiimebiecihpkaa", sum := "431c51ae731818d67d303eb0fc8c9e28ba8fbbf950877df1246ff638eef96f21", func := "loop.example/g01091/laws.FnExactLinearFlow", spec := "fnExactLinearFlow", unfollowed := true, recurses := true, plainKeys := false, apart := false }
def FnExactLinearFlowSaid : Prop := fnExactLinearFlowRow.holds Try.pinned (OpenSpec.ofChange fnExactLinearFlowSpec)

/-- ITS FALSE NEIGHBOUR: 'it returns false'. Refute it at one input. -/
def fnExactLinearFlowWrong : ChangeSpec := { name := "fnExactLinearFlow", fn := fun _ => fun
  | [d1, d2, d3] => { results := [.lit (.bool false)], args := [d1, d2, d3] }
  | _ => none }
def FnExactLinearFlowWrongFalsely : Prop := fnExactLinearFlowRow.holds Try.pinned (OpenSpec.ofChange fnExactLinearFlowWrong)

/-- 'laws.FnExactValidExpr': WHATEVER THE INPUT: true; the input reads as it did. -/
def fnExactValidExprSpec : ChangeSpec := { name := "fnExactValidExpr", fn := fun _ => fun
  | [d1, d2, d3, d4] => { results := [.lit (.bool true)], args := [d1, d2, d3, d4] }
  | _ => none }
def fnExactValidExprRow : OpenClaim := { program := "ytiimebiecihpkaa", sum := "431c51ae731818d67d303eb0fc8c9e28ba8fbbf950877df1246ff638eef96f21", func := "loop.example/g01091/laws.FnExactValidExpr", spec := "fnExactValidExpr", recurses := true, loops := true, plainKeys := false, apart := false }
def FnExactValidExprSaid : Prop := fnExactValidExprRow.holds Try.pinned (OpenSpec.ofChange fnExactValidExprSpec)

/-- ITS FALSE NEIGHBOUR: 'it returns false'. Refute it at one input. -/
def fnExactValidExprWrong : ChangeSpec := { name := "fnExactValidExpr", fn := fun _ => fun
  | [d1, d2, d3, d4] => { results := [.lit (.bool false)], args := [d1, d2, d3, d4] }
  | _ => none }
def FnExactValidExprWrongFalsely : Prop := fnExactValidExprRow.holds Try.pinned (OpenSpec.ofChange fnExactValidExprWrong)

/-- 'laws.FnExactValidProgram': WHATEVER THE INPUT: true; the input reads as it did. -/
def fnExactValidProgramSpec : ChangeSpec := { name := "fnExactValidProgram", fn := fun _ => fun
  | [d] => { results := [.lit (.bool true)], args := [d] }
  | _ => none }
def fnExactValidProgramRow : OpenClaim := { program := "ytiimebiecihpkaa", sum := "431c51ae731818d67d303eb0fc8c9e28ba8fbbf950877df1246ff638eef96f21", func := "loop.example/g01091/laws.FnExactValidProgram", spec := "fnExactValidProgram", unfollowed := true, recurses := true, loops := true, plainKeys := false, apart := false }
def FnExactValidProgramSaid : Prop := fnExactValidProgramRow.holds Try.pinned (OpenSpec.ofChange fnExactValidProgramSpec)

/-- ITS FALSE NEIGHBOUR: 'it returns false'. Refute it at one input. -/
def fnExactValidProgramWrong : ChangeSpec := { name := "fnExactValidProgram", fn := fun _ => fun
  | [d] => { results := [.lit (.bool false)], args := [d] }
  | _ => none }
def FnExactValidProgramWrongFalsely : Prop := fnExactValidProgramRow.holds Try.pinned (OpenSpec.ofChange fnExactValidProgramWrong)

/-- 'laws.FnExactFuncNamed': WHATEVER THE INPUT: true; the input reads as it did. -/
def fnExactFuncNamedSpec : ChangeSpec := { name := "fnExactFuncNamed", fn := fun _ => fun
  | [d1, d2] => { results := [.lit (.bool true)], args := [d1, d2] }
  | _ => none }
def fnExactFuncNamedRow : OpenClaim := { program := "ytiimebiecihpkaa", sum := "431c51ae731818d67d303eb0fc8c9e28ba8fbbf950877df1246ff638eef96f21", func := "loop.example/g01091/laws.FnExactFuncNamed", spec := "fnExactFuncNamed", unfollowed := true, recurses := true, loops := true, plainKeys := false, apart := false }
def FnExactFuncNamedSaid : Prop := fnExactFuncNamedRow.holds Try.pinned (OpenSpec.ofChange fnExactFuncNamedSpec)

/-- ITS FALSE NEIGHBOUR: 'it returns false'. Refute it at one input. -/
def fnExactFuncNamedWrong : ChangeSpec := { name := "fnExactFuncNamed", fn := fun _ => fun
  | [d1, d2] => { results := [.lit (.bool false)], args := [d1, d2] }
  | _ => none }
def FnExactFuncNamedWrongFalsely : Prop := fnExactFuncNamedRow.holds Try.pinned (OpenSpec.ofChange fnExactFuncNamedWrong)

/-- 'laws.FnExactCallsOf': WHATEVER THE INPUT: true; the input reads as it did. -/
def fnExactCallsOfSpec : ChangeSpec := { name := "fnExactCallsOf", fn := fun _ => fun
  | [d1, d2] => { results := [.lit (.bool true)], args := [d1, d2] }
  | _ => none }
def fnExactCallsOfRow : OpenClaim := { program := "ytiimebiecihpkaa", sum := "431c51ae731818d67d303eb0fc8c9e28ba8fbbf950877df1246ff638eef96f21", func := "loop.example/g01091/laws.FnExactCallsOf", spec := "fnExactCallsOf", unfollowed := true, recurses := true, loops := true, plainKeys := false, apart := false }
def FnExactCallsOfSaid : Prop := fnExactCallsOfRow.holds Try.pinned (OpenSpec.ofChange fnExactCallsOfSpec)

/-- ITS FALSE NEIGHBOUR: 'it returns false'. Refute it at one input. -/
def fnExactCallsOfWrong : ChangeSpec := { name := "fnExactCallsOf", fn := fun _ => fun
  | [d1, d2] => { results := [.lit (.bool false)], args := [d1, d2] }
  | _ => none }
def FnExactCallsOfWrongFalsely : Prop := fnExactCallsOfRow.holds Try.pinned (OpenSpec.ofChange fnExactCallsOfWrong)

/-- 'laws.FnExactValidRound': WHATEVER THE INPUT: true; the input reads as it did. -/
def fnExactValidRoundSpec : ChangeSpec := { name := "fnExactValidRound", fn := fun _ => fun
  | [d1, d2] => { results := [.lit (.bool true)], args := [d1, d2] }
  | _ => none }
def fnExactValidRoundRow : OpenClaim := { program := "ytiimebiecihpkaa", sum := "431c51ae731818d67d303eb0fc8c9e28ba8fbbf950877df1246ff638eef96f21", func := "loop.example/g01091/laws.FnExactValidRound", spec := "fnExactValidRound", unfollowed := true, recurses := true, loops := true, plainKeys := false, apart := false }
def FnExactValidRoundSaid : Prop := fnExactValidRoundRow.holds Try.pinned (OpenSpec.ofChange fnExactValidRoundSpec)

/-- ITS FALSE NEIGHBOUR: 'it returns false'. Refute it at one input. -/
def fnExactValidRoundWrong : ChangeSpec := { name := "fnExactValidRound", fn := fun _ => fun
  | [d1, d2] => { results := [.lit (.bool false)], args := [d1, d2] }
  | _ => none }
def FnExactValidRoundWrongFalsely : Prop := fnExactValidRoundRow.holds Try.pinned (OpenSpec.ofChange fnExactValidRoundWrong)

/-- 'laws.FnExactValidJob': WHATEVER THE INPUT: true; the input reads as it did. -/
def fnExactValidJobSpec : ChangeSpec := { name := "fnExactValidJob", fn := fun _ => fun
  | [d] => { results := [.lit (.bool true)], args := [d] }
  | _ => none }
def fnExactValidJobRow : OpenClaim := { program := "ytiimebiecihpkaa", sum := "431c51ae731818d67d303eb0fc8c9e28ba8fbbf950877df1246ff638eef96f21", func := "loop.example/g01091/laws.FnExactValidJob", spec := "fnExactValidJob", unfollowed := true, recurses := true, loops := true, plainKeys := false, apart := false }
def FnExactValidJobSaid : Prop := fnExactValidJobRow.holds Try.pinned (OpenSpec.ofChange fnExactValidJobSpec)

/-- ITS FALSE NEIGHBOUR: 'it returns false'. Refute it at one input. -/
def fnExactValidJobWrong : ChangeSpec := { name := "fnExactValidJob", fn := fun _ => fun
  | [d] => { results := [.lit (.bool false)], args := [d] }
  | _ => none }
def FnExactValidJobWrongFalsely : Prop := fnExactValidJobRow.holds Try.pinned (OpenSpec.ofChange fnExactValidJobWrong)

/-- 'laws.FnExactInputsOf': WHATEVER THE INPUT: true; the input reads as it did. -/
def fnExactInputsOfSpec : ChangeSpec := { name := "fnExactInputsOf", fn := fun _ => fun
  | [d1, d2] => { results := [.lit (.bool true)], args := [d1, d2] }
  | _ => none }
def fnExactInputsOfRow : OpenClaim := { program := "ytiimebiecihpkaa", sum := "431c51ae731818d67d303eb0fc8c9e28ba8fbbf950877df1246ff638eef96f21", func := "loop.example/g01091/laws.FnExactInputsOf", spec := "fnExactInputsOf", unfollowed := true, recurses := true, plainKeys := false, apart := false }
def FnExactInputsOfSaid : Prop := fnExactInputsOfRow.holds Try.pinned (OpenSpec.ofChange fnExactInputsOfSpec)

/-- ITS FALSE NEIGHBOUR: 'it returns false'. Refute it at one input. -/
def fnExactInputsOfWrong : ChangeSpec := { name := "fnExactInputsOf", fn := fun _ => fun
  | [d1, d2] => { results := [.lit (.bool false)], args := [d1, d2] }
  | _ => none }
def FnExactInputsOfWrongFalsely : Prop := fnExactInputsOfRow.holds Try.pinned (OpenSpec.ofChange fnExactInputsOfWrong)

/-- 'laws.FnExactDerivePoly': WHATEVER THE INPUT: true; the input reads as it did. -/
def fnExactDerivePolySpec : ChangeSpec := { name := "fnExactDerivePoly", fn := fun _ => fun
  | [d1, d2] => { results := [.lit (.bool true)], args := [d1, d2] }
  | _ => none }
def fnExactDerivePolyRow : OpenClaim := { program := "ytiimebiecihpkaa", sum := "431c51ae731818d67d303eb0fc8c9e28ba8fbbf950877df1246ff638eef96f21", func := "loop.example/g01091/laws.FnExactDerivePoly", spec := "fnExactDerivePoly", plainKeys := false, apart := false }
def FnExactDerivePolySaid : Prop := fnExactDerivePolyRow.holds Try.pinned (OpenSpec.ofChange fnExactDerivePolySpec)

/-- ITS FALSE NEIGHBOUR: 'it returns false'. Refute it at one input. -/
def fnExactDerivePolyWrong : ChangeSpec := { name := "fnExactDerivePoly", fn := fun _ => fun
  | [d1, d2] => { results := [.lit (.bool false)], args := [d1, d2] }
  | _ => none }
def FnExactDerivePolyWrongFalsely : Prop := fnExactDerivePolyRow.holds Try.pinned (OpenSpec.ofChange fnExactDerivePolyWrong)

/-- 'laws.FnLinear': WHATEVER THE INPUT: true; the input reads as it did. -/
def fnLinearSpec : ChangeSpec := { name := "fnLinear", fn := fun _ => fun
  | [d1, d2] => { results := [.lit (.bool true)], args := [d1, d2] }
  | _ => none }
def fnLinearRow : OpenClaim := { program := "ytiimebiecihpkaa", sum := "431c51ae731818d67d303eb0fc8c9e28ba8fbbf950877df1246ff638eef96f21", func := "loop.example/g01091/laws.FnLinear", spec := "fnLinear", unfollowed := true, recurses := true, plainKeys := false, apart := false }
def FnLinearSaid : Prop := fnLinearRow.holds Try.pinned (OpenSpec.ofChange fnLinearSpec)

/-- ITS FALSE NEIGHBOUR: 'it returns false'. Refute it at one input. -/
def fnLinearWrong : ChangeSpec := { name := "fnLinear", fn := fun _ => fun
  | [d1, d2] => { results := [.lit (.bool false)], args := [d1, d2] }
  | _ => none }
def FnLinearWrongFalsely : Prop := fnLinearRow.holds Try.pinned (OpenSpec.ofChange fnLinearWrong)

/- THE SECOND FORM. 'bulk': how many values and letters a reading holds, each counted each time it is reached (what is shared counts as often as it is met; a slice's spare places count too). A statement '..UptoSaid' is the law's where the arguments, and the package variables that the reading takes, are together of bulk at most 1048576: NARROWER than '..Said'. Prove '..Said' where nothing that the law and all that it calls make is longer than what came in: it says more and counts as full. Else prove '..UptoSaid'. A law counts once. -/
mutual
def uptoBulk {H : Type} : DataW H → Nat
  | .lit (.string bytes) => bytes.length + 1
  | .lit _ => 1
  | .nil => 1
  | .ptr d => uptoBulk d + 1
  | .slice elems spare => uptoBulkAll elems + uptoBulkAll spare + 1
  | .agg parts => uptoBulkAll parts + 1
  | .iface _ d => uptoBulk d + 1
  | .map entries => uptoBulkEntries entries + 1
  | .held _ => 1
def uptoBulkAll {H : Type} : List (DataW H) → Nat
  | [] => 0
  | d :: r => uptoBulk d + uptoBulkAll r
def uptoBulkEntries {H : Type} : List (Lit × DataW H) → Nat
  | [] => 0
  | x :: r => uptoBulkEntry x + uptoBulkEntries r
def uptoBulkEntry {H : Type} : Lit × DataW H → Nat
  | (.string bytes, d) => bytes.length + uptoBulk d + 1
  | (_, d) => uptoBulk d + 1
 end
def uptoSmall : (H : Type) → List (DataW H) → Bool := fun _ ds => decide (uptoBulkAll ds ≤ 1048576)
def OpenSpec.upto (s : _root_.Go.ChangeSpec) : _root_.Go.OpenSpec := { _root_.Go.OpenSpec.ofChange s with cond := some uptoSmall }

/-- 'laws.FnExactSolveLinear', WHERE WHAT IT READS IS OF BULK AT MOST 1048576: true; the input reads as it did. -/
def fnExactSolveLinearUptoRow : OpenClaim := { program := "ytiimebiecihpkaa", sum := "431c51ae731818d67d303eb0fc8c9e28ba8fbbf950877df1246ff638eef96f21", func := "loop.example/g01091/laws.FnExactSolveLinear", spec := "fnExactSolveLinear", unfollowed := true, recurses := true, plainKeys := false, apart := false, narrowed := true }
def FnExactSolveLinearUptoSaid : Prop := fnExactSolveLinearUptoRow.holds Try.pinned (OpenSpec.upto fnExactSolveLinearSpec)

/-- 'laws.FnExactInverseMatrix', WHERE WHAT IT READS IS OF BULK AT MOST 1048576: true; the input reads as it did. -/
def fnExactInverseMatrixUptoRow : OpenClaim := { program := "ytiimebiecihpkaa", sum := "431c51ae731818d67d303eb0fc8c9e28ba8fbbf950877df1246ff638eef96f21", func := "loop.example/g01091/laws.FnExactInverseMatrix", spec := "fnExactInverseMatrix", unfollowed := true, recurses := true, plainKeys := false, apart := false, narrowed := true }
def FnExactInverseMatrixUptoSaid : Prop := fnExactInverseMatrixUptoRow.holds Try.pinned (OpenSpec.upto fnExactInverseMatrixSpec)

/-- 'laws.FnExactLinearFlow', WHERE WHAT IT READS IS OF BULK AT MOST 1048576: true; the input reads as it did. -/
def fnExactLinearFlowUptoRow : OpenClaim := { program := "ytiimebiecihpkaa", sum := "431c51ae731818d67d303eb0fc8c9e28ba8fbbf950877df1246ff638eef96f21", func := "loop.example/g01091/laws.FnExactLinearFlow", spec := "fnExactLinearFlow", unfollowed := true, recurses := true, plainKeys := false, apart := false, narrowed := true }
def FnExactLinearFlowUptoSaid : Prop := fnExactLinearFlowUptoRow.holds Try.pinned (OpenSpec.upto fnExactLinearFlowSpec)

/-- 'laws.FnExactValidExpr', WHERE WHAT IT READS IS OF BULK AT MOST 1048576: true; the input reads as it did. -/
def fnExactValidExprUptoRow : OpenClaim := { program := "ytiimebiecihpkaa", sum := "431c51ae731818d67d303eb0fc8c9e28ba8fbbf950877df1246ff638eef96f21", func := "loop.example/g01091/laws.FnExactValidExpr", spec := "fnExactValidExpr", recurses := true, loops := true, plainKeys := false, apart := false, narrowed := true }
def FnExactValidExprUptoSaid : Prop := fnExactValidExprUptoRow.holds Try.pinned (OpenSpec.upto fnExactValidExprSpec)

/-- 'laws.FnExactValidProgram', WHERE WHAT IT READS IS OF BULK AT MOST 1048576: true; the input reads as it did. -/
def fnExactValidProgramUptoRow : OpenClaim := { program := "ytiimebiecihpkaa", sum := "431c51ae731818d67d303eb0fc8c9e28ba8fbbf950877df1246ff638eef96f21", func := "loop.example/g01091/laws.FnExactValidProgram", spec := "fnExactValidProgram", unfollowed := true, recurses := true, loops := true, plainKeys := false, apart := false, narrowed := true }
def FnExactValidProgramUptoSaid : Prop := fnExactValidProgramUptoRow.holds Try.pinned (OpenSpec.upto fnExactValidProgramSpec)

/-- 'laws.FnExactFuncNamed', WHERE WHAT IT READS IS OF BULK AT MOST 1048576: true; the input reads as it did. -/
def fnExactFuncNamedUptoRow : OpenClaim := { program := "ytiimebiecihpkaa", sum := "431c51ae731818d67d303eb0fc8c9e28ba8fbbf950877df1246ff638eef96f21", func := "loop.example/g01091/laws.FnExactFuncNamed", spec := "fnExactFuncNamed", unfollowed := true, recurses := true, loops := true, plainKeys := false, apart := false, narrowed := true }
def FnExactFuncNamedUptoSaid : Prop := fnExactFuncNamedUptoRow.holds Try.pinned (OpenSpec.upto fnExactFuncNamedSpec)

/-- 'laws.FnExactCallsOf', WHERE WHAT IT READS IS OF BULK AT MOST 1048576: true; the input reads as it did. -/
def fnExactCallsOfUptoRow : OpenClaim := { program := "ytiimebiecihpkaa", sum := "431c51ae731818d67d303eb0fc8c9e28ba8fbbf950877df1246ff638eef96f21", func := "loop.example/g01091/laws.FnExactCallsOf", spec := "fnExactCallsOf", unfollowed := true, recurses := true, loops := true, plainKeys := false, apart := false, narrowed := true }
def FnExactCallsOfUptoSaid : Prop := fnExactCallsOfUptoRow.holds Try.pinned (OpenSpec.upto fnExactCallsOfSpec)

/-- 'laws.FnExactValidRound', WHERE WHAT IT READS IS OF BULK AT MOST 1048576: true; the input reads as it did. -/
def fnExactValidRoundUptoRow : OpenClaim := { program := "ytiimebiecihpkaa", sum := "431c51ae731818d67d303eb0fc8c9e28ba8fbbf950877df1246ff638eef96f21", func := "loop.example/g01091/laws.FnExactValidRound", spec := "fnExactValidRound", unfollowed := true, recurses := true, loops := true, plainKeys := false, apart := false, narrowed := true }
def FnExactValidRoundUptoSaid : Prop := fnExactValidRoundUptoRow.holds Try.pinned (OpenSpec.upto fnExactValidRoundSpec)

/-- 'laws.FnExactValidJob', WHERE WHAT IT READS IS OF BULK AT MOST 1048576: true; the input reads as it did. -/
def fnExactValidJobUptoRow : OpenClaim := { program := "ytiimebiecihpkaa", sum := "431c51ae731818d67d303eb0fc8c9e28ba8fbbf950877df1246ff638eef96f21", func := "loop.example/g01091/laws.FnExactValidJob", spec := "fnExactValidJob", unfollowed := true, recurses := true, loops := true, plainKeys := false, apart := false, narrowed := true }
def FnExactValidJobUptoSaid : Prop := fnExactValidJobUptoRow.holds Try.pinned (OpenSpec.upto fnExactValidJobSpec)

/-- 'laws.FnExactInputsOf', WHERE WHAT IT READS IS OF BULK AT MOST 1048576: true; the input reads as it did. -/
def fnExactInputsOfUptoRow : OpenClaim := { program := "ytiimebiecihpkaa", sum := "431c51ae731818d67d303eb0fc8c9e28ba8fbbf950877df1246ff638eef96f21", func := "loop.example/g01091/laws.FnExactInputsOf", spec := "fnExactInputsOf", unfollowed := true, recurses := true, plainKeys := false, apart := false, narrowed := true }
def FnExactInputsOfUptoSaid : Prop := fnExactInputsOfUptoRow.holds Try.pinned (OpenSpec.upto fnExactInputsOfSpec)

/-- 'laws.FnExactDerivePoly', WHERE WHAT IT READS IS OF BULK AT MOST 1048576: true; the input reads as it did. -/
def fnExactDerivePolyUptoRow : OpenClaim := { program := "ytiimebiecihpkaa", sum := "431c51ae731818d67d303eb0fc8c9e28ba8fbbf950877df1246ff638eef96f21", func := "loop.example/g01091/laws.FnExactDerivePoly", spec := "fnExactDerivePoly", plainKeys := false, apart := false, narrowed := true }
def FnExactDerivePolyUptoSaid : Prop := fnExactDerivePolyUptoRow.holds Try.pinned (OpenSpec.upto fnExactDerivePolySpec)

/-- 'laws.FnLinear', WHERE WHAT IT READS IS OF BULK AT MOST 1048576: true; the input reads as it did. -/
def fnLinearUptoRow : OpenClaim := { program := "ytiimebiecihpkaa", sum := "431c51ae731818d67d303eb0fc8c9e28ba8fbbf950877df1246ff638eef96f21", func := "loop.example/g01091/laws.FnLinear", spec := "fnLinear", unfollowed := true, recurses := true, plainKeys := false, apart := false, narrowed := true }
def FnLinearUptoSaid : Prop := fnLinearUptoRow.holds Try.pinned (OpenSpec.upto fnLinearSpec)

end Rows
end Go.Proofs.Ytiimebiecihpkaa
