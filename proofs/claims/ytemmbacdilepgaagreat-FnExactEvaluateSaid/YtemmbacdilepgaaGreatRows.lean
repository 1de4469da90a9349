/-
  NARROWER THAN 'FOR EVERY INPUT', by the rows' own cells (each row's printed sentence says how): FnExactEvaluate: loops · FnExactEvaluateSeries: loops · FnExactDirectional: loops · FnExactTaylorOf: loops · FnExactPathDerivative: loops · FnExactSlopeAlong: loops · FnExactRoundStates: loops · FnExactOpenTerms: loops · FnExactSumOf: loops.
  DERIVED. THE GIVEN ROWS OF THIS SEAT. 9 by the template 'for every input the law returns true; each argument reads behind the call as it read before'; 0 by the template 'total and deterministic' (their statements: YtemmbacdilepgaaGreatTotals.lean).
  GIVEN WITH THE SEED: the statements are not yours to turn. If you find one false, say at which input.
  Laid BY PROGRAM, IN A SANDBOX (cutbox-rows.mjs): the forced cells as the released guide's own fill.sh prints them over the translation 3541551581c8b02a… (all of the seat's roots in one cut). By AI agents, Wed Nov 11 2026. No macro, syntax, notation, axiom, sorry.
-/
import Derived.Test.YtemmbacdilepgaaGreatChecked
import GoSem.Claim
import GoSem.ClaimJoined
import GoSem.ClaimMapViews
import Derived.JoinedTies
import Derived.KernelRfl
namespace Go.Proofs.YtemmbacdilepgaaGreat
/- THE CELL 'sum', in the pinned program and in every row, IS THE sha256 OF THE DUMP (.gsa) THAT YtemmbacdilepgaaGreatProg.lean LOADS. Nothing in Lean hashes anything: it is a label: what it is worth is what the hold of that sum in a sandbox is worth. -/
noncomputable def Tryz.pinned : Pinned := { name := "ytemmbacdilepgaagreat", sum := "3541551581c8b02a6f5b475ef6f24c7e3a63bcca7705e03d1cb9ce703b362a43", checked := Tryz.checked }
namespace Rows
def none {H : Type} : Left H := { results := [], args := [] }

/-- 'laws.FnExactEvaluate': WHATEVER THE INPUT: true; the input reads as it did. -/
def fnExactEvaluateSpec : ChangeSpec := { name := "fnExactEvaluate", fn := fun _ => fun
  | [d1, d2, d3] => { results := [.lit (.bool true)], args := [d1, d2, d3] }
  | _ => none }
def fnExactEvaluateRow : OpenClaim := { program := "ytemmbacdilepgaagreat", sum := "3541551581c8b02a6f5b475ef6f24c7e3a63bcca7705e03d1cb9ce703b362a43", func := "loop.example/g01091/laws.FnExactEvaluate", spec := "fnExactEvaluate", unfollowed := true, recurses := true, loops := true, apart := false }
def FnExactEvaluateSaid : Prop := fnExactEvaluateRow.holds Tryz.pinned (OpenSpec.ofChange fnExactEvaluateSpec)

/-- ITS FALSE NEIGHBOUR: 'it returns false'. Refute it at one input. -/
def fnExactEvaluateWrong : ChangeSpec := { name := "fnExactEvaluate", fn := fun _ => fun
  | [d1, d2, d3] => { results := [.lit (.bool false)], args := [d1, d2, d3] }
  | _ => none }
def FnExactEvaluateWrongFalsely : Prop := fnExactEvaluateRow.holds Tryz.pinned (OpenSpec.ofChange fnExactEvaluateWrong)

/-- 'laws.FnExactEvaluateSeries': WHATEVER THE INPUT: true; the input reads as it did. -/
def fnExactEvaluateSeriesSpec : ChangeSpec := { name := "fnExactEvaluateSeries", fn := fun _ => fun
  | [d1, d2, d3] => { results := [.lit (.bool true)], args := [d1, d2, d3] }
  | _ => none }
def fnExactEvaluateSeriesRow : OpenClaim := { program := "ytemmbacdilepgaagreat", sum := "3541551581c8b02a6f5b475ef6f24c7e3a63bcca7705e03d1cb9ce703b362a43", func := "loop.example/g01091/laws.FnExactEvaluateSeries", spec := "fnExactEvaluateSeries", unfollowed := true, recurses := true, loops := true, apart := false }
def FnExactEvaluateSeriesSaid : Prop := fnExactEvaluateSeriesRow.holds Tryz.pinned (OpenSpec.ofChange fnExactEvaluateSeriesSpec)

/-- ITS FALSE NEIGHBOUR: 'it returns false'. Refute it at one input. -/
def fnExactEvaluateSeriesWrong : ChangeSpec := { name := "fnExactEvaluateSeries", fn := fun _ => fun
  | [d1, d2, d3] => { results := [.lit (.bool false)], args := [d1, d2, d3] }
  | _ => none }
def FnExactEvaluateSeriesWrongFalsely : Prop := fnExactEvaluateSeriesRow.holds Tryz.pinned (OpenSpec.ofChange fnExactEvaluateSeriesWrong)

/-- 'laws.FnExactDirectional': WHATEVER THE INPUT: true; the input reads as it did. -/
def fnExactDirectionalSpec : ChangeSpec := { name := "fnExactDirectional", fn := fun _ => fun
  | [d1, d2, d3, d4] => { results := [.lit (.bool true)], args := [d1, d2, d3, d4] }
  | _ => none }
def fnExactDirectionalRow : OpenClaim := { program := "ytemmbacdilepgaagreat", sum := "3541551581c8b02a6f5b475ef6f24c7e3a63bcca7705e03d1cb9ce703b362a43", func := "loop.example/g01091/laws.FnExactDirectional", spec := "fnExactDirectional", unfollowed := true, recurses := true, loops := true, apart := false }
def FnExactDirectionalSaid : Prop := fnExactDirectionalRow.holds Tryz.pinned (OpenSpec.ofChange fnExactDirectionalSpec)

/-- ITS FALSE NEIGHBOUR: 'it returns false'. Refute it at one input. -/
def fnExactDirectionalWrong : ChangeSpec := { name := "fnExactDirectional", fn := fun _ => fun
  | [d1, d2, d3, d4] => { results := [.lit (.bool false)], args := [d1, d2, d3, d4] }
  | _ => none }
def FnExactDirectionalWrongFalsely : Prop := fnExactDirectionalRow.holds Tryz.pinned (OpenSpec.ofChange fnExactDirectionalWrong)

/-- 'laws.FnExactTaylorOf': WHATEVER THE INPUT: true; the input reads as it did. -/
def fnExactTaylorOfSpec : ChangeSpec := { name := "fnExactTaylorOf", fn := fun _ => fun
  | [d1, d2, d3, d4, d5] => { results := [.lit (.bool true)], args := [d1, d2, d3, d4, d5] }
  | _ => none }
def fnExactTaylorOfRow : OpenClaim := { program := "ytemmbacdilepgaagreat", sum := "3541551581c8b02a6f5b475ef6f24c7e3a63bcca7705e03d1cb9ce703b362a43", func := "loop.example/g01091/laws.FnExactTaylorOf", spec := "fnExactTaylorOf", unfollowed := true, recurses := true, loops := true, apart := false }
def FnExactTaylorOfSaid : Prop := fnExactTaylorOfRow.holds Tryz.pinned (OpenSpec.ofChange fnExactTaylorOfSpec)

/-- ITS FALSE NEIGHBOUR: 'it returns false'. Refute it at one input. -/
def fnExactTaylorOfWrong : ChangeSpec := { name := "fnExactTaylorOf", fn := fun _ => fun
  | [d1, d2, d3, d4, d5] => { results := [.lit (.bool false)], args := [d1, d2, d3, d4, d5] }
  | _ => none }
def FnExactTaylorOfWrongFalsely : Prop := fnExactTaylorOfRow.holds Tryz.pinned (OpenSpec.ofChange fnExactTaylorOfWrong)

/-- 'laws.FnExactPathDerivative': WHATEVER THE INPUT: true; the input reads as it did. -/
def fnExactPathDerivativeSpec : ChangeSpec := { name := "fnExactPathDerivative", fn := fun _ => fun
  | [d1, d2, d3, d4] => { results := [.lit (.bool true)], args := [d1, d2, d3, d4] }
  | _ => none }
def fnExactPathDerivativeRow : OpenClaim := { program := "ytemmbacdilepgaagreat", sum := "3541551581c8b02a6f5b475ef6f24c7e3a63bcca7705e03d1cb9ce703b362a43", func := "loop.example/g01091/laws.FnExactPathDerivative", spec := "fnExactPathDerivative", unfollowed := true, recurses := true, loops := true, apart := false }
def FnExactPathDerivativeSaid : Prop := fnExactPathDerivativeRow.holds Tryz.pinned (OpenSpec.ofChange fnExactPathDerivativeSpec)

/-- ITS FALSE NEIGHBOUR: 'it returns false'. Refute it at one input. -/
def fnExactPathDerivativeWrong : ChangeSpec := { name := "fnExactPathDerivative", fn := fun _ => fun
  | [d1, d2, d3, d4] => { results := [.lit (.bool false)], args := [d1, d2, d3, d4] }
  | _ => none }
def FnExactPathDerivativeWrongFalsely : Prop := fnExactPathDerivativeRow.holds Tryz.pinned (OpenSpec.ofChange fnExactPathDerivativeWrong)

/-- 'laws.FnExactSlopeAlong': WHATEVER THE INPUT: true; the input reads as it did. -/
def fnExactSlopeAlongSpec : ChangeSpec := { name := "fnExactSlopeAlong", fn := fun _ => fun
  | [d1, d2, d3, d4, d5, d6] => { results := [.lit (.bool true)], args := [d1, d2, d3, d4, d5, d6] }
  | _ => none }
def fnExactSlopeAlongRow : OpenClaim := { program := "ytemmbacdilepgaagreat", sum := "3541551581c8b02a6f5b475ef6f24c7e3a63bcca7705e03d1cb9ce703b362a43", func := "loop.example/g01091/laws.FnExactSlopeAlong", spec := "fnExactSlopeAlong", unfollowed := true, recurses := true, loops := true, apart := false }
def FnExactSlopeAlongSaid : Prop := fnExactSlopeAlongRow.holds Tryz.pinned (OpenSpec.ofChange fnExactSlopeAlongSpec)

/-- ITS FALSE NEIGHBOUR: 'it returns false'. Refute it at one input. -/
def fnExactSlopeAlongWrong : ChangeSpec := { name := "fnExactSlopeAlong", fn := fun _ => fun
  | [d1, d2, d3, d4, d5, d6] => { results := [.lit (.bool false)], args := [d1, d2, d3, d4, d5, d6] }
  | _ => none }
def FnExactSlopeAlongWrongFalsely : Prop := fnExactSlopeAlongRow.holds Tryz.pinned (OpenSpec.ofChange fnExactSlopeAlongWrong)

/-- 'laws.FnExactRoundStates': WHATEVER THE INPUT: true; the input reads as it did. -/
def fnExactRoundStatesSpec : ChangeSpec := { name := "fnExactRoundStates", fn := fun _ => fun
  | [d1, d2, d3, d4] => { results := [.lit (.bool true)], args := [d1, d2, d3, d4] }
  | _ => none }
def fnExactRoundStatesRow : OpenClaim := { program := "ytemmbacdilepgaagreat", sum := "3541551581c8b02a6f5b475ef6f24c7e3a63bcca7705e03d1cb9ce703b362a43", func := "loop.example/g01091/laws.FnExactRoundStates", spec := "fnExactRoundStates", unfollowed := true, recurses := true, loops := true, apart := false }
def FnExactRoundStatesSaid : Prop := fnExactRoundStatesRow.holds Tryz.pinned (OpenSpec.ofChange fnExactRoundStatesSpec)

/-- ITS FALSE NEIGHBOUR: 'it returns false'. Refute it at one input. -/
def fnExactRoundStatesWrong : ChangeSpec := { name := "fnExactRoundStates", fn := fun _ => fun
  | [d1, d2, d3, d4] => { results := [.lit (.bool false)], args := [d1, d2, d3, d4] }
  | _ => none }
def FnExactRoundStatesWrongFalsely : Prop := fnExactRoundStatesRow.holds Tryz.pinned (OpenSpec.ofChange fnExactRoundStatesWrong)

/-- 'laws.FnExactOpenTerms': WHATEVER THE INPUT: true; the input reads as it did. -/
def fnExactOpenTermsSpec : ChangeSpec := { name := "fnExactOpenTerms", fn := fun _ => fun
  | [d] => { results := [.lit (.bool true)], args := [d] }
  | _ => none }
def fnExactOpenTermsRow : OpenClaim := { program := "ytemmbacdilepgaagreat", sum := "3541551581c8b02a6f5b475ef6f24c7e3a63bcca7705e03d1cb9ce703b362a43", func := "loop.example/g01091/laws.FnExactOpenTerms", spec := "fnExactOpenTerms", unfollowed := true, recurses := true, loops := true, apart := false }
def FnExactOpenTermsSaid : Prop := fnExactOpenTermsRow.holds Tryz.pinned (OpenSpec.ofChange fnExactOpenTermsSpec)

/-- ITS FALSE NEIGHBOUR: 'it returns false'. Refute it at one input. -/
def fnExactOpenTermsWrong : ChangeSpec := { name := "fnExactOpenTerms", fn := fun _ => fun
  | [d] => { results := [.lit (.bool false)], args := [d] }
  | _ => none }
def FnExactOpenTermsWrongFalsely : Prop := fnExactOpenTermsRow.holds Tryz.pinned (OpenSpec.ofChange fnExactOpenTermsWrong)

/-- 'laws.FnExactSumOf': WHATEVER THE INPUT: true; the input reads as it did. -/
def fnExactSumOfSpec : ChangeSpec := { name := "fnExactSumOf", fn := fun _ => fun
  | [d] => { results := [.lit (.bool true)], args := [d] }
  | _ => none }
def fnExactSumOfRow : OpenClaim := { program := "ytemmbacdilepgaagreat", sum := "3541551581c8b02a6f5b475ef6f24c7e3a63bcca7705e03d1cb9ce703b362a43", func := "loop.example/g01091/laws.FnExactSumOf", spec := "fnExactSumOf", unfollowed := true, recurses := true, loops := true, apart := false }
def FnExactSumOfSaid : Prop := fnExactSumOfRow.holds Tryz.pinned (OpenSpec.ofChange fnExactSumOfSpec)

/-- ITS FALSE NEIGHBOUR: 'it returns false'. Refute it at one input. -/
def fnExactSumOfWrong : ChangeSpec := { name := "fnExactSumOf", fn := fun _ => fun
  | [d] => { results := [.lit (.bool false)], args := [d] }
  | _ => none }
def FnExactSumOfWrongFalsely : Prop := fnExactSumOfRow.holds Tryz.pinned (OpenSpec.ofChange fnExactSumOfWrong)

/- THE SECOND FORM. 'bulk': how many values and letters a reading holds, each counted each time it is reached (what is shared counts as often as it is met; a slice's spare places count too). A statement '..UptoSaid' is the law's where the arguments, and the package variables that the reading takes, are together of bulk at most 1048576: NARROWER than '..Said'. Prove '..Said' where nothing that the law and all that it calls make is longer than what came in: it says more and counts as full. Else prove '..UptoSaid'. A law counts once. -/
mutual
def uptoBulk {H : Type} : DataW H → Nat
  | .lit (.string bytes) => bytes.length + 1
  | .lit _ => 1
  | .nil => 1
  | .ptr d => uptoBulk d + 1
  | .slice elems spare => uptoBulkAll elems + uptoBulkAll spare + 1
  | .agg parts => uptoBulkAll parts + 1
  | .iface _ d => uptoBulk d + 1
  | .map entries => uptoBulkEntries entries + 1
  | .held _ => 1
def uptoBulkAll {H : Type} : List (DataW H) → Nat
  | [] => 0
  | d :: r => uptoBulk d + uptoBulkAll r
def uptoBulkEntries {H : Type} : List (Lit × DataW H) → Nat
  | [] => 0
  | x :: r => uptoBulkEntry x + uptoBulkEntries r
def uptoBulkEntry {H : Type} : Lit × DataW H → Nat
  | (.string bytes, d) => bytes.length + uptoBulk d + 1
  | (_, d) => uptoBulk d + 1
 end
def uptoSmall : (H : Type) → List (DataW H) → Bool := fun _ ds => decide (uptoBulkAll ds ≤ 1048576)
def OpenSpec.upto (s : _root_.Go.ChangeSpec) : _root_.Go.OpenSpec := { _root_.Go.OpenSpec.ofChange s with cond := some uptoSmall }

/-- 'laws.FnExactEvaluate', WHERE WHAT IT READS IS OF BULK AT MOST 1048576: true; the input reads as it did. -/
def fnExactEvaluateUptoRow : OpenClaim := { program := "ytemmbacdilepgaagreat", sum := "3541551581c8b02a6f5b475ef6f24c7e3a63bcca7705e03d1cb9ce703b362a43", func := "loop.example/g01091/laws.FnExactEvaluate", spec := "fnExactEvaluate", unfollowed := true, recurses := true, loops := true, apart := false, narrowed := true }
def FnExactEvaluateUptoSaid : Prop := fnExactEvaluateUptoRow.holds Tryz.pinned (OpenSpec.upto fnExactEvaluateSpec)

/-- 'laws.FnExactEvaluateSeries', WHERE WHAT IT READS IS OF BULK AT MOST 1048576: true; the input reads as it did. -/
def fnExactEvaluateSeriesUptoRow : OpenClaim := { program := "ytemmbacdilepgaagreat", sum := "3541551581c8b02a6f5b475ef6f24c7e3a63bcca7705e03d1cb9ce703b362a43", func := "loop.example/g01091/laws.FnExactEvaluateSeries", spec := "fnExactEvaluateSeries", unfollowed := true, recurses := true, loops := true, apart := false, narrowed := true }
def FnExactEvaluateSeriesUptoSaid : Prop := fnExactEvaluateSeriesUptoRow.holds Tryz.pinned (OpenSpec.upto fnExactEvaluateSeriesSpec)

/-- 'laws.FnExactDirectional', WHERE WHAT IT READS IS OF BULK AT MOST 1048576: true; the input reads as it did. -/
def fnExactDirectionalUptoRow : OpenClaim := { program := "ytemmbacdilepgaagreat", sum := "3541551581c8b02a6f5b475ef6f24c7e3a63bcca7705e03d1cb9ce703b362a43", func := "loop.example/g01091/laws.FnExactDirectional", spec := "fnExactDirectional", unfollowed := true, recurses := true, loops := true, apart := false, narrowed := true }
def FnExactDirectionalUptoSaid : Prop := fnExactDirectionalUptoRow.holds Tryz.pinned (OpenSpec.upto fnExactDirectionalSpec)

/-- 'laws.FnExactTaylorOf', WHERE WHAT IT READS IS OF BULK AT MOST 1048576: true; the input reads as it did. -/
def fnExactTaylorOfUptoRow : OpenClaim := { program := "ytemmbacdilepgaagreat", sum := "3541551581c8b02a6f5b475ef6f24c7e3a63bcca7705e03d1cb9ce703b362a43", func := "loop.example/g01091/laws.FnExactTaylorOf", spec := "fnExactTaylorOf", unfollowed := true, recurses := true, loops := true, apart := false, narrowed := true }
def FnExactTaylorOfUptoSaid : Prop := fnExactTaylorOfUptoRow.holds Tryz.pinned (OpenSpec.upto fnExactTaylorOfSpec)

/-- 'laws.FnExactPathDerivative', WHERE WHAT IT READS IS OF BULK AT MOST 1048576: true; the input reads as it did. -/
def fnExactPathDerivativeUptoRow : OpenClaim := { program := "ytemmbacdilepgaagreat", sum := "3541551581c8b02a6f5b475ef6f24c7e3a63bcca7705e03d1cb9ce703b362a43", func := "loop.example/g01091/laws.FnExactPathDerivative", spec := "fnExactPathDerivative", unfollowed := true, recurses := true, loops := true, apart := false, narrowed := true }
def FnExactPathDerivativeUptoSaid : Prop := fnExactPathDerivativeUptoRow.holds Tryz.pinned (OpenSpec.upto fnExactPathDerivativeSpec)

/-- 'laws.FnExactSlopeAlong', WHERE WHAT IT READS IS OF BULK AT MOST 1048576: true; the input reads as it did. -/
def fnExactSlopeAlongUptoRow : OpenClaim := { program := "ytemmbacdilepgaagreat", sum := "3541551581c8b02a6f5b475ef6f24c7e3a63bcca7705e03d1cb9ce703b362a43", func := "loop.example/g01091/laws.FnExactSlopeAlong", spec := "fnExactSlopeAlong", unfollowed := true, recurses := true, loops := true, apart := false, narrowed := true }
def FnExactSlopeAlongUptoSaid : Prop := fnExactSlopeAlongUptoRow.holds Tryz.pinned (OpenSpec.upto fnExactSlopeAlongSpec)

/-- 'laws.FnExactRoundStates', WHERE WHAT IT READS IS OF BULK AT MOST 1048576: true; the input reads as it did. -/
def fnExactRoundStatesUptoRow : OpenClaim := { program := "ytemmbacdilepgaagreat", sum := "3541551581c8b02a6f5b475ef6f24c7e3a63bcca7705e03d1cb9ce703b362a43", func := "loop.example/g01091/laws.FnExactRoundStates", spec := "fnExactRoundStates", unfollowed := true, recurses := true, loops := true, apart := false, narrowed := true }
def FnExactRoundStatesUptoSaid : Prop := fnExactRoundStatesUptoRow.holds Tryz.pinned (OpenSpec.upto fnExactRoundStatesSpec)

/-- 'laws.FnExactOpenTerms', WHERE WHAT IT READS IS OF BULK AT MOST 1048576: true; the input reads as it did. -/
def fnExactOpenTermsUptoRow : OpenClaim := { program := "ytemmbacdilepgaagreat", sum := "3541551581c8b02a6f5b475ef6f24c7e3a63bcca7705e03d1cb9ce703b362a43", func := "loop.example/g01091/laws.FnExactOpenTerms", spec := "fnExactOpenTerms", unfollowed := true, recurses := true, loops := true, apart := false, narrowed := true }
def FnExactOpenTermsUptoSaid : Prop := fnExactOpenTermsUptoRow.holds Tryz.pinned (OpenSpec.upto fnExactOpenTermsSpec)

/-- 'laws.FnExactSumOf', WHERE WHAT IT READS IS OF BULK AT MOST 1048576: true; the input reads as it did. -/
def fnExactSumOfUptoRow : OpenClaim := { program := "ytemmbacdilepgaagreat", sum := "3541551581c8b02a6f5b475ef6f24c7e3a63bcca7705e03d1cb9ce703b362a43", func := "loop.example/g01091/laws.FnExactSumOf", spec := "fnExactSumOf", unfollowed := true, recurses := true, loops := true, apart := false, narrowed := true }
def FnExactSumOfUptoSaid : Prop := fnExactSumOfUptoRow.holds Tryz.pinned (OpenSpec.upto fnExactSumOfSpec)

end Rows
end Go.Proofs.YtemmbacdilepgaaGreat
