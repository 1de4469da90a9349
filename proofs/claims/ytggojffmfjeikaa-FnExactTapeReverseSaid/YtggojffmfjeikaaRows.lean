/-
  No cell of these rows narrows 'for every input' (looked for: loops, veiled, ifaces, maps, wideKeys, modest, calm, conditions, laid).
  DERIVED. THE GIVEN ROWS OF THIS SEAT. 6 by the template 'for every input the law returns true; each argument reads behind the call as it read before'; 0 by the template 'total and deterministic' (their statements: YtggojffmfjeikaaTotals.lean).
  GIVEN WITH THE SEED: the statements are not yours to turn. If you find one false, say at which input.
  Laid BY PROGRAM, IN A SANDBOX (cutbox-rows.mjs): the forced cells as the released guide's own fill.sh prints them over the translation 79c962cb41beb824… (all of the seat's roots in one cut). By AI agents, Wed Nov 11 2026. No macro, syntax, notation, axiom, sorry.
-/
import Derived.Test.YtggojffmfjeikaaChecked
import GoSem.Claim
import GoSem.ClaimJoined
import GoSem.ClaimMapViews
import Derived.JoinedTies
import Derived.KernelRfl
namespace Go.Proofs.Ytggojffmfjeikaa
/- THE CELL 'sum', in the pinned program and in every row, IS THE sha256 OF THE DUMP (.gsa) THAT YtggojffmfjeikaaProg.lean LOADS. Nothing in Lean hashes anything: it is a label: what it is worth is what the hold of that sum in a sandbox is worth. -/
noncomputable def Try.pinned : Pinned := { name := "ytggojffmfjeikaa", sum := "79c962cb41beb82499b9fab9dc2a0e236376eac11b7d5bcada91a511c333757f", checked := Try.checked }
namespace Rows
def none {H : Type} : Left H := { results := [], args := [] }

/-- 'laws.FnExactValidPoly': WHATEVER THE INPUT: true; the input reads as it did. -/
def fnExactValidPolySpec : ChangeSpec := { name := "fnExactValidPoly", fn := fun _ => fun
  | [d] => { results := [.lit (.bool true)], args := [d] }
  | _ => none }
def fnExactValidPolyRow : OpenClaim := { program := "ytggojffmfjeikaa", sum := "79c962cb41beb82499b9fab9dc2a0e236376eac11b7d5bcada91a511c333757f", func := "loop.example/g01091/laws.FnExactValidPoly", spec := "fnExactValidPoly", plainKeys := false, apart := false }
def FnExactValidPolySaid : Prop := fnExactValidPolyRow.holds Try.pinned (OpenSpec.ofChange fnExactValidPolySpec)

/-- ITS FALSE NEIGHBOUR: 'it returns false'. Refute it at one input. -/
def fnExactValidPolyWrong : ChangeSpec := { name := "fnExactValidPoly", fn := fun _ => fun
  | [d] => { results := [.lit (.bool false)], args := [d] }
  | _ => none }
def FnExactValidPolyWrongFalsely : Prop := fnExactValidPolyRow.holds Try.pinned (OpenSpec.ofChange fnExactValidPolyWrong)

/-- 'laws.FnExactDerivePoly': WHATEVER THE INPUT: true; the input reads as it did. -/
def fnExactDerivePolySpec : ChangeSpec := { name := "fnExactDerivePoly", fn := fun _ => fun
  | [d1, d2] => { results := [.lit (.bool true)], args := [d1, d2] }
  | _ => none }
def fnExactDerivePolyRow : OpenClaim := { program := "ytggojffmfjeikaa", sum := "79c962cb41beb82499b9fab9dc2a0e236376eac11b7d5bcada91a511c333757f", func := "loop.example/g01091/laws.FnExactDerivePoly", spec := "fnExactDerivePoly", plainKeys := false, apart := false }
def FnExactDerivePolySaid : Prop := fnExactDerivePolyRow.holds Try.pinned (OpenSpec.ofChange fnExactDerivePolySpec)

/-- ITS FALSE NEIGHBOUR: 'it returns false'. Refute it at one input. -/
def fnExactDerivePolyWrong : ChangeSpec := { name := "fnExactDerivePoly", fn := fun _ => fun
  | [d1, d2] => { results := [.lit (.bool false)], args := [d1, d2] }
  | _ => none }
def FnExactDerivePolyWrongFalsely : Prop := fnExactDerivePolyRow.holds Try.pinned (OpenSpec.ofChange fnExactDerivePolyWrong)

/-- 'laws.FnExactPolyValue': WHATEVER THE INPUT: true; the input reads as it did. -/
def fnExactPolyValueSpec : ChangeSpec := { name := "fnExactPolyValue", fn := fun _ => fun
  | [d1, d2] => { results := [.lit (.bool true)], args := [d1, d2] }
  | _ => none }
def fnExactPolyValueRow : OpenClaim := { program := "ytggojffmfjeikaa", sum := "79c962cb41beb82499b9fab9dc2a0e236376eac11b7d5bcada91a511c333757f", func := "loop.example/g01091/laws.FnExactPolyValue", spec := "fnExactPolyValue", plainKeys := false, apart := false }
def FnExactPolyValueSaid : Prop := fnExactPolyValueRow.holds Try.pinned (OpenSpec.ofChange fnExactPolyValueSpec)

/-- ITS FALSE NEIGHBOUR: 'it returns false'. Refute it at one input. -/
def fnExactPolyValueWrong : ChangeSpec := { name := "fnExactPolyValue", fn := fun _ => fun
  | [d1, d2] => { results := [.lit (.bool false)], args := [d1, d2] }
  | _ => none }
def FnExactPolyValueWrongFalsely : Prop := fnExactPolyValueRow.holds Try.pinned (OpenSpec.ofChange fnExactPolyValueWrong)

/-- 'laws.FnExactInputsOf': WHATEVER THE INPUT: true; the input reads as it did. -/
def fnExactInputsOfSpec : ChangeSpec := { name := "fnExactInputsOf", fn := fun _ => fun
  | [d1, d2] => { results := [.lit (.bool true)], args := [d1, d2] }
  | _ => none }
def fnExactInputsOfRow : OpenClaim := { program := "ytggojffmfjeikaa", sum := "79c962cb41beb82499b9fab9dc2a0e236376eac11b7d5bcada91a511c333757f", func := "loop.example/g01091/laws.FnExactInputsOf", spec := "fnExactInputsOf", unfollowed := true, recurses := true, plainKeys := false, apart := false }
def FnExactInputsOfSaid : Prop := fnExactInputsOfRow.holds Try.pinned (OpenSpec.ofChange fnExactInputsOfSpec)

/-- ITS FALSE NEIGHBOUR: 'it returns false'. Refute it at one input. -/
def fnExactInputsOfWrong : ChangeSpec := { name := "fnExactInputsOf", fn := fun _ => fun
  | [d1, d2] => { results := [.lit (.bool false)], args := [d1, d2] }
  | _ => none }
def FnExactInputsOfWrongFalsely : Prop := fnExactInputsOfRow.holds Try.pinned (OpenSpec.ofChange fnExactInputsOfWrong)

/-- 'laws.FnExactTapeReverse': WHATEVER THE INPUT: true; the input reads as it did. -/
def fnExactTapeReverseSpec : ChangeSpec := { name := "fnExactTapeReverse", fn := fun _ => fun
  | [d1, d2, d3] => { results := [.lit (.bool true)], args := [d1, d2, d3] }
  | _ => none }
def fnExactTapeReverseRow : OpenClaim := { program := "ytggojffmfjeikaa", sum := "79c962cb41beb82499b9fab9dc2a0e236376eac11b7d5bcada91a511c333757f", func := "loop.example/g01091/laws.FnExactTapeReverse", spec := "fnExactTapeReverse", unfollowed := true, recurses := true, plainKeys := false, apart := false }
def FnExactTapeReverseSaid : Prop := fnExactTapeReverseRow.holds Try.pinned (OpenSpec.ofChange fnExactTapeReverseSpec)

/-- ITS FALSE NEIGHBOUR: 'it returns false'. Refute it at one input. -/
def fnExactTapeReverseWrong : ChangeSpec := { name := "fnExactTapeReverse", fn := fun _ => fun
  | [d1, d2, d3] => { results := [.lit (.bool false)], args := [d1, d2, d3] }
  | _ => none }
def FnExactTapeReverseWrongFalsely : Prop := fnExactTapeReverseRow.holds Try.pinned (OpenSpec.ofChange fnExactTapeReverseWrong)

/-- 'laws.FnExactAdjointsOf': WHATEVER THE INPUT: true; the input reads as it did. -/
def fnExactAdjointsOfSpec : ChangeSpec := { name := "fnExactAdjointsOf", fn := fun _ => fun
  | [d1, d2, d3] => { results := [.lit (.bool true)], args := [d1, d2, d3] }
  | _ => none }
def fnExactAdjointsOfRow : OpenClaim := { program := "ytggojffmfjeikaa", sum := "79c962cb41beb82499b9fab9dc2a0e236376eac11b7d5bcada91a511c333757f", func := "loop.example/g01091/laws.FnExactAdjointsOf", spec := "fnExactAdjointsOf", unfollowed := true, recurses := true, plainKeys := false, apart := false }
def FnExactAdjointsOfSaid : Prop := fnExactAdjointsOfRow.holds Try.pinned (OpenSpec.ofChange fnExactAdjointsOfSpec)

/-- ITS FALSE NEIGHBOUR: 'it returns false'. Refute it at one input. -/
def fnExactAdjointsOfWrong : ChangeSpec := { name := "fnExactAdjointsOf", fn := fun _ => fun
  | [d1, d2, d3] => { results := [.lit (.bool false)], args := [d1, d2, d3] }
  | _ => none }
def FnExactAdjointsOfWrongFalsely : Prop := fnExactAdjointsOfRow.holds Try.pinned (OpenSpec.ofChange fnExactAdjointsOfWrong)

/- THE SECOND FORM. 'bulk': how many values and letters a reading holds, each counted each time it is reached (what is shared counts as often as it is met; a slice's spare places count too). A statement '..UptoSaid' is the law's where the arguments, and the package variables that the reading takes, are together of bulk at most 1048576: NARROWER than '..Said'. Prove '..Said' where nothing that the law and all that it calls make is longer than what came in: it says more and counts as full. Else prove '..UptoSaid'. A law counts once. -/
mutual
def uptoBulk {H : Type} : DataW H → Nat
  | .lit (.string bytes) => bytes.length + 1
  | .lit _ => 1
  | .nil => 1
  | .ptr d => uptoBulk d + 1
  | .slice elems spare => uptoBulkAll elems + uptoBulkAll spare + 1
  | .agg parts => uptoBulkAll parts + 1
  | .iface _ d => uptoBulk d + 1
  | .map entries => uptoBulkEntries entries + 1
  | .held _ => 1
def uptoBulkAll {H : Type} : List (DataW H) → Nat
  | [] => 0
  | d :: r => uptoBulk d + uptoBulkAll r
def uptoBulkEntries {H : Type} : List (Lit × DataW H) → Nat
  | [] => 0
  | x :: r => uptoBulkEntry x + uptoBulkEntries r
def uptoBulkEntry {H : Type} : Lit × DataW H → Nat
  | (.string bytes, d) => bytes.length + uptoBulk d + 1
  | (_, d) => uptoBulk d + 1
 end
def uptoSmall : (H : Type) → List (DataW H) → Bool := fun _ ds => decide (uptoBulkAll ds ≤ 1048576)
def OpenSpec.upto (s : _root_.Go.ChangeSpec) : _root_.Go.OpenSpec := { _root_.Go.OpenSpec.ofChange s with cond := some uptoSmall }

/-- 'laws.FnExactValidPoly', WHERE WHAT IT READS IS OF BULK AT MOST 1048576: true; the input reads as it did. -/
def fnExactValidPolyUptoRow : OpenClaim := { program := "ytggojffmfjeikaa", sum := "79c962cb41beb82499b9fab9dc2a0e236376eac11b7d5bcada91a511c333757f", func := "loop.example/g01091/laws.FnExactValidPoly", spec := "fnExactValidPoly", plainKeys := false, apart := false, narrowed := true }
def FnExactValidPolyUptoSaid : Prop := fnExactValidPolyUptoRow.holds Try.pinned (OpenSpec.upto fnExactValidPolySpec)

/-- 'laws.FnExactDerivePoly', WHERE WHAT IT READS IS OF BULK AT MOST 1048576: true; the input reads as it did. -/
def fnExactDerivePolyUptoRow : OpenClaim := { program := "ytggojffmfjeikaa", sum := "79c962cb41beb82499b9fab9dc2a0e236376eac11b7d5bcada91a511c333757f", func := "loop.example/g01091/laws.FnExactDerivePoly", spec := "fnExactDerivePoly", plainKeys := false, apart := false, narrowed := true }
def FnExactDerivePolyUptoSaid : Prop := fnExactDerivePolyUptoRow.holds Try.pinned (OpenSpec.upto fnExactDerivePolySpec)

/-- 'laws.FnExactPolyValue', WHERE WHAT IT READS IS OF BULK AT MOST 1048576: true; the input reads as it did. -/
def fnExactPolyValueUptoRow : OpenClaim := { program := "ytggojffmfjeikaa", sum := "79c962cb41beb82499b9fab9dc2a0e236376eac11b7d5bcada91a511c333757f", func := "loop.example/g01091/laws.FnExactPolyValue", spec := "fnExactPolyValue", plainKeys := false, apart := false, narrowed := true }
def FnExactPolyValueUptoSaid : Prop := fnExactPolyValueUptoRow.holds Try.pinned (OpenSpec.upto fnExactPolyValueSpec)

/-- 'laws.FnExactInputsOf', WHERE WHAT IT READS IS OF BULK AT MOST 1048576: true; the input reads as it did. -/
def fnExactInputsOfUptoRow : OpenClaim := { program := "ytggojffmfjeikaa", sum := "79c962cb41beb82499b9fab9dc2a0e236376eac11b7d5bcada91a511c333757f", func := "loop.example/g01091/laws.FnExactInputsOf", spec := "fnExactInputsOf", unfollowed := true, recurses := true, plainKeys := false, apart := false, narrowed := true }
def FnExactInputsOfUptoSaid : Prop := fnExactInputsOfUptoRow.holds Try.pinned (OpenSpec.upto fnExactInputsOfSpec)

/-- 'laws.FnExactTapeReverse', WHERE WHAT IT READS IS OF BULK AT MOST 1048576: true; the input reads as it did. -/
def fnExactTapeReverseUptoRow : OpenClaim := { program := "ytggojffmfjeikaa", sum := "79c962cb41beb82499b9fab9dc2a0e236376eac11b7d5bcada91a511c333757f", func := "loop.example/g01091/laws.FnExactTapeReverse", spec := "fnExactTapeReverse", unfollowed := true, recurses := true, plainKeys := false, apart := false, narrowed := true }
def FnExactTapeReverseUptoSaid : Prop := fnExactTapeReverseUptoRow.holds Try.pinned (OpenSpec.upto fnExactTapeReverseSpec)

/-- 'laws.FnExactAdjointsOf', WHERE WHAT IT READS IS OF BULK AT MOST 1048576: true; the input reads as it did. -/
def fnExactAdjointsOfUptoRow : OpenClaim := { program := "ytggojffmfjeikaa", sum := "79c962cb41beb82499b9fab9dc2a0e236376eac11b7d5bcada91a511c333757f", func := "loop.example/g01091/laws.FnExactAdjointsOf", spec := "fnExactAdjointsOf", unfollowed := true, recurses := true, plainKeys := false, apart := false, narrowed := true }
def FnExactAdjointsOfUptoSaid : Prop := fnExactAdjointsOfUptoRow.holds Try.pinned (OpenSpec.upto fnExactAdjointsOfSpec)

end Rows
end Go.Proofs.Ytggojffmfjeikaa
