/-
  No cell of these rows narrows 'for every input' (looked for: loops, veiled, ifaces, maps, wideKeys, modest, calm, conditions, laid).
  DERIVED. THE GIVEN ROWS OF THIS SEAT. 9 by the template 'for every input the law returns true; each argument reads behind the call as it read before'; 0 by the template 'total and deterministic' (their statements: YtfipnlehaklepaaTotals.lean).
  GIVEN WITH THE SEED: the statements are not yours to turn. If you find one false, say at which input.
  Laid BY PROGRAM, IN A SANDBOX (cutbox-rows.mjs): the forced cells as the released guide's own fill.sh prints them over the translation ae5d51d27c0e9951… (all of the seat's roots in one cut). By AI agents, Wed Nov 11 2026. No macro, syntax, notation, axiom, sorry.
-/
import Derived.Test.YtfipnlehaklepaaChecked
import GoSem.Claim
import GoSem.ClaimJoined
import GoSem.ClaimMapViews
import Derived.JoinedTies
import Derived.KernelRfl
namespace Go.Proofs.Ytfipnlehaklepaa
/- THE CELL 'sum', in the pinned program and in every row, IS THE sha256 OF THE DUMP (.gsa) THAT YtfipnlehaklepaaProg.lean LOADS. Nothing in Lean hashes anything: it is a label: what it is worth is what the hold of that sum in a sandbox is worth. -/
noncomputable def Try.pinned : Pinned := { name := "ytfipnlehaklepaa", sum := "ae5d51d27c0e995116f725e24ffb38ed8dc569a156d5919208b9bbba41be87e7", checked := Try.checked }
namespace Rows
def none {H : Type} : Left H := { results := [], args := [] }

/-- 'laws.FnExactIsValidStateGraph': WHATEVER THE INPUT: true; the input reads as it did. -/
def fnExactIsValidStateGraphSpec : ChangeSpec := { name := "fnExactIsValidStateGraph", fn := fun _ => fun
  | [d] => { results := [.lit (.bool true)], args := [d] }
  | _ => none }
def fnExactIsValidStateGraphRow : OpenClaim := { program := "ytfipnlehaklepaa", sum := "ae5d51d27c0e995116f725e24ffb38ed8dc569a156d5919208b9bbba41be87e7", func := "loop.example/g00862/laws.FnExactIsValidStateGraph", spec := "fnExactIsValidStateGraph", unfollowed := true, recurses := true, apart := false }
def FnExactIsValidStateGraphSaid : Prop := fnExactIsValidStateGraphRow.holds Try.pinned (OpenSpec.ofChange fnExactIsValidStateGraphSpec)

/-- ITS FALSE NEIGHBOUR: 'it returns false'. Refute it at one input. -/
def fnExactIsValidStateGraphWrong : ChangeSpec := { name := "fnExactIsValidStateGraph", fn := fun _ => fun
  | [d] => { results := [.lit (.bool false)], args := [d] }
  | _ => none }
def FnExactIsValidStateGraphWrongFalsely : Prop := fnExactIsValidStateGraphRow.holds Try.pinned (OpenSpec.ofChange fnExactIsValidStateGraphWrong)

/-- 'laws.FnExactArcsFrom': WHATEVER THE INPUT: true; the input reads as it did. -/
def fnExactArcsFromSpec : ChangeSpec := { name := "fnExactArcsFrom", fn := fun _ => fun
  | [d1, d2] => { results := [.lit (.bool true)], args := [d1, d2] }
  | _ => none }
def fnExactArcsFromRow : OpenClaim := { program := "ytfipnlehaklepaa", sum := "ae5d51d27c0e995116f725e24ffb38ed8dc569a156d5919208b9bbba41be87e7", func := "loop.example/g00862/laws.FnExactArcsFrom", spec := "fnExactArcsFrom", unfollowed := true, recurses := true, apart := false }
def FnExactArcsFromSaid : Prop := fnExactArcsFromRow.holds Try.pinned (OpenSpec.ofChange fnExactArcsFromSpec)

/-- ITS FALSE NEIGHBOUR: 'it returns false'. Refute it at one input. -/
def fnExactArcsFromWrong : ChangeSpec := { name := "fnExactArcsFrom", fn := fun _ => fun
  | [d1, d2] => { results := [.lit (.bool false)], args := [d1, d2] }
  | _ => none }
def FnExactArcsFromWrongFalsely : Prop := fnExactArcsFromRow.holds Try.pinned (OpenSpec.ofChange fnExactArcsFromWrong)

/-- 'laws.FnExactIsExcited': WHATEVER THE INPUT: true; the input reads as it did. -/
def fnExactIsExcitedSpec : ChangeSpec := { name := "fnExactIsExcited", fn := fun _ => fun
  | [d1, d2, d3] => { results := [.lit (.bool true)], args := [d1, d2, d3] }
  | _ => none }
def fnExactIsExcitedRow : OpenClaim := { program := "ytfipnlehaklepaa", sum := "ae5d51d27c0e995116f725e24ffb38ed8dc569a156d5919208b9bbba41be87e7", func := "loop.example/g00862/laws.FnExactIsExcited", spec := "fnExactIsExcited", unfollowed := true, recurses := true, apart := false }
def FnExactIsExcitedSaid : Prop := fnExactIsExcitedRow.holds Try.pinned (OpenSpec.ofChange fnExactIsExcitedSpec)

/-- ITS FALSE NEIGHBOUR: 'it returns false'. Refute it at one input. -/
def fnExactIsExcitedWrong : ChangeSpec := { name := "fnExactIsExcited", fn := fun _ => fun
  | [d1, d2, d3] => { results := [.lit (.bool false)], args := [d1, d2, d3] }
  | _ => none }
def FnExactIsExcitedWrongFalsely : Prop := fnExactIsExcitedRow.holds Try.pinned (OpenSpec.ofChange fnExactIsExcitedWrong)

/-- 'laws.FnExactStatesWithCode': WHATEVER THE INPUT: true; the input reads as it did. -/
def fnExactStatesWithCodeSpec : ChangeSpec := { name := "fnExactStatesWithCode", fn := fun _ => fun
  | [d1, d2] => { results := [.lit (.bool true)], args := [d1, d2] }
  | _ => none }
def fnExactStatesWithCodeRow : OpenClaim := { program := "ytfipnlehaklepaa", sum := "ae5d51d27c0e995116f725e24ffb38ed8dc569a156d5919208b9bbba41be87e7", func := "loop.example/g00862/laws.FnExactStatesWithCode", spec := "fnExactStatesWithCode", unfollowed := true, recurses := true, apart := false }
def FnExactStatesWithCodeSaid : Prop := fnExactStatesWithCodeRow.holds Try.pinned (OpenSpec.ofChange fnExactStatesWithCodeSpec)

/-- ITS FALSE NEIGHBOUR: 'it returns false'. Refute it at one input. -/
def fnExactStatesWithCodeWrong : ChangeSpec := { name := "fnExactStatesWithCode", fn := fun _ => fun
  | [d1, d2] => { results := [.lit (.bool false)], args := [d1, d2] }
  | _ => none }
def FnExactStatesWithCodeWrongFalsely : Prop := fnExactStatesWithCodeRow.holds Try.pinned (OpenSpec.ofChange fnExactStatesWithCodeWrong)

/-- 'laws.FnExactEqualStateGraph': WHATEVER THE INPUT: true; the input reads as it did. -/
def fnExactEqualStateGraphSpec : ChangeSpec := { name := "fnExactEqualStateGraph", fn := fun _ => fun
  | [d1, d2] => { results := [.lit (.bool true)], args := [d1, d2] }
  | _ => none }
def fnExactEqualStateGraphRow : OpenClaim := { program := "ytfipnlehaklepaa", sum := "ae5d51d27c0e995116f725e24ffb38ed8dc569a156d5919208b9bbba41be87e7", func := "loop.example/g00862/laws.FnExactEqualStateGraph", spec := "fnExactEqualStateGraph", apart := false }
def FnExactEqualStateGraphSaid : Prop := fnExactEqualStateGraphRow.holds Try.pinned (OpenSpec.ofChange fnExactEqualStateGraphSpec)

/-- ITS FALSE NEIGHBOUR: 'it returns false'. Refute it at one input. -/
def fnExactEqualStateGraphWrong : ChangeSpec := { name := "fnExactEqualStateGraph", fn := fun _ => fun
  | [d1, d2] => { results := [.lit (.bool false)], args := [d1, d2] }
  | _ => none }
def FnExactEqualStateGraphWrongFalsely : Prop := fnExactEqualStateGraphRow.holds Try.pinned (OpenSpec.ofChange fnExactEqualStateGraphWrong)

/-- 'laws.FnExactShortestPath': WHATEVER THE INPUT: true; the input reads as it did. -/
def fnExactShortestPathSpec : ChangeSpec := { name := "fnExactShortestPath", fn := fun _ => fun
  | [d1, d2] => { results := [.lit (.bool true)], args := [d1, d2] }
  | _ => none }
def fnExactShortestPathRow : OpenClaim := { program := "ytfipnlehaklepaa", sum := "ae5d51d27c0e995116f725e24ffb38ed8dc569a156d5919208b9bbba41be87e7", func := "loop.example/g00862/laws.FnExactShortestPath", spec := "fnExactShortestPath", unfollowed := true, recurses := true, apart := false }
def FnExactShortestPathSaid : Prop := fnExactShortestPathRow.holds Try.pinned (OpenSpec.ofChange fnExactShortestPathSpec)

/-- ITS FALSE NEIGHBOUR: 'it returns false'. Refute it at one input. -/
def fnExactShortestPathWrong : ChangeSpec := { name := "fnExactShortestPath", fn := fun _ => fun
  | [d1, d2] => { results := [.lit (.bool false)], args := [d1, d2] }
  | _ => none }
def FnExactShortestPathWrongFalsely : Prop := fnExactShortestPathRow.holds Try.pinned (OpenSpec.ofChange fnExactShortestPathWrong)

/-- 'laws.FnExactHomeStates': WHATEVER THE INPUT: true; the input reads as it did. -/
def fnExactHomeStatesSpec : ChangeSpec := { name := "fnExactHomeStates", fn := fun _ => fun
  | [d] => { results := [.lit (.bool true)], args := [d] }
  | _ => none }
def fnExactHomeStatesRow : OpenClaim := { program := "ytfipnlehaklepaa", sum := "ae5d51d27c0e995116f725e24ffb38ed8dc569a156d5919208b9bbba41be87e7", func := "loop.example/g00862/laws.FnExactHomeStates", spec := "fnExactHomeStates", unfollowed := true, recurses := true, apart := false }
def FnExactHomeStatesSaid : Prop := fnExactHomeStatesRow.holds Try.pinned (OpenSpec.ofChange fnExactHomeStatesSpec)

/-- ITS FALSE NEIGHBOUR: 'it returns false'. Refute it at one input. -/
def fnExactHomeStatesWrong : ChangeSpec := { name := "fnExactHomeStates", fn := fun _ => fun
  | [d] => { results := [.lit (.bool false)], args := [d] }
  | _ => none }
def FnExactHomeStatesWrongFalsely : Prop := fnExactHomeStatesRow.holds Try.pinned (OpenSpec.ofChange fnExactHomeStatesWrong)

/-- 'laws.FnExactShortestFiringSequence': WHATEVER THE INPUT: true; the input reads as it did. -/
def fnExactShortestFiringSequenceSpec : ChangeSpec := { name := "fnExactShortestFiringSequence", fn := fun _ => fun
  | [d1, d2] => { results := [.lit (.bool true)], args := [d1, d2] }
  | _ => none }
def fnExactShortestFiringSequenceRow : OpenClaim := { program := "ytfipnlehaklepaa", sum := "ae5d51d27c0e995116f725e24ffb38ed8dc569a156d5919208b9bbba41be87e7", func := "loop.example/g00862/laws.FnExactShortestFiringSequence", spec := "fnExactShortestFiringSequence", unfollowed := true, recurses := true, apart := false }
def FnExactShortestFiringSequenceSaid : Prop := fnExactShortestFiringSequenceRow.holds Try.pinned (OpenSpec.ofChange fnExactShortestFiringSequenceSpec)

/-- ITS FALSE NEIGHBOUR: 'it returns false'. Refute it at one input. -/
def fnExactShortestFiringSequenceWrong : ChangeSpec := { name := "fnExactShortestFiringSequence", fn := fun _ => fun
  | [d1, d2] => { results := [.lit (.bool false)], args := [d1, d2] }
  | _ => none }
def FnExactShortestFiringSequenceWrongFalsely : Prop := fnExactShortestFiringSequenceRow.holds Try.pinned (OpenSpec.ofChange fnExactShortestFiringSequenceWrong)

/-- 'laws.FnExactUnionSTGs': WHATEVER THE INPUT: true; the input reads as it did. -/
def fnExactUnionSTGsSpec : ChangeSpec := { name := "fnExactUnionSTGs", fn := fun _ => fun
  | [d1, d2] => { results := [.lit (.bool true)], args := [d1, d2] }
  | _ => none }
def fnExactUnionSTGsRow : OpenClaim := { program := "ytfipnlehaklepaa", sum := "ae5d51d27c0e995116f725e24ffb38ed8dc569a156d5919208b9bbba41be87e7", func := "loop.example/g00862/laws.FnExactUnionSTGs", spec := "fnExactUnionSTGs", apart := false }
def FnExactUnionSTGsSaid : Prop := fnExactUnionSTGsRow.holds Try.pinned (OpenSpec.ofChange fnExactUnionSTGsSpec)

/-- ITS FALSE NEIGHBOUR: 'it returns false'. Refute it at one input. -/
def fnExactUnionSTGsWrong : ChangeSpec := { name := "fnExactUnionSTGs", fn := fun _ => fun
  | [d1, d2] => { results := [.lit (.bool false)], args := [d1, d2] }
  | _ => none }
def FnExactUnionSTGsWrongFalsely : Prop := fnExactUnionSTGsRow.holds Try.pinned (OpenSpec.ofChange fnExactUnionSTGsWrong)

/- THE SECOND FORM. 'bulk': how many values and letters a reading holds, each counted each time it is reached (what is shared counts as often as it is met; a slice's spare places count too). A statement '..UptoSaid' is the law's where the arguments, and the package variables that the reading takes, are together of bulk at most 1048576: NARROWER than '..Said'. Prove '..Said' where nothing that the law and all that it calls make is longer than what came in: it says more and counts as full. Else prove '..UptoSaid'. A law counts once. -/
mutual
def uptoBulk {H : Type} : DataW H → Nat
  | .lit (.string bytes) => bytes.length + 1
  | .lit _ => 1
  | .nil => 1
  | .ptr d => uptoBulk d + 1
  | .slice elems spare => uptoBulkAll elems + uptoBulkAll spare + 1
  | .agg parts => uptoBulkAll parts + 1
  | .iface _ d => uptoBulk d + 1
  | .map entries => uptoBulkEntries entries + 1
  | .held _ => 1
def uptoBulkAll {H : Type} : List (DataW H) → Nat
  | [] => 0
  | d :: r => uptoBulk d + uptoBulkAll r
def uptoBulkEntries {H : Type} : List (Lit × DataW H) → Nat
  | [] => 0
  | x :: r => uptoBulkEntry x + uptoBulkEntries r
def uptoBulkEntry {H : Type} : Lit × DataW H → Nat
  | (.string bytes, d) => bytes.length + uptoBulk d + 1
  | (_, d) => uptoBulk d + 1
 end
def uptoSmall : (H : Type) → List (DataW H) → Bool := fun _ ds => decide (uptoBulkAll ds ≤ 1048576)
def OpenSpec.upto (s : _root_.Go.ChangeSpec) : _root_.Go.OpenSpec := { _root_.Go.OpenSpec.ofChange s with cond := some uptoSmall }

/-- 'laws.FnExactIsValidStateGraph', WHERE WHAT IT READS IS OF BULK AT MOST 1048576: true; the input reads as it did. -/
def fnExactIsValidStateGraphUptoRow : OpenClaim := { program := "ytfipnlehaklepaa", sum := "ae5d51d27c0e995116f725e24ffb38ed8dc569a156d5919208b9bbba41be87e7", func := "loop.example/g00862/laws.FnExactIsValidStateGraph", spec := "fnExactIsValidStateGraph", unfollowed := true, recurses := true, apart := false, narrowed := true }
def FnExactIsValidStateGraphUptoSaid : Prop := fnExactIsValidStateGraphUptoRow.holds Try.pinned (OpenSpec.upto fnExactIsValidStateGraphSpec)

/-- 'laws.FnExactArcsFrom', WHERE WHAT IT READS IS OF BULK AT MOST 1048576: true; the input reads as it did. -/
def fnExactArcsFromUptoRow : OpenClaim := { program := "ytfipnlehaklepaa", sum := "ae5d51d27c0e995116f725e24ffb38ed8dc569a156d5919208b9bbba41be87e7", func := "loop.example/g00862/laws.FnExactArcsFrom", spec := "fnExactArcsFrom", unfollowed := true, recurses := true, apart := false, narrowed := true }
def FnExactArcsFromUptoSaid : Prop := fnExactArcsFromUptoRow.holds Try.pinned (OpenSpec.upto fnExactArcsFromSpec)

/-- 'laws.FnExactIsExcited', WHERE WHAT IT READS IS OF BULK AT MOST 1048576: true; the input reads as it did. -/
def fnExactIsExcitedUptoRow : OpenClaim := { program := "ytfipnlehaklepaa", sum := "ae5d51d27c0e995116f725e24ffb38ed8dc569a156d5919208b9bbba41be87e7", func := "loop.example/g00862/laws.FnExactIsExcited", spec := "fnExactIsExcited", unfollowed := true, recurses := true, apart := false, narrowed := true }
def FnExactIsExcitedUptoSaid : Prop := fnExactIsExcitedUptoRow.holds Try.pinned (OpenSpec.upto fnExactIsExcitedSpec)

/-- 'laws.FnExactStatesWithCode', WHERE WHAT IT READS IS OF BULK AT MOST 1048576: true; the input reads as it did. -/
def fnExactStatesWithCodeUptoRow : OpenClaim := { program := "ytfipnlehaklepaa", sum := "ae5d51d27c0e995116f725e24ffb38ed8dc569a156d5919208b9bbba41be87e7", func := "loop.example/g00862/laws.FnExactStatesWithCode", spec := "fnExactStatesWithCode", unfollowed := true, recurses := true, apart := false, narrowed := true }
def FnExactStatesWithCodeUptoSaid : Prop := fnExactStatesWithCodeUptoRow.holds Try.pinned (OpenSpec.upto fnExactStatesWithCodeSpec)

/-- 'laws.FnExactEqualStateGraph', WHERE WHAT IT READS IS OF BULK AT MOST 1048576: true; the input reads as it did. -/
def fnExactEqualStateGraphUptoRow : OpenClaim := { program := "ytfipnlehaklepaa", sum := "ae5d51d27c0e995116f725e24ffb38ed8dc569a156d5919208b9bbba41be87e7", func := "loop.example/g00862/laws.FnExactEqualStateGraph", spec := "fnExactEqualStateGraph", apart := false, narrowed := true }
def FnExactEqualStateGraphUptoSaid : Prop := fnExactEqualStateGraphUptoRow.holds Try.pinned (OpenSpec.upto fnExactEqualStateGraphSpec)

/-- 'laws.FnExactShortestPath', WHERE WHAT IT READS IS OF BULK AT MOST 1048576: true; the input reads as it did. -/
def fnExactShortestPathUptoRow : OpenClaim := { program := "ytfipnlehaklepaa", sum := "ae5d51d27c0e995116f725e24ffb38ed8dc569a156d5919208b9bbba41be87e7", func := "loop.example/g00862/laws.FnExactShortestPath", spec := "fnExactShortestPath", unfollowed := true, recurses := true, apart := false, narrowed := true }
def FnExactShortestPathUptoSaid : Prop := fnExactShortestPathUptoRow.holds Try.pinned (OpenSpec.upto fnExactShortestPathSpec)

/-- 'laws.FnExactHomeStates', WHERE WHAT IT READS IS OF BULK AT MOST 1048576: true; the input reads as it did. -/
def fnExactHomeStatesUptoRow : OpenClaim := { program := "ytfipnlehaklepaa", sum := "ae5d51d27c0e995116f725e24ffb38ed8dc569a156d5919208b9bbba41be87e7", func := "loop.example/g00862/laws.FnExactHomeStates", spec := "fnExactHomeStates", unfollowed := true, recurses := true, apart := false, narrowed := true }
def FnExactHomeStatesUptoSaid : Prop := fnExactHomeStatesUptoRow.holds Try.pinned (OpenSpec.upto fnExactHomeStatesSpec)

/-- 'laws.FnExactShortestFiringSequence', WHERE WHAT IT READS IS OF BULK AT MOST 1048576: true; the input reads as it did. -/
def fnExactShortestFiringSequenceUptoRow : OpenClaim := { program := "ytfipnlehaklepaa", sum := "ae5d51d27c0e995116f725e24ffb38ed8dc569a156d5919208b9bbba41be87e7", func := "loop.example/g00862/laws.FnExactShortestFiringSequence", spec := "fnExactShortestFiringSequence", unfollowed := true, recurses := true, apart := false, narrowed := true }
def FnExactShortestFiringSequenceUptoSaid : Prop := fnExactShortestFiringSequenceUptoRow.holds Try.pinned (OpenSpec.upto fnExactShortestFiringSequenceSpec)

/-- 'laws.FnExactUnionSTGs', WHERE WHAT IT READS IS OF BULK AT MOST 1048576: true; the input reads as it did. -/
def fnExactUnionSTGsUptoRow : OpenClaim := { program := "ytfipnlehaklepaa", sum := "ae5d51d27c0e995116f725e24ffb38ed8dc569a156d5919208b9bbba41be87e7", func := "loop.example/g00862/laws.FnExactUnionSTGs", spec := "fnExactUnionSTGs", apart := false, narrowed := true }
def FnExactUnionSTGsUptoSaid : Prop := fnExactUnionSTGsUptoRow.holds Try.pinned (OpenSpec.upto fnExactUnionSTGsSpec)

end Rows
end Go.Proofs.Ytfipnlehaklepaa
