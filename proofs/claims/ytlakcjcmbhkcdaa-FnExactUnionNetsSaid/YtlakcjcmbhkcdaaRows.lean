/-
  No cell of these rows narrows 'for every input' (looked for: loops, veiled, ifaces, maps, wideKeys, modest, calm, conditions, laid).
  DERIVED. THE GIVEN ROWS OF THIS SEAT. 12 by the template 'for every input the law returns true; each argument reads behind the call as it read before'; 0 by the template 'total and deterministic' (their statements: YtlakcjcmbhkcdaaTotals.lean).
  GIVEN WITH THE SEED: the statements are not yours to turn. If you find one false, say at which input.
  Laid BY PROGRAM, IN A SANDBOX (cutbox-rows.mjs): the forced cells as the released guide's own fill.sh prints them over the translation 24eaab1fb56c28a1… (all of the seat's roots in one cut). By AI agents, Wed Nov 11 2026. No macro, syntax, notation, axiom, sorry.
-/
import Derived.Test.YtlakcjcmbhkcdaaChecked
import GoSem.Claim
import GoSem.ClaimJoined
import GoSem.ClaimMapViews
import Derived.JoinedTies
import Derived.KernelRfl
namespace Go.Proofs.Ytlakcjcmbhkcdaa
/- THE CELL 'sum', in the pinned program and in every row, IS THE sha256 OF THE DUMP (.gsa) THAT YtlakcjcmbhkcdaaProg.lean LOADS. Nothing in Lean hashes anything: it is a label: what it is worth is what the hold of that sum in a sandbox is worth. -/
noncomputable def Try.pinned : Pinned := { name := "ytlakcjcmbhkcdaa", sum := "24eaab1fb56c28a16da83210c49903fadbe7749c5cb8e36d6ebf44e82db29112", checked := Try.checked }
namespace Rows
def none {H : Type} : Left H := { results := [], args := [] }

/-- 'laws.FnExactIsValidNet': WHATEVER THE INPUT: true; the input reads as it did. -/
def fnExactIsValidNetSpec : ChangeSpec := { name := "fnExactIsValidNet", fn := fun _ => fun
  | [d] => { results := [.lit (.bool true)], args := [d] }
  | _ => none }
def fnExactIsValidNetRow : OpenClaim := { program := "ytlakcjcmbhkcdaa", sum := "24eaab1fb56c28a16da83210c49903fadbe7749c5cb8e36d6ebf44e82db29112", func := "loop.example/g00862/laws.FnExactIsValidNet", spec := "fnExactIsValidNet", apart := false }
def FnExactIsValidNetSaid : Prop := fnExactIsValidNetRow.holds Try.pinned (OpenSpec.ofChange fnExactIsValidNetSpec)

/-- ITS FALSE NEIGHBOUR: 'it returns false'. Refute it at one input. -/
def fnExactIsValidNetWrong : ChangeSpec := { name := "fnExactIsValidNet", fn := fun _ => fun
  | [d] => { results := [.lit (.bool false)], args := [d] }
  | _ => none }
def FnExactIsValidNetWrongFalsely : Prop := fnExactIsValidNetRow.holds Try.pinned (OpenSpec.ofChange fnExactIsValidNetWrong)

/-- 'laws.FnExactIsValidMarking': WHATEVER THE INPUT: true; the input reads as it did. -/
def fnExactIsValidMarkingSpec : ChangeSpec := { name := "fnExactIsValidMarking", fn := fun _ => fun
  | [d1, d2] => { results := [.lit (.bool true)], args := [d1, d2] }
  | _ => none }
def fnExactIsValidMarkingRow : OpenClaim := { program := "ytlakcjcmbhkcdaa", sum := "24eaab1fb56c28a16da83210c49903fadbe7749c5cb8e36d6ebf44e82db29112", func := "loop.example/g00862/laws.FnExactIsValidMarking", spec := "fnExactIsValidMarking", apart := false }
def FnExactIsValidMarkingSaid : Prop := fnExactIsValidMarkingRow.holds Try.pinned (OpenSpec.ofChange fnExactIsValidMarkingSpec)

/-- ITS FALSE NEIGHBOUR: 'it returns false'. Refute it at one input. -/
def fnExactIsValidMarkingWrong : ChangeSpec := { name := "fnExactIsValidMarking", fn := fun _ => fun
  | [d1, d2] => { results := [.lit (.bool false)], args := [d1, d2] }
  | _ => none }
def FnExactIsValidMarkingWrongFalsely : Prop := fnExactIsValidMarkingRow.holds Try.pinned (OpenSpec.ofChange fnExactIsValidMarkingWrong)

/-- 'laws.FnExactFire': WHATEVER THE INPUT: true; the input reads as it did. -/
def fnExactFireSpec : ChangeSpec := { name := "fnExactFire", fn := fun _ => fun
  | [d1, d2, d3] => { results := [.lit (.bool true)], args := [d1, d2, d3] }
  | _ => none }
def fnExactFireRow : OpenClaim := { program := "ytlakcjcmbhkcdaa", sum := "24eaab1fb56c28a16da83210c49903fadbe7749c5cb8e36d6ebf44e82db29112", func := "loop.example/g00862/laws.FnExactFire", spec := "fnExactFire", apart := false }
def FnExactFireSaid : Prop := fnExactFireRow.holds Try.pinned (OpenSpec.ofChange fnExactFireSpec)

/-- ITS FALSE NEIGHBOUR: 'it returns false'. Refute it at one input. -/
def fnExactFireWrong : ChangeSpec := { name := "fnExactFire", fn := fun _ => fun
  | [d1, d2, d3] => { results := [.lit (.bool false)], args := [d1, d2, d3] }
  | _ => none }
def FnExactFireWrongFalsely : Prop := fnExactFireRow.holds Try.pinned (OpenSpec.ofChange fnExactFireWrong)

/-- 'laws.FnExactFireSequence': WHATEVER THE INPUT: true; the input reads as it did. -/
def fnExactFireSequenceSpec : ChangeSpec := { name := "fnExactFireSequence", fn := fun _ => fun
  | [d1, d2, d3] => { results := [.lit (.bool true)], args := [d1, d2, d3] }
  | _ => none }
def fnExactFireSequenceRow : OpenClaim := { program := "ytlakcjcmbhkcdaa", sum := "24eaab1fb56c28a16da83210c49903fadbe7749c5cb8e36d6ebf44e82db29112", func := "loop.example/g00862/laws.FnExactFireSequence", spec := "fnExactFireSequence", apart := false }
def FnExactFireSequenceSaid : Prop := fnExactFireSequenceRow.holds Try.pinned (OpenSpec.ofChange fnExactFireSequenceSpec)

/-- ITS FALSE NEIGHBOUR: 'it returns false'. Refute it at one input. -/
def fnExactFireSequenceWrong : ChangeSpec := { name := "fnExactFireSequence", fn := fun _ => fun
  | [d1, d2, d3] => { results := [.lit (.bool false)], args := [d1, d2, d3] }
  | _ => none }
def FnExactFireSequenceWrongFalsely : Prop := fnExactFireSequenceRow.holds Try.pinned (OpenSpec.ofChange fnExactFireSequenceWrong)

/-- 'laws.FnExactAreIndependent': WHATEVER THE INPUT: true; the input reads as it did. -/
def fnExactAreIndependentSpec : ChangeSpec := { name := "fnExactAreIndependent", fn := fun _ => fun
  | [d1, d2, d3] => { results := [.lit (.bool true)], args := [d1, d2, d3] }
  | _ => none }
def fnExactAreIndependentRow : OpenClaim := { program := "ytlakcjcmbhkcdaa", sum := "24eaab1fb56c28a16da83210c49903fadbe7749c5cb8e36d6ebf44e82db29112", func := "loop.example/g00862/laws.FnExactAreIndependent", spec := "fnExactAreIndependent", apart := false }
def FnExactAreIndependentSaid : Prop := fnExactAreIndependentRow.holds Try.pinned (OpenSpec.ofChange fnExactAreIndependentSpec)

/-- ITS FALSE NEIGHBOUR: 'it returns false'. Refute it at one input. -/
def fnExactAreIndependentWrong : ChangeSpec := { name := "fnExactAreIndependent", fn := fun _ => fun
  | [d1, d2, d3] => { results := [.lit (.bool false)], args := [d1, d2, d3] }
  | _ => none }
def FnExactAreIndependentWrongFalsely : Prop := fnExactAreIndependentRow.holds Try.pinned (OpenSpec.ofChange fnExactAreIndependentWrong)

/-- 'laws.FnExactReverseNet': WHATEVER THE INPUT: true; the input reads as it did. -/
def fnExactReverseNetSpec : ChangeSpec := { name := "fnExactReverseNet", fn := fun _ => fun
  | [d] => { results := [.lit (.bool true)], args := [d] }
  | _ => none }
def fnExactReverseNetRow : OpenClaim := { program := "ytlakcjcmbhkcdaa", sum := "24eaab1fb56c28a16da83210c49903fadbe7749c5cb8e36d6ebf44e82db29112", func := "loop.example/g00862/laws.FnExactReverseNet", spec := "fnExactReverseNet", apart := false }
def FnExactReverseNetSaid : Prop := fnExactReverseNetRow.holds Try.pinned (OpenSpec.ofChange fnExactReverseNetSpec)

/-- ITS FALSE NEIGHBOUR: 'it returns false'. Refute it at one input. -/
def fnExactReverseNetWrong : ChangeSpec := { name := "fnExactReverseNet", fn := fun _ => fun
  | [d] => { results := [.lit (.bool false)], args := [d] }
  | _ => none }
def FnExactReverseNetWrongFalsely : Prop := fnExactReverseNetRow.holds Try.pinned (OpenSpec.ofChange fnExactReverseNetWrong)

/-- 'laws.FnExactUnionNets': WHATEVER THE INPUT: true; the input reads as it did. -/
def fnExactUnionNetsSpec : ChangeSpec := { name := "fnExactUnionNets", fn := fun _ => fun
  | [d1, d2] => { results := [.lit (.bool true)], args := [d1, d2] }
  | _ => none }
def fnExactUnionNetsRow : OpenClaim := { program := "ytlakcjcmbhkcdaa", sum := "24eaab1fb56c28a16da83210c49903fadbe7749c5cb8e36d6ebf44e82db29112", func := "loop.example/g00862/laws.FnExactUnionNets", spec := "fnExactUnionNets", apart := false }
def FnExactUnionNetsSaid : Prop := fnExactUnionNetsRow.holds Try.pinned (OpenSpec.ofChange fnExactUnionNetsSpec)

/-- ITS FALSE NEIGHBOUR: 'it returns false'. Refute it at one input. -/
def fnExactUnionNetsWrong : ChangeSpec := { name := "fnExactUnionNets", fn := fun _ => fun
  | [d1, d2] => { results := [.lit (.bool false)], args := [d1, d2] }
  | _ => none }
def FnExactUnionNetsWrongFalsely : Prop := fnExactUnionNetsRow.holds Try.pinned (OpenSpec.ofChange fnExactUnionNetsWrong)

/-- 'laws.FnExactIsValidSTG': WHATEVER THE INPUT: true; the input reads as it did. -/
def fnExactIsValidSTGSpec : ChangeSpec := { name := "fnExactIsValidSTG", fn := fun _ => fun
  | [d] => { results := [.lit (.bool true)], args := [d] }
  | _ => none }
def fnExactIsValidSTGRow : OpenClaim := { program := "ytlakcjcmbhkcdaa", sum := "24eaab1fb56c28a16da83210c49903fadbe7749c5cb8e36d6ebf44e82db29112", func := "loop.example/g00862/laws.FnExactIsValidSTG", spec := "fnExactIsValidSTG", apart := false }
def FnExactIsValidSTGSaid : Prop := fnExactIsValidSTGRow.holds Try.pinned (OpenSpec.ofChange fnExactIsValidSTGSpec)

/-- ITS FALSE NEIGHBOUR: 'it returns false'. Refute it at one input. -/
def fnExactIsValidSTGWrong : ChangeSpec := { name := "fnExactIsValidSTG", fn := fun _ => fun
  | [d] => { results := [.lit (.bool false)], args := [d] }
  | _ => none }
def FnExactIsValidSTGWrongFalsely : Prop := fnExactIsValidSTGRow.holds Try.pinned (OpenSpec.ofChange fnExactIsValidSTGWrong)

/-- 'laws.FnExactSignalIndex': WHATEVER THE INPUT: true; the input reads as it did. -/
def fnExactSignalIndexSpec : ChangeSpec := { name := "fnExactSignalIndex", fn := fun _ => fun
  | [d1, d2] => { results := [.lit (.bool true)], args := [d1, d2] }
  | _ => none }
def fnExactSignalIndexRow : OpenClaim := { program := "ytlakcjcmbhkcdaa", sum := "24eaab1fb56c28a16da83210c49903fadbe7749c5cb8e36d6ebf44e82db29112", func := "loop.example/g00862/laws.FnExactSignalIndex", spec := "fnExactSignalIndex", apart := false }
def FnExactSignalIndexSaid : Prop := fnExactSignalIndexRow.holds Try.pinned (OpenSpec.ofChange fnExactSignalIndexSpec)

/-- ITS FALSE NEIGHBOUR: 'it returns false'. Refute it at one input. -/
def fnExactSignalIndexWrong : ChangeSpec := { name := "fnExactSignalIndex", fn := fun _ => fun
  | [d1, d2] => { results := [.lit (.bool false)], args := [d1, d2] }
  | _ => none }
def FnExactSignalIndexWrongFalsely : Prop := fnExactSignalIndexRow.holds Try.pinned (OpenSpec.ofChange fnExactSignalIndexWrong)

/-- 'laws.FnExactTransitionsOf': WHATEVER THE INPUT: true; the input reads as it did. -/
def fnExactTransitionsOfSpec : ChangeSpec := { name := "fnExactTransitionsOf", fn := fun _ => fun
  | [d1, d2, d3] => { results := [.lit (.bool true)], args := [d1, d2, d3] }
  | _ => none }
def fnExactTransitionsOfRow : OpenClaim := { program := "ytlakcjcmbhkcdaa", sum := "24eaab1fb56c28a16da83210c49903fadbe7749c5cb8e36d6ebf44e82db29112", func := "loop.example/g00862/laws.FnExactTransitionsOf", spec := "fnExactTransitionsOf", apart := false }
def FnExactTransitionsOfSaid : Prop := fnExactTransitionsOfRow.holds Try.pinned (OpenSpec.ofChange fnExactTransitionsOfSpec)

/-- ITS FALSE NEIGHBOUR: 'it returns false'. Refute it at one input. -/
def fnExactTransitionsOfWrong : ChangeSpec := { name := "fnExactTransitionsOf", fn := fun _ => fun
  | [d1, d2, d3] => { results := [.lit (.bool false)], args := [d1, d2, d3] }
  | _ => none }
def FnExactTransitionsOfWrongFalsely : Prop := fnExactTransitionsOfRow.holds Try.pinned (OpenSpec.ofChange fnExactTransitionsOfWrong)

/-- 'laws.FnExactVisibleLabels': WHATEVER THE INPUT: true; the input reads as it did. -/
def fnExactVisibleLabelsSpec : ChangeSpec := { name := "fnExactVisibleLabels", fn := fun _ => fun
  | [d1, d2] => { results := [.lit (.bool true)], args := [d1, d2] }
  | _ => none }
def fnExactVisibleLabelsRow : OpenClaim := { program := "ytlakcjcmbhkcdaa", sum := "24eaab1fb56c28a16da83210c49903fadbe7749c5cb8e36d6ebf44e82db29112", func := "loop.example/g00862/laws.FnExactVisibleLabels", spec := "fnExactVisibleLabels", apart := false }
def FnExactVisibleLabelsSaid : Prop := fnExactVisibleLabelsRow.holds Try.pinned (OpenSpec.ofChange fnExactVisibleLabelsSpec)

/-- ITS FALSE NEIGHBOUR: 'it returns false'. Refute it at one input. -/
def fnExactVisibleLabelsWrong : ChangeSpec := { name := "fnExactVisibleLabels", fn := fun _ => fun
  | [d1, d2] => { results := [.lit (.bool false)], args := [d1, d2] }
  | _ => none }
def FnExactVisibleLabelsWrongFalsely : Prop := fnExactVisibleLabelsRow.holds Try.pinned (OpenSpec.ofChange fnExactVisibleLabelsWrong)

/-- 'laws.FnExactEqualSTG': WHATEVER THE INPUT: true; the input reads as it did. -/
def fnExactEqualSTGSpec : ChangeSpec := { name := "fnExactEqualSTG", fn := fun _ => fun
  | [d1, d2] => { results := [.lit (.bool true)], args := [d1, d2] }
  | _ => none }
def fnExactEqualSTGRow : OpenClaim := { program := "ytlakcjcmbhkcdaa", sum := "24eaab1fb56c28a16da83210c49903fadbe7749c5cb8e36d6ebf44e82db29112", func := "loop.example/g00862/laws.FnExactEqualSTG", spec := "fnExactEqualSTG", unfollowed := true, recurses := true, apart := false }
def FnExactEqualSTGSaid : Prop := fnExactEqualSTGRow.holds Try.pinned (OpenSpec.ofChange fnExactEqualSTGSpec)

/-- ITS FALSE NEIGHBOUR: 'it returns false'. Refute it at one input. -/
def fnExactEqualSTGWrong : ChangeSpec := { name := "fnExactEqualSTG", fn := fun _ => fun
  | [d1, d2] => { results := [.lit (.bool false)], args := [d1, d2] }
  | _ => none }
def FnExactEqualSTGWrongFalsely : Prop := fnExactEqualSTGRow.holds Try.pinned (OpenSpec.ofChange fnExactEqualSTGWrong)

/- THE SECOND FORM. 'bulk': how many values and letters a reading holds, each counted each time it is reached (what is shared counts as often as it is met; a slice's spare places count too). A statement '..UptoSaid' is the law's where the arguments, and the package variables that the reading takes, are together of bulk at most 1048576: NARROWER than '..Said'. Prove '..Said' where nothing that the law and all that it calls make is longer than what came in: it says more and counts as full. Else prove '..UptoSaid'. A law counts once. -/
mutual
def uptoBulk {H : Type} : DataW H → Nat
  | .lit (.string bytes) => bytes.length + 1
  | .lit _ => 1
  | .nil => 1
  | .ptr d => uptoBulk d + 1
  | .slice elems spare => uptoBulkAll elems + uptoBulkAll spare + 1
  | .agg parts => uptoBulkAll parts + 1
  | .iface _ d => uptoBulk d + 1
  | .map entries => uptoBulkEntries entries + 1
  | .held _ => 1
def uptoBulkAll {H : Type} : List (DataW H) → Nat
  | [] => 0
  | d :: r => uptoBulk d + uptoBulkAll r
def uptoBulkEntries {H : Type} : List (Lit × DataW H) → Nat
  | [] => 0
  | x :: r => uptoBulkEntry x + uptoBulkEntries r
def uptoBulkEntry {H : Type} : Lit × DataW H → Nat
  | (.string bytes, d) => bytes.length + uptoBulk d + 1
  | (_, d) => uptoBulk d + 1
 end
def uptoSmall : (H : Type) → List (DataW H) → Bool := fun _ ds => decide (uptoBulkAll ds ≤ 1048576)
def OpenSpec.upto (s : _root_.Go.ChangeSpec) : _root_.Go.OpenSpec := { _root_.Go.OpenSpec.ofChange s with cond := some uptoSmall }

/-- 'laws.FnExactIsValidNet', WHERE WHAT IT READS IS OF BULK AT MOST 1048576: true; the input reads as it did. -/
def fnExactIsValidNetUptoRow : OpenClaim := { program := "ytlakcjcmbhkcdaa", sum := "24eaab1fb56c28a16da83210c49903fadbe7749c5cb8e36d6ebf44e82db29112", func := "loop.example/g00862/laws.FnExactIsValidNet", spec := "fnExactIsValidNet", apart := false, narrowed := true }
def FnExactIsValidNetUptoSaid : Prop := fnExactIsValidNetUptoRow.holds Try.pinned (OpenSpec.upto fnExactIsValidNetSpec)

/-- 'laws.FnExactIsValidMarking', WHERE WHAT IT READS IS OF BULK AT MOST 1048576: true; the input reads as it did. -/
def fnExactIsValidMarkingUptoRow : OpenClaim := { program := "ytlakcjcmbhkcdaa", sum := "24eaab1fb56c28a16da83210c49903fadbe7749c5cb8e36d6ebf44e82db29112", func := "loop.example/g00862/laws.FnExactIsValidMarking", spec := "fnExactIsValidMarking", apart := false, narrowed := true }
def FnExactIsValidMarkingUptoSaid : Prop := fnExactIsValidMarkingUptoRow.holds Try.pinned (OpenSpec.upto fnExactIsValidMarkingSpec)

/-- 'laws.FnExactFire', WHERE WHAT IT READS IS OF BULK AT MOST 1048576: true; the input reads as it did. -/
def fnExactFireUptoRow : OpenClaim := { program := "ytlakcjcmbhkcdaa", sum := "24eaab1fb56c28a16da83210c49903fadbe7749c5cb8e36d6ebf44e82db29112", func := "loop.example/g00862/laws.FnExactFire", spec := "fnExactFire", apart := false, narrowed := true }
def FnExactFireUptoSaid : Prop := fnExactFireUptoRow.holds Try.pinned (OpenSpec.upto fnExactFireSpec)

/-- 'laws.FnExactFireSequence', WHERE WHAT IT READS IS OF BULK AT MOST 1048576: true; the input reads as it did. -/
def fnExactFireSequenceUptoRow : OpenClaim := { program := "ytlakcjcmbhkcdaa", sum := "24eaab1fb56c28a16da83210c49903fadbe7749c5cb8e36d6ebf44e82db29112", func := "loop.example/g00862/laws.FnExactFireSequence", spec := "fnExactFireSequence", apart := false, narrowed := true }
def FnExactFireSequenceUptoSaid : Prop := fnExactFireSequenceUptoRow.holds Try.pinned (OpenSpec.upto fnExactFireSequenceSpec)

/-- 'laws.FnExactAreIndependent', WHERE WHAT IT READS IS OF BULK AT MOST 1048576: true; the input reads as it did. -/
def fnExactAreIndependentUptoRow : OpenClaim := { program := "ytlakcjcmbhkcdaa", sum := "24eaab1fb56c28a16da83210c49903fadbe7749c5cb8e36d6ebf44e82db29112", func := "loop.example/g00862/laws.FnExactAreIndependent", spec := "fnExactAreIndependent", apart := false, narrowed := true }
def FnExactAreIndependentUptoSaid : Prop := fnExactAreIndependentUptoRow.holds Try.pinned (OpenSpec.upto fnExactAreIndependentSpec)

/-- 'laws.FnExactReverseNet', WHERE WHAT IT READS IS OF BULK AT MOST 1048576: true; the input reads as it did. -/
def fnExactReverseNetUptoRow : OpenClaim := { program := "ytlakcjcmbhkcdaa", sum := "24eaab1fb56c28a16da83210c49903fadbe7749c5cb8e36d6ebf44e82db29112", func := "loop.example/g00862/laws.FnExactReverseNet", spec := "fnExactReverseNet", apart := false, narrowed := true }
def FnExactReverseNetUptoSaid : Prop := fnExactReverseNetUptoRow.holds Try.pinned (OpenSpec.upto fnExactReverseNetSpec)

/-- 'laws.FnExactUnionNets', WHERE WHAT IT READS IS OF BULK AT MOST 1048576: true; the input reads as it did. -/
def fnExactUnionNetsUptoRow : OpenClaim := { program := "ytlakcjcmbhkcdaa", sum := "24eaab1fb56c28a16da83210c49903fadbe7749c5cb8e36d6ebf44e82db29112", func := "loop.example/g00862/laws.FnExactUnionNets", spec := "fnExactUnionNets", apart := false, narrowed := true }
def FnExactUnionNetsUptoSaid : Prop := fnExactUnionNetsUptoRow.holds Try.pinned (OpenSpec.upto fnExactUnionNetsSpec)

/-- 'laws.FnExactIsValidSTG', WHERE WHAT IT READS IS OF BULK AT MOST 1048576: true; the input reads as it did. -/
def fnExactIsValidSTGUptoRow : OpenClaim := { program := "ytlakcjcmbhkcdaa", sum := "24eaab1fb56c28a16da83210c49903fadbe7749c5cb8e36d6ebf44e82db29112", func := "loop.example/g00862/laws.FnExactIsValidSTG", spec := "fnExactIsValidSTG", apart := false, narrowed := true }
def FnExactIsValidSTGUptoSaid : Prop := fnExactIsValidSTGUptoRow.holds Try.pinned (OpenSpec.upto fnExactIsValidSTGSpec)

/-- 'laws.FnExactSignalIndex', WHERE WHAT IT READS IS OF BULK AT MOST 1048576: true; the input reads as it did. -/
def fnExactSignalIndexUptoRow : OpenClaim := { program := "ytlakcjcmbhkcdaa", sum := "24eaab1fb56c28a16da83210c49903fadbe7749c5cb8e36d6ebf44e82db29112", func := "loop.example/g00862/laws.FnExactSignalIndex", spec := "fnExactSignalIndex", apart := false, narrowed := true }
def FnExactSignalIndexUptoSaid : Prop := fnExactSignalIndexUptoRow.holds Try.pinned (OpenSpec.upto fnExactSignalIndexSpec)

/-- 'laws.FnExactTransitionsOf', WHERE WHAT IT READS IS OF BULK AT MOST 1048576: true; the input reads as it did. -/
def fnExactTransitionsOfUptoRow : OpenClaim := { program := "ytlakcjcmbhkcdaa", sum := "24eaab1fb56c28a16da83210c49903fadbe7749c5cb8e36d6ebf44e82db29112", func := "loop.example/g00862/laws.FnExactTransitionsOf", spec := "fnExactTransitionsOf", apart := false, narrowed := true }
def FnExactTransitionsOfUptoSaid : Prop := fnExactTransitionsOfUptoRow.holds Try.pinned (OpenSpec.upto fnExactTransitionsOfSpec)

/-- 'laws.FnExactVisibleLabels', WHERE WHAT IT READS IS OF BULK AT MOST 1048576: true; the input reads as it did. -/
def fnExactVisibleLabelsUptoRow : OpenClaim := { program := "ytlakcjcmbhkcdaa", sum := "24eaab1fb56c28a16da83210c49903fadbe7749c5cb8e36d6ebf44e82db29112", func := "loop.example/g00862/laws.FnExactVisibleLabels", spec := "fnExactVisibleLabels", apart := false, narrowed := true }
def FnExactVisibleLabelsUptoSaid : Prop := fnExactVisibleLabelsUptoRow.holds Try.pinned (OpenSpec.upto fnExactVisibleLabelsSpec)

/-- 'laws.FnExactEqualSTG', WHERE WHAT IT READS IS OF BULK AT MOST 1048576: true; the input reads as it did. -/
def fnExactEqualSTGUptoRow : OpenClaim := { program := "ytlakcjcmbhkcdaa", sum := "24eaab1fb56c28a16da83210c49903fadbe7749c5cb8e36d6ebf44e82db29112", func := "loop.example/g00862/laws.FnExactEqualSTG", spec := "fnExactEqualSTG", unfollowed := true, recurses := true, apart := false, narrowed := true }
def FnExactEqualSTGUptoSaid : Prop := fnExactEqualSTGUptoRow.holds Try.pinned (OpenSpec.upto fnExactEqualSTGSpec)

end Rows
end Go.Proofs.Ytlakcjcmbhkcdaa
