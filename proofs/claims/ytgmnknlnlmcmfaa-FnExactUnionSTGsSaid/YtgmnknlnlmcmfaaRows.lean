/-
  No cell of these rows narrows 'for every input' (looked for: loops, veiled, ifaces, maps, wideKeys, modest, calm, conditions, laid).
  DERIVED. THE GIVEN ROWS OF THIS SEAT. 9 by the template 'for every input the law returns true; each argument reads behind the call as it read before'; 0 by the template 'total and deterministic' (their statements: YtgmnknlnlmcmfaaTotals.lean).
  GIVEN WITH THE SEED: the statements are not yours to turn. If you find one false, say at which input.
  Laid BY PROGRAM, IN A SANDBOX (cutbox-rows.mjs): the forced cells as the released guide's own fill.sh prints them over the translation 75696de144b88094… (all of the seat's roots in one cut). By AI agents, Wed Nov 11 2026. No macro, syntax, notation, axiom, sorry.
-/
import Derived.Test.YtgmnknlnlmcmfaaChecked
import GoSem.Claim
import GoSem.ClaimJoined
import GoSem.ClaimMapViews
import Derived.JoinedTies
import Derived.KernelRfl
namespace Go.Proofs.Ytgmnknlnlmcmfaa
/- THE CELL 'sum', in the pinned program and in every row, IS THE sha256 OF THE DUMP (.gsa) THAT YtgmnknlnlmcmfaaProg.lean LOADS. Nothing in Lean hashes anything: it is a label: what it is worth is what the hold of that sum in a sandbox is worth. -/
noncomputable def Try.pinned : Pinned := { name := "ytgmnknlnlmcmfaa", sum := "75696de144b880944ea8c304aa2cb47d873a5b124f22831bc42547ee524d3e5b", checked := Try.checked }
namespace Rows
def none {H : Type} : Left H := { results := [], args := [] }

/-- 'laws.FnExactNonInputSignals': WHATEVER THE INPUT: true; the input reads as it did. -/
def fnExactNonInputSignalsSpec : ChangeSpec := { name := "fnExactNonInputSignals", fn := fun _ => fun
  | [d] => { results := [.lit (.bool true)], args := [d] }
  | _ => none }
def fnExactNonInputSignalsRow : OpenClaim := { program := "ytgmnknlnlmcmfaa", sum := "75696de144b880944ea8c304aa2cb47d873a5b124f22831bc42547ee524d3e5b", func := "loop.example/g00862/laws.FnExactNonInputSignals", spec := "fnExactNonInputSignals", unfollowed := true, recurses := true, plainKeys := false, apart := false }
def FnExactNonInputSignalsSaid : Prop := fnExactNonInputSignalsRow.holds Try.pinned (OpenSpec.ofChange fnExactNonInputSignalsSpec)

/-- ITS FALSE NEIGHBOUR: 'it returns false'. Refute it at one input. -/
def fnExactNonInputSignalsWrong : ChangeSpec := { name := "fnExactNonInputSignals", fn := fun _ => fun
  | [d] => { results := [.lit (.bool false)], args := [d] }
  | _ => none }
def FnExactNonInputSignalsWrongFalsely : Prop := fnExactNonInputSignalsRow.holds Try.pinned (OpenSpec.ofChange fnExactNonInputSignalsWrong)

/-- 'laws.FnExactEqualCodePairs': WHATEVER THE INPUT: true; the input reads as it did. -/
def fnExactEqualCodePairsSpec : ChangeSpec := { name := "fnExactEqualCodePairs", fn := fun _ => fun
  | [d] => { results := [.lit (.bool true)], args := [d] }
  | _ => none }
def fnExactEqualCodePairsRow : OpenClaim := { program := "ytgmnknlnlmcmfaa", sum := "75696de144b880944ea8c304aa2cb47d873a5b124f22831bc42547ee524d3e5b", func := "loop.example/g00862/laws.FnExactEqualCodePairs", spec := "fnExactEqualCodePairs", unfollowed := true, recurses := true, plainKeys := false, apart := false }
def FnExactEqualCodePairsSaid : Prop := fnExactEqualCodePairsRow.holds Try.pinned (OpenSpec.ofChange fnExactEqualCodePairsSpec)

/-- ITS FALSE NEIGHBOUR: 'it returns false'. Refute it at one input. -/
def fnExactEqualCodePairsWrong : ChangeSpec := { name := "fnExactEqualCodePairs", fn := fun _ => fun
  | [d] => { results := [.lit (.bool false)], args := [d] }
  | _ => none }
def FnExactEqualCodePairsWrongFalsely : Prop := fnExactEqualCodePairsRow.holds Try.pinned (OpenSpec.ofChange fnExactEqualCodePairsWrong)

/-- 'laws.FnExactCSCConflicts': WHATEVER THE INPUT: true; the input reads as it did. -/
def fnExactCSCConflictsSpec : ChangeSpec := { name := "fnExactCSCConflicts", fn := fun _ => fun
  | [d] => { results := [.lit (.bool true)], args := [d] }
  | _ => none }
def fnExactCSCConflictsRow : OpenClaim := { program := "ytgmnknlnlmcmfaa", sum := "75696de144b880944ea8c304aa2cb47d873a5b124f22831bc42547ee524d3e5b", func := "loop.example/g00862/laws.FnExactCSCConflicts", spec := "fnExactCSCConflicts", unfollowed := true, recurses := true, plainKeys := false, apart := false }
def FnExactCSCConflictsSaid : Prop := fnExactCSCConflictsRow.holds Try.pinned (OpenSpec.ofChange fnExactCSCConflictsSpec)

/-- ITS FALSE NEIGHBOUR: 'it returns false'. Refute it at one input. -/
def fnExactCSCConflictsWrong : ChangeSpec := { name := "fnExactCSCConflicts", fn := fun _ => fun
  | [d] => { results := [.lit (.bool false)], args := [d] }
  | _ => none }
def FnExactCSCConflictsWrongFalsely : Prop := fnExactCSCConflictsRow.holds Try.pinned (OpenSpec.ofChange fnExactCSCConflictsWrong)

/-- 'laws.FnExactNondeterministicArcs': WHATEVER THE INPUT: true; the input reads as it did. -/
def fnExactNondeterministicArcsSpec : ChangeSpec := { name := "fnExactNondeterministicArcs", fn := fun _ => fun
  | [d] => { results := [.lit (.bool true)], args := [d] }
  | _ => none }
def fnExactNondeterministicArcsRow : OpenClaim := { program := "ytgmnknlnlmcmfaa", sum := "75696de144b880944ea8c304aa2cb47d873a5b124f22831bc42547ee524d3e5b", func := "loop.example/g00862/laws.FnExactNondeterministicArcs", spec := "fnExactNondeterministicArcs", unfollowed := true, recurses := true, plainKeys := false, apart := false }
def FnExactNondeterministicArcsSaid : Prop := fnExactNondeterministicArcsRow.holds Try.pinned (OpenSpec.ofChange fnExactNondeterministicArcsSpec)

/-- ITS FALSE NEIGHBOUR: 'it returns false'. Refute it at one input. -/
def fnExactNondeterministicArcsWrong : ChangeSpec := { name := "fnExactNondeterministicArcs", fn := fun _ => fun
  | [d] => { results := [.lit (.bool false)], args := [d] }
  | _ => none }
def FnExactNondeterministicArcsWrongFalsely : Prop := fnExactNondeterministicArcsRow.holds Try.pinned (OpenSpec.ofChange fnExactNondeterministicArcsWrong)

/-- 'laws.FnExactPersistencyViolations': WHATEVER THE INPUT: true; the input reads as it did. -/
def fnExactPersistencyViolationsSpec : ChangeSpec := { name := "fnExactPersistencyViolations", fn := fun _ => fun
  | [d] => { results := [.lit (.bool true)], args := [d] }
  | _ => none }
def fnExactPersistencyViolationsRow : OpenClaim := { program := "ytgmnknlnlmcmfaa", sum := "75696de144b880944ea8c304aa2cb47d873a5b124f22831bc42547ee524d3e5b", func := "loop.example/g00862/laws.FnExactPersistencyViolations", spec := "fnExactPersistencyViolations", unfollowed := true, recurses := true, plainKeys := false, apart := false }
def FnExactPersistencyViolationsSaid : Prop := fnExactPersistencyViolationsRow.holds Try.pinned (OpenSpec.ofChange fnExactPersistencyViolationsSpec)

/-- ITS FALSE NEIGHBOUR: 'it returns false'. Refute it at one input. -/
def fnExactPersistencyViolationsWrong : ChangeSpec := { name := "fnExactPersistencyViolations", fn := fun _ => fun
  | [d] => { results := [.lit (.bool false)], args := [d] }
  | _ => none }
def FnExactPersistencyViolationsWrongFalsely : Prop := fnExactPersistencyViolationsRow.holds Try.pinned (OpenSpec.ofChange fnExactPersistencyViolationsWrong)

/-- 'laws.FnExactUnionSTGs': WHATEVER THE INPUT: true; the input reads as it did. -/
def fnExactUnionSTGsSpec : ChangeSpec := { name := "fnExactUnionSTGs", fn := fun _ => fun
  | [d1, d2] => { results := [.lit (.bool true)], args := [d1, d2] }
  | _ => none }
def fnExactUnionSTGsRow : OpenClaim := { program := "ytgmnknlnlmcmfaa", sum := "75696de144b880944ea8c304aa2cb47d873a5b124f22831bc42547ee524d3e5b", func := "loop.example/g00862/laws.FnExactUnionSTGs", spec := "fnExactUnionSTGs", plainKeys := false, apart := false }
def FnExactUnionSTGsSaid : Prop := fnExactUnionSTGsRow.holds Try.pinned (OpenSpec.ofChange fnExactUnionSTGsSpec)

/-- ITS FALSE NEIGHBOUR: 'it returns false'. Refute it at one input. -/
def fnExactUnionSTGsWrong : ChangeSpec := { name := "fnExactUnionSTGs", fn := fun _ => fun
  | [d1, d2] => { results := [.lit (.bool false)], args := [d1, d2] }
  | _ => none }
def FnExactUnionSTGsWrongFalsely : Prop := fnExactUnionSTGsRow.holds Try.pinned (OpenSpec.ofChange fnExactUnionSTGsWrong)

/-- 'laws.FnExactExplore': WHATEVER THE INPUT: true; the input reads as it did. -/
def fnExactExploreSpec : ChangeSpec := { name := "fnExactExplore", fn := fun _ => fun
  | [d] => { results := [.lit (.bool true)], args := [d] }
  | _ => none }
def fnExactExploreRow : OpenClaim := { program := "ytgmnknlnlmcmfaa", sum := "75696de144b880944ea8c304aa2cb47d873a5b124f22831bc42547ee524d3e5b", func := "loop.example/g00862/laws.FnExactExplore", spec := "fnExactExplore", plainKeys := false, apart := false }
def FnExactExploreSaid : Prop := fnExactExploreRow.holds Try.pinned (OpenSpec.ofChange fnExactExploreSpec)

/-- ITS FALSE NEIGHBOUR: 'it returns false'. Refute it at one input. -/
def fnExactExploreWrong : ChangeSpec := { name := "fnExactExplore", fn := fun _ => fun
  | [d] => { results := [.lit (.bool false)], args := [d] }
  | _ => none }
def FnExactExploreWrongFalsely : Prop := fnExactExploreRow.holds Try.pinned (OpenSpec.ofChange fnExactExploreWrong)

/-- 'laws.FnExactInitialCode': WHATEVER THE INPUT: true; the input reads as it did. -/
def fnExactInitialCodeSpec : ChangeSpec := { name := "fnExactInitialCode", fn := fun _ => fun
  | [d] => { results := [.lit (.bool true)], args := [d] }
  | _ => none }
def fnExactInitialCodeRow : OpenClaim := { program := "ytgmnknlnlmcmfaa", sum := "75696de144b880944ea8c304aa2cb47d873a5b124f22831bc42547ee524d3e5b", func := "loop.example/g00862/laws.FnExactInitialCode", spec := "fnExactInitialCode", unfollowed := true, recurses := true, plainKeys := false, apart := false }
def FnExactInitialCodeSaid : Prop := fnExactInitialCodeRow.holds Try.pinned (OpenSpec.ofChange fnExactInitialCodeSpec)

/-- ITS FALSE NEIGHBOUR: 'it returns false'. Refute it at one input. -/
def fnExactInitialCodeWrong : ChangeSpec := { name := "fnExactInitialCode", fn := fun _ => fun
  | [d] => { results := [.lit (.bool false)], args := [d] }
  | _ => none }
def FnExactInitialCodeWrongFalsely : Prop := fnExactInitialCodeRow.holds Try.pinned (OpenSpec.ofChange fnExactInitialCodeWrong)

/-- 'laws.FnExactUnsafeTrace': WHATEVER THE INPUT: true; the input reads as it did. -/
def fnExactUnsafeTraceSpec : ChangeSpec := { name := "fnExactUnsafeTrace", fn := fun _ => fun
  | [d] => { results := [.lit (.bool true)], args := [d] }
  | _ => none }
def fnExactUnsafeTraceRow : OpenClaim := { program := "ytgmnknlnlmcmfaa", sum := "75696de144b880944ea8c304aa2cb47d873a5b124f22831bc42547ee524d3e5b", func := "loop.example/g00862/laws.FnExactUnsafeTrace", spec := "fnExactUnsafeTrace", unfollowed := true, recurses := true, plainKeys := false, apart := false }
def FnExactUnsafeTraceSaid : Prop := fnExactUnsafeTraceRow.holds Try.pinned (OpenSpec.ofChange fnExactUnsafeTraceSpec)

/-- ITS FALSE NEIGHBOUR: 'it returns false'. Refute it at one input. -/
def fnExactUnsafeTraceWrong : ChangeSpec := { name := "fnExactUnsafeTrace", fn := fun _ => fun
  | [d] => { results := [.lit (.bool false)], args := [d] }
  | _ => none }
def FnExactUnsafeTraceWrongFalsely : Prop := fnExactUnsafeTraceRow.holds Try.pinned (OpenSpec.ofChange fnExactUnsafeTraceWrong)

/- THE SECOND FORM. 'bulk': how many values and letters a reading holds, each counted each time it is reached (what is shared counts as often as it is met; a slice's spare places count too). A statement '..UptoSaid' is the law's where the arguments, and the package variables that the reading takes, are together of bulk at most 1048576: NARROWER than '..Said'. Prove '..Said' where nothing that the law and all that it calls make is longer than what came in: it says more and counts as full. Else prove '..UptoSaid'. A law counts once. -/
mutual
def uptoBulk {H : Type} : DataW H → Nat
  | .lit (.string bytes) => bytes.length + 1
  | .lit _ => 1
  | .nil => 1
  | .ptr d => uptoBulk d + 1
  | .slice elems spare => uptoBulkAll elems + uptoBulkAll spare + 1
  | .agg parts => uptoBulkAll parts + 1
  | .iface _ d => uptoBulk d + 1
  | .map entries => uptoBulkEntries entries + 1
  | .held _ => 1
def uptoBulkAll {H : Type} : List (DataW H) → Nat
  | [] => 0
  | d :: r => uptoBulk d + uptoBulkAll r
def uptoBulkEntries {H : Type} : List (Lit × DataW H) → Nat
  | [] => 0
  | x :: r => uptoBulkEntry x + uptoBulkEntries r
def uptoBulkEntry {H : Type} : Lit × DataW H → Nat
  | (.string bytes, d) => bytes.length + uptoBulk d + 1
  | (_, d) => uptoBulk d + 1
 end
def uptoSmall : (H : Type) → List (DataW H) → Bool := fun _ ds => decide (uptoBulkAll ds ≤ 1048576)
def OpenSpec.upto (s : _root_.Go.ChangeSpec) : _root_.Go.OpenSpec := { _root_.Go.OpenSpec.ofChange s with cond := some uptoSmall }

/-- 'laws.FnExactNonInputSignals', WHERE WHAT IT READS IS OF BULK AT MOST 1048576: true; the input reads as it did. -/
def fnExactNonInputSignalsUptoRow : OpenClaim := { program := "ytgmnknlnlmcmfaa", sum := "75696de144b880944ea8c304aa2cb47d873a5b124f22831bc42547ee524d3e5b", func := "loop.example/g00862/laws.FnExactNonInputSignals", spec := "fnExactNonInputSignals", unfollowed := true, recurses := true, plainKeys := false, apart := false, narrowed := true }
def FnExactNonInputSignalsUptoSaid : Prop := fnExactNonInputSignalsUptoRow.holds Try.pinned (OpenSpec.upto fnExactNonInputSignalsSpec)

/-- 'laws.FnExactEqualCodePairs', WHERE WHAT IT READS IS OF BULK AT MOST 1048576: true; the input reads as it did. -/
def fnExactEqualCodePairsUptoRow : OpenClaim := { program := "ytgmnknlnlmcmfaa", sum := "75696de144b880944ea8c304aa2cb47d873a5b124f22831bc42547ee524d3e5b", func := "loop.example/g00862/laws.FnExactEqualCodePairs", spec := "fnExactEqualCodePairs", unfollowed := true, recurses := true, plainKeys := false, apart := false, narrowed := true }
def FnExactEqualCodePairsUptoSaid : Prop := fnExactEqualCodePairsUptoRow.holds Try.pinned (OpenSpec.upto fnExactEqualCodePairsSpec)

/-- 'laws.FnExactCSCConflicts', WHERE WHAT IT READS IS OF BULK AT MOST 1048576: true; the input reads as it did. -/
def fnExactCSCConflictsUptoRow : OpenClaim := { program := "ytgmnknlnlmcmfaa", sum := "75696de144b880944ea8c304aa2cb47d873a5b124f22831bc42547ee524d3e5b", func := "loop.example/g00862/laws.FnExactCSCConflicts", spec := "fnExactCSCConflicts", unfollowed := true, recurses := true, plainKeys := false, apart := false, narrowed := true }
def FnExactCSCConflictsUptoSaid : Prop := fnExactCSCConflictsUptoRow.holds Try.pinned (OpenSpec.upto fnExactCSCConflictsSpec)

/-- 'laws.FnExactNondeterministicArcs', WHERE WHAT IT READS IS OF BULK AT MOST 1048576: true; the input reads as it did. -/
def fnExactNondeterministicArcsUptoRow : OpenClaim := { program := "ytgmnknlnlmcmfaa", sum := "75696de144b880944ea8c304aa2cb47d873a5b124f22831bc42547ee524d3e5b", func := "loop.example/g00862/laws.FnExactNondeterministicArcs", spec := "fnExactNondeterministicArcs", unfollowed := true, recurses := true, plainKeys := false, apart := false, narrowed := true }
def FnExactNondeterministicArcsUptoSaid : Prop := fnExactNondeterministicArcsUptoRow.holds Try.pinned (OpenSpec.upto fnExactNondeterministicArcsSpec)

/-- 'laws.FnExactPersistencyViolations', WHERE WHAT IT READS IS OF BULK AT MOST 1048576: true; the input reads as it did. -/
def fnExactPersistencyViolationsUptoRow : OpenClaim := { program := "ytgmnknlnlmcmfaa", sum := "75696de144b880944ea8c304aa2cb47d873a5b124f22831bc42547ee524d3e5b", func := "loop.example/g00862/laws.FnExactPersistencyViolations", spec := "fnExactPersistencyViolations", unfollowed := true, recurses := true, plainKeys := false, apart := false, narrowed := true }
def FnExactPersistencyViolationsUptoSaid : Prop := fnExactPersistencyViolationsUptoRow.holds Try.pinned (OpenSpec.upto fnExactPersistencyViolationsSpec)

/-- 'laws.FnExactUnionSTGs', WHERE WHAT IT READS IS OF BULK AT MOST 1048576: true; the input reads as it did. -/
def fnExactUnionSTGsUptoRow : OpenClaim := { program := "ytgmnknlnlmcmfaa", sum := "75696de144b880944ea8c304aa2cb47d873a5b124f22831bc42547ee524d3e5b", func := "loop.example/g00862/laws.FnExactUnionSTGs", spec := "fnExactUnionSTGs", plainKeys := false, apart := false, narrowed := true }
def FnExactUnionSTGsUptoSaid : Prop := fnExactUnionSTGsUptoRow.holds Try.pinned (OpenSpec.upto fnExactUnionSTGsSpec)

/-- 'laws.FnExactExplore', WHERE WHAT IT READS IS OF BULK AT MOST 1048576: true; the input reads as it did. -/
def fnExactExploreUptoRow : OpenClaim := { program := "ytgmnknlnlmcmfaa", sum := "75696de144b880944ea8c304aa2cb47d873a5b124f22831bc42547ee524d3e5b", func := "loop.example/g00862/laws.FnExactExplore", spec := "fnExactExplore", plainKeys := false, apart := false, narrowed := true }
def FnExactExploreUptoSaid : Prop := fnExactExploreUptoRow.holds Try.pinned (OpenSpec.upto fnExactExploreSpec)

/-- 'laws.FnExactInitialCode', WHERE WHAT IT READS IS OF BULK AT MOST 1048576: true; the input reads as it did. -/
def fnExactInitialCodeUptoRow : OpenClaim := { program := "ytgmnknlnlmcmfaa", sum := "75696de144b880944ea8c304aa2cb47d873a5b124f22831bc42547ee524d3e5b", func := "loop.example/g00862/laws.FnExactInitialCode", spec := "fnExactInitialCode", unfollowed := true, recurses := true, plainKeys := false, apart := false, narrowed := true }
def FnExactInitialCodeUptoSaid : Prop := fnExactInitialCodeUptoRow.holds Try.pinned (OpenSpec.upto fnExactInitialCodeSpec)

/-- 'laws.FnExactUnsafeTrace', WHERE WHAT IT READS IS OF BULK AT MOST 1048576: true; the input reads as it did. -/
def fnExactUnsafeTraceUptoRow : OpenClaim := { program := "ytgmnknlnlmcmfaa", sum := "75696de144b880944ea8c304aa2cb47d873a5b124f22831bc42547ee524d3e5b", func := "loop.example/g00862/laws.FnExactUnsafeTrace", spec := "fnExactUnsafeTrace", unfollowed := true, recurses := true, plainKeys := false, apart := false, narrowed := true }
def FnExactUnsafeTraceUptoSaid : Prop := fnExactUnsafeTraceUptoRow.holds Try.pinned (OpenSpec.upto fnExactUnsafeTraceSpec)

end Rows
end Go.Proofs.Ytgmnknlnlmcmfaa
