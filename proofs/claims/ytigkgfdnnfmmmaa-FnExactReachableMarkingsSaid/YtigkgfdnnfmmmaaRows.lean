/-
  No cell of these rows narrows 'for every input' (looked for: loops, veiled, ifaces, maps, wideKeys, modest, calm, conditions, laid).
  DERIVED. THE GIVEN ROWS OF THIS SEAT. 7 by the template 'for every input the law returns true; each argument reads behind the call as it read before'; 0 by the template 'total and deterministic' (their statements: YtigkgfdnnfmmmaaTotals.lean).
  GIVEN WITH THE SEED: the statements are not yours to turn. If you find one false, say at which input.
  Laid BY PROGRAM, IN A SANDBOX (cutbox-rows.mjs): the forced cells as the released guide's own fill.sh prints them over the translation b8988827a7c05d0a… (all of the seat's roots in one cut). By AI agents, Wed Nov 11 2026. No macro, syntax, notation, axiom, sorry.
-/
import Derived.Test.YtigkgfdnnfmmmaaChecked
import GoSem.Claim
import GoSem.ClaimJoined
import GoSem.ClaimMapViews
import Derived.JoinedTies
import Derived.KernelRfl
namespace Go.Proofs.Ytigkgfdnnfmmmaa
/- THE CELL 'sum', in the pinned program and in every row, IS THE sha256 OF THE DUMP (.gsa) THAT YtigkgfdnnfmmmaaProg.lean LOADS. Nothing in Lean hashes anything: it is a label: what it is worth is what the hold of that sum in a sandbox is worth. -/
noncomputable def Try.pinned : Pinned := { name := "ytigkgfdnnfmmmaa", sum := "b8988827a7c05d0a2f9974223b7f027cce8aebcc5aab2283b98e2ce9be888517", checked := Try.checked }
namespace Rows
def none {H : Type} : Left H := { results := [], args := [] }

/-- 'laws.FnExactExplore': WHATEVER THE INPUT: true; the input reads as it did. -/
def fnExactExploreSpec : ChangeSpec := { name := "fnExactExplore", fn := fun _ => fun
  | [d] => { results := [.lit (.bool true)], args := [d] }
  | _ => none }
def fnExactExploreRow : OpenClaim := { program := "ytigkgfdnnfmmmaa", sum := "b8988827a7c05d0a2f9974223b7f027cce8aebcc5aab2283b98e2ce9be888517", func := "loop.example/g00862/laws.FnExactExplore", spec := "fnExactExplore", plainKeys := false, apart := false }
def FnExactExploreSaid : Prop := fnExactExploreRow.holds Try.pinned (OpenSpec.ofChange fnExactExploreSpec)

/-- ITS FALSE NEIGHBOUR: 'it returns false'. Refute it at one input. -/
def fnExactExploreWrong : ChangeSpec := { name := "fnExactExplore", fn := fun _ => fun
  | [d] => { results := [.lit (.bool false)], args := [d] }
  | _ => none }
def FnExactExploreWrongFalsely : Prop := fnExactExploreRow.holds Try.pinned (OpenSpec.ofChange fnExactExploreWrong)

/-- 'laws.FnExactUnsafeTrace': WHATEVER THE INPUT: true; the input reads as it did. -/
def fnExactUnsafeTraceSpec : ChangeSpec := { name := "fnExactUnsafeTrace", fn := fun _ => fun
  | [d] => { results := [.lit (.bool true)], args := [d] }
  | _ => none }
def fnExactUnsafeTraceRow : OpenClaim := { program := "ytigkgfdnnfmmmaa", sum := "b8988827a7c05d0a2f9974223b7f027cce8aebcc5aab2283b98e2ce9be888517", func := "loop.example/g00862/laws.FnExactUnsafeTrace", spec := "fnExactUnsafeTrace", unfollowed := true, recurses := true, plainKeys := false, apart := false }
def FnExactUnsafeTraceSaid : Prop := fnExactUnsafeTraceRow.holds Try.pinned (OpenSpec.ofChange fnExactUnsafeTraceSpec)

/-- ITS FALSE NEIGHBOUR: 'it returns false'. Refute it at one input. -/
def fnExactUnsafeTraceWrong : ChangeSpec := { name := "fnExactUnsafeTrace", fn := fun _ => fun
  | [d] => { results := [.lit (.bool false)], args := [d] }
  | _ => none }
def FnExactUnsafeTraceWrongFalsely : Prop := fnExactUnsafeTraceRow.holds Try.pinned (OpenSpec.ofChange fnExactUnsafeTraceWrong)

/-- 'laws.FnExactIsSafe': WHATEVER THE INPUT: true; the input reads as it did. -/
def fnExactIsSafeSpec : ChangeSpec := { name := "fnExactIsSafe", fn := fun _ => fun
  | [d1, d2] => { results := [.lit (.bool true)], args := [d1, d2] }
  | _ => none }
def fnExactIsSafeRow : OpenClaim := { program := "ytigkgfdnnfmmmaa", sum := "b8988827a7c05d0a2f9974223b7f027cce8aebcc5aab2283b98e2ce9be888517", func := "loop.example/g00862/laws.FnExactIsSafe", spec := "fnExactIsSafe", plainKeys := false, apart := false }
def FnExactIsSafeSaid : Prop := fnExactIsSafeRow.holds Try.pinned (OpenSpec.ofChange fnExactIsSafeSpec)

/-- ITS FALSE NEIGHBOUR: 'it returns false'. Refute it at one input. -/
def fnExactIsSafeWrong : ChangeSpec := { name := "fnExactIsSafe", fn := fun _ => fun
  | [d1, d2] => { results := [.lit (.bool false)], args := [d1, d2] }
  | _ => none }
def FnExactIsSafeWrongFalsely : Prop := fnExactIsSafeRow.holds Try.pinned (OpenSpec.ofChange fnExactIsSafeWrong)

/-- 'laws.FnExactReachableMarkings': WHATEVER THE INPUT: true; the input reads as it did. -/
def fnExactReachableMarkingsSpec : ChangeSpec := { name := "fnExactReachableMarkings", fn := fun _ => fun
  | [d1, d2] => { results := [.lit (.bool true)], args := [d1, d2] }
  | _ => none }
def fnExactReachableMarkingsRow : OpenClaim := { program := "ytigkgfdnnfmmmaa", sum := "b8988827a7c05d0a2f9974223b7f027cce8aebcc5aab2283b98e2ce9be888517", func := "loop.example/g00862/laws.FnExactReachableMarkings", spec := "fnExactReachableMarkings", recurses := true, plainKeys := false, apart := false }
def FnExactReachableMarkingsSaid : Prop := fnExactReachableMarkingsRow.holds Try.pinned (OpenSpec.ofChange fnExactReachableMarkingsSpec)

/-- ITS FALSE NEIGHBOUR: 'it returns false'. Refute it at one input. -/
def fnExactReachableMarkingsWrong : ChangeSpec := { name := "fnExactReachableMarkings", fn := fun _ => fun
  | [d1, d2] => { results := [.lit (.bool false)], args := [d1, d2] }
  | _ => none }
def FnExactReachableMarkingsWrongFalsely : Prop := fnExactReachableMarkingsRow.holds Try.pinned (OpenSpec.ofChange fnExactReachableMarkingsWrong)

/-- 'laws.FnExactIsValidMarking': WHATEVER THE INPUT: true; the input reads as it did. -/
def fnExactIsValidMarkingSpec : ChangeSpec := { name := "fnExactIsValidMarking", fn := fun _ => fun
  | [d1, d2] => { results := [.lit (.bool true)], args := [d1, d2] }
  | _ => none }
def fnExactIsValidMarkingRow : OpenClaim := { program := "ytigkgfdnnfmmmaa", sum := "b8988827a7c05d0a2f9974223b7f027cce8aebcc5aab2283b98e2ce9be888517", func := "loop.example/g00862/laws.FnExactIsValidMarking", spec := "fnExactIsValidMarking", plainKeys := false, apart := false }
def FnExactIsValidMarkingSaid : Prop := fnExactIsValidMarkingRow.holds Try.pinned (OpenSpec.ofChange fnExactIsValidMarkingSpec)

/-- ITS FALSE NEIGHBOUR: 'it returns false'. Refute it at one input. -/
def fnExactIsValidMarkingWrong : ChangeSpec := { name := "fnExactIsValidMarking", fn := fun _ => fun
  | [d1, d2] => { results := [.lit (.bool false)], args := [d1, d2] }
  | _ => none }
def FnExactIsValidMarkingWrongFalsely : Prop := fnExactIsValidMarkingRow.holds Try.pinned (OpenSpec.ofChange fnExactIsValidMarkingWrong)

/-- 'laws.FnExactFire': WHATEVER THE INPUT: true; the input reads as it did. -/
def fnExactFireSpec : ChangeSpec := { name := "fnExactFire", fn := fun _ => fun
  | [d1, d2, d3] => { results := [.lit (.bool true)], args := [d1, d2, d3] }
  | _ => none }
def fnExactFireRow : OpenClaim := { program := "ytigkgfdnnfmmmaa", sum := "b8988827a7c05d0a2f9974223b7f027cce8aebcc5aab2283b98e2ce9be888517", func := "loop.example/g00862/laws.FnExactFire", spec := "fnExactFire", plainKeys := false, apart := false }
def FnExactFireSaid : Prop := fnExactFireRow.holds Try.pinned (OpenSpec.ofChange fnExactFireSpec)

/-- ITS FALSE NEIGHBOUR: 'it returns false'. Refute it at one input. -/
def fnExactFireWrong : ChangeSpec := { name := "fnExactFire", fn := fun _ => fun
  | [d1, d2, d3] => { results := [.lit (.bool false)], args := [d1, d2, d3] }
  | _ => none }
def FnExactFireWrongFalsely : Prop := fnExactFireRow.holds Try.pinned (OpenSpec.ofChange fnExactFireWrong)

/-- 'laws.FnExactEnabled': WHATEVER THE INPUT: true; the input reads as it did. -/
def fnExactEnabledSpec : ChangeSpec := { name := "fnExactEnabled", fn := fun _ => fun
  | [d1, d2] => { results := [.lit (.bool true)], args := [d1, d2] }
  | _ => none }
def fnExactEnabledRow : OpenClaim := { program := "ytigkgfdnnfmmmaa", sum := "b8988827a7c05d0a2f9974223b7f027cce8aebcc5aab2283b98e2ce9be888517", func := "loop.example/g00862/laws.FnExactEnabled", spec := "fnExactEnabled", plainKeys := false, apart := false }
def FnExactEnabledSaid : Prop := fnExactEnabledRow.holds Try.pinned (OpenSpec.ofChange fnExactEnabledSpec)

/-- ITS FALSE NEIGHBOUR: 'it returns false'. Refute it at one input. -/
def fnExactEnabledWrong : ChangeSpec := { name := "fnExactEnabled", fn := fun _ => fun
  | [d1, d2] => { results := [.lit (.bool false)], args := [d1, d2] }
  | _ => none }
def FnExactEnabledWrongFalsely : Prop := fnExactEnabledRow.holds Try.pinned (OpenSpec.ofChange fnExactEnabledWrong)

/- THE SECOND FORM. 'bulk': how many values and letters a reading holds, each counted each time it is reached (what is shared counts as often as it is met; a slice's spare places count too). A statement '..UptoSaid' is the law's where the arguments, and the package variables that the reading takes, are together of bulk at most 1048576: NARROWER than '..Said'. Prove '..Said' where nothing that the law and all that it calls make is longer than what came in: it says more and counts as full. Else prove '..UptoSaid'. A law counts once. -/
mutual
def uptoBulk {H : Type} : DataW H → Nat
  | .lit (.string bytes) => bytes.length + 1
  | .lit _ => 1
  | .nil => 1
  | .ptr d => uptoBulk d + 1
  | .slice elems spare => uptoBulkAll elems + uptoBulkAll spare + 1
  | .agg parts => uptoBulkAll parts + 1
  | .iface _ d => uptoBulk d + 1
  | .map entries => uptoBulkEntries entries + 1
  | .held _ => 1
def uptoBulkAll {H : Type} : List (DataW H) → Nat
  | [] => 0
  | d :: r => uptoBulk d + uptoBulkAll r
def uptoBulkEntries {H : Type} : List (Lit × DataW H) → Nat
  | [] => 0
  | x :: r => uptoBulkEntry x + uptoBulkEntries r
def uptoBulkEntry {H : Type} : Lit × DataW H → Nat
  | (.string bytes, d) => bytes.length + uptoBulk d + 1
  | (_, d) => uptoBulk d + 1
 end
def uptoSmall : (H : Type) → List (DataW H) → Bool := fun _ ds => decide (uptoBulkAll ds ≤ 1048576)
def OpenSpec.upto (s : _root_.Go.ChangeSpec) : _root_.Go.OpenSpec := { _root_.Go.OpenSpec.ofChange s with cond := some uptoSmall }

/-- 'laws.FnExactExplore', WHERE WHAT IT READS IS OF BULK AT MOST 1048576: true; the input reads as it did. -/
def fnExactExploreUptoRow : OpenClaim := { program := "ytigkgfdnnfmmmaa", sum := "b8988827a7c05d0a2f9974223b7f027cce8aebcc5aab2283b98e2ce9be888517", func := "loop.example/g00862/laws.FnExactExplore", spec := "fnExactExplore", plainKeys := false, apart := false, narrowed := true }
def FnExactExploreUptoSaid : Prop := fnExactExploreUptoRow.holds Try.pinned (OpenSpec.upto fnExactExploreSpec)

/-- 'laws.FnExactUnsafeTrace', WHERE WHAT IT READS IS OF BULK AT MOST 1048576: true; the input reads as it did. -/
def fnExactUnsafeTraceUptoRow : OpenClaim := { program := "ytigkgfdnnfmmmaa", sum := "b8988827a7c05d0a2f9974223b7f027cce8aebcc5aab2283b98e2ce9be888517", func := "loop.example/g00862/laws.FnExactUnsafeTrace", spec := "fnExactUnsafeTrace", unfollowed := true, recurses := true, plainKeys := false, apart := false, narrowed := true }
def FnExactUnsafeTraceUptoSaid : Prop := fnExactUnsafeTraceUptoRow.holds Try.pinned (OpenSpec.upto fnExactUnsafeTraceSpec)

/-- 'laws.FnExactIsSafe', WHERE WHAT IT READS IS OF BULK AT MOST 1048576: true; the input reads as it did. -/
def fnExactIsSafeUptoRow : OpenClaim := { program := "ytigkgfdnnfmmmaa", sum := "b8988827a7c05d0a2f9974223b7f027cce8aebcc5aab2283b98e2ce9be888517", func := "loop.example/g00862/laws.FnExactIsSafe", spec := "fnExactIsSafe", plainKeys := false, apart := false, narrowed := true }
def FnExactIsSafeUptoSaid : Prop := fnExactIsSafeUptoRow.holds Try.pinned (OpenSpec.upto fnExactIsSafeSpec)

/-- 'laws.FnExactReachableMarkings', WHERE WHAT IT READS IS OF BULK AT MOST 1048576: true; the input reads as it did. -/
def fnExactReachableMarkingsUptoRow : OpenClaim := { program := "ytigkgfdnnfmmmaa", sum := "b8988827a7c05d0a2f9974223b7f027cce8aebcc5aab2283b98e2ce9be888517", func := "loop.example/g00862/laws.FnExactReachableMarkings", spec := "fnExactReachableMarkings", recurses := true, plainKeys := false, apart := false, narrowed := true }
def FnExactReachableMarkingsUptoSaid : Prop := fnExactReachableMarkingsUptoRow.holds Try.pinned (OpenSpec.upto fnExactReachableMarkingsSpec)

/-- 'laws.FnExactIsValidMarking', WHERE WHAT IT READS IS OF BULK AT MOST 1048576: true; the input reads as it did. -/
def fnExactIsValidMarkingUptoRow : OpenClaim := { program := "ytigkgfdnnfmmmaa", sum := "b8988827a7c05d0a2f9974223b7f027cce8aebcc5aab2283b98e2ce9be888517", func := "loop.example/g00862/laws.FnExactIsValidMarking", spec := "fnExactIsValidMarking", plainKeys := false, apart := false, narrowed := true }
def FnExactIsValidMarkingUptoSaid : Prop := fnExactIsValidMarkingUptoRow.holds Try.pinned (OpenSpec.upto fnExactIsValidMarkingSpec)

/-- 'laws.FnExactFire', WHERE WHAT IT READS IS OF BULK AT MOST 1048576: true; the input reads as it did. -/
def fnExactFireUptoRow : OpenClaim := { program := "ytigkgfdnnfmmmaa", sum := "b8988827a7c05d0a2f9974223b7f027cce8aebcc5aab2283b98e2ce9be888517", func := "loop.example/g00862/laws.FnExactFire", spec := "fnExactFire", plainKeys := false, apart := false, narrowed := true }
def FnExactFireUptoSaid : Prop := fnExactFireUptoRow.holds Try.pinned (OpenSpec.upto fnExactFireSpec)

/-- 'laws.FnExactEnabled', WHERE WHAT IT READS IS OF BULK AT MOST 1048576: true; the input reads as it did. -/
def fnExactEnabledUptoRow : OpenClaim := { program := "ytigkgfdnnfmmmaa", sum := "b8988827a7c05d0a2f9974223b7f027cce8aebcc5aab2283b98e2ce9be888517", func := "loop.example/g00862/laws.FnExactEnabled", spec := "fnExactEnabled", plainKeys := false, apart := false, narrowed := true }
def FnExactEnabledUptoSaid : Prop := fnExactEnabledUptoRow.holds Try.pinned (OpenSpec.upto fnExactEnabledSpec)

end Rows
end Go.Proofs.Ytigkgfdnnfmmmaa
