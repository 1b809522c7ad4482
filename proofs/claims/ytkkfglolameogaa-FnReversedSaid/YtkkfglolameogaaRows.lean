/-
  No cell of these rows narrows 'for every input' (looked for: loops, veiled, ifaces, maps, wideKeys, modest, calm, conditions, laid).
  DERIVED. THE GIVEN ROWS OF THIS SEAT. 8 by the template 'for every input the law returns true; each argument reads behind the call as it read before'; 0 by the template 'total and deterministic' (their statements: YtkkfglolameogaaTotals.lean).
  GIVEN WITH THE SEED: the statements are not yours to turn. If you find one false, say at which input.
  Laid BY PROGRAM, IN A SANDBOX (cutbox-rows.mjs): the forced cells as the released guide's own fill.sh prints them over the translation 9903d78cbb3ce347… (all of the seat's roots in one cut). By AI agents, Wed Nov 11 2026. No macro, syntax, notation, axiom, sorry.
-/
import Derived.Test.YtkkfglolameogaaChecked
import GoSem.Claim
import GoSem.ClaimJoined
import GoSem.ClaimMapViews
import Derived.JoinedTies
import Derived.KernelRfl
namespace Go.Proofs.Ytkkfglolameogaa
/- THE CELL 'sum', in the pinned program and in every row, IS THE sha256 OF THE DUMP (.gsa) THAT YtkkfglolameogaaProg.lean LOADS. Nothing in Lean hashes anything: it is a label: what it is worth is what the hold of that sum in a sandbox is worth. -/
noncomputable def Try.pinned : Pinned := { name := "ytkkfglolameogaa", sum := "9903d78cbb3ce34783e13ce9a3a0243d72bf5dcff37659d71e542d92a748662d", checked := Try.checked }
namespace Rows
def none {H : Type} : Left H := { results := [], args := [] }

/-- 'laws.FnExactMirrorSTG': WHATEVER THE INPUT: true; the input reads as it did. -/
def fnExactMirrorSTGSpec : ChangeSpec := { name := "fnExactMirrorSTG", fn := fun _ => fun
  | [d] => { results := [.lit (.bool true)], args := [d] }
  | _ => none }
def fnExactMirrorSTGRow : OpenClaim := { program := "ytkkfglolameogaa", sum := "9903d78cbb3ce34783e13ce9a3a0243d72bf5dcff37659d71e542d92a748662d", func := "loop.example/g00862/laws.FnExactMirrorSTG", spec := "fnExactMirrorSTG", apart := false }
def FnExactMirrorSTGSaid : Prop := fnExactMirrorSTGRow.holds Try.pinned (OpenSpec.ofChange fnExactMirrorSTGSpec)

/-- ITS FALSE NEIGHBOUR: 'it returns false'. Refute it at one input. -/
def fnExactMirrorSTGWrong : ChangeSpec := { name := "fnExactMirrorSTG", fn := fun _ => fun
  | [d] => { results := [.lit (.bool false)], args := [d] }
  | _ => none }
def FnExactMirrorSTGWrongFalsely : Prop := fnExactMirrorSTGRow.holds Try.pinned (OpenSpec.ofChange fnExactMirrorSTGWrong)

/-- 'laws.FnExactHideSignal': WHATEVER THE INPUT: true; the input reads as it did. -/
def fnExactHideSignalSpec : ChangeSpec := { name := "fnExactHideSignal", fn := fun _ => fun
  | [d1, d2] => { results := [.lit (.bool true)], args := [d1, d2] }
  | _ => none }
def fnExactHideSignalRow : OpenClaim := { program := "ytkkfglolameogaa", sum := "9903d78cbb3ce34783e13ce9a3a0243d72bf5dcff37659d71e542d92a748662d", func := "loop.example/g00862/laws.FnExactHideSignal", spec := "fnExactHideSignal", apart := false }
def FnExactHideSignalSaid : Prop := fnExactHideSignalRow.holds Try.pinned (OpenSpec.ofChange fnExactHideSignalSpec)

/-- ITS FALSE NEIGHBOUR: 'it returns false'. Refute it at one input. -/
def fnExactHideSignalWrong : ChangeSpec := { name := "fnExactHideSignal", fn := fun _ => fun
  | [d1, d2] => { results := [.lit (.bool false)], args := [d1, d2] }
  | _ => none }
def FnExactHideSignalWrongFalsely : Prop := fnExactHideSignalRow.holds Try.pinned (OpenSpec.ofChange fnExactHideSignalWrong)

/-- 'laws.FnExactUnionSTGs': WHATEVER THE INPUT: true; the input reads as it did. -/
def fnExactUnionSTGsSpec : ChangeSpec := { name := "fnExactUnionSTGs", fn := fun _ => fun
  | [d1, d2] => { results := [.lit (.bool true)], args := [d1, d2] }
  | _ => none }
def fnExactUnionSTGsRow : OpenClaim := { program := "ytkkfglolameogaa", sum := "9903d78cbb3ce34783e13ce9a3a0243d72bf5dcff37659d71e542d92a748662d", func := "loop.example/g00862/laws.FnExactUnionSTGs", spec := "fnExactUnionSTGs", apart := false }
def FnExactUnionSTGsSaid : Prop := fnExactUnionSTGsRow.holds Try.pinned (OpenSpec.ofChange fnExactUnionSTGsSpec)

/-- ITS FALSE NEIGHBOUR: 'it returns false'. Refute it at one input. -/
def fnExactUnionSTGsWrong : ChangeSpec := { name := "fnExactUnionSTGs", fn := fun _ => fun
  | [d1, d2] => { results := [.lit (.bool false)], args := [d1, d2] }
  | _ => none }
def FnExactUnionSTGsWrongFalsely : Prop := fnExactUnionSTGsRow.holds Try.pinned (OpenSpec.ofChange fnExactUnionSTGsWrong)

/-- 'laws.FnExactUnusedPlaces': WHATEVER THE INPUT: true; the input reads as it did. -/
def fnExactUnusedPlacesSpec : ChangeSpec := { name := "fnExactUnusedPlaces", fn := fun _ => fun
  | [d] => { results := [.lit (.bool true)], args := [d] }
  | _ => none }
def fnExactUnusedPlacesRow : OpenClaim := { program := "ytkkfglolameogaa", sum := "9903d78cbb3ce34783e13ce9a3a0243d72bf5dcff37659d71e542d92a748662d", func := "loop.example/g00862/laws.FnExactUnusedPlaces", spec := "fnExactUnusedPlaces", apart := false }
def FnExactUnusedPlacesSaid : Prop := fnExactUnusedPlacesRow.holds Try.pinned (OpenSpec.ofChange fnExactUnusedPlacesSpec)

/-- ITS FALSE NEIGHBOUR: 'it returns false'. Refute it at one input. -/
def fnExactUnusedPlacesWrong : ChangeSpec := { name := "fnExactUnusedPlaces", fn := fun _ => fun
  | [d] => { results := [.lit (.bool false)], args := [d] }
  | _ => none }
def FnExactUnusedPlacesWrongFalsely : Prop := fnExactUnusedPlacesRow.holds Try.pinned (OpenSpec.ofChange fnExactUnusedPlacesWrong)

/-- 'laws.FnExactRemovePlace': WHATEVER THE INPUT: true; the input reads as it did. -/
def fnExactRemovePlaceSpec : ChangeSpec := { name := "fnExactRemovePlace", fn := fun _ => fun
  | [d1, d2] => { results := [.lit (.bool true)], args := [d1, d2] }
  | _ => none }
def fnExactRemovePlaceRow : OpenClaim := { program := "ytkkfglolameogaa", sum := "9903d78cbb3ce34783e13ce9a3a0243d72bf5dcff37659d71e542d92a748662d", func := "loop.example/g00862/laws.FnExactRemovePlace", spec := "fnExactRemovePlace", apart := false }
def FnExactRemovePlaceSaid : Prop := fnExactRemovePlaceRow.holds Try.pinned (OpenSpec.ofChange fnExactRemovePlaceSpec)

/-- ITS FALSE NEIGHBOUR: 'it returns false'. Refute it at one input. -/
def fnExactRemovePlaceWrong : ChangeSpec := { name := "fnExactRemovePlace", fn := fun _ => fun
  | [d1, d2] => { results := [.lit (.bool false)], args := [d1, d2] }
  | _ => none }
def FnExactRemovePlaceWrongFalsely : Prop := fnExactRemovePlaceRow.holds Try.pinned (OpenSpec.ofChange fnExactRemovePlaceWrong)

/-- 'laws.FnExactIsMarkedGraph': WHATEVER THE INPUT: true; the input reads as it did. -/
def fnExactIsMarkedGraphSpec : ChangeSpec := { name := "fnExactIsMarkedGraph", fn := fun _ => fun
  | [d] => { results := [.lit (.bool true)], args := [d] }
  | _ => none }
def fnExactIsMarkedGraphRow : OpenClaim := { program := "ytkkfglolameogaa", sum := "9903d78cbb3ce34783e13ce9a3a0243d72bf5dcff37659d71e542d92a748662d", func := "loop.example/g00862/laws.FnExactIsMarkedGraph", spec := "fnExactIsMarkedGraph", apart := false }
def FnExactIsMarkedGraphSaid : Prop := fnExactIsMarkedGraphRow.holds Try.pinned (OpenSpec.ofChange fnExactIsMarkedGraphSpec)

/-- ITS FALSE NEIGHBOUR: 'it returns false'. Refute it at one input. -/
def fnExactIsMarkedGraphWrong : ChangeSpec := { name := "fnExactIsMarkedGraph", fn := fun _ => fun
  | [d] => { results := [.lit (.bool false)], args := [d] }
  | _ => none }
def FnExactIsMarkedGraphWrongFalsely : Prop := fnExactIsMarkedGraphRow.holds Try.pinned (OpenSpec.ofChange fnExactIsMarkedGraphWrong)

/-- 'laws.FnFired': WHATEVER THE INPUT: true; the input reads as it did. -/
def fnFiredSpec : ChangeSpec := { name := "fnFired", fn := fun _ => fun
  | [d1, d2] => { results := [.lit (.bool true)], args := [d1, d2] }
  | _ => none }
def fnFiredRow : OpenClaim := { program := "ytkkfglolameogaa", sum := "9903d78cbb3ce34783e13ce9a3a0243d72bf5dcff37659d71e542d92a748662d", func := "loop.example/g00862/laws.FnFired", spec := "fnFired", apart := false }
def FnFiredSaid : Prop := fnFiredRow.holds Try.pinned (OpenSpec.ofChange fnFiredSpec)

/-- ITS FALSE NEIGHBOUR: 'it returns false'. Refute it at one input. -/
def fnFiredWrong : ChangeSpec := { name := "fnFired", fn := fun _ => fun
  | [d1, d2] => { results := [.lit (.bool false)], args := [d1, d2] }
  | _ => none }
def FnFiredWrongFalsely : Prop := fnFiredRow.holds Try.pinned (OpenSpec.ofChange fnFiredWrong)

/-- 'laws.FnReversed': WHATEVER THE INPUT: true; the input reads as it did. -/
def fnReversedSpec : ChangeSpec := { name := "fnReversed", fn := fun _ => fun
  | [d1, d2] => { results := [.lit (.bool true)], args := [d1, d2] }
  | _ => none }
def fnReversedRow : OpenClaim := { program := "ytkkfglolameogaa", sum := "9903d78cbb3ce34783e13ce9a3a0243d72bf5dcff37659d71e542d92a748662d", func := "loop.example/g00862/laws.FnReversed", spec := "fnReversed", apart := false }
def FnReversedSaid : Prop := fnReversedRow.holds Try.pinned (OpenSpec.ofChange fnReversedSpec)

/-- ITS FALSE NEIGHBOUR: 'it returns false'. Refute it at one input. -/
def fnReversedWrong : ChangeSpec := { name := "fnReversed", fn := fun _ => fun
  | [d1, d2] => { results := [.lit (.bool false)], args := [d1, d2] }
  | _ => none }
def FnReversedWrongFalsely : Prop := fnReversedRow.holds Try.pinned (OpenSpec.ofChange fnReversedWrong)

/- THE SECOND FORM. 'bulk': how many values and letters a reading holds, each counted each time it is reached (what is shared counts as often as it is met; a slice's spare places count too). A statement '..UptoSaid' is the law's where the arguments, and the package variables that the reading takes, are together of bulk at most 1048576: NARROWER than '..Said'. Prove '..Said' where nothing that the law and all that it calls make is longer than what came in: it says more and counts as full. Else prove '..UptoSaid'. A law counts once. -/
mutual
def uptoBulk {H : Type} : DataW H → Nat
  | .lit (.string bytes) => bytes.length + 1
  | .lit _ => 1
  | .nil => 1
  | .ptr d => uptoBulk d + 1
  | .slice elems spare => uptoBulkAll elems + uptoBulkAll spare + 1
  | .agg parts => uptoBulkAll parts + 1
  | .iface _ d => uptoBulk d + 1
  | .map entries => uptoBulkEntries entries + 1
  | .held _ => 1
def uptoBulkAll {H : Type} : List (DataW H) → Nat
  | [] => 0
  | d :: r => uptoBulk d + uptoBulkAll r
def uptoBulkEntries {H : Type} : List (Lit × DataW H) → Nat
  | [] => 0
  | x :: r => uptoBulkEntry x + uptoBulkEntries r
def uptoBulkEntry {H : Type} : Lit × DataW H → Nat
  | (.string bytes, d) => bytes.length + uptoBulk d + 1
  | (_, d) => uptoBulk d + 1
 end
def uptoSmall : (H : Type) → List (DataW H) → Bool := fun _ ds => decide (uptoBulkAll ds ≤ 1048576)
def OpenSpec.upto (s : _root_.Go.ChangeSpec) : _root_.Go.OpenSpec := { _root_.Go.OpenSpec.ofChange s with cond := some uptoSmall }

/-- 'laws.FnExactMirrorSTG', WHERE WHAT IT READS IS OF BULK AT MOST 1048576: true; the input reads as it did. -/
def fnExactMirrorSTGUptoRow : OpenClaim := { program := "ytkkfglolameogaa", sum := "9903d78cbb3ce34783e13ce9a3a0243d72bf5dcff37659d71e542d92a748662d", func := "loop.example/g00862/laws.FnExactMirrorSTG", spec := "fnExactMirrorSTG", apart := false, narrowed := true }
def FnExactMirrorSTGUptoSaid : Prop := fnExactMirrorSTGUptoRow.holds Try.pinned (OpenSpec.upto fnExactMirrorSTGSpec)

/-- 'laws.FnExactHideSignal', WHERE WHAT IT READS IS OF BULK AT MOST 1048576: true; the input reads as it did. -/
def fnExactHideSignalUptoRow : OpenClaim := { program := "ytkkfglolameogaa", sum := "9903d78cbb3ce34783e13ce9a3a0243d72bf5dcff37659d71e542d92a748662d", func := "loop.example/g00862/laws.FnExactHideSignal", spec := "fnExactHideSignal", apart := false, narrowed := true }
def FnExactHideSignalUptoSaid : Prop := fnExactHideSignalUptoRow.holds Try.pinned (OpenSpec.upto fnExactHideSignalSpec)

/-- 'laws.FnExactUnionSTGs', WHERE WHAT IT READS IS OF BULK AT MOST 1048576: true; the input reads as it did. -/
def fnExactUnionSTGsUptoRow : OpenClaim := { program := "ytkkfglolameogaa", sum := "9903d78cbb3ce34783e13ce9a3a0243d72bf5dcff37659d71e542d92a748662d", func := "loop.example/g00862/laws.FnExactUnionSTGs", spec := "fnExactUnionSTGs", apart := false, narrowed := true }
def FnExactUnionSTGsUptoSaid : Prop := fnExactUnionSTGsUptoRow.holds Try.pinned (OpenSpec.upto fnExactUnionSTGsSpec)

/-- 'laws.FnExactUnusedPlaces', WHERE WHAT IT READS IS OF BULK AT MOST 1048576: true; the input reads as it did. -/
def fnExactUnusedPlacesUptoRow : OpenClaim := { program := "ytkkfglolameogaa", sum := "9903d78cbb3ce34783e13ce9a3a0243d72bf5dcff37659d71e542d92a748662d", func := "loop.example/g00862/laws.FnExactUnusedPlaces", spec := "fnExactUnusedPlaces", apart := false, narrowed := true }
def FnExactUnusedPlacesUptoSaid : Prop := fnExactUnusedPlacesUptoRow.holds Try.pinned (OpenSpec.upto fnExactUnusedPlacesSpec)

/-- 'laws.FnExactRemovePlace', WHERE WHAT IT READS IS OF BULK AT MOST 1048576: true; the input reads as it did. -/
def fnExactRemovePlaceUptoRow : OpenClaim := { program := "ytkkfglolameogaa", sum := "9903d78cbb3ce34783e13ce9a3a0243d72bf5dcff37659d71e542d92a748662d", func := "loop.example/g00862/laws.FnExactRemovePlace", spec := "fnExactRemovePlace", apart := false, narrowed := true }
def FnExactRemovePlaceUptoSaid : Prop := fnExactRemovePlaceUptoRow.holds Try.pinned (OpenSpec.upto fnExactRemovePlaceSpec)

/-- 'laws.FnExactIsMarkedGraph', WHERE WHAT IT READS IS OF BULK AT MOST 1048576: true; the input reads as it did. -/
def fnExactIsMarkedGraphUptoRow : OpenClaim := { program := "ytkkfglolameogaa", sum := "9903d78cbb3ce34783e13ce9a3a0243d72bf5dcff37659d71e542d92a748662d", func := "loop.example/g00862/laws.FnExactIsMarkedGraph", spec := "fnExactIsMarkedGraph", apart := false, narrowed := true }
def FnExactIsMarkedGraphUptoSaid : Prop := fnExactIsMarkedGraphUptoRow.holds Try.pinned (OpenSpec.upto fnExactIsMarkedGraphSpec)

/-- 'laws.FnFired', WHERE WHAT IT READS IS OF BULK AT MOST 1048576: true; the input reads as it did. -/
def fnFiredUptoRow : OpenClaim := { program := "ytkkfglolameogaa", sum := "9903d78cbb3ce34783e13ce9a3a0243d72bf5dcff37659d71e542d92a748662d", func := "loop.example/g00862/laws.FnFired", spec := "fnFired", apart := false, narrowed := true }
def FnFiredUptoSaid : Prop := fnFiredUptoRow.holds Try.pinned (OpenSpec.upto fnFiredSpec)

/-- 'laws.FnReversed', WHERE WHAT IT READS IS OF BULK AT MOST 1048576: true; the input reads as it did. -/
def fnReversedUptoRow : OpenClaim := { program := "ytkkfglolameogaa", sum := "9903d78cbb3ce34783e13ce9a3a0243d72bf5dcff37659d71e542d92a748662d", func := "loop.example/g00862/laws.FnReversed", spec := "fnReversed", apart := false, narrowed := true }
def FnReversedUptoSaid : Prop := fnReversedUptoRow.holds Try.pinned (OpenSpec.upto fnReversedSpec)

end Rows
end Go.Proofs.Ytkkfglolameogaa
