/-
  No cell of these rows narrows 'for every input' (looked for: loops, veiled, ifaces, maps, wideKeys, modest, calm, conditions, laid).
  DERIVED. THE GIVEN ROWS OF THIS SEAT. 7 by the template 'for every input the law returns true; each argument reads behind the call as it read before'; 0 by the template 'total and deterministic' (their statements: YtjelnlhalpoinaaTotals.lean).
  GIVEN WITH THE SEED: the statements are not yours to turn. If you find one false, say at which input.
  Laid BY PROGRAM, IN A SANDBOX (cutbox-rows.mjs): the forced cells as the released guide's own fill.sh prints them over the translation a541efc978fe0e9e… (all of the seat's roots in one cut). By AI agents, Wed Nov 11 2026. No macro, syntax, notation, axiom, sorry.
-/
import Derived.Test.YtjelnlhalpoinaaChecked
import GoSem.Claim
import GoSem.ClaimJoined
import GoSem.ClaimMapViews
import Derived.JoinedTies
import Derived.KernelRfl
namespace Go.Proofs.Ytjelnlhalpoinaa
/- THE CELL 'sum', in the pinned program and in every row, IS THE sha256 OF THE DUMP (.gsa) THAT YtjelnlhalpoinaaProg.lean LOADS. Nothing in Lean hashes anything: it is a label: what it is worth is what the hold of that sum in a sandbox is worth. -/
noncomputable def Try.pinned : Pinned := { name := "ytjelnlhalpoinaa", sum := "a541efc978fe0e9ee4b14006860fb8da9c475d60bc4429f73d5025ff81647db0", checked := Try.checked }
namespace Rows
def none {H : Type} : Left H := { results := [], args := [] }

/-- 'laws.FnExactUnionSTGs': WHATEVER THE INPUT: true; the input reads as it did. -/
def fnExactUnionSTGsSpec : ChangeSpec := { name := "fnExactUnionSTGs", fn := fun _ => fun
  | [d1, d2] => { results := [.lit (.bool true)], args := [d1, d2] }
  | _ => none }
def fnExactUnionSTGsRow : OpenClaim := { program := "ytjelnlhalpoinaa", sum := "a541efc978fe0e9ee4b14006860fb8da9c475d60bc4429f73d5025ff81647db0", func := "loop.example/g00862/laws.FnExactUnionSTGs", spec := "fnExactUnionSTGs", apart := false }
def FnExactUnionSTGsSaid : Prop := fnExactUnionSTGsRow.holds Try.pinned (OpenSpec.ofChange fnExactUnionSTGsSpec)

/-- ITS FALSE NEIGHBOUR: 'it returns false'. Refute it at one input. -/
def fnExactUnionSTGsWrong : ChangeSpec := { name := "fnExactUnionSTGs", fn := fun _ => fun
  | [d1, d2] => { results := [.lit (.bool false)], args := [d1, d2] }
  | _ => none }
def FnExactUnionSTGsWrongFalsely : Prop := fnExactUnionSTGsRow.holds Try.pinned (OpenSpec.ofChange fnExactUnionSTGsWrong)

/-- 'laws.FnReversed': WHATEVER THE INPUT: true; the input reads as it did. -/
def fnReversedSpec : ChangeSpec := { name := "fnReversed", fn := fun _ => fun
  | [d1, d2] => { results := [.lit (.bool true)], args := [d1, d2] }
  | _ => none }
def fnReversedRow : OpenClaim := { program := "ytjelnlhalpoinaa", sum := "a541efc978fe0e9ee4b14006860fb8da9c475d60bc4429f73d5025ff81647db0", func := "loop.example/g00862/laws.FnReversed", spec := "fnReversed", apart := false }
def FnReversedSaid : Prop := fnReversedRow.holds Try.pinned (OpenSpec.ofChange fnReversedSpec)

/-- ITS FALSE NEIGHBOUR: 'it returns false'. Refute it at one input. -/
def fnReversedWrong : ChangeSpec := { name := "fnReversed", fn := fun _ => fun
  | [d1, d2] => { results := [.lit (.bool false)], args := [d1, d2] }
  | _ => none }
def FnReversedWrongFalsely : Prop := fnReversedRow.holds Try.pinned (OpenSpec.ofChange fnReversedWrong)

/-- 'laws.FnExactMarkingIndex': WHATEVER THE INPUT: true; the input reads as it did. -/
def fnExactMarkingIndexSpec : ChangeSpec := { name := "fnExactMarkingIndex", fn := fun _ => fun
  | [d1, d2] => { results := [.lit (.bool true)], args := [d1, d2] }
  | _ => none }
def fnExactMarkingIndexRow : OpenClaim := { program := "ytjelnlhalpoinaa", sum := "a541efc978fe0e9ee4b14006860fb8da9c475d60bc4429f73d5025ff81647db0", func := "loop.example/g00862/laws.FnExactMarkingIndex", spec := "fnExactMarkingIndex", unfollowed := true, recurses := true, apart := false }
def FnExactMarkingIndexSaid : Prop := fnExactMarkingIndexRow.holds Try.pinned (OpenSpec.ofChange fnExactMarkingIndexSpec)

/-- ITS FALSE NEIGHBOUR: 'it returns false'. Refute it at one input. -/
def fnExactMarkingIndexWrong : ChangeSpec := { name := "fnExactMarkingIndex", fn := fun _ => fun
  | [d1, d2] => { results := [.lit (.bool false)], args := [d1, d2] }
  | _ => none }
def FnExactMarkingIndexWrongFalsely : Prop := fnExactMarkingIndexRow.holds Try.pinned (OpenSpec.ofChange fnExactMarkingIndexWrong)

/-- 'laws.FnExactMovesFrom': WHATEVER THE INPUT: true; the input reads as it did. -/
def fnExactMovesFromSpec : ChangeSpec := { name := "fnExactMovesFrom", fn := fun _ => fun
  | [d1, d2] => { results := [.lit (.bool true)], args := [d1, d2] }
  | _ => none }
def fnExactMovesFromRow : OpenClaim := { program := "ytjelnlhalpoinaa", sum := "a541efc978fe0e9ee4b14006860fb8da9c475d60bc4429f73d5025ff81647db0", func := "loop.example/g00862/laws.FnExactMovesFrom", spec := "fnExactMovesFrom", unfollowed := true, recurses := true, apart := false }
def FnExactMovesFromSaid : Prop := fnExactMovesFromRow.holds Try.pinned (OpenSpec.ofChange fnExactMovesFromSpec)

/-- ITS FALSE NEIGHBOUR: 'it returns false'. Refute it at one input. -/
def fnExactMovesFromWrong : ChangeSpec := { name := "fnExactMovesFrom", fn := fun _ => fun
  | [d1, d2] => { results := [.lit (.bool false)], args := [d1, d2] }
  | _ => none }
def FnExactMovesFromWrongFalsely : Prop := fnExactMovesFromRow.holds Try.pinned (OpenSpec.ofChange fnExactMovesFromWrong)

/-- 'laws.FnExactDeadlocks': WHATEVER THE INPUT: true; the input reads as it did. -/
def fnExactDeadlocksSpec : ChangeSpec := { name := "fnExactDeadlocks", fn := fun _ => fun
  | [d] => { results := [.lit (.bool true)], args := [d] }
  | _ => none }
def fnExactDeadlocksRow : OpenClaim := { program := "ytjelnlhalpoinaa", sum := "a541efc978fe0e9ee4b14006860fb8da9c475d60bc4429f73d5025ff81647db0", func := "loop.example/g00862/laws.FnExactDeadlocks", spec := "fnExactDeadlocks", unfollowed := true, recurses := true, apart := false }
def FnExactDeadlocksSaid : Prop := fnExactDeadlocksRow.holds Try.pinned (OpenSpec.ofChange fnExactDeadlocksSpec)

/-- ITS FALSE NEIGHBOUR: 'it returns false'. Refute it at one input. -/
def fnExactDeadlocksWrong : ChangeSpec := { name := "fnExactDeadlocks", fn := fun _ => fun
  | [d] => { results := [.lit (.bool false)], args := [d] }
  | _ => none }
def FnExactDeadlocksWrongFalsely : Prop := fnExactDeadlocksRow.holds Try.pinned (OpenSpec.ofChange fnExactDeadlocksWrong)

/-- 'laws.FnExactDeadTransitions': WHATEVER THE INPUT: true; the input reads as it did. -/
def fnExactDeadTransitionsSpec : ChangeSpec := { name := "fnExactDeadTransitions", fn := fun _ => fun
  | [d1, d2] => { results := [.lit (.bool true)], args := [d1, d2] }
  | _ => none }
def fnExactDeadTransitionsRow : OpenClaim := { program := "ytjelnlhalpoinaa", sum := "a541efc978fe0e9ee4b14006860fb8da9c475d60bc4429f73d5025ff81647db0", func := "loop.example/g00862/laws.FnExactDeadTransitions", spec := "fnExactDeadTransitions", unfollowed := true, recurses := true, apart := false }
def FnExactDeadTransitionsSaid : Prop := fnExactDeadTransitionsRow.holds Try.pinned (OpenSpec.ofChange fnExactDeadTransitionsSpec)

/-- ITS FALSE NEIGHBOUR: 'it returns false'. Refute it at one input. -/
def fnExactDeadTransitionsWrong : ChangeSpec := { name := "fnExactDeadTransitions", fn := fun _ => fun
  | [d1, d2] => { results := [.lit (.bool false)], args := [d1, d2] }
  | _ => none }
def FnExactDeadTransitionsWrongFalsely : Prop := fnExactDeadTransitionsRow.holds Try.pinned (OpenSpec.ofChange fnExactDeadTransitionsWrong)

/-- 'laws.FnExactCountPaths': WHATEVER THE INPUT: true; the input reads as it did. -/
def fnExactCountPathsSpec : ChangeSpec := { name := "fnExactCountPaths", fn := fun _ => fun
  | [d1, d2] => { results := [.lit (.bool true)], args := [d1, d2] }
  | _ => none }
def fnExactCountPathsRow : OpenClaim := { program := "ytjelnlhalpoinaa", sum := "a541efc978fe0e9ee4b14006860fb8da9c475d60bc4429f73d5025ff81647db0", func := "loop.example/g00862/laws.FnExactCountPaths", spec := "fnExactCountPaths", unfollowed := true, recurses := true, apart := false }
def FnExactCountPathsSaid : Prop := fnExactCountPathsRow.holds Try.pinned (OpenSpec.ofChange fnExactCountPathsSpec)

/-- ITS FALSE NEIGHBOUR: 'it returns false'. Refute it at one input. -/
def fnExactCountPathsWrong : ChangeSpec := { name := "fnExactCountPaths", fn := fun _ => fun
  | [d1, d2] => { results := [.lit (.bool false)], args := [d1, d2] }
  | _ => none }
def FnExactCountPathsWrongFalsely : Prop := fnExactCountPathsRow.holds Try.pinned (OpenSpec.ofChange fnExactCountPathsWrong)

/- THE SECOND FORM. 'bulk': how many values and letters a reading holds, each counted each time it is reached (what is shared counts as often as it is met; a slice's spare places count too). A statement '..UptoSaid' is the law's where the arguments, and the package variables that the reading takes, are together of bulk at most 1048576: NARROWER than '..Said'. Prove '..Said' where nothing that the law and all that it calls make is longer than what came in: it says more and counts as full. Else prove '..UptoSaid'. A law counts once. -/
mutual
def uptoBulk {H : Type} : DataW H → Nat
  | .lit (.string bytes) => bytes.length + 1
  | .lit _ => 1
  | .nil => 1
  | .ptr d => uptoBulk d + 1
  | .slice elems spare => uptoBulkAll elems + uptoBulkAll spare + 1
  | .agg parts => uptoBulkAll parts + 1
  | .iface _ d => uptoBulk d + 1
  | .map entries => uptoBulkEntries entries + 1
  | .held _ => 1
def uptoBulkAll {H : Type} : List (DataW H) → Nat
  | [] => 0
  | d :: r => uptoBulk d + uptoBulkAll r
def uptoBulkEntries {H : Type} : List (Lit × DataW H) → Nat
  | [] => 0
  | x :: r => uptoBulkEntry x + uptoBulkEntries r
def uptoBulkEntry {H : Type} : Lit × DataW H → Nat
  | (.string bytes, d) => bytes.length + uptoBulk d + 1
  | (_, d) => uptoBulk d + 1
 end
def uptoSmall : (H : Type) → List (DataW H) → Bool := fun _ ds => decide (uptoBulkAll ds ≤ 1048576)
def OpenSpec.upto (s : _root_.Go.ChangeSpec) : _root_.Go.OpenSpec := { _root_.Go.OpenSpec.ofChange s with cond := some uptoSmall }

/-- 'laws.FnExactUnionSTGs', WHERE WHAT IT READS IS OF BULK AT MOST 1048576: true; the input reads as it did. -/
def fnExactUnionSTGsUptoRow : OpenClaim := { program := "ytjelnlhalpoinaa", sum := "a541efc978fe0e9ee4b14006860fb8da9c475d60bc4429f73d5025ff81647db0", func := "loop.example/g00862/laws.FnExactUnionSTGs", spec := "fnExactUnionSTGs", apart := false, narrowed := true }
def FnExactUnionSTGsUptoSaid : Prop := fnExactUnionSTGsUptoRow.holds Try.pinned (OpenSpec.upto fnExactUnionSTGsSpec)

/-- 'laws.FnReversed', WHERE WHAT IT READS IS OF BULK AT MOST 1048576: true; the input reads as it did. -/
def fnReversedUptoRow : OpenClaim := { program := "ytjelnlhalpoinaa", sum := "a541efc978fe0e9ee4b14006860fb8da9c475d60bc4429f73d5025ff81647db0", func := "loop.example/g00862/laws.FnReversed", spec := "fnReversed", apart := false, narrowed := true }
def FnReversedUptoSaid : Prop := fnReversedUptoRow.holds Try.pinned (OpenSpec.upto fnReversedSpec)

/-- 'laws.FnExactMarkingIndex', WHERE WHAT IT READS IS OF BULK AT MOST 1048576: true; the input reads as it did. -/
def fnExactMarkingIndexUptoRow : OpenClaim := { program := "ytjelnlhalpoinaa", sum := "a541efc978fe0e9ee4b14006860fb8da9c475d60bc4429f73d5025ff81647db0", func := "loop.example/g00862/laws.FnExactMarkingIndex", spec := "fnExactMarkingIndex", unfollowed := true, recurses := true, apart := false, narrowed := true }
def FnExactMarkingIndexUptoSaid : Prop := fnExactMarkingIndexUptoRow.holds Try.pinned (OpenSpec.upto fnExactMarkingIndexSpec)

/-- 'laws.FnExactMovesFrom', WHERE WHAT IT READS IS OF BULK AT MOST 1048576: true; the input reads as it did. -/
def fnExactMovesFromUptoRow : OpenClaim := { program := "ytjelnlhalpoinaa", sum := "a541efc978fe0e9ee4b14006860fb8da9c475d60bc4429f73d5025ff81647db0", func := "loop.example/g00862/laws.FnExactMovesFrom", spec := "fnExactMovesFrom", unfollowed := true, recurses := true, apart := false, narrowed := true }
def FnExactMovesFromUptoSaid : Prop := fnExactMovesFromUptoRow.holds Try.pinned (OpenSpec.upto fnExactMovesFromSpec)

/-- 'laws.FnExactDeadlocks', WHERE WHAT IT READS IS OF BULK AT MOST 1048576: true; the input reads as it did. -/
def fnExactDeadlocksUptoRow : OpenClaim := { program := "ytjelnlhalpoinaa", sum := "a541efc978fe0e9ee4b14006860fb8da9c475d60bc4429f73d5025ff81647db0", func := "loop.example/g00862/laws.FnExactDeadlocks", spec := "fnExactDeadlocks", unfollowed := true, recurses := true, apart := false, narrowed := true }
def FnExactDeadlocksUptoSaid : Prop := fnExactDeadlocksUptoRow.holds Try.pinned (OpenSpec.upto fnExactDeadlocksSpec)

/-- 'laws.FnExactDeadTransitions', WHERE WHAT IT READS IS OF BULK AT MOST 1048576: true; the input reads as it did. -/
def fnExactDeadTransitionsUptoRow : OpenClaim := { program := "ytjelnlhalpoinaa", sum := "a541efc978fe0e9ee4b14006860fb8da9c475d60bc4429f73d5025ff81647db0", func := "loop.example/g00862/laws.FnExactDeadTransitions", spec := "fnExactDeadTransitions", unfollowed := true, recurses := true, apart := false, narrowed := true }
def FnExactDeadTransitionsUptoSaid : Prop := fnExactDeadTransitionsUptoRow.holds Try.pinned (OpenSpec.upto fnExactDeadTransitionsSpec)

/-- 'laws.FnExactCountPaths', WHERE WHAT IT READS IS OF BULK AT MOST 1048576: true; the input reads as it did. -/
def fnExactCountPathsUptoRow : OpenClaim := { program := "ytjelnlhalpoinaa", sum := "a541efc978fe0e9ee4b14006860fb8da9c475d60bc4429f73d5025ff81647db0", func := "loop.example/g00862/laws.FnExactCountPaths", spec := "fnExactCountPaths", unfollowed := true, recurses := true, apart := false, narrowed := true }
def FnExactCountPathsUptoSaid : Prop := fnExactCountPathsUptoRow.holds Try.pinned (OpenSpec.upto fnExactCountPathsSpec)

end Rows
end Go.Proofs.Ytjelnlhalpoinaa
