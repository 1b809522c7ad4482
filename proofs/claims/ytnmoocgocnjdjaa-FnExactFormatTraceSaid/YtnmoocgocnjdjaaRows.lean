/-
  No cell of these rows narrows 'for every input' (looked for: loops, veiled, ifaces, maps, wideKeys, modest, calm, conditions, laid).
  DERIVED. THE GIVEN ROWS OF THIS SEAT. 5 by the template 'for every input the law returns true; each argument reads behind the call as it read before'; 0 by the template 'total and deterministic' (their statements: YtnmoocgocnjdjaaTotals.lean).
  GIVEN WITH THE SEED: the statements are not yours to turn. If you find one false, say at which input.
  Laid BY PROGRAM, IN A SANDBOX (cutbox-rows.mjs): the forced cells as the released guide's own fill.sh prints them over the translation 3700447994c31d2f… (all of the seat's roots in one cut). By AI agents, Wed Nov 11 2026. No macro, syntax, notation, axiom, sorry.
-/
import Derived.Test.YtnmoocgocnjdjaaChecked
import GoSem.Claim
import GoSem.ClaimJoined
import GoSem.ClaimMapViews
import Derived.JoinedTies
import Derived.KernelRfl
namespace Go.Proofs.Ytnmoocgocnjdjaa
/- THE CELL 'sum', in the pinned program and in every row, IS THE sha256 OF THE DUMP (.gsa) THAT YtnmoocgocnjdjaaProg.lean LOADS. Nothing in Lean hashes anything: it is a label: what it is worth is what the hold of that sum in a sandbox is worth. -/
noncomputable def Try.pinned : Pinned := { name := "ytnmoocgocnjdjaa", sum := "3700447994c31d2fc2104815163f033fc518ef6541041f59d5570a074ea0c796", checked := Try.checked }
namespace Rows
def none {H : Type} : Left H := { results := [], args := [] }

/-- 'laws.FnExactIsValidUnfolding': WHATEVER THE INPUT: true; the input reads as it did. -/
def fnExactIsValidUnfoldingSpec : ChangeSpec := { name := "fnExactIsValidUnfolding", fn := fun _ => fun
  | [d1, d2, d3] => { results := [.lit (.bool true)], args := [d1, d2, d3] }
  | _ => none }
def fnExactIsValidUnfoldingRow : OpenClaim := { program := "ytnmoocgocnjdjaa", sum := "3700447994c31d2fc2104815163f033fc518ef6541041f59d5570a074ea0c796", func := "loop.example/g00862/laws.FnExactIsValidUnfolding", spec := "fnExactIsValidUnfolding", unfollowed := true, recurses := true, apart := false }
def FnExactIsValidUnfoldingSaid : Prop := fnExactIsValidUnfoldingRow.holds Try.pinned (OpenSpec.ofChange fnExactIsValidUnfoldingSpec)

/-- ITS FALSE NEIGHBOUR: 'it returns false'. Refute it at one input. -/
def fnExactIsValidUnfoldingWrong : ChangeSpec := { name := "fnExactIsValidUnfolding", fn := fun _ => fun
  | [d1, d2, d3] => { results := [.lit (.bool false)], args := [d1, d2, d3] }
  | _ => none }
def FnExactIsValidUnfoldingWrongFalsely : Prop := fnExactIsValidUnfoldingRow.holds Try.pinned (OpenSpec.ofChange fnExactIsValidUnfoldingWrong)

/-- 'laws.FnExactInitialUnfolding': WHATEVER THE INPUT: true; the input reads as it did. -/
def fnExactInitialUnfoldingSpec : ChangeSpec := { name := "fnExactInitialUnfolding", fn := fun _ => fun
  | [d1, d2] => { results := [.lit (.bool true)], args := [d1, d2] }
  | _ => none }
def fnExactInitialUnfoldingRow : OpenClaim := { program := "ytnmoocgocnjdjaa", sum := "3700447994c31d2fc2104815163f033fc518ef6541041f59d5570a074ea0c796", func := "loop.example/g00862/laws.FnExactInitialUnfolding", spec := "fnExactInitialUnfolding", apart := false }
def FnExactInitialUnfoldingSaid : Prop := fnExactInitialUnfoldingRow.holds Try.pinned (OpenSpec.ofChange fnExactInitialUnfoldingSpec)

/-- ITS FALSE NEIGHBOUR: 'it returns false'. Refute it at one input. -/
def fnExactInitialUnfoldingWrong : ChangeSpec := { name := "fnExactInitialUnfolding", fn := fun _ => fun
  | [d1, d2] => { results := [.lit (.bool false)], args := [d1, d2] }
  | _ => none }
def FnExactInitialUnfoldingWrongFalsely : Prop := fnExactInitialUnfoldingRow.holds Try.pinned (OpenSpec.ofChange fnExactInitialUnfoldingWrong)

/-- 'laws.FnExactIsValidNet': WHATEVER THE INPUT: true; the input reads as it did. -/
def fnExactIsValidNetSpec : ChangeSpec := { name := "fnExactIsValidNet", fn := fun _ => fun
  | [d] => { results := [.lit (.bool true)], args := [d] }
  | _ => none }
def fnExactIsValidNetRow : OpenClaim := { program := "ytnmoocgocnjdjaa", sum := "3700447994c31d2fc2104815163f033fc518ef6541041f59d5570a074ea0c796", func := "loop.example/g00862/laws.FnExactIsValidNet", spec := "fnExactIsValidNet", apart := false }
def FnExactIsValidNetSaid : Prop := fnExactIsValidNetRow.holds Try.pinned (OpenSpec.ofChange fnExactIsValidNetSpec)

/-- ITS FALSE NEIGHBOUR: 'it returns false'. Refute it at one input. -/
def fnExactIsValidNetWrong : ChangeSpec := { name := "fnExactIsValidNet", fn := fun _ => fun
  | [d] => { results := [.lit (.bool false)], args := [d] }
  | _ => none }
def FnExactIsValidNetWrongFalsely : Prop := fnExactIsValidNetRow.holds Try.pinned (OpenSpec.ofChange fnExactIsValidNetWrong)

/-- 'laws.FnExactIsValidMarking': WHATEVER THE INPUT: true; the input reads as it did. -/
def fnExactIsValidMarkingSpec : ChangeSpec := { name := "fnExactIsValidMarking", fn := fun _ => fun
  | [d1, d2] => { results := [.lit (.bool true)], args := [d1, d2] }
  | _ => none }
def fnExactIsValidMarkingRow : OpenClaim := { program := "ytnmoocgocnjdjaa", sum := "3700447994c31d2fc2104815163f033fc518ef6541041f59d5570a074ea0c796", func := "loop.example/g00862/laws.FnExactIsValidMarking", spec := "fnExactIsValidMarking", apart := false }
def FnExactIsValidMarkingSaid : Prop := fnExactIsValidMarkingRow.holds Try.pinned (OpenSpec.ofChange fnExactIsValidMarkingSpec)

/-- ITS FALSE NEIGHBOUR: 'it returns false'. Refute it at one input. -/
def fnExactIsValidMarkingWrong : ChangeSpec := { name := "fnExactIsValidMarking", fn := fun _ => fun
  | [d1, d2] => { results := [.lit (.bool false)], args := [d1, d2] }
  | _ => none }
def FnExactIsValidMarkingWrongFalsely : Prop := fnExactIsValidMarkingRow.holds Try.pinned (OpenSpec.ofChange fnExactIsValidMarkingWrong)

/-- 'laws.FnExactFormatTrace': WHATEVER THE INPUT: true; the input reads as it did. -/
def fnExactFormatTraceSpec : ChangeSpec := { name := "fnExactFormatTrace", fn := fun _ => fun
  | [d1, d2] => { results := [.lit (.bool true)], args := [d1, d2] }
  | _ => none }
def fnExactFormatTraceRow : OpenClaim := { program := "ytnmoocgocnjdjaa", sum := "3700447994c31d2fc2104815163f033fc518ef6541041f59d5570a074ea0c796", func := "loop.example/g00862/laws.FnExactFormatTrace", spec := "fnExactFormatTrace", inPlace := ["internal/abi.NoEscape", "internal/bytealg.MakeNoZero"], unfollowed := true, recurses := true, apart := false }
def FnExactFormatTraceSaid : Prop := fnExactFormatTraceRow.holds Try.pinned (OpenSpec.ofChange fnExactFormatTraceSpec)

/-- ITS FALSE NEIGHBOUR: 'it returns false'. Refute it at one input. -/
def fnExactFormatTraceWrong : ChangeSpec := { name := "fnExactFormatTrace", fn := fun _ => fun
  | [d1, d2] => { results := [.lit (.bool false)], args := [d1, d2] }
  | _ => none }
def FnExactFormatTraceWrongFalsely : Prop := fnExactFormatTraceRow.holds Try.pinned (OpenSpec.ofChange fnExactFormatTraceWrong)

/- THE SECOND FORM. 'bulk': how many values and letters a reading holds, each counted each time it is reached (what is shared counts as often as it is met; a slice's spare places count too). A statement '..UptoSaid' is the law's where the arguments, and the package variables that the reading takes, are together of bulk at most 1048576: NARROWER than '..Said'. Prove '..Said' where nothing that the law and all that it calls make is longer than what came in: it says more and counts as full. Else prove '..UptoSaid'. A law counts once. -/
mutual
def uptoBulk {H : Type} : DataW H → Nat
  | .lit (.string bytes) => bytes.length + 1
  | .lit _ => 1
  | .nil => 1
  | .ptr d => uptoBulk d + 1
  | .slice elems spare => uptoBulkAll elems + uptoBulkAll spare + 1
  | .agg parts => uptoBulkAll parts + 1
  | .iface _ d => uptoBulk d + 1
  | .map entries => uptoBulkEntries entries + 1
  | .held _ => 1
def uptoBulkAll {H : Type} : List (DataW H) → Nat
  | [] => 0
  | d :: r => uptoBulk d + uptoBulkAll r
def uptoBulkEntries {H : Type} : List (Lit × DataW H) → Nat
  | [] => 0
  | x :: r => uptoBulkEntry x + uptoBulkEntries r
def uptoBulkEntry {H : Type} : Lit × DataW H → Nat
  | (.string bytes, d) => bytes.length + uptoBulk d + 1
  | (_, d) => uptoBulk d + 1
 end
def uptoSmall : (H : Type) → List (DataW H) → Bool := fun _ ds => decide (uptoBulkAll ds ≤ 1048576)
def OpenSpec.upto (s : _root_.Go.ChangeSpec) : _root_.Go.OpenSpec := { _root_.Go.OpenSpec.ofChange s with cond := some uptoSmall }

/-- 'laws.FnExactIsValidUnfolding', WHERE WHAT IT READS IS OF BULK AT MOST 1048576: true; the input reads as it did. -/
def fnExactIsValidUnfoldingUptoRow : OpenClaim := { program := "ytnmoocgocnjdjaa", sum := "3700447994c31d2fc2104815163f033fc518ef6541041f59d5570a074ea0c796", func := "loop.example/g00862/laws.FnExactIsValidUnfolding", spec := "fnExactIsValidUnfolding", unfollowed := true, recurses := true, apart := false, narrowed := true }
def FnExactIsValidUnfoldingUptoSaid : Prop := fnExactIsValidUnfoldingUptoRow.holds Try.pinned (OpenSpec.upto fnExactIsValidUnfoldingSpec)

/-- 'laws.FnExactInitialUnfolding', WHERE WHAT IT READS IS OF BULK AT MOST 1048576: true; the input reads as it did. -/
def fnExactInitialUnfoldingUptoRow : OpenClaim := { program := "ytnmoocgocnjdjaa", sum := "3700447994c31d2fc2104815163f033fc518ef6541041f59d5570a074ea0c796", func := "loop.example/g00862/laws.FnExactInitialUnfolding", spec := "fnExactInitialUnfolding", apart := false, narrowed := true }
def FnExactInitialUnfoldingUptoSaid : Prop := fnExactInitialUnfoldingUptoRow.holds Try.pinned (OpenSpec.upto fnExactInitialUnfoldingSpec)

/-- 'laws.FnExactIsValidNet', WHERE WHAT IT READS IS OF BULK AT MOST 1048576: true; the input reads as it did. -/
def fnExactIsValidNetUptoRow : OpenClaim := { program := "ytnmoocgocnjdjaa", sum := "3700447994c31d2fc2104815163f033fc518ef6541041f59d5570a074ea0c796", func := "loop.example/g00862/laws.FnExactIsValidNet", spec := "fnExactIsValidNet", apart := false, narrowed := true }
def FnExactIsValidNetUptoSaid : Prop := fnExactIsValidNetUptoRow.holds Try.pinned (OpenSpec.upto fnExactIsValidNetSpec)

/-- 'laws.FnExactIsValidMarking', WHERE WHAT IT READS IS OF BULK AT MOST 1048576: true; the input reads as it did. -/
def fnExactIsValidMarkingUptoRow : OpenClaim := { program := "ytnmoocgocnjdjaa", sum := "3700447994c31d2fc2104815163f033fc518ef6541041f59d5570a074ea0c796", func := "loop.example/g00862/laws.FnExactIsValidMarking", spec := "fnExactIsValidMarking", apart := false, narrowed := true }
def FnExactIsValidMarkingUptoSaid : Prop := fnExactIsValidMarkingUptoRow.holds Try.pinned (OpenSpec.upto fnExactIsValidMarkingSpec)

/-- 'laws.FnExactFormatTrace', WHERE WHAT IT READS IS OF BULK AT MOST 1048576: true; the input reads as it did. -/
def fnExactFormatTraceUptoRow : OpenClaim := { program := "ytnmoocgocnjdjaa", sum := "3700447994c31d2fc2104815163f033fc518ef6541041f59d5570a074ea0c796", func := "loop.example/g00862/laws.FnExactFormatTrace", spec := "fnExactFormatTrace", inPlace := ["internal/abi.NoEscape", "internal/bytealg.MakeNoZero"], unfollowed := true, recurses := true, apart := false, narrowed := true }
def FnExactFormatTraceUptoSaid : Prop := fnExactFormatTraceUptoRow.holds Try.pinned (OpenSpec.upto fnExactFormatTraceSpec)

end Rows
end Go.Proofs.Ytnmoocgocnjdjaa
