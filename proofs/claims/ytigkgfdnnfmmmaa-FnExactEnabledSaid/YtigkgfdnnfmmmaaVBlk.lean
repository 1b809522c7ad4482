/- BYTES of a blank row (out of Arrb). -/
import Derived.Test.YtigkgfdnnfmmmaaVArr
import Derived.Test.YtigkgfdnnfmmmaaVSteps
namespace Go.Proofs.Ytigkgfdnnfmmmaa
open Go.RowKit

def firsts (k : Nat) : List UInt8 := List.replicate k 48 ++ List.replicate (30 - k) 0
def blank : List UInt8 := List.replicate 30 48
theorem firsts_length {k : Nat} (h : k ≤ 30) : (firsts k).length = 30 := by simp [firsts]; omega
theorem firsts_zero : firsts 0 = zeros := rfl
theorem firsts_last : firsts 30 = blank := rfl
theorem blank_length : blank.length = 30 := rfl
theorem firsts_succ {k : Nat} (h : k < 30) : (firsts k).set k 48 = firsts (k + 1) := by
  apply List.ext_getElem?
  intro i
  simp only [firsts, List.getElem?_set, List.getElem?_append, List.length_append, List.length_replicate, List.getElem?_replicate]
  repeat' split
  all_goals first | rfl | omega


end Go.Proofs.Ytigkgfdnnfmmmaa
