/- PLAIN PART: an int is among ints. No program is named here. -/
import Derived.Test.YtigkgfdnnfmmmaaVInts
namespace Go.Proofs.Ytigkgfdnnfmmmaa
open Go.RowKit

def hasB (l : List Int) (x : Int) : Bool := decide (x ∈ l)
theorem hasB_true {l : List Int} {x : Int} {k : Nat} (hk : k < l.length) (h : l.getD k 0 = x) : hasB l x = true := by
  rw [getD_eq hk] at h; subst h
  exact decide_eq_true (List.getElem_mem hk)
theorem hasB_false {l : List Int} {x : Int} (h : ∀ i, i < l.length → l.getD i 0 ≠ x) : hasB l x = false := by
  refine decide_eq_false fun hm => ?_
  obtain ⟨i, hi, he⟩ := List.mem_iff_getElem.1 hm
  exact h i hi (by rw [getD_eq hi]; exact he)

end Go.Proofs.Ytigkgfdnnfmmmaa
