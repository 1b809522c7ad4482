/- LISTS that meet, as data (out of Meet). -/
import Derived.Test.YtigkgfdnnfmmmaaVHasb
import Derived.Test.YtigkgfdnnfmmmaaVNetd
namespace Go.Proofs.Ytigkgfdnnfmmmaa
open Go.RowKit

def meetB (a b : List Int) : Bool := a.any (hasB b)
theorem meetB_true {a b : List Int} {k : Nat} (hk : k < a.length) (h : hasB b (a.getD k 0) = true) : meetB a b = true := by
  unfold meetB
  rw [List.any_eq_true]
  exact ⟨a[k], List.getElem_mem hk, by rw [← getD_eq hk]; exact h⟩
theorem meetB_false {a b : List Int} (h : ∀ i, i < a.length → hasB b (a.getD i 0) = false) : meetB a b = false := by
  unfold meetB
  rw [List.any_eq_false]
  intro x hx
  obtain ⟨i, hi, rfl⟩ := List.mem_iff_getElem.1 hx
  rw [← getD_eq hi, h i hi]
  simp


end Go.Proofs.Ytigkgfdnnfmmmaa
