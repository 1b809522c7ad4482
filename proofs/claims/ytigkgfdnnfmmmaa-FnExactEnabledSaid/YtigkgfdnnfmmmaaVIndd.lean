/- PURE: the number of a transition; independence. -/
import Derived.Test.YtigkgfdnnfmmmaaVApp
import Derived.Test.YtigkgfdnnfmmmaaVPur
namespace Go.Proofs.Ytigkgfdnnfmmmaa
open Go.RowKit

/-- the number of a transition -/
def inT (n : NetD) (t : Int) : Bool := decide (0 ≤ t ∧ t < n.ts.length)
theorem inT_le (n : NetD) (t : Int) : decide (0 ≤ t ∧ t ≤ (n.ts.length : Int) - 1) = inT n t := by
  unfold inT
  exact decide_eq_decide.2 ⟨fun h => ⟨h.1, by omega⟩, fun h => ⟨h.1, by omega⟩⟩
def pairB (n : NetD) (t u : Int) : Bool := goodN n && (inT n t && inT n u)
def indB (n : NetD) (t u : Int) : Bool := !meetB (both (n.ts.getD t.toNat ([], []))) (both (n.ts.getD u.toNat ([], [])))

end Go.Proofs.Ytigkgfdnnfmmmaa
