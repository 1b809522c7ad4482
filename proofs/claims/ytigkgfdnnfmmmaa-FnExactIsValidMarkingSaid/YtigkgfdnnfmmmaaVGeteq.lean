/- PLAIN PART: byte k of a string, by its two readings. No program is named here. -/
import Derived.Test.YtigkgfdnnfmmmaaVNetd
namespace Go.Proofs.Ytigkgfdnnfmmmaa
open Go.RowKit

theorem get!_eq {s : ByteArray} {k : Nat} (h : k < s.size) : s.get! k = s[k] := by
  show s.data[k]! = s.data[k]
  exact getElem!_pos s.data k h

end Go.Proofs.Ytigkgfdnnfmmmaa
