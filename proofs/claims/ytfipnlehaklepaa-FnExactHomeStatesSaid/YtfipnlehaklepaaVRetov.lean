/- ints of its own and a bool: what a call returns. -/
import Derived.Test.YtfipnlehaklepaaVApb
namespace Go.Proofs.Ytfipnlehaklepaa
open Go.RowKit

/-- a call returns ints of its own, which may be written, and this bool -/
def RetOv (w : World) (l : List Int) (b : Bool) (e : Ending) (w' : World) : Prop := ∃ v, e = .returned (.tuple #[v, .bool b]) ∧ IntsOw w.heap.size w' v l ∧ Below w.heap.size w w'

end Go.Proofs.Ytfipnlehaklepaa
