/- WALK: isDummy of the program. -/
import Derived.Test.YtnmoocgocnjdjaaVNeta
namespace Go.Proofs.Ytnmoocgocnjdjaa
open Go.RowKit

set_option maxHeartbeats 400000 in
theorem isDummy_any (a : Int) (u : Bool) (w : World) :
    Calls Try.prog 136 #[.agg #[.int .i64 a, .bool u]] w (RetB w (decide (a = -1) && !u)) := by
  by_cases h : a = -1
  · subst h
    cases u with
    | true =>
      go_enter Try.func136, Try.ntmps136
      go_wp2_with fail
      go_ret
      exact ⟨rfl, by (repeat' (first | (with_reducible exact Below.refl _ _) | (with_reducible assumption) | (with_reducible refine Below.alloc ?_ ?_ _) | (with_reducible refine Below.drew ?_) | (with_reducible refine below_drewN ?_ _) | (with_reducible refine Below.setCell ?_ ?_ _) | go_size))⟩
    | false =>
      go_enter Try.func136, Try.ntmps136
      go_wp2_with fail
      go_ret
      exact ⟨rfl, by (repeat' (first | (with_reducible exact Below.refl _ _) | (with_reducible assumption) | (with_reducible refine Below.alloc ?_ ?_ _) | (with_reducible refine Below.drew ?_) | (with_reducible refine below_drewN ?_ _) | (with_reducible refine Below.setCell ?_ ?_ _) | go_size))⟩
  · have e : (a == -1) = false := by simpa using h
    rw [decide_eq_false h]
    go_enter Try.func136, Try.ntmps136
    go_wp2_with fail
    go_ret
    exact ⟨rfl, by (repeat' (first | (with_reducible exact Below.refl _ _) | (with_reducible assumption) | (with_reducible refine Below.alloc ?_ ?_ _) | (with_reducible refine Below.drew ?_) | (with_reducible refine below_drewN ?_ _) | (with_reducible refine Below.setCell ?_ ?_ _) | go_size))⟩

end Go.Proofs.Ytnmoocgocnjdjaa
