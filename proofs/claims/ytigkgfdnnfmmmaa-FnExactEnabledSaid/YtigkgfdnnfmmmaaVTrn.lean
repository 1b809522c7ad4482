/- WALK: hasTransition of the program. -/
import Derived.Test.YtigkgfdnnfmmmaaVNetc
namespace Go.Proofs.Ytigkgfdnnfmmmaa
open Go.RowKit

set_option maxHeartbeats 400000 in
theorem isTransition_any (v : Value) (n : NetD) (t : Int) (w : World) (lo : Nat) (hv : NetAt lo w v n) (hsm : SmallTrs n.ts) :
    Calls Try.prog 76 #[v, .int .i64 t] w (RetB w (decide (0 ≤ t ∧ t < n.ts.length))) := by
  obtain ⟨hp0, hp1, u, rfl, ht⟩ := hv
  obtain ⟨ao, cap, rfl, hc, hz⟩ := ht
  have hl := hsm.1
  clear hz hsm
  by_cases h1 : 0 ≤ t
  · by_cases h2 : t < n.ts.length
    · rw [decide_eq_true (⟨h1, h2⟩ : 0 ≤ t ∧ t < n.ts.length)]
      go_enter Try.func76, Try.ntmps76
      go_wp2_with fail
      go_ret
      exact ⟨rfl, by (repeat' (first | (with_reducible exact Below.refl _ _) | (with_reducible assumption) | (with_reducible refine Below.alloc ?_ ?_ _) | (with_reducible refine Below.drew ?_) | (with_reducible refine below_drewN ?_ _) | (with_reducible refine Below.setCell ?_ ?_ _) | go_size))⟩
    · rw [decide_eq_false (fun h => h2 h.2 : ¬ (0 ≤ t ∧ t < n.ts.length))]
      go_enter Try.func76, Try.ntmps76
      go_wp2_with fail
      go_ret
      exact ⟨rfl, by (repeat' (first | (with_reducible exact Below.refl _ _) | (with_reducible assumption) | (with_reducible refine Below.alloc ?_ ?_ _) | (with_reducible refine Below.drew ?_) | (with_reducible refine below_drewN ?_ _) | (with_reducible refine Below.setCell ?_ ?_ _) | go_size))⟩
  · rw [decide_eq_false (fun h => h1 h.1 : ¬ (0 ≤ t ∧ t < n.ts.length))]
    go_enter Try.func76, Try.ntmps76
    go_wp2_with fail
    go_ret
    exact ⟨rfl, by (repeat' (first | (with_reducible exact Below.refl _ _) | (with_reducible assumption) | (with_reducible refine Below.alloc ?_ ?_ _) | (with_reducible refine Below.drew ?_) | (with_reducible refine below_drewN ?_ _) | (with_reducible refine Below.setCell ?_ ?_ _) | go_size))⟩

end Go.Proofs.Ytigkgfdnnfmmmaa
