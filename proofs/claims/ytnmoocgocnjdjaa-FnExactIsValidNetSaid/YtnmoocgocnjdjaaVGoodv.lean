/- WALK: IsValidNet of the model. -/
import Derived.Test.YtnmoocgocnjdjaaVGood
namespace Go.Proofs.Ytnmoocgocnjdjaa
open Go.RowKit

set_option maxHeartbeats 400000 in
theorem specIsValidNet_any (v : Value) (n : NetD) (w : World) (lo : Nat) (hv : NetAt lo w v n) (hs : SmallTrs n.ts) :
    Calls Try.prog 21 #[v] w (RetB w (goodN n)) := by
  generalize hG : goodN n = g
  have HG := Lib.hid hG; clear hG
  have hv' := hv
  obtain ⟨hp0, hp1, u, rfl, ht⟩ := hv'
  obtain ⟨ao, cap, rfl, hc, hz⟩ := ht
  have HV := Lib.hid hv; clear hv hz
  have HS := Lib.hid hs; clear hs
  go_enter Try.func21, Try.ntmps21
  go_wp2_with fail
  refine (l1Good_any _ n _ lo (HV.out.keep ?_) HS.out).mono ?_
  · (repeat' (first | (with_reducible exact Carries.refl _ _) | (with_reducible assumption) | (with_reducible refine Carries.alloc ?_ _) | (with_reducible refine Carries.drew ?_) | (with_reducible refine Carries.drewN ?_ _) | (with_reducible refine Carries.set ?_ ?_ _) | go_size))
  rintro e w1 ⟨rfl, hb⟩
  have hw1 : Below w.heap.size w w1 := by
    refine Below.trans ?_ (hb.mono ?_)
    · (repeat' (first | (with_reducible exact Below.refl _ _) | (with_reducible assumption) | (with_reducible refine Below.alloc ?_ ?_ _) | (with_reducible refine Below.drew ?_) | (with_reducible refine below_drewN ?_ _) | (with_reducible refine Below.setCell ?_ ?_ _) | go_size))
    · simp
  rw [HG.out]
  go_wp2_with fail
  go_ret
  exact ⟨rfl, hw1⟩

end Go.Proofs.Ytnmoocgocnjdjaa
