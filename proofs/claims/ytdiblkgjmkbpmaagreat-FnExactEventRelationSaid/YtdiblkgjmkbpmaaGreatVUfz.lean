/- WALKS: toSignal, toSignalS, toLabel, toLabelS of the laws.
   WALKS: szSignal, szSignalS, szLabelS, eqSignal, eqSignalS, eqLabel, eqLabelS of the laws.
   WALKS: szConditionS, szEvent, szEventS, szUnfolding of the laws. -/
import Derived.Test.YtdiblkgjmkbpmaaGreatVNeta
import Derived.Test.YtdiblkgjmkbpmaaGreatVPair
import Derived.Test.YtdiblkgjmkbpmaaGreatVRgd
import Derived.Test.YtdiblkgjmkbpmaaGreatVNetc
import Derived.Test.YtdiblkgjmkbpmaaGreatVSgr
import Derived.Test.YtdiblkgjmkbpmaaGreatVInts
import Derived.Test.YtdiblkgjmkbpmaaGreatVNetb
namespace Go.Proofs.YtdiblkgjmkbpmaaGreat
open Go.RowKit

end Go.Proofs.YtdiblkgjmkbpmaaGreat

namespace Go.Proofs.YtdiblkgjmkbpmaaGreat
open Go.RowKit

theorem lab_getD {zs : List Lab} {i : Nat} (h : i < zs.length) : (lbS zs i, lbU zs i) = zs[i] := by simp [lbS, lbU, List.getD, h]
end Go.Proofs.YtdiblkgjmkbpmaaGreat

namespace Go.Proofs.YtdiblkgjmkbpmaaGreat
open Go.RowKit

set_option maxHeartbeats 400000 in
theorem szConditionS_any (ao : Option Addr) (n cap : Nat) (left : Int) (w : World) (h0 : 0 ≤ left) (h1 : left ≤ 1048576) (hn : n ≤ 9223372036854775807) :
    Calls Tryz.prog 42 #[.slice ao n cap, .int .i64 left] w (RetV w (.int .i64 (szI left n))) := by
  by_cases hlt : left < n
  · have e : szI left n = -1 := by unfold szI; rw [if_pos hlt]
    rw [e]; clear e
    go_enter Tryz.func42, Tryz.ntmps42
    go_wp2
    go_ret
    exact ⟨rfl, Below.refl _ _⟩
  · have e : szI left n = left - n := by unfold szI; rw [if_neg hlt]
    rw [e]; clear e
    go_enter Tryz.func42, Tryz.ntmps42
    go_wp2
    go_ret
    exact ⟨rfl, Below.refl _ _⟩

set_option maxHeartbeats 400000 in
theorem szEvent_any (t : Int) (v : Value) (L : List Int) (left : Int) (w : World) (lo : Nat) (hv : IntsAt lo w v L) (h0 : 0 ≤ left) (h1 : left ≤ 1048576) (hn : L.length ≤ 9223372036854775807) :
    Calls Tryz.prog 32 #[.agg #[.int .i64 t, v], .int .i64 left] w (RetSz w left (L.length ≤ 1048576)) := by
  obtain ⟨a0, k0, rfl, _, _⟩ := hv
  go_enter Tryz.func32, Tryz.ntmps32
  go_wp2_with fail
  refine (szIntS_any _ _ _ _ _ h0 h1 hn).mono ?_
  rintro e w1 ⟨rfl, hb0⟩
  have hw1 : Below w.heap.size w w1 := by
    refine Below.trans ?_ (hb0.mono ?_)
    · (repeat' (first | (with_reducible exact Below.refl _ _) | (with_reducible assumption) | (with_reducible refine Below.alloc ?_ ?_ _) | (with_reducible refine Below.drew ?_) | (with_reducible refine below_drewN ?_ _) | (with_reducible refine Below.setCell ?_ ?_ _) | go_size))
    · simp
  by_cases hlt : left < L.length
  · have e : szI left L.length = -1 := by unfold szI; rw [if_pos hlt]
    rw [e]; clear e
    go_wp2_with fail
    go_ret
    exact ⟨_, rfl, Or.inl rfl, hw1⟩
  · have e : szI left L.length = left - L.length := by unfold szI; rw [if_neg hlt]
    rw [e]; clear e
    go_wp2_with fail
    go_ret
    exact ⟨_, rfl, Or.inr ⟨by omega, by omega, by omega⟩, hw1⟩

set_option maxHeartbeats 400000 in
theorem szEventS_any (v : Value) (es : List Ev) (left : Int) (w : World) (lo : Nat) (hv : EvsAt lo w v es) (h0 : 0 ≤ left) (h1 : left ≤ 1048576) (hok : OkEvs es) :
    Calls Tryz.prog 43 #[v, .int .i64 left] w (RetSz w left (SmallEvs es)) := by
  obtain ⟨ao, cap, rfl, hc, hz⟩ := hv
  obtain ⟨hn, hsm⟩ := hok
  have HF := Lib.hid hz; clear hz
  have HS := Lib.hid hsm; clear hsm
  go_enter Tryz.func43, Tryz.ntmps43
  by_cases hlt0 : left < es.length
  · go_wp2_with fail
    go_ret
    exact ⟨_, rfl, Or.inl rfl, Below.refl _ _⟩
  go_wp2_with fail
  go_loopw [1, 5] (fun l i wr => ∃ (k : Nat) (r : Int), k ≤ es.length ∧ i = .int .i64 k ∧ l = .int .i64 r ∧ 0 ≤ r ∧ r ≤ left ∧ Hid (∀ i, i < k → (evP es i).length ≤ 1048576) ∧ Below w.heap.size w wr) (fun _ i _ => es.length - (intOf i).toNat)
  case atStart =>
    exact ⟨0, left - es.length, Nat.zero_le _, rfl, rfl, by omega, by omega, fun i hi => absurd hi (Nat.not_lt_zero _), Below.refl _ _⟩
  case round =>
    obtain ⟨k, r, hk, rfl, rfl, g0, g1, hall, hb1⟩ := hrel
    by_cases hlt : k < es.length
    · rcases HF.out with h0 | ⟨b, off, rfl, hlo, hcell⟩
      · omega
      obtain ⟨x1, c0, c1, hx⟩ := hcell k hlt
      have d0 := Carries.of lo hb1 _ _ hlo c0
      have d1 := Carries.of lo hb1 _ _ hlo c1
      have hk1 := HS.out k hlt
      obtain ⟨t, htk⟩ : ∃ t, t = evT es k := ⟨_, rfl⟩
      obtain ⟨L, hLk⟩ : ∃ t, t = evP es k := ⟨_, rfl⟩
      rw [← hLk] at hk1 hx
      rw [← htk] at d0
      have HK := Lib.hid hLk; clear htk hLk
      have HX := Lib.hid (hx.keep (Carries.of lo hb1))
      clear hcell c0 c1 hx
      go_wp2_with fail
      refine (szEvent_any _ _ _ _ _ lo HX.out g0 (by omega) hk1).mono ?_
      rintro e w1 ⟨q, rfl, hq, hb2⟩
      have hw1 : Below w.heap.size w w1 := hb1.trans (hb2.mono hb1.size)
      rcases hq with rfl | ⟨q0, q1, hq2⟩
      · go_wp2_with fail
        go_ret
        exact ⟨_, rfl, Or.inl rfl, hw1⟩
      · have H2 : Hid (∀ i, i < k + 1 → (evP es i).length ≤ 1048576) := by
          intro i hi
          by_cases e : i = k
          · subst e; rw [← HK.out]; exact hq2
          · exact hall.out i (by omega)
        go_wp2_with fail
        go_roundw
        case rel => exact ⟨k + 1, q, by omega, by go_num, rfl, q0, by omega, H2, hw1⟩
        case measure => simp [intOf]; omega
    · have hkk : k = es.length := by omega
      subst hkk
      go_wp2_with fail
      go_ret
      exact ⟨_, rfl, Or.inr ⟨g0, g1, by omega, hall.out⟩, hb1⟩

set_option maxHeartbeats 1000000 in
theorem szUnfolding_any (v : Value) (u : UnfD) (left : Int) (w : World) (lo : Nat) (hv : UnfAt lo w v u) (h0 : 0 ≤ left) (h1 : left ≤ 1048576) (hok : OkUnf u) :
    Calls Tryz.prog 11 #[v, .int .i64 left] w (RetSz w left (SmallUnf u)) := by
  obtain ⟨a0, c0, a1, c1, rfl, hc_, he_⟩ := hv.form
  clear hv hc_
  obtain ⟨cs, es⟩ := u
  obtain ⟨k1, k2⟩ := hok
  simp only at he_ k1 k2 ⊢
  have HE := Lib.hid he_; clear he_
  have K2 := Lib.hid k2; clear k2
  go_enter Tryz.func11, Tryz.ntmps11
  go_wp2_with fail
  refine (szConditionS_any _ _ _ _ _ h0 h1 k1).mono ?_
  rintro e w1 ⟨rfl, hb1⟩
  have hw1 : Below w.heap.size w w1 := by
    refine Below.trans ?_ (hb1.mono ?_)
    · (repeat' (first | (with_reducible exact Below.refl _ _) | (with_reducible assumption) | (with_reducible refine Below.alloc ?_ ?_ _) | (with_reducible refine Below.drew ?_) | (with_reducible refine below_drewN ?_ _) | (with_reducible refine Below.setCell ?_ ?_ _) | go_size))
    · simp
  have x1 : w1.cell? ⟨w.heap.size, 1, none⟩ = some (.slice a1 es.length c1) := cell_carry (by simp) (Carries.of 0 hb1)
  clear hb1
  by_cases hq : left < cs.length
  · have e : szI left cs.length = -1 := by unfold szI; rw [if_pos hq]
    rw [e]; clear e
    go_wp2_with fail
    go_ret
    exact ⟨_, rfl, Or.inl rfl, hw1⟩
  have e : szI left cs.length = left - cs.length := by unfold szI; rw [if_neg hq]
  rw [e]; clear e
  obtain ⟨q, hqq⟩ : ∃ q, q = left - (cs.length : Int) := ⟨_, rfl⟩
  rw [← hqq]
  have q0 : 0 ≤ q := by omega
  have q1 : q ≤ left := by omega
  have q3 : cs.length ≤ 1048576 := by omega
  clear hqq hq
  go_wp2_with fail
  refine (szEventS_any _ es _ _ lo (HE.out.keep (Carries.of lo hw1)) q0 (by omega) K2.out).mono ?_
  rintro e w2 ⟨r2, rfl, hr2, hb2⟩
  have hw2 : Below w.heap.size w w2 := hw1.trans (hb2.mono hw1.size)
  rcases hr2 with rfl | ⟨g2, g3, q2⟩
  · go_wp2_with fail
    go_ret
    exact ⟨_, rfl, Or.inl rfl, hw2⟩
  have Q2 := Lib.hid q2; clear q2
  go_wp2_with fail
  go_ret
  exact ⟨_, rfl, Or.inr ⟨by omega, by omega, q3, Q2.out⟩, hw2⟩

end Go.Proofs.YtdiblkgjmkbpmaaGreat
