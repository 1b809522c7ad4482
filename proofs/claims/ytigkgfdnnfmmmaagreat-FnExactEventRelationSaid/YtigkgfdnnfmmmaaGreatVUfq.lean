/- WALKS: toSignal, toSignalS, toLabel, toLabelS of the laws.
   WALKS: szSignal, szSignalS, szLabelS, eqSignal, eqSignalS, eqLabel, eqLabelS of the laws.
   WALKS: szConditionS, szEvent, szEventS, szUnfolding of the laws.
   WALKS: eqEvent, eqEventS, eqUnfolding of the laws, of any events. -/
import Derived.Test.YtigkgfdnnfmmmaaGreatVNeta
import Derived.Test.YtigkgfdnnfmmmaaGreatVPair
import Derived.Test.YtigkgfdnnfmmmaaGreatVRgd
import Derived.Test.YtigkgfdnnfmmmaaGreatVNetc
import Derived.Test.YtigkgfdnnfmmmaaGreatVSgr
import Derived.Test.YtigkgfdnnfmmmaaGreatVInts
import Derived.Test.YtigkgfdnnfmmmaaGreatVNetb
import Derived.Test.YtigkgfdnnfmmmaaGreatVUfe
namespace Go.Proofs.YtigkgfdnnfmmmaaGreat
open Go.RowKit

end Go.Proofs.YtigkgfdnnfmmmaaGreat

namespace Go.Proofs.YtigkgfdnnfmmmaaGreat
open Go.RowKit

theorem lab_getD {zs : List Lab} {i : Nat} (h : i < zs.length) : (lbS zs i, lbU zs i) = zs[i] := by simp [lbS, lbU, List.getD, h]
end Go.Proofs.YtigkgfdnnfmmmaaGreat

namespace Go.Proofs.YtigkgfdnnfmmmaaGreat
open Go.RowKit

set_option maxHeartbeats 400000 in
theorem szConditionS_any (ao : Option Addr) (n cap : Nat) (left : Int) (w : World) (h0 : 0 ≤ left) (h1 : left ≤ 1048576) (hn : n ≤ 9223372036854775807) :
    Calls Tryz.prog 23 #[.slice ao n cap, .int .i64 left] w (RetV w (.int .i64 (szI left n))) := by
  by_cases hlt : left < n
  · have e : szI left n = -1 := by unfold szI; rw [if_pos hlt]
    rw [e]; clear e
    go_enter Tryz.func23, Tryz.ntmps23
    go_wp2
    go_ret
    exact ⟨rfl, Below.refl _ _⟩
  · have e : szI left n = left - n := by unfold szI; rw [if_neg hlt]
    rw [e]; clear e
    go_enter Tryz.func23, Tryz.ntmps23
    go_wp2
    go_ret
    exact ⟨rfl, Below.refl _ _⟩

set_option maxHeartbeats 400000 in
theorem szEvent_any (t : Int) (v : Value) (L : List Int) (left : Int) (w : World) (lo : Nat) (hv : IntsAt lo w v L) (h0 : 0 ≤ left) (h1 : left ≤ 1048576) (hn : L.length ≤ 9223372036854775807) :
    Calls Tryz.prog 7 #[.agg #[.int .i64 t, v], .int .i64 left] w (RetSz w left (L.length ≤ 1048576)) := by
  obtain ⟨a0, k0, rfl, _, _⟩ := hv
  go_enter Tryz.func7, Tryz.ntmps7
  go_wp2_with fail
  refine (szIntS_any _ _ _ _ _ h0 h1 hn).mono ?_
  rintro e w1 ⟨rfl, hb0⟩
  have hw1 : Below w.heap.size w w1 := by
    refine Below.trans ?_ (hb0.mono ?_)
    · (repeat' (first | (with_reducible exact Below.refl _ _) | (with_reducible assumption) | (with_reducible refine Below.alloc ?_ ?_ _) | (with_reducible refine Below.drew ?_) | (with_reducible refine below_drewN ?_ _) | (with_reducible refine Below.setCell ?_ ?_ _) | go_size))
    · simp
  by_cases hlt : left < L.length
  · have e : szI left L.length = -1 := by unfold szI; rw [if_pos hlt]
    rw [e]; clear e
    go_wp2_with fail
    go_ret
    exact ⟨_, rfl, Or.inl rfl, hw1⟩
  · have e : szI left L.length = left - L.length := by unfold szI; rw [if_neg hlt]
    rw [e]; clear e
    go_wp2_with fail
    go_ret
    exact ⟨_, rfl, Or.inr ⟨by omega, by omega, by omega⟩, hw1⟩

set_option maxHeartbeats 400000 in
theorem szEventS_any (v : Value) (es : List Ev) (left : Int) (w : World) (lo : Nat) (hv : EvsAt lo w v es) (h0 : 0 ≤ left) (h1 : left ≤ 1048576) (hok : OkEvs es) :
    Calls Tryz.prog 24 #[v, .int .i64 left] w (RetSz w left (SmallEvs es)) := by
  obtain ⟨ao, cap, rfl, hc, hz⟩ := hv
  obtain ⟨hn, hsm⟩ := hok
  have HF := Lib.hid hz; clear hz
  have HS := Lib.hid hsm; clear hsm
  go_enter Tryz.func24, Tryz.ntmps24
  by_cases hlt0 : left < es.length
  · go_wp2_with fail
    go_ret
    exact ⟨_, rfl, Or.inl rfl, Below.refl _ _⟩
  go_wp2_with fail
  go_loopw [1, 5] (fun l i wr => ∃ (k : Nat) (r : Int), k ≤ es.length ∧ i = .int .i64 k ∧ l = .int .i64 r ∧ 0 ≤ r ∧ r ≤ left ∧ Hid (∀ i, i < k → (evP es i).length ≤ 1048576) ∧ Below w.heap.size w wr) (fun _ i _ => es.length - (intOf i).toNat)
  case atStart =>
    exact ⟨0, left - es.length, Nat.zero_le _, rfl, rfl, by omega, by omega, fun i hi => absurd hi (Nat.not_lt_zero _), Below.refl _ _⟩
  case round =>
    obtain ⟨k, r, hk, rfl, rfl, g0, g1, hall, hb1⟩ := hrel
    by_cases hlt : k < es.length
    · rcases HF.out with h0 | ⟨b, off, rfl, hlo, hcell⟩
      · omega
      obtain ⟨x1, c0, c1, hx⟩ := hcell k hlt
      have d0 := Carries.of lo hb1 _ _ hlo c0
      have d1 := Carries.of lo hb1 _ _ hlo c1
      have hk1 := HS.out k hlt
      obtain ⟨t, htk⟩ : ∃ t, t = evT es k := ⟨_, rfl⟩
      obtain ⟨L, hLk⟩ : ∃ t, t = evP es k := ⟨_, rfl⟩
      rw [← hLk] at hk1 hx
      rw [← htk] at d0
      have HK := Lib.hid hLk; clear htk hLk
      have HX := Lib.hid (hx.keep (Carries.of lo hb1))
      clear hcell c0 c1 hx
      go_wp2_with fail
      refine (szEvent_any _ _ _ _ _ lo HX.out g0 (by omega) hk1).mono ?_
      rintro e w1 ⟨q, rfl, hq, hb2⟩
      have hw1 : Below w.heap.size w w1 := hb1.trans (hb2.mono hb1.size)
      rcases hq with rfl | ⟨q0, q1, hq2⟩
      · go_wp2_with fail
        go_ret
        exact ⟨_, rfl, Or.inl rfl, hw1⟩
      · have H2 : Hid (∀ i, i < k + 1 → (evP es i).length ≤ 1048576) := by
          intro i hi
          by_cases e : i = k
          · subst e; rw [← HK.out]; exact hq2
          · exact hall.out i (by omega)
        go_wp2_with fail
        go_roundw
        case rel => exact ⟨k + 1, q, by omega, by go_num, rfl, q0, by omega, H2, hw1⟩
        case measure => simp [intOf]; omega
    · have hkk : k = es.length := by omega
      subst hkk
      go_wp2_with fail
      go_ret
      exact ⟨_, rfl, Or.inr ⟨g0, g1, by omega, hall.out⟩, hb1⟩

set_option maxHeartbeats 1000000 in
theorem szUnfolding_any (v : Value) (u : UnfD) (left : Int) (w : World) (lo : Nat) (hv : UnfAt lo w v u) (h0 : 0 ≤ left) (h1 : left ≤ 1048576) (hok : OkUnf u) :
    Calls Tryz.prog 6 #[v, .int .i64 left] w (RetSz w left (SmallUnf u)) := by
  obtain ⟨a0, c0, a1, c1, rfl, hc_, he_⟩ := hv.form
  clear hv hc_
  obtain ⟨cs, es⟩ := u
  obtain ⟨k1, k2⟩ := hok
  simp only at he_ k1 k2 ⊢
  have HE := Lib.hid he_; clear he_
  have K2 := Lib.hid k2; clear k2
  go_enter Tryz.func6, Tryz.ntmps6
  go_wp2_with fail
  refine (szConditionS_any _ _ _ _ _ h0 h1 k1).mono ?_
  rintro e w1 ⟨rfl, hb1⟩
  have hw1 : Below w.heap.size w w1 := by
    refine Below.trans ?_ (hb1.mono ?_)
    · (repeat' (first | (with_reducible exact Below.refl _ _) | (with_reducible assumption) | (with_reducible refine Below.alloc ?_ ?_ _) | (with_reducible refine Below.drew ?_) | (with_reducible refine below_drewN ?_ _) | (with_reducible refine Below.setCell ?_ ?_ _) | go_size))
    · simp
  have x1 : w1.cell? ⟨w.heap.size, 1, none⟩ = some (.slice a1 es.length c1) := cell_carry (by simp) (Carries.of 0 hb1)
  clear hb1
  by_cases hq : left < cs.length
  · have e : szI left cs.length = -1 := by unfold szI; rw [if_pos hq]
    rw [e]; clear e
    go_wp2_with fail
    go_ret
    exact ⟨_, rfl, Or.inl rfl, hw1⟩
  have e : szI left cs.length = left - cs.length := by unfold szI; rw [if_neg hq]
  rw [e]; clear e
  obtain ⟨q, hqq⟩ : ∃ q, q = left - (cs.length : Int) := ⟨_, rfl⟩
  rw [← hqq]
  have q0 : 0 ≤ q := by omega
  have q1 : q ≤ left := by omega
  have q3 : cs.length ≤ 1048576 := by omega
  clear hqq hq
  go_wp2_with fail
  refine (szEventS_any _ es _ _ lo (HE.out.keep (Carries.of lo hw1)) q0 (by omega) K2.out).mono ?_
  rintro e w2 ⟨r2, rfl, hr2, hb2⟩
  have hw2 : Below w.heap.size w w2 := hw1.trans (hb2.mono hw1.size)
  rcases hr2 with rfl | ⟨g2, g3, q2⟩
  · go_wp2_with fail
    go_ret
    exact ⟨_, rfl, Or.inl rfl, hw2⟩
  have Q2 := Lib.hid q2; clear q2
  go_wp2_with fail
  go_ret
  exact ⟨_, rfl, Or.inr ⟨by omega, by omega, q3, Q2.out⟩, hw2⟩

end Go.Proofs.YtigkgfdnnfmmmaaGreat

namespace Go.Proofs.YtigkgfdnnfmmmaaGreat
open Go.RowKit

theorem decide_ev (a b : Ev) : decide (a = b) = (decide (a.1 = b.1) && decide (a.2 = b.2)) := by
  obtain ⟨a1, a2⟩ := a
  obtain ⟨b1, b2⟩ := b
  simp [Prod.ext_iff]

set_option maxHeartbeats 400000 in
theorem eqEvent_any (t t' : Int) (v u : Value) (L M : List Int) (w : World) (lo lo' : Nat) (hv : IntsAt lo w v L) (hu : IntsAt lo' w u M)
    (h1 : L.length ≤ 1048576) (h2 : M.length ≤ 1048576) :
    Calls Tryz.prog 15 #[.agg #[.int .i64 t, v], .agg #[.int .i64 t', u]] w (RetB w (decide ((t, L) = (t', M)))) := by
  rw [decide_ev]
  simp only
  generalize hC2 : decide (L = M) = c2
  have HC2 := Lib.hid hC2; clear hC2
  have hv' := hv
  have hu' := hu
  obtain ⟨a0, k0, rfl, _, _⟩ := hv'
  obtain ⟨b0, m0, rfl, _, _⟩ := hu'
  have HV := Lib.hid hv; clear hv
  have HU := Lib.hid hu; clear hu
  by_cases ht : t = t'
  · subst ht
    have hne : (t != t) = false := by simp
    simp only [decide_true, Bool.true_and]
    go_enter Tryz.func15, Tryz.ntmps15
    go_wp2_with fail
    refine (eqIntS_any _ _ L M _ lo lo' (HV.out.keep ?_) (HU.out.keep ?_) (by omega) (by omega)).mono ?_
    · (repeat' (first | (with_reducible exact Carries.refl _ _) | (with_reducible assumption) | (with_reducible refine Carries.alloc ?_ _) | (with_reducible refine Carries.drew ?_) | (with_reducible refine Carries.drewN ?_ _) | (with_reducible refine Carries.set ?_ ?_ _) | go_size))
    · (repeat' (first | (with_reducible exact Carries.refl _ _) | (with_reducible assumption) | (with_reducible refine Carries.alloc ?_ _) | (with_reducible refine Carries.drew ?_) | (with_reducible refine Carries.drewN ?_ _) | (with_reducible refine Carries.set ?_ ?_ _) | go_size))
    rintro e w1 ⟨rfl, hb0⟩
    have hw1 : Below w.heap.size w w1 := by
      refine Below.trans ?_ (hb0.mono ?_)
      · (repeat' (first | (with_reducible exact Below.refl _ _) | (with_reducible assumption) | (with_reducible refine Below.alloc ?_ ?_ _) | (with_reducible refine Below.drew ?_) | (with_reducible refine below_drewN ?_ _) | (with_reducible refine Below.setCell ?_ ?_ _) | go_size))
      · simp; omega
    rw [HC2.out]
    cases c2 with
    | false =>
      go_wp2_with fail
      go_ret
      exact ⟨rfl, hw1⟩
    | true =>
      go_wp2_with fail
      go_ret
      exact ⟨rfl, hw1⟩
  · have hne : (t != t') = true := by simpa using ht
    have hd : decide (t = t') = false := by simpa using ht
    rw [hd, Bool.false_and]
    clear hd
    go_enter Tryz.func15, Tryz.ntmps15
    go_wp2_with fail
    go_ret
    exact ⟨rfl, by (repeat' (first | (with_reducible exact Below.refl _ _) | (with_reducible assumption) | (with_reducible refine Below.alloc ?_ ?_ _) | (with_reducible refine Below.drew ?_) | (with_reducible refine below_drewN ?_ _) | (with_reducible refine Below.setCell ?_ ?_ _) | go_size))⟩

theorem evs_eq_get {zs : List Ev} {i : Nat} (h : i < zs.length) : (evT zs i, evP zs i) = zs[i] := ev_getD h
theorem evs_take_eq_succ {zs ys : List Ev} {k : Nat} (hk : k < zs.length) (hy : k < ys.length) (h : zs.take k = ys.take k) (he : (evT zs k, evP zs k) = (evT ys k, evP ys k)) : zs.take (k + 1) = ys.take (k + 1) := by
  rw [List.take_succ_eq_append_getElem hk, List.take_succ_eq_append_getElem hy, h, ← ev_getD hk, ← ev_getD hy, he]
theorem evs_ne_of {zs ys : List Ev} {k : Nat} (he : (evT zs k, evP zs k) ≠ (evT ys k, evP ys k)) : decide (zs = ys) = false := by
  rw [decide_eq_false_iff_not]; rintro rfl; exact he rfl

set_option maxRecDepth 100000 in
set_option maxHeartbeats 400000 in
theorem eqEventS_any (v v' : Value) (zs ys : List Ev) (w : World) (lo lo' : Nat) (hv : EvsAt lo w v zs) (hv' : EvsAt lo' w v' ys) (hs : SmallEvs zs) (hs' : SmallEvs ys) :
    Calls Tryz.prog 39 #[v, v'] w (RetB w (decide (zs = ys))) := by
  obtain ⟨ao, cap, rfl, hc, hz⟩ := hv
  obtain ⟨ao', cap', rfl, hc', hz'⟩ := hv'
  obtain ⟨hn, hsm⟩ := hs
  obtain ⟨hn', hsm'⟩ := hs'
  by_cases hl : zs.length = ys.length
  · have hb : ((zs.length : Int) != (ys.length : Int)) = false := by simp [hl]
    by_cases hzs : 0 < zs.length
    · rcases hz with h0 | ⟨b, off, rfl, hlo, hcell⟩
      · omega
      rcases hz' with h0 | ⟨b', off', rfl, hlo', hcell'⟩
      · omega
      have HC := Lib.hid hcell; clear hcell
      have HC' := Lib.hid hcell'; clear hcell'
      have HL := Lib.hid hl
      have HS := Lib.hid hsm; clear hsm
      have HS' := Lib.hid hsm'; clear hsm'
      have hl1 : zs.length ≤ ys.length := by omega
      have hl2 : ys.length ≤ zs.length := by omega
      clear hl
      go_enter Tryz.func39, Tryz.ntmps39
      go_wp2
      go_loopw [5] (fun i wr => ∃ k : Nat, k ≤ zs.length ∧ i = .int .i64 k ∧ Hid (zs.take k = ys.take k) ∧ Below w.heap.size w wr) (fun i _ => zs.length - (intOf i).toNat)
      case atStart => exact ⟨0, Nat.zero_le _, rfl, rfl, Below.refl _ _⟩
      case round =>
        obtain ⟨k, hk, rfl, ht, hb1⟩ := hrel
        by_cases hlt : k < zs.length
        · have hk2 : k < ys.length := by omega
          obtain ⟨x1, c0, c1, hx⟩ := HC.out k hlt
          obtain ⟨y1, e0, e1, hy⟩ := HC'.out k hk2
          have d0 := Carries.of lo hb1 _ _ hlo c0
          have d1 := Carries.of lo hb1 _ _ hlo c1
          have d2 := Carries.of lo' hb1 _ _ hlo' e0
          have d3 := Carries.of lo' hb1 _ _ hlo' e1
          have HX := Lib.hid (hx.keep (Carries.of lo hb1))
          have HY := Lib.hid (hy.keep (Carries.of lo' hb1))
          clear c0 c1 e0 e1 hx hy
          obtain ⟨t, htk⟩ : ∃ t, t = evT zs k := ⟨_, rfl⟩
          obtain ⟨s, hsk⟩ : ∃ s, s = evT ys k := ⟨_, rfl⟩
          obtain ⟨L, hLk⟩ : ∃ s, s = evP zs k := ⟨_, rfl⟩
          obtain ⟨M, hMk⟩ : ∃ s, s = evP ys k := ⟨_, rfl⟩
          have q1 := HS.out k hlt
          have q3 := HS'.out k hk2
          rw [← hLk] at q1 HX
          rw [← hMk] at q3 HY
          rw [← htk] at d0
          rw [← hsk] at d2
          have HK := Lib.hid (And.intro htk hLk); clear htk hLk
          have HK' := Lib.hid (And.intro hsk hMk); clear hsk hMk
          go_wp2
          go_still_tail 8, (by kernel_rfl)
          change wpList _ _ _ _ _ wr.drew
          go_wp2_with fail
          refine (eqEvent_any t s _ _ L M _ lo lo' (HX.out.keep ?_) (HY.out.keep ?_) q1 q3).mono ?_
          · (repeat' (first | (with_reducible exact Carries.refl _ _) | (with_reducible assumption) | (with_reducible refine Carries.alloc ?_ _) | (with_reducible refine Carries.drew ?_) | (with_reducible refine Carries.drewN ?_ _) | (with_reducible refine Carries.set ?_ ?_ _) | go_size))
          · (repeat' (first | (with_reducible exact Carries.refl _ _) | (with_reducible assumption) | (with_reducible refine Carries.alloc ?_ _) | (with_reducible refine Carries.drew ?_) | (with_reducible refine Carries.drewN ?_ _) | (with_reducible refine Carries.set ?_ ?_ _) | go_size))
          rintro e w1 ⟨rfl, hb2⟩
          have hw1 : Below w.heap.size w w1 := by
            refine Below.trans ?_ (hb2.mono ?_)
            · (repeat' (first | (with_reducible exact Below.refl _ _) | (with_reducible assumption) | (with_reducible refine Below.alloc ?_ ?_ _) | (with_reducible refine Below.drew ?_) | (with_reducible refine below_drewN ?_ _) | (with_reducible refine Below.setCell ?_ ?_ _) | go_size))
            · simpa using hb1.size
          cases hd : decide ((t, L) = (s, M)) with
          | false =>
            have hne : ¬ (t, L) = (s, M) := of_decide_eq_false hd
            have hfin := Lib.hid (evs_ne_of (zs := zs) (ys := ys) (k := k) (by rw [← HK.out.1, ← HK'.out.1, ← HK.out.2, ← HK'.out.2]; exact hne))
            clear hd hne
            go_wp2_with fail
            go_ret
            refine ⟨?_, hw1⟩
            rw [hfin.out]; rfl
          | true =>
            have he : (t, L) = (s, M) := of_decide_eq_true hd
            have hs := Lib.hid (evs_take_eq_succ hlt hk2 ht.out (by rw [← HK.out.1, ← HK'.out.1, ← HK.out.2, ← HK'.out.2]; exact he))
            clear hd he
            go_wp2_with fail
            go_roundw
            case rel => exact ⟨k + 1, by omega, by go_num, hs, hw1⟩
            case measure => simp [intOf]; omega
        · go_wp2
          go_ret
          refine ⟨?_, hb1⟩
          have h1 := ht.out
          rw [List.take_of_length_le (by omega), List.take_of_length_le (by omega)] at h1
          simp [h1]
    · have hz0 : zs = [] := List.eq_nil_of_length_eq_zero (by omega)
      have hy0 : ys = [] := List.eq_nil_of_length_eq_zero (by omega)
      subst hz0; subst hy0
      simp only [List.length_nil]
      exact eqEventS_nil _ _ _ _ _
  · have hb : ((zs.length : Int) != (ys.length : Int)) = true := by rw [bne_iff_ne]; omega
    have hd : decide (zs = ys) = false := by rw [decide_eq_false_iff_not]; rintro rfl; exact hl rfl
    rw [hd]; clear hd
    clear hz hz' hsm hsm'
    go_enter Tryz.func39, Tryz.ntmps39
    go_wp2
    go_ret
    exact ⟨rfl, Below.refl _ _⟩

def eqUnfB (a b : UnfD) : Bool := decide (a.cs = b.cs) && decide (a.es = b.es)
theorem eqUnfB_self (a : UnfD) : eqUnfB a a = true := by unfold eqUnfB; simp

set_option maxHeartbeats 1000000 in
theorem eqUnfolding_any (v v' : Value) (r r' : UnfD) (w : World) (lo lo' : Nat) (hv : UnfAt lo w v r) (hv' : UnfAt lo' w v' r') (hs : SmallUnf r) (hs' : SmallUnf r') :
    Calls Tryz.prog 13 #[v, v'] w (RetB w (eqUnfB r r')) := by
  generalize hG : eqUnfB r r' = g
  unfold eqUnfB at hG
  obtain ⟨a0, c0, a1, c1, rfl, hm, hl⟩ := hv.form
  obtain ⟨b0, d0, b1, d1, rfl, hm', hl'⟩ := hv'.form
  clear hv hv'
  obtain ⟨ss, ls⟩ := r
  obtain ⟨ss', ls'⟩ := r'
  obtain ⟨k1, k2⟩ := hs
  obtain ⟨k1', k2'⟩ := hs'
  simp only at hm hm' hl hl' k1 k2 k1' k2' hG ⊢
  generalize hp1 : decide (ss = ss') = p1 at hG
  generalize hp2 : decide (ls = ls') = p2 at hG
  have P1 := Lib.hid hp1; clear hp1
  have P2 := Lib.hid hp2; clear hp2
  have GG := Lib.hid hG; clear hG
  have HG := Lib.hid hm; clear hm
  have HG' := Lib.hid hm'; clear hm'
  have HL := Lib.hid hl; clear hl
  have HL' := Lib.hid hl'; clear hl'
  have K2 := Lib.hid k2; clear k2
  have K2' := Lib.hid k2'; clear k2'
  go_enter Tryz.func13, Tryz.ntmps13
  go_wp2_with fail
  refine (eqConditionS_any _ _ ss ss' _ lo lo' (HG.out.keep ?_) (HG'.out.keep ?_) k1 k1').mono ?_
  · (repeat' (first | (with_reducible exact Carries.refl _ _) | (with_reducible assumption) | (with_reducible refine Carries.alloc ?_ _) | (with_reducible refine Carries.drew ?_) | (with_reducible refine Carries.drewN ?_ _) | (with_reducible refine Carries.set ?_ ?_ _) | go_size))
  · (repeat' (first | (with_reducible exact Carries.refl _ _) | (with_reducible assumption) | (with_reducible refine Carries.alloc ?_ _) | (with_reducible refine Carries.drew ?_) | (with_reducible refine Carries.drewN ?_ _) | (with_reducible refine Carries.set ?_ ?_ _) | go_size))
  rintro e w1 ⟨rfl, hb1⟩
  have z1 : w.heap.size + 1 < w1.heap.size := by have := hb1.size; simp at this; omega
  have hw1 : Below w.heap.size w w1 := by
    refine Below.trans ?_ (hb1.mono ?_)
    · (repeat' (first | (with_reducible exact Below.refl _ _) | (with_reducible assumption) | (with_reducible refine Below.alloc ?_ ?_ _) | (with_reducible refine Below.drew ?_) | (with_reducible refine below_drewN ?_ _) | (with_reducible refine Below.setCell ?_ ?_ _) | go_size))
    · simp; omega
  have x1 : w1.cell? ⟨w.heap.size, 1, none⟩ = some (.slice a1 ls.length c1) := cell_carry (by simp) (Carries.of 0 hb1)
  have y1 : w1.cell? ⟨w.heap.size + 1, 1, none⟩ = some (.slice b1 ls'.length d1) := cell_carry (by simp) (Carries.of 0 hb1)
  clear hb1
  rw [P1.out]
  cases p1 with
  | false =>
    have := GG.out
    simp only [Bool.false_and] at this
    subst this
    go_wp2_with fail
    go_ret
    exact ⟨rfl, hw1⟩
  | true =>
  have := GG.out
  simp only [Bool.true_and] at this
  subst this
  go_wp2_with fail
  refine (eqEventS_any _ _ ls ls' _ lo lo' (HL.out.keep (Carries.of lo hw1)) (HL'.out.keep (Carries.of lo' hw1)) K2.out K2'.out).mono ?_
  rintro e w3 ⟨rfl, hb3⟩
  have hw3 : Below w.heap.size w w3 := hw1.trans (hb3.mono hw1.size)
  clear hb3
  rw [P2.out]
  cases p2 with
  | false =>
    go_wp2_with fail
    go_ret
    exact ⟨rfl, hw3⟩
  | true =>
    go_wp2_with fail
    go_ret
    exact ⟨rfl, hw3⟩

end Go.Proofs.YtigkgfdnnfmmmaaGreat
