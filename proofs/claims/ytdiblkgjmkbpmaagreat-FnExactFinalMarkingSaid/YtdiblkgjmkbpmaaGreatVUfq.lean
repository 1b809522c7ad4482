/- WALKS: eqEvent, eqEventS, eqUnfolding of the laws, of any events. -/
import Derived.Test.YtdiblkgjmkbpmaaGreatVUfm
import Derived.Test.YtdiblkgjmkbpmaaGreatVSgr
namespace Go.Proofs.YtdiblkgjmkbpmaaGreat
open Go.RowKit

theorem decide_ev (a b : Ev) : decide (a = b) = (decide (a.1 = b.1) && decide (a.2 = b.2)) := by
  obtain ⟨a1, a2⟩ := a
  obtain ⟨b1, b2⟩ := b
  simp [Prod.ext_iff]

set_option maxHeartbeats 400000 in
theorem eqEvent_any (t t' : Int) (v u : Value) (L M : List Int) (w : World) (lo lo' : Nat) (hv : IntsAt lo w v L) (hu : IntsAt lo' w u M)
    (h1 : L.length ≤ 1048576) (h2 : M.length ≤ 1048576) :
    Calls Tryz.prog 36 #[.agg #[.int .i64 t, v], .agg #[.int .i64 t', u]] w (RetB w (decide ((t, L) = (t', M)))) := by
  rw [decide_ev]
  simp only
  generalize hC2 : decide (L = M) = c2
  have HC2 := Lib.hid hC2; clear hC2
  have hv' := hv
  have hu' := hu
  obtain ⟨a0, k0, rfl, _, _⟩ := hv'
  obtain ⟨b0, m0, rfl, _, _⟩ := hu'
  have HV := Lib.hid hv; clear hv
  have HU := Lib.hid hu; clear hu
  by_cases ht : t = t'
  · subst ht
    have hne : (t != t) = false := by simp
    simp only [decide_true, Bool.true_and]
    go_enter Tryz.func36, Tryz.ntmps36
    go_wp2_with fail
    refine (eqIntS_any _ _ L M _ lo lo' (HV.out.keep ?_) (HU.out.keep ?_) (by omega) (by omega)).mono ?_
    · (repeat' (first | (with_reducible exact Carries.refl _ _) | (with_reducible assumption) | (with_reducible refine Carries.alloc ?_ _) | (with_reducible refine Carries.drew ?_) | (with_reducible refine Carries.drewN ?_ _) | (with_reducible refine Carries.set ?_ ?_ _) | go_size))
    · (repeat' (first | (with_reducible exact Carries.refl _ _) | (with_reducible assumption) | (with_reducible refine Carries.alloc ?_ _) | (with_reducible refine Carries.drew ?_) | (with_reducible refine Carries.drewN ?_ _) | (with_reducible refine Carries.set ?_ ?_ _) | go_size))
    rintro e w1 ⟨rfl, hb0⟩
    have hw1 : Below w.heap.size w w1 := by
      refine Below.trans ?_ (hb0.mono ?_)
      · (repeat' (first | (with_reducible exact Below.refl _ _) | (with_reducible assumption) | (with_reducible refine Below.alloc ?_ ?_ _) | (with_reducible refine Below.drew ?_) | (with_reducible refine below_drewN ?_ _) | (with_reducible refine Below.setCell ?_ ?_ _) | go_size))
      · simp; omega
    rw [HC2.out]
    cases c2 with
    | false =>
      go_wp2_with fail
      go_ret
      exact ⟨rfl, hw1⟩
    | true =>
      go_wp2_with fail
      go_ret
      exact ⟨rfl, hw1⟩
  · have hne : (t != t') = true := by simpa using ht
    have hd : decide (t = t') = false := by simpa using ht
    rw [hd, Bool.false_and]
    clear hd
    go_enter Tryz.func36, Tryz.ntmps36
    go_wp2_with fail
    go_ret
    exact ⟨rfl, by (repeat' (first | (with_reducible exact Below.refl _ _) | (with_reducible assumption) | (with_reducible refine Below.alloc ?_ ?_ _) | (with_reducible refine Below.drew ?_) | (with_reducible refine below_drewN ?_ _) | (with_reducible refine Below.setCell ?_ ?_ _) | go_size))⟩

theorem evs_eq_get {zs : List Ev} {i : Nat} (h : i < zs.length) : (evT zs i, evP zs i) = zs[i] := ev_getD h
theorem evs_take_eq_succ {zs ys : List Ev} {k : Nat} (hk : k < zs.length) (hy : k < ys.length) (h : zs.take k = ys.take k) (he : (evT zs k, evP zs k) = (evT ys k, evP ys k)) : zs.take (k + 1) = ys.take (k + 1) := by
  rw [List.take_succ_eq_append_getElem hk, List.take_succ_eq_append_getElem hy, h, ← ev_getD hk, ← ev_getD hy, he]
theorem evs_ne_of {zs ys : List Ev} {k : Nat} (he : (evT zs k, evP zs k) ≠ (evT ys k, evP ys k)) : decide (zs = ys) = false := by
  rw [decide_eq_false_iff_not]; rintro rfl; exact he rfl

set_option maxRecDepth 100000 in
set_option maxHeartbeats 400000 in
theorem eqEventS_any (v v' : Value) (zs ys : List Ev) (w : World) (lo lo' : Nat) (hv : EvsAt lo w v zs) (hv' : EvsAt lo' w v' ys) (hs : SmallEvs zs) (hs' : SmallEvs ys) :
    Calls Tryz.prog 51 #[v, v'] w (RetB w (decide (zs = ys))) := by
  obtain ⟨ao, cap, rfl, hc, hz⟩ := hv
  obtain ⟨ao', cap', rfl, hc', hz'⟩ := hv'
  obtain ⟨hn, hsm⟩ := hs
  obtain ⟨hn', hsm'⟩ := hs'
  by_cases hl : zs.length = ys.length
  · have hb : ((zs.length : Int) != (ys.length : Int)) = false := by simp [hl]
    by_cases hzs : 0 < zs.length
    · rcases hz with h0 | ⟨b, off, rfl, hlo, hcell⟩
      · omega
      rcases hz' with h0 | ⟨b', off', rfl, hlo', hcell'⟩
      · omega
      have HC := Lib.hid hcell; clear hcell
      have HC' := Lib.hid hcell'; clear hcell'
      have HL := Lib.hid hl
      have HS := Lib.hid hsm; clear hsm
      have HS' := Lib.hid hsm'; clear hsm'
      have hl1 : zs.length ≤ ys.length := by omega
      have hl2 : ys.length ≤ zs.length := by omega
      clear hl
      go_enter Tryz.func51, Tryz.ntmps51
      go_wp2
      go_loopw [5] (fun i wr => ∃ k : Nat, k ≤ zs.length ∧ i = .int .i64 k ∧ Hid (zs.take k = ys.take k) ∧ Below w.heap.size w wr) (fun i _ => zs.length - (intOf i).toNat)
      case atStart => exact ⟨0, Nat.zero_le _, rfl, rfl, Below.refl _ _⟩
      case round =>
        obtain ⟨k, hk, rfl, ht, hb1⟩ := hrel
        by_cases hlt : k < zs.length
        · have hk2 : k < ys.length := by omega
          obtain ⟨x1, c0, c1, hx⟩ := HC.out k hlt
          obtain ⟨y1, e0, e1, hy⟩ := HC'.out k hk2
          have d0 := Carries.of lo hb1 _ _ hlo c0
          have d1 := Carries.of lo hb1 _ _ hlo c1
          have d2 := Carries.of lo' hb1 _ _ hlo' e0
          have d3 := Carries.of lo' hb1 _ _ hlo' e1
          have HX := Lib.hid (hx.keep (Carries.of lo hb1))
          have HY := Lib.hid (hy.keep (Carries.of lo' hb1))
          clear c0 c1 e0 e1 hx hy
          obtain ⟨t, htk⟩ : ∃ t, t = evT zs k := ⟨_, rfl⟩
          obtain ⟨s, hsk⟩ : ∃ s, s = evT ys k := ⟨_, rfl⟩
          obtain ⟨L, hLk⟩ : ∃ s, s = evP zs k := ⟨_, rfl⟩
          obtain ⟨M, hMk⟩ : ∃ s, s = evP ys k := ⟨_, rfl⟩
          have q1 := HS.out k hlt
          have q3 := HS'.out k hk2
          rw [← hLk] at q1 HX
          rw [← hMk] at q3 HY
          rw [← htk] at d0
          rw [← hsk] at d2
          have HK := Lib.hid (And.intro htk hLk); clear htk hLk
          have HK' := Lib.hid (And.intro hsk hMk); clear hsk hMk
          go_wp2
          go_still_tail 8, (by kernel_rfl)
          change wpList _ _ _ _ _ wr.drew
          go_wp2_with fail
          refine (eqEvent_any t s _ _ L M _ lo lo' (HX.out.keep ?_) (HY.out.keep ?_) q1 q3).mono ?_
          · (repeat' (first | (with_reducible exact Carries.refl _ _) | (with_reducible assumption) | (with_reducible refine Carries.alloc ?_ _) | (with_reducible refine Carries.drew ?_) | (with_reducible refine Carries.drewN ?_ _) | (with_reducible refine Carries.set ?_ ?_ _) | go_size))
          · (repeat' (first | (with_reducible exact Carries.refl _ _) | (with_reducible assumption) | (with_reducible refine Carries.alloc ?_ _) | (with_reducible refine Carries.drew ?_) | (with_reducible refine Carries.drewN ?_ _) | (with_reducible refine Carries.set ?_ ?_ _) | go_size))
          rintro e w1 ⟨rfl, hb2⟩
          have hw1 : Below w.heap.size w w1 := by
            refine Below.trans ?_ (hb2.mono ?_)
            · (repeat' (first | (with_reducible exact Below.refl _ _) | (with_reducible assumption) | (with_reducible refine Below.alloc ?_ ?_ _) | (with_reducible refine Below.drew ?_) | (with_reducible refine below_drewN ?_ _) | (with_reducible refine Below.setCell ?_ ?_ _) | go_size))
            · simpa using hb1.size
          cases hd : decide ((t, L) = (s, M)) with
          | false =>
            have hne : ¬ (t, L) = (s, M) := of_decide_eq_false hd
            have hfin := Lib.hid (evs_ne_of (zs := zs) (ys := ys) (k := k) (by rw [← HK.out.1, ← HK'.out.1, ← HK.out.2, ← HK'.out.2]; exact hne))
            clear hd hne
            go_wp2_with fail
            go_ret
            refine ⟨?_, hw1⟩
            rw [hfin.out]; rfl
          | true =>
            have he : (t, L) = (s, M) := of_decide_eq_true hd
            have hs := Lib.hid (evs_take_eq_succ hlt hk2 ht.out (by rw [← HK.out.1, ← HK'.out.1, ← HK.out.2, ← HK'.out.2]; exact he))
            clear hd he
            go_wp2_with fail
            go_roundw
            case rel => exact ⟨k + 1, by omega, by go_num, hs, hw1⟩
            case measure => simp [intOf]; omega
        · go_wp2
          go_ret
          refine ⟨?_, hb1⟩
          have h1 := ht.out
          rw [List.take_of_length_le (by omega), List.take_of_length_le (by omega)] at h1
          simp [h1]
    · have hz0 : zs = [] := List.eq_nil_of_length_eq_zero (by omega)
      have hy0 : ys = [] := List.eq_nil_of_length_eq_zero (by omega)
      subst hz0; subst hy0
      simp only [List.length_nil]
      exact eqEventS_nil _ _ _ _ _
  · have hb : ((zs.length : Int) != (ys.length : Int)) = true := by rw [bne_iff_ne]; omega
    have hd : decide (zs = ys) = false := by rw [decide_eq_false_iff_not]; rintro rfl; exact hl rfl
    rw [hd]; clear hd
    clear hz hz' hsm hsm'
    go_enter Tryz.func51, Tryz.ntmps51
    go_wp2
    go_ret
    exact ⟨rfl, Below.refl _ _⟩

def eqUnfB (a b : UnfD) : Bool := decide (a.cs = b.cs) && decide (a.es = b.es)
theorem eqUnfB_self (a : UnfD) : eqUnfB a a = true := by unfold eqUnfB; simp

set_option maxHeartbeats 1000000 in
theorem eqUnfolding_any (v v' : Value) (r r' : UnfD) (w : World) (lo lo' : Nat) (hv : UnfAt lo w v r) (hv' : UnfAt lo' w v' r') (hs : SmallUnf r) (hs' : SmallUnf r') :
    Calls Tryz.prog 17 #[v, v'] w (RetB w (eqUnfB r r')) := by
  generalize hG : eqUnfB r r' = g
  unfold eqUnfB at hG
  obtain ⟨a0, c0, a1, c1, rfl, hm, hl⟩ := hv.form
  obtain ⟨b0, d0, b1, d1, rfl, hm', hl'⟩ := hv'.form
  clear hv hv'
  obtain ⟨ss, ls⟩ := r
  obtain ⟨ss', ls'⟩ := r'
  obtain ⟨k1, k2⟩ := hs
  obtain ⟨k1', k2'⟩ := hs'
  simp only at hm hm' hl hl' k1 k2 k1' k2' hG ⊢
  generalize hp1 : decide (ss = ss') = p1 at hG
  generalize hp2 : decide (ls = ls') = p2 at hG
  have P1 := Lib.hid hp1; clear hp1
  have P2 := Lib.hid hp2; clear hp2
  have GG := Lib.hid hG; clear hG
  have HG := Lib.hid hm; clear hm
  have HG' := Lib.hid hm'; clear hm'
  have HL := Lib.hid hl; clear hl
  have HL' := Lib.hid hl'; clear hl'
  have K2 := Lib.hid k2; clear k2
  have K2' := Lib.hid k2'; clear k2'
  go_enter Tryz.func17, Tryz.ntmps17
  go_wp2_with fail
  refine (eqConditionS_any _ _ ss ss' _ lo lo' (HG.out.keep ?_) (HG'.out.keep ?_) k1 k1').mono ?_
  · (repeat' (first | (with_reducible exact Carries.refl _ _) | (with_reducible assumption) | (with_reducible refine Carries.alloc ?_ _) | (with_reducible refine Carries.drew ?_) | (with_reducible refine Carries.drewN ?_ _) | (with_reducible refine Carries.set ?_ ?_ _) | go_size))
  · (repeat' (first | (with_reducible exact Carries.refl _ _) | (with_reducible assumption) | (with_reducible refine Carries.alloc ?_ _) | (with_reducible refine Carries.drew ?_) | (with_reducible refine Carries.drewN ?_ _) | (with_reducible refine Carries.set ?_ ?_ _) | go_size))
  rintro e w1 ⟨rfl, hb1⟩
  have z1 : w.heap.size + 1 < w1.heap.size := by have := hb1.size; simp at this; omega
  have hw1 : Below w.heap.size w w1 := by
    refine Below.trans ?_ (hb1.mono ?_)
    · (repeat' (first | (with_reducible exact Below.refl _ _) | (with_reducible assumption) | (with_reducible refine Below.alloc ?_ ?_ _) | (with_reducible refine Below.drew ?_) | (with_reducible refine below_drewN ?_ _) | (with_reducible refine Below.setCell ?_ ?_ _) | go_size))
    · simp; omega
  have x1 : w1.cell? ⟨w.heap.size, 1, none⟩ = some (.slice a1 ls.length c1) := cell_carry (by simp) (Carries.of 0 hb1)
  have y1 : w1.cell? ⟨w.heap.size + 1, 1, none⟩ = some (.slice b1 ls'.length d1) := cell_carry (by simp) (Carries.of 0 hb1)
  clear hb1
  rw [P1.out]
  cases p1 with
  | false =>
    have := GG.out
    simp only [Bool.false_and] at this
    subst this
    go_wp2_with fail
    go_ret
    exact ⟨rfl, hw1⟩
  | true =>
  have := GG.out
  simp only [Bool.true_and] at this
  subst this
  go_wp2_with fail
  refine (eqEventS_any _ _ ls ls' _ lo lo' (HL.out.keep (Carries.of lo hw1)) (HL'.out.keep (Carries.of lo' hw1)) K2.out K2'.out).mono ?_
  rintro e w3 ⟨rfl, hb3⟩
  have hw3 : Below w.heap.size w w3 := hw1.trans (hb3.mono hw1.size)
  clear hb3
  rw [P2.out]
  cases p2 with
  | false =>
    go_wp2_with fail
    go_ret
    exact ⟨rfl, hw3⟩
  | true =>
    go_wp2_with fail
    go_ret
    exact ⟨rfl, hw3⟩

end Go.Proofs.YtdiblkgjmkbpmaaGreat
