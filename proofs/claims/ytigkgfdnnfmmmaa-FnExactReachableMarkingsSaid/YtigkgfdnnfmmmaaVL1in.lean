/- WALKS: szTransition, szTransitionS, szNet.
   WALKS: eqTransition, eqTransitionS, eqNet.
   WALK: l1In of the model. -/
import Derived.Test.YtigkgfdnnfmmmaaVNeta
import Derived.StillTailTactics
namespace Go.Proofs.Ytigkgfdnnfmmmaa
open Go.RowKit

/-- a size count: either negative, or what is left; then the lists are small -/
def RetSz (w : World) (left : Int) (P : Prop) (e : Ending) (w' : World) : Prop := ∃ r : Int, e = .returned (.int .i64 r) ∧ (r = -1 ∨ (0 ≤ r ∧ r ≤ left ∧ P)) ∧ Below w.heap.size w w'

def OkTrs (ts : List Tr) : Prop := ts.length ≤ 9223372036854775807 ∧ ∀ i, i < ts.length → (ts.getD i ([], [])).1.length ≤ 9223372036854775807 ∧ (ts.getD i ([], [])).2.length ≤ 9223372036854775807

set_option maxHeartbeats 400000 in
theorem szTransition_any (v0 v1 : Value) (t : Tr) (left : Int) (w : World) (lo : Nat) (hv : TrAt lo w v0 v1 t) (h0 : 0 ≤ left) (h1 : left ≤ 1048576) (hn : t.1.length ≤ 9223372036854775807) (hm : t.2.length ≤ 9223372036854775807) :
    Calls Try.prog 100 #[.agg #[v0, v1], .int .i64 left] w (RetSz w left (t.1.length ≤ 1048576 ∧ t.2.length ≤ 1048576)) := by
  obtain ⟨⟨a0, k0, rfl, _, _⟩, ⟨a1, k1, rfl, _, _⟩⟩ := hv
  go_enter Try.func100, Try.ntmps100
  go_wp2_with fail
  refine (szIntS_any _ _ _ _ _ h0 h1 hn).mono ?_
  rintro e w1 ⟨rfl, hb0⟩
  obtain ⟨hc, hf⟩ := bcell hb0
  have hz1b : w.heap.size < w1.heap.size := by have := hb0.size; simp at this; omega
  have hw1 : Below w.heap.size w w1 := by
    refine Below.trans ?_ (hb0.mono ?_)
    · (repeat' (first | (with_reducible exact Below.refl _ _) | (with_reducible assumption) | (with_reducible refine Below.alloc ?_ ?_ _) | (with_reducible refine Below.drew ?_) | (with_reducible refine below_drewN ?_ _) | (with_reducible refine Below.setCell ?_ ?_ _) | go_size))
    · simp
  by_cases hlt : left < t.1.length
  · have e : szI left t.1.length = -1 := by unfold szI; rw [if_pos hlt]
    rw [e]; clear e
    go_wp2_with fail
    go_ret
    exact ⟨_, rfl, Or.inl rfl, hw1⟩
  · have e : szI left t.1.length = left - t.1.length := by unfold szI; rw [if_neg hlt]
    rw [e]; clear e
    obtain ⟨r, hr⟩ : ∃ r, r = left - (t.1.length : Int) := ⟨_, rfl⟩
    rw [← hr]
    have g0 : 0 ≤ r := by omega
    have g1 : r ≤ left := by omega
    have HR := Lib.hid hr; clear hr
    go_wp2_with fail
    refine (szIntS_any _ _ _ _ _ g0 (by omega) hm).mono ?_
    rintro e w2 ⟨rfl, hb1⟩
    have hw2 : Below w.heap.size w w2 := hw1.trans (hb1.mono (by omega))
    by_cases hlt2 : r < t.2.length
    · have e : szI r t.2.length = -1 := by unfold szI; rw [if_pos hlt2]
      rw [e]; clear e
      go_wp2_with fail
      go_ret
      exact ⟨_, rfl, Or.inl rfl, hw2⟩
    · have e : szI r t.2.length = r - t.2.length := by unfold szI; rw [if_neg hlt2]
      rw [e]; clear e
      go_wp2_with fail
      go_ret
      exact ⟨_, rfl, Or.inr ⟨by omega, by omega, by omega, by omega⟩, hw2⟩

set_option maxHeartbeats 400000 in
theorem szTransitionS_any (v : Value) (ts : List Tr) (left : Int) (w : World) (lo : Nat) (hv : TrsAt lo w v ts) (h0 : 0 ≤ left) (h1 : left ≤ 1048576) (hok : OkTrs ts) :
    Calls Try.prog 60 #[v, .int .i64 left] w (RetSz w left (SmallTrs ts)) := by
  obtain ⟨ao, cap, rfl, hc, hz⟩ := hv
  obtain ⟨hn, hsm⟩ := hok
  have HF := Lib.hid hz; clear hz
  have HS := Lib.hid hsm; clear hsm
  go_enter Try.func60, Try.ntmps60
  by_cases hlt0 : left < ts.length
  · go_wp2_with fail
    go_ret
    exact ⟨_, rfl, Or.inl rfl, Below.refl _ _⟩
  go_wp2_with fail
  go_loopw [1, 5] (fun l i wr => ∃ (k : Nat) (r : Int), k ≤ ts.length ∧ i = .int .i64 k ∧ l = .int .i64 r ∧ 0 ≤ r ∧ r ≤ left ∧ Hid (∀ i, i < k → (ts.getD i ([], [])).1.length ≤ 1048576 ∧ (ts.getD i ([], [])).2.length ≤ 1048576) ∧ Below w.heap.size w wr) (fun _ i _ => ts.length - (intOf i).toNat)
  case atStart =>
    exact ⟨0, left - ts.length, Nat.zero_le _, rfl, rfl, by omega, by omega, fun i hi => absurd hi (Nat.not_lt_zero _), Below.refl _ _⟩
  case round =>
    obtain ⟨k, r, hk, rfl, rfl, g0, g1, hall, hb1⟩ := hrel
    by_cases hlt : k < ts.length
    · rcases HF.out with rfl | ⟨b, off, rfl, hlo, hcell⟩
      · simp at hlt
      obtain ⟨x0, x1, c0, c1, hx⟩ := hcell k hlt
      have d0 := Carries.of lo hb1 _ _ hlo c0
      have d1 := Carries.of lo hb1 _ _ hlo c1
      obtain ⟨hk1, hk2⟩ := HS.out k hlt
      obtain ⟨t, htk⟩ : ∃ t, t = ts.getD k ([], []) := ⟨_, rfl⟩
      rw [← htk] at hk1 hk2 hx
      have HK := Lib.hid htk; clear htk
      have HX := Lib.hid (hx.keep (Carries.of lo hb1))
      clear hcell c0 c1 hx
      go_wp2_with fail
      refine (szTransition_any _ _ _ _ _ lo HX.out g0 (by omega) hk1 hk2).mono ?_
      rintro e w1 ⟨q, rfl, hq, hb2⟩
      have hw1 : Below w.heap.size w w1 := hb1.trans (hb2.mono hb1.size)
      rcases hq with rfl | ⟨q0, q1, hq2, hq3⟩
      · go_wp2_with fail
        go_ret
        exact ⟨_, rfl, Or.inl rfl, hw1⟩
      · have H2 : Hid (∀ i, i < k + 1 → (ts.getD i ([], [])).1.length ≤ 1048576 ∧ (ts.getD i ([], [])).2.length ≤ 1048576) := by
          intro i hi
          by_cases e : i = k
          · subst e; rw [← HK.out]; exact ⟨hq2, hq3⟩
          · exact hall.out i (by omega)
        go_wp2_with fail
        go_roundw
        case rel => exact ⟨k + 1, q, by omega, by go_num, rfl, q0, by omega, H2, hw1⟩
        case measure => simp [intOf]; omega
    · have hkk : k = ts.length := by omega
      subst hkk
      go_wp2_with fail
      go_ret
      exact ⟨_, rfl, Or.inr ⟨g0, g1, by omega, hall.out⟩, hb1⟩

set_option maxHeartbeats 400000 in
theorem szNet_any (v : Value) (n : NetD) (left : Int) (w : World) (lo : Nat) (hv : NetAt lo w v n) (h0 : 0 ≤ left) (h1 : left ≤ 1048576) (hok : OkTrs n.ts) :
    Calls Try.prog 24 #[v, .int .i64 left] w (RetSz w left (SmallTrs n.ts)) := by
  obtain ⟨p, ts⟩ := n
  obtain ⟨hp0, hp1, u, rfl, ht⟩ := hv
  simp only at hp0 hp1 ht hok ⊢
  have ht' := ht
  obtain ⟨a0, k0, rfl, _, _⟩ := ht'
  have H0 := Lib.hid ht; clear ht
  have HS := Lib.hid hok; clear hok
  go_enter Try.func24, Try.ntmps24
  go_wp2_with fail
  refine (szTransitionS_any _ ts _ _ lo (H0.out.keep ?_) h0 h1 HS.out).mono ?_
  · (repeat' (first | (with_reducible exact Carries.refl _ _) | (with_reducible assumption) | (with_reducible refine Carries.alloc ?_ _) | (with_reducible refine Carries.drew ?_) | (with_reducible refine Carries.drewN ?_ _) | (with_reducible refine Carries.set ?_ ?_ _) | go_size))
  rintro e w1 ⟨q, rfl, hq, hb2⟩
  have hw1 : Below w.heap.size w w1 := by
    refine Below.trans ?_ (hb2.mono ?_)
    · (repeat' (first | (with_reducible exact Below.refl _ _) | (with_reducible assumption) | (with_reducible refine Below.alloc ?_ ?_ _) | (with_reducible refine Below.drew ?_) | (with_reducible refine below_drewN ?_ _) | (with_reducible refine Below.setCell ?_ ?_ _) | go_size))
    · simp
  rcases hq with rfl | ⟨q0, q1, hq2⟩
  · go_wp2_with fail
    go_ret
    exact ⟨_, rfl, Or.inl rfl, hw1⟩
  · have HQ := Lib.hid hq2; clear hq2
    go_wp2_with fail
    go_ret
    exact ⟨_, rfl, Or.inr ⟨q0, q1, HQ.out⟩, hw1⟩

end Go.Proofs.Ytigkgfdnnfmmmaa

namespace Go.Proofs.Ytigkgfdnnfmmmaa
open Go.RowKit

theorem decide_pair (a b : Tr) : decide (a = b) = (decide (a.1 = b.1) && decide (a.2 = b.2)) := by
  obtain ⟨a1, a2⟩ := a
  obtain ⟨b1, b2⟩ := b
  simp [Prod.ext_iff]

set_option maxHeartbeats 400000 in
theorem eqTransition_any (v0 v1 u0 u1 : Value) (t s : Tr) (w : World) (lo lo' : Nat) (hv : TrAt lo w v0 v1 t) (hu : TrAt lo' w u0 u1 s)
    (h1 : t.1.length ≤ 1048576) (h2 : t.2.length ≤ 1048576) (h3 : s.1.length ≤ 1048576) (h4 : s.2.length ≤ 1048576) :
    Calls Try.prog 103 #[.agg #[v0, v1], .agg #[u0, u1]] w (RetB w (decide (t = s))) := by
  rw [decide_pair]
  generalize hC1 : decide (t.1 = s.1) = c1
  generalize hC2 : decide (t.2 = s.2) = c2
  have HC1 := Lib.hid hC1; clear hC1
  have HC2 := Lib.hid hC2; clear hC2
  have hv' := hv
  have hu' := hu
  obtain ⟨⟨a0, k0, rfl, _, _⟩, ⟨a1, k1, rfl, _, _⟩⟩ := hv'
  obtain ⟨⟨b0, m0, rfl, _, _⟩, ⟨b1, m1, rfl, _, _⟩⟩ := hu'
  have HV := Lib.hid hv; clear hv
  have HU := Lib.hid hu; clear hu
  go_enter Try.func103, Try.ntmps103
  go_wp2_with fail
  refine (eqIntS_any _ _ t.1 s.1 _ lo lo' (HV.out.1.keep ?_) (HU.out.1.keep ?_) (by omega) (by omega)).mono ?_
  · (repeat' (first | (with_reducible exact Carries.refl _ _) | (with_reducible assumption) | (with_reducible refine Carries.alloc ?_ _) | (with_reducible refine Carries.drew ?_) | (with_reducible refine Carries.drewN ?_ _) | (with_reducible refine Carries.set ?_ ?_ _) | go_size))
  · (repeat' (first | (with_reducible exact Carries.refl _ _) | (with_reducible assumption) | (with_reducible refine Carries.alloc ?_ _) | (with_reducible refine Carries.drew ?_) | (with_reducible refine Carries.drewN ?_ _) | (with_reducible refine Carries.set ?_ ?_ _) | go_size))
  rintro e w1 ⟨rfl, hb0⟩
  obtain ⟨hc, hf⟩ := bcell hb0
  have hz1 : w.heap.size + 1 < w1.heap.size := by have := hb0.size; simp at this; omega
  have hz1b : w.heap.size < w1.heap.size := by omega
  have hw1 : Below w.heap.size w w1 := by
    refine Below.trans ?_ (hb0.mono ?_)
    · (repeat' (first | (with_reducible exact Below.refl _ _) | (with_reducible assumption) | (with_reducible refine Below.alloc ?_ ?_ _) | (with_reducible refine Below.drew ?_) | (with_reducible refine below_drewN ?_ _) | (with_reducible refine Below.setCell ?_ ?_ _) | go_size))
    · simp; omega
  rw [HC1.out]
  cases c1 with
  | false =>
    go_wp2_with fail
    go_ret
    exact ⟨rfl, hw1⟩
  | true =>
    go_wp2_with fail
    refine (eqIntS_any _ _ t.2 s.2 _ lo lo' (HV.out.2.keep (Carries.of lo hw1)) (HU.out.2.keep (Carries.of lo' hw1)) (by omega) (by omega)).mono ?_
    rintro e w2 ⟨rfl, hb1⟩
    have hw2 : Below w.heap.size w w2 := hw1.trans (hb1.mono (by omega))
    rw [HC2.out]
    cases c2 with
    | false =>
      go_wp2_with fail
      go_ret
      exact ⟨rfl, hw2⟩
    | true =>
      go_wp2_with fail
      go_ret
      exact ⟨rfl, hw2⟩

theorem trs_getD_eq {zs : List Tr} {i : Nat} (h : i < zs.length) : zs.getD i ([], []) = zs[i] := by simp [List.getD, h]

theorem trs_take_eq_succ {zs ys : List Tr} {k : Nat} (hk : k < zs.length) (hy : k < ys.length) (h : zs.take k = ys.take k) (he : zs.getD k ([], []) = ys.getD k ([], [])) : zs.take (k + 1) = ys.take (k + 1) := by
  rw [List.take_succ_eq_append_getElem hk, List.take_succ_eq_append_getElem hy, h, ← trs_getD_eq hk, ← trs_getD_eq hy, he]

theorem trs_ne_of_getD {zs ys : List Tr} {k : Nat} (he : zs.getD k ([], []) ≠ ys.getD k ([], [])) : decide (zs = ys) = false := by
  rw [decide_eq_false_iff_not]; rintro rfl; exact he rfl

set_option maxRecDepth 100000 in
set_option maxHeartbeats 400000 in
theorem eqTransitionS_any (v v' : Value) (zs ys : List Tr) (w : World) (lo lo' : Nat) (hv : TrsAt lo w v zs) (hv' : TrsAt lo' w v' ys) (hs : SmallTrs zs) (hs' : SmallTrs ys) :
    Calls Try.prog 65 #[v, v'] w (RetB w (decide (zs = ys))) := by
  obtain ⟨ao, cap, rfl, hc, hz⟩ := hv
  obtain ⟨ao', cap', rfl, hc', hz'⟩ := hv'
  obtain ⟨hn, hsm⟩ := hs
  obtain ⟨hn', hsm'⟩ := hs'
  by_cases hl : zs.length = ys.length
  · have hb : ((zs.length : Int) != (ys.length : Int)) = false := by simp [hl]
    by_cases hzs : 0 < zs.length
    · rcases hz with rfl | ⟨b, off, rfl, hlo, hcell⟩
      · simp at hzs
      rcases hz' with rfl | ⟨b', off', rfl, hlo', hcell'⟩
      · simp at hl; simp [hl] at hzs
      have HC := Lib.hid hcell; clear hcell
      have HC' := Lib.hid hcell'; clear hcell'
      have HL := Lib.hid hl
      have HS := Lib.hid hsm; clear hsm
      have HS' := Lib.hid hsm'; clear hsm'
      have hl1 : zs.length ≤ ys.length := by omega
      have hl2 : ys.length ≤ zs.length := by omega
      clear hl
      go_enter Try.func65, Try.ntmps65
      go_wp2
      go_loopw [5] (fun i wr => ∃ k : Nat, k ≤ zs.length ∧ i = .int .i64 k ∧ Hid (zs.take k = ys.take k) ∧ Below w.heap.size w wr) (fun i _ => zs.length - (intOf i).toNat)
      case atStart => exact ⟨0, Nat.zero_le _, rfl, rfl, Below.refl _ _⟩
      case round =>
        obtain ⟨k, hk, rfl, ht, hb1⟩ := hrel
        by_cases hlt : k < zs.length
        · have hk2 : k < ys.length := by omega
          obtain ⟨x0, x1, c0, c1, hx⟩ := HC.out k hlt
          obtain ⟨y0, y1, e0, e1, hy⟩ := HC'.out k hk2
          have d0 := Carries.of lo hb1 _ _ hlo c0
          have d1 := Carries.of lo hb1 _ _ hlo c1
          have d2 := Carries.of lo' hb1 _ _ hlo' e0
          have d3 := Carries.of lo' hb1 _ _ hlo' e1
          have HX := Lib.hid (hx.keep (Carries.of lo hb1))
          have HY := Lib.hid (hy.keep (Carries.of lo' hb1))
          clear c0 c1 e0 e1 hx hy
          obtain ⟨t, htk⟩ : ∃ t, t = zs.getD k ([], []) := ⟨_, rfl⟩
          obtain ⟨s, hsk⟩ : ∃ s, s = ys.getD k ([], []) := ⟨_, rfl⟩
          obtain ⟨q1, q2⟩ := HS.out k hlt
          obtain ⟨q3, q4⟩ := HS'.out k hk2
          rw [← htk] at q1 q2 HX
          rw [← hsk] at q3 q4 HY
          have HK := Lib.hid htk; clear htk
          have HK' := Lib.hid hsk; clear hsk
          go_wp2
          go_still_tail 8, (by kernel_rfl)
          change wpList _ _ _ _ _ wr.drew
          go_wp2_with fail
          refine (eqTransition_any _ _ _ _ t s _ lo lo' (HX.out.keep ?_) (HY.out.keep ?_) q1 q2 q3 q4).mono ?_
          · (repeat' (first | (with_reducible exact Carries.refl _ _) | (with_reducible assumption) | (with_reducible refine Carries.alloc ?_ _) | (with_reducible refine Carries.drew ?_) | (with_reducible refine Carries.drewN ?_ _) | (with_reducible refine Carries.set ?_ ?_ _) | go_size))
          · (repeat' (first | (with_reducible exact Carries.refl _ _) | (with_reducible assumption) | (with_reducible refine Carries.alloc ?_ _) | (with_reducible refine Carries.drew ?_) | (with_reducible refine Carries.drewN ?_ _) | (with_reducible refine Carries.set ?_ ?_ _) | go_size))
          rintro e w1 ⟨rfl, hb2⟩
          have hw1 : Below w.heap.size w w1 := by
            refine Below.trans ?_ (hb2.mono ?_)
            · (repeat' (first | (with_reducible exact Below.refl _ _) | (with_reducible assumption) | (with_reducible refine Below.alloc ?_ ?_ _) | (with_reducible refine Below.drew ?_) | (with_reducible refine below_drewN ?_ _) | (with_reducible refine Below.setCell ?_ ?_ _) | go_size))
            · simpa using hb1.size
          cases hd : decide (t = s) with
          | false =>
            have hne : ¬ t = s := of_decide_eq_false hd
            have hfin := Lib.hid (trs_ne_of_getD (zs := zs) (ys := ys) (k := k) (by rw [← HK.out, ← HK'.out]; exact hne))
            clear hd hne
            go_wp2_with fail
            go_ret
            refine ⟨?_, hw1⟩
            rw [hfin.out]; rfl
          | true =>
            have he : t = s := of_decide_eq_true hd
            have hs := Lib.hid (trs_take_eq_succ hlt hk2 ht.out (by rw [← HK.out, ← HK'.out]; exact he))
            clear hd he
            go_wp2_with fail
            go_roundw
            case rel => exact ⟨k + 1, by omega, by go_num, hs, hw1⟩
            case measure => simp [intOf]; omega
        · go_wp2
          go_ret
          refine ⟨?_, hb1⟩
          have h1 := ht.out
          rw [List.take_of_length_le (by omega), List.take_of_length_le (by omega)] at h1
          simp [h1]
    · have hz0 : zs = [] := List.eq_nil_of_length_eq_zero (by omega)
      have hy0 : ys = [] := List.eq_nil_of_length_eq_zero (by omega)
      subst hz0; subst hy0
      simp only [List.length_nil]
      clear hz hz' hc hc' hb hl hzs hsm hsm' hn hn'
      go_enter Try.func65, Try.ntmps65
      go_wp2
      go_rounds 1
      go_ret
      exact ⟨rfl, Below.refl _ _⟩
  · have hb : ((zs.length : Int) != (ys.length : Int)) = true := by rw [bne_iff_ne]; omega
    have hd : decide (zs = ys) = false := by rw [decide_eq_false_iff_not]; rintro rfl; exact hl rfl
    rw [hd]; clear hd
    clear hz hz' hsm hsm'
    go_enter Try.func65, Try.ntmps65
    go_wp2
    go_ret
    exact ⟨rfl, Below.refl _ _⟩

theorem decide_net (a b : NetD) : decide (a.places = b.places ∧ a.ts = b.ts) = (decide (a.places = b.places) && decide (a.ts = b.ts)) := by
  simp [Bool.decide_and]

set_option maxHeartbeats 400000 in
theorem eqNet_any (v v' : Value) (a b : NetD) (w : World) (lo lo' : Nat) (hv : NetAt lo w v a) (hv' : NetAt lo' w v' b) (hs : SmallTrs a.ts) (hs' : SmallTrs b.ts) :
    Calls Try.prog 28 #[v, v'] w (RetB w (decide (a.places = b.places ∧ a.ts = b.ts))) := by
  rw [decide_net]
  obtain ⟨p, ts⟩ := a
  obtain ⟨q, us⟩ := b
  obtain ⟨hp0, hp1, u, rfl, ht⟩ := hv
  obtain ⟨hq0, hq1, u', rfl, ht'⟩ := hv'
  simp only at hp0 hp1 hq0 hq1 ht ht' hs hs' ⊢
  have hv := ht
  have hv' := ht'
  obtain ⟨a0, k0, rfl, _, _⟩ := hv
  obtain ⟨b0, m0, rfl, _, _⟩ := hv'
  generalize hC2 : decide (ts = us) = c2
  have HC2 := Lib.hid hC2; clear hC2
  have H0 := Lib.hid ht; clear ht
  have H1 := Lib.hid ht'; clear ht'
  have HS := Lib.hid hs; clear hs
  have HS' := Lib.hid hs'; clear hs'
  by_cases hpq : p = q
  · subst hpq
    have hne : (p != p) = false := by simp
    simp only [decide_true, Bool.true_and]
    go_enter Try.func28, Try.ntmps28
    go_wp2_with fail
    refine (eqTransitionS_any _ _ ts us _ lo lo' (H0.out.keep ?_) (H1.out.keep ?_) HS.out HS'.out).mono ?_
    · (repeat' (first | (with_reducible exact Carries.refl _ _) | (with_reducible assumption) | (with_reducible refine Carries.alloc ?_ _) | (with_reducible refine Carries.drew ?_) | (with_reducible refine Carries.drewN ?_ _) | (with_reducible refine Carries.set ?_ ?_ _) | go_size))
    · (repeat' (first | (with_reducible exact Carries.refl _ _) | (with_reducible assumption) | (with_reducible refine Carries.alloc ?_ _) | (with_reducible refine Carries.drew ?_) | (with_reducible refine Carries.drewN ?_ _) | (with_reducible refine Carries.set ?_ ?_ _) | go_size))
    rintro e w1 ⟨rfl, hb0⟩
    have hw1 : Below w.heap.size w w1 := by
      refine Below.trans ?_ (hb0.mono ?_)
      · (repeat' (first | (with_reducible exact Below.refl _ _) | (with_reducible assumption) | (with_reducible refine Below.alloc ?_ ?_ _) | (with_reducible refine Below.drew ?_) | (with_reducible refine below_drewN ?_ _) | (with_reducible refine Below.setCell ?_ ?_ _) | go_size))
      · simp; omega
    rw [HC2.out]
    cases c2 with
    | false =>
      go_wp2_with fail
      go_ret
      exact ⟨rfl, hw1⟩
    | true =>
      go_wp2_with fail
      go_ret
      exact ⟨rfl, hw1⟩
  · have hne : (p != q) = true := by simpa using hpq
    have hd : decide (p = q) = false := by simpa using hpq
    rw [hd, Bool.false_and]
    clear hd
    go_enter Try.func28, Try.ntmps28
    go_wp2_with fail
    go_ret
    exact ⟨rfl, by (repeat' (first | (with_reducible exact Below.refl _ _) | (with_reducible assumption) | (with_reducible refine Below.alloc ?_ ?_ _) | (with_reducible refine Below.drew ?_) | (with_reducible refine below_drewN ?_ _) | (with_reducible refine Below.setCell ?_ ?_ _) | go_size))⟩

end Go.Proofs.Ytigkgfdnnfmmmaa

namespace Go.Proofs.Ytigkgfdnnfmmmaa
open Go.RowKit

theorem l1In_any (n lo hi : Int) (w : World) :
    Calls Try.prog 73 #[.int .i64 n, .int .i64 lo, .int .i64 hi] w (RetB w (decide (lo ≤ n ∧ n ≤ hi))) := by
  by_cases h1 : lo ≤ n
  · by_cases h2 : n ≤ hi
    · rw [decide_eq_true (⟨h1, h2⟩ : lo ≤ n ∧ n ≤ hi)]
      go_enter Try.func73, Try.ntmps73
      go_wp2_with fail
      go_ret
      exact ⟨rfl, Below.refl _ _⟩
    · rw [decide_eq_false (fun h => h2 h.2 : ¬ (lo ≤ n ∧ n ≤ hi))]
      go_enter Try.func73, Try.ntmps73
      go_wp2_with fail
      go_ret
      exact ⟨rfl, Below.refl _ _⟩
  · rw [decide_eq_false (fun h => h1 h.1 : ¬ (lo ≤ n ∧ n ≤ hi))]
    go_enter Try.func73, Try.ntmps73
    go_wp2_with fail
    go_ret
    exact ⟨rfl, Below.refl _ _⟩

end Go.Proofs.Ytigkgfdnnfmmmaa
