/-
  WALKS: equalTransitions, slices.EqualFunc at transitions, equalNets, EqualSTG of the program.
-/
import Derived.Test.YtlakcjcmbhkcdaaEqs
namespace Go.Proofs.Ytlakcjcmbhkcdaa
open Go.RowKit

set_option maxHeartbeats 400000 in
theorem equalTransitions_any (v0 v1 u0 u1 : Value) (t s : Tr) (w : World) (lo lo' : Nat) (hv : TrAt lo w v0 v1 t) (hu : TrAt lo' w u0 u1 s)
    (h1 : t.1.length ≤ 1048576) (h2 : t.2.length ≤ 1048576) (h3 : s.1.length ≤ 1048576) (h4 : s.2.length ≤ 1048576) :
    Calls Try.prog 120 #[.agg #[v0, v1], .agg #[u0, u1]] w (RetB w (decide (t = s))) := by
  rw [decide_pair]
  generalize hC1 : decide (t.1 = s.1) = c1
  generalize hC2 : decide (t.2 = s.2) = c2
  have HC1 := Lib.hid hC1; clear hC1
  have HC2 := Lib.hid hC2; clear hC2
  have hv' := hv
  have hu' := hu
  obtain ⟨⟨a0, k0, rfl, _, _⟩, ⟨a1, k1, rfl, _, _⟩⟩ := hv'
  obtain ⟨⟨b0, m0, rfl, _, _⟩, ⟨b1, m1, rfl, _, _⟩⟩ := hu'
  have HV := Lib.hid hv; clear hv
  have HU := Lib.hid hu; clear hu
  go_enter Try.func120, Try.ntmps120
  go_wp2_with fail
  refine (slEqInt_any _ _ t.1 s.1 _ lo lo' (HV.out.1.keep ?_) (HU.out.1.keep ?_) (by omega) (by omega)).mono ?_
  · (repeat' (first | (with_reducible exact Carries.refl _ _) | (with_reducible assumption) | (with_reducible refine Carries.alloc ?_ _) | (with_reducible refine Carries.drew ?_) | (with_reducible refine Carries.drewN ?_ _) | (with_reducible refine Carries.set ?_ ?_ _) | go_size))
  · (repeat' (first | (with_reducible exact Carries.refl _ _) | (with_reducible assumption) | (with_reducible refine Carries.alloc ?_ _) | (with_reducible refine Carries.drew ?_) | (with_reducible refine Carries.drewN ?_ _) | (with_reducible refine Carries.set ?_ ?_ _) | go_size))
  rintro e w1 ⟨rfl, hb0⟩
  have hw1 : Below w.heap.size w w1 := by
    refine Below.trans ?_ (hb0.mono ?_)
    · (repeat' (first | (with_reducible exact Below.refl _ _) | (with_reducible assumption) | (with_reducible refine Below.alloc ?_ ?_ _) | (with_reducible refine Below.drew ?_) | (with_reducible refine below_drewN ?_ _) | (with_reducible refine Below.setCell ?_ ?_ _) | go_size))
    · simp; omega
  have x1 : w1.cell? ⟨w.heap.size, 1, none⟩ = some (.slice a1 t.2.length k1) := cell_carry (by simp) (Carries.of 0 hb0)
  have y1 : w1.cell? ⟨w.heap.size + 1, 1, none⟩ = some (.slice b1 s.2.length m1) := cell_carry (by simp) (Carries.of 0 hb0)
  clear hb0
  rw [HC1.out]
  cases c1 with
  | false =>
    go_wp2_with fail
    go_ret
    exact ⟨rfl, hw1⟩
  | true =>
    go_wp2_with fail
    refine (slEqInt_any _ _ t.2 s.2 _ lo lo' (HV.out.2.keep (Carries.of lo hw1)) (HU.out.2.keep (Carries.of lo' hw1)) (by omega) (by omega)).mono ?_
    rintro e w2 ⟨rfl, hb1⟩
    have hw2 : Below w.heap.size w w2 := hw1.trans (hb1.mono hw1.size)
    rw [HC2.out]
    cases c2 with
    | false =>
      go_wp2_with fail
      go_ret
      exact ⟨rfl, hw2⟩
    | true =>
      go_wp2_with fail
      go_ret
      exact ⟨rfl, hw2⟩

set_option maxRecDepth 100000 in
set_option maxHeartbeats 1000000 in
theorem slEqTrs_any (v v' : Value) (zs ys : List Tr) (w : World) (lo lo' : Nat) (hv : TrsAt lo w v zs) (hv' : TrsAt lo' w v' ys) (hs : SmallTrs zs) (hs' : SmallTrs ys) :
    Calls Try.prog 119 #[v, v', .func (.func 120) #[] #[]] w (RetB w (decide (zs = ys))) := by
  obtain ⟨ao, cap, rfl, hc, hz⟩ := hv
  obtain ⟨ao', cap', rfl, hc', hz'⟩ := hv'
  obtain ⟨hn, hsm⟩ := hs
  obtain ⟨hn', hsm'⟩ := hs'
  by_cases hl : zs.length = ys.length
  · have hb : ((zs.length : Int) != (ys.length : Int)) = false := by simp [hl]
    by_cases hzs : 0 < zs.length
    · rcases hz with rfl | ⟨b, off, rfl, hlo, hcell⟩
      · simp at hzs
      rcases hz' with rfl | ⟨b', off', rfl, hlo', hcell'⟩
      · simp at hl; simp [hl] at hzs
      have HC := Lib.hid hcell; clear hcell
      have HC' := Lib.hid hcell'; clear hcell'
      have HL := Lib.hid hl
      have HS := Lib.hid hsm; clear hsm
      have HS' := Lib.hid hsm'; clear hsm'
      have hl1 : zs.length ≤ ys.length := by omega
      have hl2 : ys.length ≤ zs.length := by omega
      clear hl
      go_enter Try.func119, Try.ntmps119
      go_wp2
      go_loopw [17] (fun i wr => ∃ k : Nat, k ≤ zs.length ∧ i = .int .i64 k ∧ Hid (zs.take k = ys.take k) ∧ Below w.heap.size w wr) (fun i _ => zs.length - (intOf i).toNat)
      case atStart => exact ⟨0, Nat.zero_le _, rfl, rfl, Below.refl _ _⟩
      case round =>
        obtain ⟨k, hk, rfl, ht, hb1⟩ := hrel
        have zz1 := hb1.size
        by_cases hlt : k < zs.length
        · have hk2 : k < ys.length := by omega
          obtain ⟨x0, x1, c0, c1, hx⟩ := HC.out k hlt
          obtain ⟨y0, y1, e0, e1, hy⟩ := HC'.out k hk2
          have hx0 := hx
          have hy0 := hy
          obtain ⟨⟨a0, k0, rfl, _, _⟩, ⟨a1, k1, rfl, _, _⟩⟩ := hx0
          obtain ⟨⟨b0, m0, rfl, _, _⟩, ⟨b1, m1, rfl, _, _⟩⟩ := hy0
          have d0 := Carries.of lo hb1 _ _ hlo c0
          have d1 := Carries.of lo hb1 _ _ hlo c1
          have d2 := Carries.of lo' hb1 _ _ hlo' e0
          have d3 := Carries.of lo' hb1 _ _ hlo' e1
          have HX := Lib.hid (hx.keep (Carries.of lo hb1))
          have HY := Lib.hid (hy.keep (Carries.of lo' hb1))
          clear c0 c1 e0 e1 hx hy
          obtain ⟨t, htk⟩ : ∃ t, t = zs.getD k ([], []) := ⟨_, rfl⟩
          obtain ⟨s, hsk⟩ : ∃ s, s = ys.getD k ([], []) := ⟨_, rfl⟩
          obtain ⟨q1, q2⟩ := HS.out k hlt
          obtain ⟨q3, q4⟩ := HS'.out k hk2
          rw [← htk] at q1 q2 HX d0 d1
          rw [← hsk] at q3 q4 HY d2 d3
          have HK := Lib.hid htk; clear htk
          have HK' := Lib.hid hsk; clear hsk
          have d4 := cell_carry d2 (Carries.alloc (Carries.refl 0 wr) (.cells #[.slice a0 t.1.length k0, .slice a1 t.2.length k1] 82))
          have d5 := cell_carry d3 (Carries.alloc (Carries.refl 0 wr) (.cells #[.slice a0 t.1.length k0, .slice a1 t.2.length k1] 82))
          go_wp2_with fail
          refine (equalTransitions_any _ _ _ _ t s _ lo lo' (HX.out.keep ?_) (HY.out.keep ?_) q1 q2 q3 q4).mono ?_
          · (repeat' (first | (with_reducible exact Carries.refl _ _) | (with_reducible assumption) | (with_reducible refine Carries.alloc ?_ _) | (with_reducible refine Carries.drew ?_) | (with_reducible refine Carries.drewN ?_ _) | (with_reducible refine Carries.set ?_ ?_ _) | go_size))
          · (repeat' (first | (with_reducible exact Carries.refl _ _) | (with_reducible assumption) | (with_reducible refine Carries.alloc ?_ _) | (with_reducible refine Carries.drew ?_) | (with_reducible refine Carries.drewN ?_ _) | (with_reducible refine Carries.set ?_ ?_ _) | go_size))
          rintro e w1 ⟨rfl, hb2⟩
          have hw1 : Below w.heap.size w w1 := by
            refine Below.trans ?_ (hb2.mono ?_)
            · (repeat' (first | (with_reducible exact Below.refl _ _) | (with_reducible assumption) | (with_reducible refine Below.alloc ?_ ?_ _) | (with_reducible refine Below.drew ?_) | (with_reducible refine below_drewN ?_ _) | (with_reducible refine Below.setCell ?_ ?_ _) | go_size))
            · simp; omega
          clear d4 d5
          cases hd : decide (t = s) with
          | false =>
            have hne : ¬ t = s := of_decide_eq_false hd
            have hfin := Lib.hid (trs_ne_of_getD (zs := zs) (ys := ys) (k := k) (by rw [← HK.out, ← HK'.out]; exact hne))
            clear hd hne
            go_wp2_with fail
            go_ret
            refine ⟨?_, hw1⟩
            rw [hfin.out]; rfl
          | true =>
            have he : t = s := of_decide_eq_true hd
            have hs := Lib.hid (trs_take_eq_succ hlt hk2 ht.out (by rw [← HK.out, ← HK'.out]; exact he))
            clear hd he
            go_wp2_with fail
            go_roundw
            case rel => exact ⟨k + 1, by omega, by go_num, hs, hw1⟩
            case measure => simp [intOf]; omega
        · go_wp2
          go_ret
          refine ⟨?_, hb1⟩
          have h1 := ht.out
          rw [List.take_of_length_le (by omega), List.take_of_length_le (by omega)] at h1
          simp [h1]
    · have hz0 : zs = [] := List.eq_nil_of_length_eq_zero (by omega)
      have hy0 : ys = [] := List.eq_nil_of_length_eq_zero (by omega)
      subst hz0; subst hy0
      simp only [List.length_nil]
      clear hz hz' hc hc' hb hl hzs hsm hsm' hn hn'
      go_enter Try.func119, Try.ntmps119
      go_wp2
      go_rounds 1
      go_ret
      exact ⟨rfl, Below.refl _ _⟩
  · have hb : ((zs.length : Int) != (ys.length : Int)) = true := by rw [bne_iff_ne]; omega
    have hd : decide (zs = ys) = false := by rw [decide_eq_false_iff_not]; rintro rfl; exact hl rfl
    rw [hd]; clear hd
    clear hz hz' hsm hsm'
    go_enter Try.func119, Try.ntmps119
    go_wp2
    go_ret
    exact ⟨rfl, Below.refl _ _⟩

set_option maxHeartbeats 400000 in
theorem equalNets_any (v v' : Value) (a b : NetD) (w : World) (lo lo' : Nat) (hv : NetAt lo w v a) (hv' : NetAt lo' w v' b) (hs : SmallTrs a.ts) (hs' : SmallTrs b.ts) :
    Calls Try.prog 100 #[v, v'] w (RetB w (decide (a.places = b.places ∧ a.ts = b.ts))) := by
  rw [decide_net]
  obtain ⟨p, ts⟩ := a
  obtain ⟨q, us⟩ := b
  obtain ⟨hp0, hp1, u, rfl, ht⟩ := hv
  obtain ⟨hq0, hq1, u', rfl, ht'⟩ := hv'
  simp only at hp0 hp1 hq0 hq1 ht ht' hs hs' ⊢
  have hv := ht
  have hv' := ht'
  obtain ⟨a0, k0, rfl, _, _⟩ := hv
  obtain ⟨b0, m0, rfl, _, _⟩ := hv'
  generalize hC2 : decide (ts = us) = c2
  have HC2 := Lib.hid hC2; clear hC2
  have H0 := Lib.hid ht; clear ht
  have H1 := Lib.hid ht'; clear ht'
  have HS := Lib.hid hs; clear hs
  have HS' := Lib.hid hs'; clear hs'
  by_cases hpq : p = q
  · subst hpq
    have hne : (p == p) = true := by simp
    simp only [decide_true, Bool.true_and]
    go_enter Try.func100, Try.ntmps100
    go_wp2_with fail
    refine (slEqTrs_any _ _ ts us _ lo lo' (H0.out.keep ?_) (H1.out.keep ?_) HS.out HS'.out).mono ?_
    · (repeat' (first | (with_reducible exact Carries.refl _ _) | (with_reducible assumption) | (with_reducible refine Carries.alloc ?_ _) | (with_reducible refine Carries.drew ?_) | (with_reducible refine Carries.drewN ?_ _) | (with_reducible refine Carries.set ?_ ?_ _) | go_size))
    · (repeat' (first | (with_reducible exact Carries.refl _ _) | (with_reducible assumption) | (with_reducible refine Carries.alloc ?_ _) | (with_reducible refine Carries.drew ?_) | (with_reducible refine Carries.drewN ?_ _) | (with_reducible refine Carries.set ?_ ?_ _) | go_size))
    rintro e w1 ⟨rfl, hb0⟩
    have hw1 : Below w.heap.size w w1 := by
      refine Below.trans ?_ (hb0.mono ?_)
      · (repeat' (first | (with_reducible exact Below.refl _ _) | (with_reducible assumption) | (with_reducible refine Below.alloc ?_ ?_ _) | (with_reducible refine Below.drew ?_) | (with_reducible refine below_drewN ?_ _) | (with_reducible refine Below.setCell ?_ ?_ _) | go_size))
      · simp; omega
    rw [HC2.out]
    cases c2 with
    | false =>
      go_wp2_with fail
      go_ret
      exact ⟨rfl, hw1⟩
    | true =>
      go_wp2_with fail
      go_ret
      exact ⟨rfl, hw1⟩
  · have hne : (p == q) = false := by simpa using hpq
    have hd : decide (p = q) = false := by simpa using hpq
    rw [hd, Bool.false_and]
    clear hd
    go_enter Try.func100, Try.ntmps100
    go_wp2_with fail
    go_ret
    exact ⟨rfl, by (repeat' (first | (with_reducible exact Below.refl _ _) | (with_reducible assumption) | (with_reducible refine Below.alloc ?_ ?_ _) | (with_reducible refine Below.drew ?_) | (with_reducible refine below_drewN ?_ _) | (with_reducible refine Below.setCell ?_ ?_ _) | go_size))⟩

set_option maxHeartbeats 1000000 in
theorem EqualSTG_any (v v' : Value) (a b : StgD) (w : World) (lo lo' : Nat) (hv : StgAt lo w v a) (hv' : StgAt lo' w v' b) (hs : SmallStg a) (hs' : SmallStg b) :
    Calls Try.prog 54 #[v, v'] w (RetB w (eqStgB a b)) := by
  generalize hG : eqStgB a b = g
  unfold eqStgB at hG
  obtain ⟨a0, c0, a1, c1, a2, c2, rfl, hn, hsg, hl⟩ := hv.form
  obtain ⟨b0, d0, b1, d1, b2, d2, rfl, hn', hsg', hl'⟩ := hv'.form
  clear hv hv'
  obtain ⟨n, ss, ls, st⟩ := a
  obtain ⟨n', ss', ls', st'⟩ := b
  obtain ⟨k1, k2, k3, k4⟩ := hs
  obtain ⟨k1', k2', k3', k4'⟩ := hs'
  simp only at hn hsg hl k1 k2 k3 k4 hn' hsg' hl' k1' k2' k3' k4' hG ⊢
  generalize hp1 : decide (n.places = n'.places ∧ n.ts = n'.ts) = p1 at hG
  generalize hp2 : decide (ss = ss') = p2 at hG
  generalize hp3 : decide (ls = ls') = p3 at hG
  generalize hp4 : decide (st = st') = p4 at hG
  have P1 := Lib.hid hp1; clear hp1
  have P2 := Lib.hid hp2; clear hp2
  have P3 := Lib.hid hp3; clear hp3
  have hcmp : (st.toList == st'.toList) = p4 := by rw [bytes_toList_beq]; exact hp4
  clear hp4
  have GG := Lib.hid hG; clear hG
  have HN := Lib.hid hn; clear hn
  have HG := Lib.hid hsg; clear hsg
  have HL := Lib.hid hl; clear hl
  have K1 := Lib.hid k1; clear k1
  have HN' := Lib.hid hn'; clear hn'
  have HG' := Lib.hid hsg'; clear hsg'
  have HL' := Lib.hid hl'; clear hl'
  have K1' := Lib.hid k1'; clear k1'
  have K2 := k2.1; clear k2
  have K2' := k2'.1; clear k2'
  go_enter Try.func54, Try.ntmps54
  go_wp2_with fail
  refine (equalNets_any _ _ n n' _ lo lo' (HN.out.keep ?_) (HN'.out.keep ?_) K1.out K1'.out).mono ?_
  · (repeat' (first | (with_reducible exact Carries.refl _ _) | (with_reducible assumption) | (with_reducible refine Carries.alloc ?_ _) | (with_reducible refine Carries.drew ?_) | (with_reducible refine Carries.drewN ?_ _) | (with_reducible refine Carries.set ?_ ?_ _) | go_size))
  · (repeat' (first | (with_reducible exact Carries.refl _ _) | (with_reducible assumption) | (with_reducible refine Carries.alloc ?_ _) | (with_reducible refine Carries.drew ?_) | (with_reducible refine Carries.drewN ?_ _) | (with_reducible refine Carries.set ?_ ?_ _) | go_size))
  rintro e w1 ⟨rfl, hb1⟩
  have z1 : w.heap.size + 1 < w1.heap.size := by have := hb1.size; simp at this; omega
  have hw1 : Below w.heap.size w w1 := by
    refine Below.trans ?_ (hb1.mono ?_)
    · (repeat' (first | (with_reducible exact Below.refl _ _) | (with_reducible assumption) | (with_reducible refine Below.alloc ?_ ?_ _) | (with_reducible refine Below.drew ?_) | (with_reducible refine below_drewN ?_ _) | (with_reducible refine Below.setCell ?_ ?_ _) | go_size))
    · simp; omega
  have x1 : w1.cell? ⟨w.heap.size, 2, none⟩ = some (.slice a1 ss.length c1) := cell_carry (by simp) (Carries.of 0 hb1)
  have x2 : w1.cell? ⟨w.heap.size, 3, none⟩ = some (.slice a2 ls.length c2) := cell_carry (by simp) (Carries.of 0 hb1)
  have x3 : w1.cell? ⟨w.heap.size, 4, none⟩ = some (.string st) := cell_carry (by simp) (Carries.of 0 hb1)
  have y1 : w1.cell? ⟨w.heap.size + 1, 2, none⟩ = some (.slice b1 ss'.length d1) := cell_carry (by simp) (Carries.of 0 hb1)
  have y2 : w1.cell? ⟨w.heap.size + 1, 3, none⟩ = some (.slice b2 ls'.length d2) := cell_carry (by simp) (Carries.of 0 hb1)
  have y3 : w1.cell? ⟨w.heap.size + 1, 4, none⟩ = some (.string st') := cell_carry (by simp) (Carries.of 0 hb1)
  clear hb1
  rw [P1.out]
  cases p1 with
  | false =>
    have := GG.out
    simp only [Bool.false_and] at this
    subst this
    go_wp2_with fail
    go_ret
    exact ⟨rfl, hw1⟩
  | true =>
  go_wp2_with fail
  refine (slEqSig_any _ _ ss ss' _ lo lo' (HG.out.keep (Carries.of lo hw1)) (HG'.out.keep (Carries.of lo' hw1)) K2 K2').mono ?_
  rintro e w2 ⟨rfl, hb2⟩
  have hw2 : Below w.heap.size w w2 := hw1.trans (hb2.mono hw1.size)
  have x2 := cell_carry x2 (Carries.of 0 hb2)
  have x3 := cell_carry x3 (Carries.of 0 hb2)
  have y2 := cell_carry y2 (Carries.of 0 hb2)
  have y3 := cell_carry y3 (Carries.of 0 hb2)
  clear hb2
  rw [P2.out]
  cases p2 with
  | false =>
    have := GG.out
    simp only [Bool.false_and, Bool.true_and] at this
    subst this
    go_wp2_with fail
    go_ret
    exact ⟨rfl, hw2⟩
  | true =>
  go_wp2_with fail
  refine (slEqLab_any _ _ ls ls' _ lo lo' (HL.out.keep (Carries.of lo hw2)) (HL'.out.keep (Carries.of lo' hw2)) k3 k3').mono ?_
  rintro e w3 ⟨rfl, hb3⟩
  have hw3 : Below w.heap.size w w3 := hw2.trans (hb3.mono hw2.size)
  have x3 := cell_carry x3 (Carries.of 0 hb3)
  have y3 := cell_carry y3 (Carries.of 0 hb3)
  clear hb3
  rw [P3.out]
  cases p3 with
  | false =>
    have := GG.out
    simp only [Bool.false_and, Bool.true_and] at this
    subst this
    go_wp2_with fail
    go_ret
    exact ⟨rfl, hw3⟩
  | true =>
  have := GG.out
  simp only [Bool.true_and] at this
  subst this
  cases p4 with
  | false =>
    go_wp2_with fail
    go_ret
    exact ⟨rfl, hw3⟩
  | true =>
    go_wp2_with fail
    go_ret
    exact ⟨rfl, hw3⟩

end Go.Proofs.Ytlakcjcmbhkcdaa
