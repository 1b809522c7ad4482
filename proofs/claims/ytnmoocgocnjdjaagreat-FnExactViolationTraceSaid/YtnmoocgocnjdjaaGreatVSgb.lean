/- WALKS: szArcS, szStateGraph, eqArc, eqArcS, eqStateGraph of the laws. -/
import Derived.Test.YtnmoocgocnjdjaaGreatVSga
import Derived.Test.YtnmoocgocnjdjaaGreatVRgbt
namespace Go.Proofs.YtnmoocgocnjdjaaGreat
open Go.RowKit

set_option maxHeartbeats 400000 in
theorem szArcS_any (ao : Option Addr) (n cap : Nat) (left : Int) (w : World) (h0 : 0 ≤ left) (h1 : left ≤ 1048576) (hn : n ≤ 9223372036854775807) :
    Calls Tryz.prog 83 #[.slice ao n cap, .int .i64 left] w (RetV w (.int .i64 (szI left n))) := by
  by_cases hlt : left < n
  · have e : szI left n = -1 := by unfold szI; rw [if_pos hlt]
    rw [e]; clear e
    go_enter Tryz.func83, Tryz.ntmps83
    go_wp2
    go_ret
    exact ⟨rfl, Below.refl _ _⟩
  · have e : szI left n = left - n := by unfold szI; rw [if_neg hlt]
    rw [e]; clear e
    go_enter Tryz.func83, Tryz.ntmps83
    go_wp2
    go_ret
    exact ⟨rfl, Below.refl _ _⟩

set_option maxRecDepth 100000 in
set_option maxHeartbeats 1000000 in
theorem szSg_any (v : Value) (r : SgD) (left : Int) (w : World) (lo : Nat) (hv : SgAt lo w v r) (h0 : 0 ≤ left) (h1 : left ≤ 1048576) (hok : OkSg r) :
    Calls Tryz.prog 36 #[v, .int .i64 left] w (RetSz w left (SmallSg r)) := by
  obtain ⟨a0, c0, a1, c1, a2, c2, rfl, hg, hm, hl⟩ := hv.form
  clear hv
  obtain ⟨gs, ss, ls⟩ := r
  obtain ⟨k0, k1, k3, _⟩ := hok
  simp only at hg hm hl k0 k1 k3 ⊢
  have HD := Lib.hid hg; clear hg
  have HG := Lib.hid hm; clear hm
  clear hl
  have K0 := Lib.hid k0; clear k0
  have K1 := Lib.hid k1; clear k1
  go_enter Tryz.func36, Tryz.ntmps36
  go_wp2_with fail
  refine (szSignalS_any _ gs _ _ lo (HD.out.keep ?_) h0 h1 K0.out).mono ?_
  · (repeat' (first | (with_reducible exact Carries.refl _ _) | (with_reducible assumption) | (with_reducible refine Carries.alloc ?_ _) | (with_reducible refine Carries.drew ?_) | (with_reducible refine Carries.drewN ?_ _) | (with_reducible refine Carries.set ?_ ?_ _) | go_size))
  rintro e w1 ⟨r1, rfl, hr1, hb1⟩
  have hw1 : Below w.heap.size w w1 := by
    refine Below.trans ?_ (hb1.mono ?_)
    · (repeat' (first | (with_reducible exact Below.refl _ _) | (with_reducible assumption) | (with_reducible refine Below.alloc ?_ ?_ _) | (with_reducible refine Below.drew ?_) | (with_reducible refine below_drewN ?_ _) | (with_reducible refine Below.setCell ?_ ?_ _) | go_size))
    · simp
  have x1 : w1.cell? ⟨w.heap.size, 1, none⟩ = some (.slice a1 ss.length c1) := cell_carry (by simp) (Carries.of 0 hb1)
  have x2 : w1.cell? ⟨w.heap.size, 2, none⟩ = some (.slice a2 ls.length c2) := cell_carry (by simp) (Carries.of 0 hb1)
  have z1 : w.heap.size < w1.heap.size := by have := hb1.size; simp at this; omega
  clear hb1
  rcases hr1 with rfl | ⟨g0, g1, q1⟩
  · go_wp2_with fail
    go_ret
    exact ⟨_, rfl, Or.inl rfl, hw1⟩
  have Q1 := Lib.hid q1; clear q1
  go_wp2_with fail
  refine (szStringS_any _ ss _ _ lo (HG.out.keep (Carries.of lo hw1)) g0 (by omega) K1.out).mono ?_
  rintro e w2 ⟨r2, rfl, hr2, hb2⟩
  have hw2 : Below w.heap.size w w2 := hw1.trans (hb2.mono hw1.size)
  have y2 := cell_carry x2 (Carries.of 0 hb2)
  have z2 : w.heap.size < w2.heap.size := by have := hb2.size; omega
  clear hb2 x1 x2
  rcases hr2 with rfl | ⟨g2, g3, q2⟩
  · go_wp2_with fail
    go_ret
    exact ⟨_, rfl, Or.inl rfl, hw2⟩
  have Q2 := Lib.hid q2; clear q2
  go_wp2_with fail
  refine (szArcS_any _ _ _ _ _ g2 (by omega) k3).mono ?_
  rintro e w3 ⟨rfl, hb3⟩
  have hw3 : Below w.heap.size w w3 := hw2.trans (hb3.mono hw2.size)
  clear hb3 y2
  by_cases hq : r2 < ls.length
  · have e : szI r2 ls.length = -1 := by unfold szI; rw [if_pos hq]
    rw [e]; clear e
    go_wp2_with fail
    go_ret
    exact ⟨_, rfl, Or.inl rfl, hw3⟩
  · have e : szI r2 ls.length = r2 - ls.length := by unfold szI; rw [if_neg hq]
    rw [e]; clear e
    go_wp2_with fail
    go_ret
    exact ⟨_, rfl, Or.inr ⟨by omega, by omega, Q1.out, Q2.out, by simp only; omega⟩, hw3⟩

set_option maxRecDepth 100000 in
set_option maxHeartbeats 400000 in
theorem eqArc_any (a b : Int) (u : Bool) (c : Int) (a' b' : Int) (u' : Bool) (c' : Int) (w : World) :
    Calls Tryz.prog 162 #[.agg #[.int .i64 a, .int .i64 b, .bool u, .int .i64 c], .agg #[.int .i64 a', .int .i64 b', .bool u', .int .i64 c']] w (RetB w (decide ((a, b, u, c) = (a', b', u', c')))) := by
  go_enter Tryz.func162, Tryz.ntmps162
  by_cases h1 : a = a'
  · subst h1
    have g1 : (a != a) = false := by simp
    by_cases h2 : b = b'
    · subst h2
      have g2 : (b != b) = false := by simp
      by_cases h4 : u = u'
      · subst h4
        have g4 : (u != u) = false := by simp
        have g4' : (u == u) = true := by simp
        by_cases h3 : c = c'
        · subst h3
          have g3 : (c != c) = false := by simp
          go_wp2
          go_ret
          exact ⟨by simp, by (repeat' (first | (with_reducible exact Below.refl _ _) | (with_reducible assumption) | (with_reducible refine Below.alloc ?_ ?_ _) | (with_reducible refine Below.drew ?_) | (with_reducible refine below_drewN ?_ _) | (with_reducible refine Below.setCell ?_ ?_ _) | go_size))⟩
        · have g3 : (c != c') = true := by simpa using h3
          have hd : decide ((a, b, u, c) = (a, b, u, c')) = false := by simp [h3]
          rw [hd]; clear hd h3
          go_wp2
          go_ret
          exact ⟨rfl, by (repeat' (first | (with_reducible exact Below.refl _ _) | (with_reducible assumption) | (with_reducible refine Below.alloc ?_ ?_ _) | (with_reducible refine Below.drew ?_) | (with_reducible refine below_drewN ?_ _) | (with_reducible refine Below.setCell ?_ ?_ _) | go_size))⟩
      · have g4 : (u != u') = true := by simpa using h4
        have g4' : (u == u') = false := by simpa using h4
        have hd : decide ((a, b, u, c) = (a, b, u', c')) = false := by simp [h4]
        rw [hd]; clear hd h4
        go_wp2
        go_ret
        exact ⟨rfl, by (repeat' (first | (with_reducible exact Below.refl _ _) | (with_reducible assumption) | (with_reducible refine Below.alloc ?_ ?_ _) | (with_reducible refine Below.drew ?_) | (with_reducible refine below_drewN ?_ _) | (with_reducible refine Below.setCell ?_ ?_ _) | go_size))⟩
    · have g2 : (b != b') = true := by simpa using h2
      have hd : decide ((a, b, u, c) = (a, b', u', c')) = false := by simp [h2]
      rw [hd]; clear hd h2
      go_wp2
      go_ret
      exact ⟨rfl, by (repeat' (first | (with_reducible exact Below.refl _ _) | (with_reducible assumption) | (with_reducible refine Below.alloc ?_ ?_ _) | (with_reducible refine Below.drew ?_) | (with_reducible refine below_drewN ?_ _) | (with_reducible refine Below.setCell ?_ ?_ _) | go_size))⟩
  · have g1 : (a != a') = true := by simpa using h1
    have hd : decide ((a, b, u, c) = (a', b', u', c')) = false := by simp [h1]
    rw [hd]; clear hd h1
    go_wp2
    go_ret
    exact ⟨rfl, by (repeat' (first | (with_reducible exact Below.refl _ _) | (with_reducible assumption) | (with_reducible refine Below.alloc ?_ ?_ _) | (with_reducible refine Below.drew ?_) | (with_reducible refine below_drewN ?_ _) | (with_reducible refine Below.setCell ?_ ?_ _) | go_size))⟩

set_option maxRecDepth 100000 in
set_option maxHeartbeats 400000 in
theorem eqArcS_any (v v' : Value) (zs ys : List Ar) (w : World) (lo lo' : Nat) (hv : ArcsAt lo w v zs) (hv' : ArcsAt lo' w v' ys) (hn : zs.length ≤ 1048576) (hn' : ys.length ≤ 1048576) :
    Calls Tryz.prog 98 #[v, v'] w (RetB w (decide (zs = ys))) := by
  obtain ⟨ao, cap, rfl, hc, hz⟩ := hv
  obtain ⟨ao', cap', rfl, hc', hz'⟩ := hv'
  by_cases hl : zs.length = ys.length
  · have hb : ((zs.length : Int) != (ys.length : Int)) = false := by simp [hl]
    by_cases hzs : 0 < zs.length
    · rcases hz with h0 | ⟨b, off, rfl, hlo, hcell⟩
      · omega
      rcases hz' with h0 | ⟨b', off', rfl, hlo', hcell'⟩
      · omega
      have HC := Lib.hid hcell; clear hcell
      have HC' := Lib.hid hcell'; clear hcell'
      have HL := Lib.hid hl
      have hl1 : zs.length ≤ ys.length := by omega
      have hl2 : ys.length ≤ zs.length := by omega
      clear hl
      go_enter Tryz.func98, Tryz.ntmps98
      go_wp2
      go_loopw [5] (fun i wr => ∃ k : Nat, k ≤ zs.length ∧ i = .int .i64 k ∧ Hid (zs.take k = ys.take k) ∧ Below w.heap.size w wr) (fun i _ => zs.length - (intOf i).toNat)
      case atStart => exact ⟨0, Nat.zero_le _, rfl, rfl, Below.refl _ _⟩
      case round =>
        obtain ⟨k, hk, rfl, ht, hb1⟩ := hrel
        by_cases hlt : k < zs.length
        · have hk2 : k < ys.length := by omega
          obtain ⟨c0, c1, c2, c3⟩ := HC.out k hlt
          obtain ⟨e0, e1, e2, e3⟩ := HC'.out k hk2
          have d0 := Carries.of lo hb1 _ _ hlo c0
          have d1 := Carries.of lo hb1 _ _ hlo c1
          have d2 := Carries.of lo hb1 _ _ hlo c2
          have d3 := Carries.of lo hb1 _ _ hlo c3
          have d4 := Carries.of lo' hb1 _ _ hlo' e0
          have d5 := Carries.of lo' hb1 _ _ hlo' e1
          have d6 := Carries.of lo' hb1 _ _ hlo' e2
          have d7 := Carries.of lo' hb1 _ _ hlo' e3
          clear c0 c1 c2 c3 e0 e1 e2 e3
          have HD : Hid (decide ((arF zs k, arS zs k, arU zs k, arT zs k) = (arF ys k, arS ys k, arU ys k, arT ys k)) = decide (zs[k] = ys[k])) := by rw [ar_getD hlt, ar_getD hk2]; exact rfl
          go_wp2
          go_still_tail 8, (by kernel_rfl)
          change wpList _ _ _ _ _ wr.drew
          go_wp2_with fail
          refine (eqArc_any _ _ _ _ _ _ _ _ _).mono ?_
          rintro e w1 ⟨rfl, hb2⟩
          have hw1 : Below w.heap.size w w1 := by
            refine Below.trans ?_ (hb2.mono ?_)
            · (repeat' (first | (with_reducible exact Below.refl _ _) | (with_reducible assumption) | (with_reducible refine Below.alloc ?_ ?_ _) | (with_reducible refine Below.drew ?_) | (with_reducible refine below_drewN ?_ _) | (with_reducible refine Below.setCell ?_ ?_ _) | go_size))
            · simpa using hb1.size
          rw [HD.out]
          cases hd : decide (zs[k] = ys[k]) with
          | false =>
            have hne : ¬ zs[k] = ys[k] := of_decide_eq_false hd
            have hfin : Hid (decide (zs = ys) = false) := decide_eq_false (list_ne_of hlt hk2 hne)
            clear hd hne
            go_wp2_with fail
            go_ret
            refine ⟨?_, hw1⟩
            rw [hfin.out]; rfl
          | true =>
            have hs := Lib.hid (take_succ_of hlt hk2 ht.out (of_decide_eq_true hd))
            clear hd
            go_wp2_with fail
            go_roundw
            case rel => exact ⟨k + 1, by omega, by go_num, hs, hw1⟩
            case measure => simp [intOf]; omega
        · go_wp2
          go_ret
          refine ⟨?_, hb1⟩
          have h1 := ht.out
          rw [List.take_of_length_le (by omega), List.take_of_length_le (by omega)] at h1
          simp [h1]
    · have hz0 : zs = [] := List.eq_nil_of_length_eq_zero (by omega)
      have hy0 : ys = [] := List.eq_nil_of_length_eq_zero (by omega)
      subst hz0; subst hy0
      simp only [List.length_nil]
      clear hz hz' hc hc' hb hl hzs hn hn'
      go_enter Tryz.func98, Tryz.ntmps98
      go_wp2
      go_rounds 1
      go_ret
      exact ⟨rfl, Below.refl _ _⟩
  · have hb : ((zs.length : Int) != (ys.length : Int)) = true := by rw [bne_iff_ne]; omega
    have hd : decide (zs = ys) = false := by rw [decide_eq_false_iff_not]; rintro rfl; exact hl rfl
    rw [hd]; clear hd
    clear hz hz'
    go_enter Tryz.func98, Tryz.ntmps98
    go_wp2
    go_ret
    exact ⟨rfl, Below.refl _ _⟩

def eqSgB (r r' : SgD) : Bool := decide (r.sigs = r'.sigs) && (decide (r.codes = r'.codes) && decide (r.arcs = r'.arcs))
theorem eqSgB_self (r : SgD) : eqSgB r r = true := by simp [eqSgB]

set_option maxRecDepth 100000 in
set_option maxHeartbeats 2000000 in
theorem eqSg_any (v v' : Value) (r r' : SgD) (w : World) (lo lo' : Nat) (hv : SgAt lo w v r) (hv' : SgAt lo' w v' r') (hs : SmallSg r) (hs' : SmallSg r') :
    Calls Tryz.prog 41 #[v, v'] w (RetB w (eqSgB r r')) := by
  generalize hG : eqSgB r r' = g
  unfold eqSgB at hG
  obtain ⟨a0, c0, a1, c1, a2, c2, rfl, hg, hm, hl⟩ := hv.form
  obtain ⟨b0, d0, b1, d1, b2, d2, rfl, hg', hm', hl'⟩ := hv'.form
  clear hv hv'
  obtain ⟨gs, ss, ls⟩ := r
  obtain ⟨gs', ss', ls'⟩ := r'
  obtain ⟨k0, k1, k2⟩ := hs
  obtain ⟨k0', k1', k2'⟩ := hs'
  simp only at hg hm hl hg' hm' hl' k0 k1 k2 k0' k1' k2' hG ⊢
  generalize hp1 : decide (gs = gs') = p1 at hG
  generalize hp2 : decide (ss = ss') = p2 at hG
  generalize hp3 : decide (ls = ls') = p3 at hG
  have P1 := Lib.hid hp1; clear hp1
  have P2 := Lib.hid hp2; clear hp2
  have P3 := Lib.hid hp3; clear hp3
  have GG := Lib.hid hG; clear hG
  have HD := Lib.hid hg; clear hg
  have HD' := Lib.hid hg'; clear hg'
  have HG := Lib.hid hm; clear hm
  have HL := Lib.hid hl; clear hl
  have HG' := Lib.hid hm'; clear hm'
  have HL' := Lib.hid hl'; clear hl'
  have K1 := k0.1; clear k0
  have K1' := k0'.1; clear k0'
  have K2 := k1.1; clear k1
  have K2' := k1'.1; clear k1'
  go_enter Tryz.func41, Tryz.ntmps41
  go_wp2_with fail
  refine (eqSignalS_any _ _ gs gs' _ lo lo' (HD.out.keep ?_) (HD'.out.keep ?_) K1 K1').mono ?_
  · (repeat' (first | (with_reducible exact Carries.refl _ _) | (with_reducible assumption) | (with_reducible refine Carries.alloc ?_ _) | (with_reducible refine Carries.drew ?_) | (with_reducible refine Carries.drewN ?_ _) | (with_reducible refine Carries.set ?_ ?_ _) | go_size))
  · (repeat' (first | (with_reducible exact Carries.refl _ _) | (with_reducible assumption) | (with_reducible refine Carries.alloc ?_ _) | (with_reducible refine Carries.drew ?_) | (with_reducible refine Carries.drewN ?_ _) | (with_reducible refine Carries.set ?_ ?_ _) | go_size))
  rintro e w1 ⟨rfl, hb1⟩
  have z1 : w.heap.size + 1 < w1.heap.size := by have := hb1.size; simp at this; omega
  have hw1 : Below w.heap.size w w1 := by
    refine Below.trans ?_ (hb1.mono ?_)
    · (repeat' (first | (with_reducible exact Below.refl _ _) | (with_reducible assumption) | (with_reducible refine Below.alloc ?_ ?_ _) | (with_reducible refine Below.drew ?_) | (with_reducible refine below_drewN ?_ _) | (with_reducible refine Below.setCell ?_ ?_ _) | go_size))
    · simp; omega
  have x1 : w1.cell? ⟨w.heap.size, 1, none⟩ = some (.slice a1 ss.length c1) := cell_carry (by simp) (Carries.of 0 hb1)
  have y1 : w1.cell? ⟨w.heap.size + 1, 1, none⟩ = some (.slice b1 ss'.length d1) := cell_carry (by simp) (Carries.of 0 hb1)
  have x2 : w1.cell? ⟨w.heap.size, 2, none⟩ = some (.slice a2 ls.length c2) := cell_carry (by simp) (Carries.of 0 hb1)
  have y2 : w1.cell? ⟨w.heap.size + 1, 2, none⟩ = some (.slice b2 ls'.length d2) := cell_carry (by simp) (Carries.of 0 hb1)
  clear hb1
  rw [P1.out]
  cases p1 with
  | false =>
    have := GG.out
    simp only [Bool.false_and] at this
    subst this
    go_wp2_with fail
    go_ret
    exact ⟨rfl, hw1⟩
  | true =>
  go_wp2_with fail
  refine (eqStringS_any _ _ ss ss' _ lo lo' (HG.out.keep (Carries.of lo hw1)) (HG'.out.keep (Carries.of lo' hw1)) K2 K2').mono ?_
  rintro e w2 ⟨rfl, hb2⟩
  have hw2 : Below w.heap.size w w2 := hw1.trans (hb2.mono hw1.size)
  have x2 := cell_carry x2 (Carries.of 0 hb2)
  have y2 := cell_carry y2 (Carries.of 0 hb2)
  clear hb2 x1 y1
  rw [P2.out]
  cases p2 with
  | false =>
    have := GG.out
    simp only [Bool.false_and, Bool.true_and] at this
    subst this
    go_wp2_with fail
    go_ret
    exact ⟨rfl, hw2⟩
  | true =>
  go_wp2_with fail
  refine (eqArcS_any _ _ ls ls' _ lo lo' (HL.out.keep (Carries.of lo hw2)) (HL'.out.keep (Carries.of lo' hw2)) k2 k2').mono ?_
  rintro e w3 ⟨rfl, hb3⟩
  have hw3 : Below w.heap.size w w3 := hw2.trans (hb3.mono hw2.size)
  clear hb3
  rw [P3.out]
  cases p3 with
  | false =>
    have := GG.out
    simp only [Bool.false_and, Bool.true_and] at this
    subst this
    go_wp2_with fail
    go_ret
    exact ⟨rfl, hw3⟩
  | true =>
    have := GG.out
    simp only [Bool.true_and] at this
    subst this
    go_wp2_with fail
    go_ret
    exact ⟨rfl, hw3⟩

end Go.Proofs.YtnmoocgocnjdjaaGreat
