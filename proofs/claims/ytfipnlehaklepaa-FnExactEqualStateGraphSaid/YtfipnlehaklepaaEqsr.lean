/-
  WALKS: slices.Equal at arcs; EqualStateGraph of the program.
-/
import Derived.Test.YtfipnlehaklepaaEqsg
import Derived.Test.YtfipnlehaklepaaEqst
import Derived.Test.YtfipnlehaklepaaSgb
namespace Go.Proofs.Ytfipnlehaklepaa
open Go.RowKit

set_option maxRecDepth 100000 in
set_option maxHeartbeats 1000000 in
theorem slEqArc_any (v v' : Value) (zs ys : List Ar) (w : World) (lo lo' : Nat) (hv : ArcsAt lo w v zs) (hv' : ArcsAt lo' w v' ys) (hn : zs.length ≤ 1048576) (hn' : ys.length ≤ 1048576) :
    Calls Try.prog 77 #[v, v'] w (RetB w (decide (zs = ys))) := by
  obtain ⟨ao, cap, rfl, hc, hz⟩ := hv
  obtain ⟨ao', cap', rfl, hc', hz'⟩ := hv'
  by_cases hl : zs.length = ys.length
  · have hb : ((zs.length : Int) != (ys.length : Int)) = false := by simp [hl]
    by_cases hzs : 0 < zs.length
    · rcases hz with h0 | ⟨b, off, rfl, hlo, hcell⟩
      · omega
      rcases hz' with h0 | ⟨b', off', rfl, hlo', hcell'⟩
      · omega
      have HC := Lib.hid hcell; clear hcell
      have HC' := Lib.hid hcell'; clear hcell'
      have HL := Lib.hid hl
      have hl1 : zs.length ≤ ys.length := by omega
      have hl2 : ys.length ≤ zs.length := by omega
      clear hl
      go_enter Try.func77, Try.ntmps77
      go_wp2
      go_loopw [13] (fun i wr => ∃ k : Nat, k ≤ zs.length ∧ i = .int .i64 k ∧ Hid (zs.take k = ys.take k) ∧ Below w.heap.size w wr) (fun i _ => zs.length - (intOf i).toNat)
      case atStart => exact ⟨0, Nat.zero_le _, rfl, rfl, Below.refl _ _⟩
      case round =>
        obtain ⟨k, hk, rfl, ht, hb1⟩ := hrel
        by_cases hlt : k < zs.length
        · have hk2 : k < ys.length := by omega
          obtain ⟨c0, c1, c2, c3⟩ := HC.out k hlt
          obtain ⟨e0, e1, e2, e3⟩ := HC'.out k hk2
          have d0 := Carries.of lo hb1 _ _ hlo c0
          have d1 := Carries.of lo hb1 _ _ hlo c1
          have d2 := Carries.of lo hb1 _ _ hlo c2
          have d3 := Carries.of lo hb1 _ _ hlo c3
          have d4 := Carries.of lo' hb1 _ _ hlo' e0
          have d5 := Carries.of lo' hb1 _ _ hlo' e1
          have d6 := Carries.of lo' hb1 _ _ hlo' e2
          have d7 := Carries.of lo' hb1 _ _ hlo' e3
          clear c0 c1 c2 c3 e0 e1 e2 e3
          have HZ := Lib.hid (ar_getD hlt)
          have HY := Lib.hid (ar_getD hk2)
          try dsimp only at d0 d1 d2 d3 d4 d5 d6 d7
          generalize arF zs k = x0 at d0 HZ
          generalize arS zs k = x1 at d1 HZ
          generalize arU zs k = x2 at d2 HZ
          generalize arT zs k = x3 at d3 HZ
          generalize arF ys k = y0 at d4 HY
          generalize arS ys k = y1 at d5 HY
          generalize arU ys k = y2 at d6 HY
          generalize arT ys k = y3 at d7 HY
          by_cases q : x0 = y0 ∧ x1 = y1 ∧ x2 = y2 ∧ x3 = y3
          · obtain ⟨rfl, rfl, rfl, rfl⟩ := q
            have hs := Lib.hid (take_succ_of hlt hk2 ht.out (by rw [← HZ.out, ← HY.out]))
            go_wp2
            go_quiet (fail)
            go_wp2
            go_roundw
            case rel => exact ⟨k + 1, by omega, by go_num, hs, below_drewN hb1 _⟩
            case measure => simp [intOf]; omega
          · have hfin : Hid (decide (zs = ys) = false) := decide_eq_false (list_ne_of hlt hk2 (by rw [← HZ.out, ← HY.out]; simpa using q))
            have t1 : ((x0 == y0) && ((x1 == y1) && ((x2 == y2) && (x3 == y3)))) = false := by
              rw [← Bool.not_eq_true]
              simpa using q
            have HQ := Lib.hid q; clear q
            rcases Bool.eq_false_or_eq_true (x0 == y0) with t2 | t2
            · rcases Bool.eq_false_or_eq_true (x1 == y1) with t3 | t3
              · rcases Bool.eq_false_or_eq_true (x2 == y2) with t4 | t4
                · have t5 : (x3 == y3) = false := by simpa [t2, t3, t4] using t1
                  clear t1
                  go_wp2
                  go_quiet (fail)
                  go_wp2
                  go_ret
                  refine ⟨?_, below_drewN hb1 _⟩
                  rw [hfin.out]; rfl
                · clear t1
                  go_wp2
                  go_quiet (fail)
                  go_wp2
                  go_ret
                  refine ⟨?_, below_drewN hb1 _⟩
                  rw [hfin.out]; rfl
              · clear t1
                go_wp2
                go_quiet (fail)
                go_wp2
                go_ret
                refine ⟨?_, below_drewN hb1 _⟩
                rw [hfin.out]; rfl
            · clear t1
              go_wp2
              go_quiet (fail)
              go_wp2
              go_ret
              refine ⟨?_, below_drewN hb1 _⟩
              rw [hfin.out]; rfl
        · go_wp2
          go_ret
          refine ⟨?_, hb1⟩
          have h1 := ht.out
          rw [List.take_of_length_le (by omega), List.take_of_length_le (by omega)] at h1
          simp [h1]
    · have hz0 : zs = [] := List.eq_nil_of_length_eq_zero (by omega)
      have hy0 : ys = [] := List.eq_nil_of_length_eq_zero (by omega)
      subst hz0; subst hy0
      simp only [List.length_nil]
      clear hz hz' hc hc' hb hl hzs hn hn'
      go_enter Try.func77, Try.ntmps77
      go_wp2
      go_rounds 1
      go_ret
      exact ⟨rfl, Below.refl _ _⟩
  · have hb : ((zs.length : Int) != (ys.length : Int)) = true := by rw [bne_iff_ne]; omega
    have hd : decide (zs = ys) = false := by rw [decide_eq_false_iff_not]; rintro rfl; exact hl rfl
    rw [hd]; clear hd
    clear hz hz'
    go_enter Try.func77, Try.ntmps77
    go_wp2
    go_ret
    exact ⟨rfl, Below.refl _ _⟩

set_option maxRecDepth 100000 in
set_option maxHeartbeats 2000000 in
theorem EqualStateGraph_any (v v' : Value) (r r' : SgD) (w : World) (lo lo' : Nat) (hv : SgAt lo w v r) (hv' : SgAt lo' w v' r') (hs : SmallSg r) (hs' : SmallSg r') :
    Calls Try.prog 31 #[v, v'] w (RetB w (eqSgB r r')) := by
  generalize hG : eqSgB r r' = g
  unfold eqSgB at hG
  obtain ⟨a0, c0, a1, c1, a2, c2, rfl, hg, hm, hl⟩ := hv.form
  obtain ⟨b0, d0, b1, d1, b2, d2, rfl, hg', hm', hl'⟩ := hv'.form
  clear hv hv'
  obtain ⟨gs, ss, ls⟩ := r
  obtain ⟨gs', ss', ls'⟩ := r'
  obtain ⟨k0, k1, k2⟩ := hs
  obtain ⟨k0', k1', k2'⟩ := hs'
  simp only at hg hm hl hg' hm' hl' k0 k1 k2 k0' k1' k2' hG ⊢
  generalize hp1 : decide (gs = gs') = p1 at hG
  generalize hp2 : decide (ss = ss') = p2 at hG
  generalize hp3 : decide (ls = ls') = p3 at hG
  have P1 := Lib.hid hp1; clear hp1
  have P2 := Lib.hid hp2; clear hp2
  have P3 := Lib.hid hp3; clear hp3
  have GG := Lib.hid hG; clear hG
  have HD := Lib.hid hg; clear hg
  have HD' := Lib.hid hg'; clear hg'
  have HG := Lib.hid hm; clear hm
  have HL := Lib.hid hl; clear hl
  have HG' := Lib.hid hm'; clear hm'
  have HL' := Lib.hid hl'; clear hl'
  have K1 := k0.1; clear k0
  have K1' := k0'.1; clear k0'
  have K2 := k1.1; clear k1
  have K2' := k1'.1; clear k1'
  go_enter Try.func31, Try.ntmps31
  go_wp2_with fail
  refine (slEqSig_any _ _ gs gs' _ lo lo' (HD.out.keep ?_) (HD'.out.keep ?_) K1 K1').mono ?_
  · (repeat' (first | (with_reducible exact Carries.refl _ _) | (with_reducible assumption) | (with_reducible refine Carries.alloc ?_ _) | (with_reducible refine Carries.drew ?_) | (with_reducible refine Carries.drewN ?_ _) | (with_reducible refine Carries.set ?_ ?_ _) | go_size))
  · (repeat' (first | (with_reducible exact Carries.refl _ _) | (with_reducible assumption) | (with_reducible refine Carries.alloc ?_ _) | (with_reducible refine Carries.drew ?_) | (with_reducible refine Carries.drewN ?_ _) | (with_reducible refine Carries.set ?_ ?_ _) | go_size))
  rintro e w1 ⟨rfl, hb1⟩
  have z1 : w.heap.size + 1 < w1.heap.size := by have := hb1.size; simp at this; omega
  have hw1 : Below w.heap.size w w1 := by
    refine Below.trans ?_ (hb1.mono ?_)
    · (repeat' (first | (with_reducible exact Below.refl _ _) | (with_reducible assumption) | (with_reducible refine Below.alloc ?_ ?_ _) | (with_reducible refine Below.drew ?_) | (with_reducible refine below_drewN ?_ _) | (with_reducible refine Below.setCell ?_ ?_ _) | go_size))
    · simp; omega
  have x1 : w1.cell? ⟨w.heap.size, 1, none⟩ = some (.slice a1 ss.length c1) := cell_carry (by simp) (Carries.of 0 hb1)
  have y1 : w1.cell? ⟨w.heap.size + 1, 1, none⟩ = some (.slice b1 ss'.length d1) := cell_carry (by simp) (Carries.of 0 hb1)
  have x2 : w1.cell? ⟨w.heap.size, 2, none⟩ = some (.slice a2 ls.length c2) := cell_carry (by simp) (Carries.of 0 hb1)
  have y2 : w1.cell? ⟨w.heap.size + 1, 2, none⟩ = some (.slice b2 ls'.length d2) := cell_carry (by simp) (Carries.of 0 hb1)
  clear hb1
  rw [P1.out]
  cases p1 with
  | false =>
    have := GG.out
    simp only [Bool.false_and] at this
    subst this
    go_wp2_with fail
    go_ret
    exact ⟨rfl, hw1⟩
  | true =>
  go_wp2_with fail
  refine (slEqStr_any _ _ ss ss' _ lo lo' (HG.out.keep (Carries.of lo hw1)) (HG'.out.keep (Carries.of lo' hw1)) K2 K2').mono ?_
  rintro e w2 ⟨rfl, hb2⟩
  have hw2 : Below w.heap.size w w2 := hw1.trans (hb2.mono hw1.size)
  have x2 := cell_carry x2 (Carries.of 0 hb2)
  have y2 := cell_carry y2 (Carries.of 0 hb2)
  clear hb2 x1 y1
  rw [P2.out]
  cases p2 with
  | false =>
    have := GG.out
    simp only [Bool.false_and, Bool.true_and] at this
    subst this
    go_wp2_with fail
    go_ret
    exact ⟨rfl, hw2⟩
  | true =>
  go_wp2_with fail
  refine (slEqArc_any _ _ ls ls' _ lo lo' (HL.out.keep (Carries.of lo hw2)) (HL'.out.keep (Carries.of lo' hw2)) k2 k2').mono ?_
  rintro e w3 ⟨rfl, hb3⟩
  have hw3 : Below w.heap.size w w3 := hw2.trans (hb3.mono hw2.size)
  clear hb3
  rw [P3.out]
  cases p3 with
  | false =>
    have := GG.out
    simp only [Bool.false_and, Bool.true_and] at this
    subst this
    go_wp2_with fail
    go_ret
    exact ⟨rfl, hw3⟩
  | true =>
    have := GG.out
    simp only [Bool.true_and] at this
    subst this
    go_wp2_with fail
    go_ret
    exact ⟨rfl, hw3⟩

end Go.Proofs.Ytfipnlehaklepaa
