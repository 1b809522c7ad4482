/- WALKS: eqCondition, eqConditionS, eqEventS, eqUnfolding of the laws. -/
import Derived.Test.YtigkgfdnnfmmmaaGreatVInts
import Derived.Test.YtigkgfdnnfmmmaaGreatVNeta
import Derived.StillTailTactics
import Derived.WalkSpells
namespace Go.Proofs.YtigkgfdnnfmmmaaGreat
open Go.RowKit

set_option maxHeartbeats 400000 in
theorem eqCondition_any (a b a' b' : Int) (w : World) :
    Calls Tryz.prog 73 #[.agg #[.int .i64 a, .int .i64 b], .agg #[.int .i64 a', .int .i64 b']] w (RetB w (decide ((a, b) = (a', b')))) := by
  go_enter Tryz.func73, Tryz.ntmps73
  by_cases h1 : a = a'
  · subst h1
    have g1 : (a != a) = false := by simp
    by_cases h2 : b = b'
    · subst h2
      have g2 : (b != b) = false := by simp
      go_wp2
      go_ret
      exact ⟨by simp, by (repeat' (first | (with_reducible exact Below.refl _ _) | (with_reducible assumption) | (with_reducible refine Below.alloc ?_ ?_ _) | (with_reducible refine Below.drew ?_) | (with_reducible refine below_drewN ?_ _) | (with_reducible refine Below.setCell ?_ ?_ _) | go_size))⟩
    · have g2 : (b != b') = true := by simpa using h2
      have hd : decide ((a, b) = (a, b')) = false := by simp [h2]
      rw [hd]; clear hd h2
      go_wp2
      go_ret
      exact ⟨rfl, by (repeat' (first | (with_reducible exact Below.refl _ _) | (with_reducible assumption) | (with_reducible refine Below.alloc ?_ ?_ _) | (with_reducible refine Below.drew ?_) | (with_reducible refine below_drewN ?_ _) | (with_reducible refine Below.setCell ?_ ?_ _) | go_size))⟩
  · have g1 : (a != a') = true := by simpa using h1
    have hd : decide ((a, b) = (a', b')) = false := by simp [h1]
    rw [hd]; clear hd h1
    go_wp2
    go_ret
    exact ⟨rfl, by (repeat' (first | (with_reducible exact Below.refl _ _) | (with_reducible assumption) | (with_reducible refine Below.alloc ?_ ?_ _) | (with_reducible refine Below.drew ?_) | (with_reducible refine below_drewN ?_ _) | (with_reducible refine Below.setCell ?_ ?_ _) | go_size))⟩

set_option maxRecDepth 100000 in
set_option maxHeartbeats 400000 in
theorem eqConditionS_any (v v' : Value) (zs ys : List Cnd) (w : World) (lo lo' : Nat) (hv : CndsAt lo w v zs) (hv' : CndsAt lo' w v' ys) (hn : zs.length ≤ 1048576) (hn' : ys.length ≤ 1048576) :
    Calls Tryz.prog 38 #[v, v'] w (RetB w (decide (zs = ys))) := by
  obtain ⟨ao, cap, rfl, hc, hz⟩ := hv
  obtain ⟨ao', cap', rfl, hc', hz'⟩ := hv'
  by_cases hl : zs.length = ys.length
  · have hb : ((zs.length : Int) != (ys.length : Int)) = false := by simp [hl]
    by_cases hzs : 0 < zs.length
    · rcases hz with h0 | ⟨b, off, rfl, hlo, hcell⟩
      · omega
      rcases hz' with h0 | ⟨b', off', rfl, hlo', hcell'⟩
      · omega
      have HC := Lib.hid hcell; clear hcell
      have HC' := Lib.hid hcell'; clear hcell'
      have HL := Lib.hid hl
      have hl1 : zs.length ≤ ys.length := by omega
      have hl2 : ys.length ≤ zs.length := by omega
      clear hl
      go_enter Tryz.func38, Tryz.ntmps38
      go_wp2
      go_loopw [5] (fun i wr => ∃ k : Nat, k ≤ zs.length ∧ i = .int .i64 k ∧ Hid (zs.take k = ys.take k) ∧ Below w.heap.size w wr) (fun i _ => zs.length - (intOf i).toNat)
      case atStart => exact ⟨0, Nat.zero_le _, rfl, rfl, Below.refl _ _⟩
      case round =>
        obtain ⟨k, hk, rfl, ht, hb1⟩ := hrel
        by_cases hlt : k < zs.length
        · have hk2 : k < ys.length := by omega
          obtain ⟨c0, c1⟩ := HC.out k hlt
          obtain ⟨e0, e1⟩ := HC'.out k hk2
          have d0 := Carries.of lo hb1 _ _ hlo c0
          have d1 := Carries.of lo hb1 _ _ hlo c1
          have d2 := Carries.of lo' hb1 _ _ hlo' e0
          have d3 := Carries.of lo' hb1 _ _ hlo' e1
          clear c0 c1 e0 e1
          have HD : Hid (decide ((cnP zs k, cnB zs k) = (cnP ys k, cnB ys k)) = decide (zs[k] = ys[k])) := by rw [cn_getD hlt, cn_getD hk2]; exact rfl
          go_wp2
          go_still_tail 8, (by kernel_rfl)
          change wpList _ _ _ _ _ wr.drew
          go_wp2_with fail
          refine (eqCondition_any _ _ _ _ _).mono ?_
          rintro e w1 ⟨rfl, hb2⟩
          have hw1 : Below w.heap.size w w1 := by
            refine Below.trans ?_ (hb2.mono ?_)
            · (repeat' (first | (with_reducible exact Below.refl _ _) | (with_reducible assumption) | (with_reducible refine Below.alloc ?_ ?_ _) | (with_reducible refine Below.drew ?_) | (with_reducible refine below_drewN ?_ _) | (with_reducible refine Below.setCell ?_ ?_ _) | go_size))
            · simpa using hb1.size
          rw [HD.out]
          cases hd : decide (zs[k] = ys[k]) with
          | false =>
            have hne : ¬ zs[k] = ys[k] := of_decide_eq_false hd
            have hfin : Hid (decide (zs = ys) = false) := decide_eq_false (list_ne_of' hlt hk2 hne)
            clear hd hne
            go_wp2_with fail
            go_ret
            refine ⟨?_, hw1⟩
            rw [hfin.out]; rfl
          | true =>
            have hs := Lib.hid (take_succ_of' hlt hk2 ht.out (of_decide_eq_true hd))
            clear hd
            go_wp2_with fail
            go_roundw
            case rel => exact ⟨k + 1, by omega, by go_num, hs, hw1⟩
            case measure => simp [intOf]; omega
        · go_wp2
          go_ret
          refine ⟨?_, hb1⟩
          have h1 := ht.out
          rw [List.take_of_length_le (by omega), List.take_of_length_le (by omega)] at h1
          simp [h1]
    · have hz0 : zs = [] := List.eq_nil_of_length_eq_zero (by omega)
      have hy0 : ys = [] := List.eq_nil_of_length_eq_zero (by omega)
      subst hz0; subst hy0
      simp only [List.length_nil]
      clear hz hz' hc hc' hb hl hzs hn hn'
      go_enter Tryz.func38, Tryz.ntmps38
      go_wp2
      go_rounds 1
      go_ret
      exact ⟨rfl, Below.refl _ _⟩
  · have hb : ((zs.length : Int) != (ys.length : Int)) = true := by rw [bne_iff_ne]; omega
    have hd : decide (zs = ys) = false := by rw [decide_eq_false_iff_not]; rintro rfl; exact hl rfl
    rw [hd]; clear hd
    clear hz hz'
    go_enter Tryz.func38, Tryz.ntmps38
    go_wp2
    go_ret
    exact ⟨rfl, Below.refl _ _⟩


set_option maxHeartbeats 400000 in
theorem eqEventS_nil (a a' : Option Addr) (c c' : Nat) (w : World) :
    Calls Tryz.prog 39 #[.slice a 0 c, .slice a' 0 c'] w (RetB w true) := by
  go_enter Tryz.func39, Tryz.ntmps39
  go_wp2
  go_rounds 1
  go_ret
  exact ⟨rfl, Below.refl _ _⟩

set_option maxRecDepth 100000 in
set_option maxHeartbeats 1000000 in
theorem eqUnf_fresh (v v' : Value) (r r' : UnfD) (w : World) (lo lo' : Nat) (hv : UnfAt lo w v r) (hv' : UnfAt lo' w v' r') (hs : r.cs.length ≤ 1048576) (hs' : r'.cs.length ≤ 1048576) (he : r.es = []) (he' : r'.es = []) :
    Calls Tryz.prog 13 #[v, v'] w (RetB w (decide (r.cs = r'.cs))) := by
  obtain ⟨a0, c0, a1, c1, rfl, hm, hl⟩ := hv.form
  obtain ⟨b0, d0, b1, d1, rfl, hm', hl'⟩ := hv'.form
  clear hv hv' hl hl'
  obtain ⟨ss, ls⟩ := r
  obtain ⟨ss', ls'⟩ := r'
  simp only at hm hm' hs hs' he he' ⊢
  subst he; subst he'
  simp only [List.length_nil]
  generalize hp2 : decide (ss = ss') = p2
  have P2 := Lib.hid hp2; clear hp2
  have HG := Lib.hid hm; clear hm
  have HG' := Lib.hid hm'; clear hm'
  go_enter Tryz.func13, Tryz.ntmps13
  go_wp2_with fail
  refine (eqConditionS_any _ _ ss ss' _ lo lo' (HG.out.keep ?_) (HG'.out.keep ?_) hs hs').mono ?_
  · (repeat' (first | (with_reducible exact Carries.refl _ _) | (with_reducible assumption) | (with_reducible refine Carries.alloc ?_ _) | (with_reducible refine Carries.drew ?_) | (with_reducible refine Carries.drewN ?_ _) | (with_reducible refine Carries.set ?_ ?_ _) | go_size))
  · (repeat' (first | (with_reducible exact Carries.refl _ _) | (with_reducible assumption) | (with_reducible refine Carries.alloc ?_ _) | (with_reducible refine Carries.drew ?_) | (with_reducible refine Carries.drewN ?_ _) | (with_reducible refine Carries.set ?_ ?_ _) | go_size))
  rintro e w1 ⟨rfl, hb1⟩
  have z1 : w.heap.size + 1 < w1.heap.size := by have := hb1.size; simp at this; omega
  have hw1 : Below w.heap.size w w1 := by
    refine Below.trans ?_ (hb1.mono ?_)
    · (repeat' (first | (with_reducible exact Below.refl _ _) | (with_reducible assumption) | (with_reducible refine Below.alloc ?_ ?_ _) | (with_reducible refine Below.drew ?_) | (with_reducible refine below_drewN ?_ _) | (with_reducible refine Below.setCell ?_ ?_ _) | go_size))
    · simp; omega
  have x1 : w1.cell? ⟨w.heap.size, 1, none⟩ = some (.slice a1 0 c1) := cell_carry (by simp) (Carries.of 0 hb1)
  have y1 : w1.cell? ⟨w.heap.size + 1, 1, none⟩ = some (.slice b1 0 d1) := cell_carry (by simp) (Carries.of 0 hb1)
  clear hb1
  rw [P2.out]
  cases p2 with
  | false =>
    go_wp2_with fail
    go_ret
    exact ⟨rfl, hw1⟩
  | true =>
  go_wp2_with fail
  refine (eqEventS_nil _ _ _ _ _).mono ?_
  rintro e w3 ⟨rfl, hb3⟩
  have hw3 : Below w.heap.size w w3 := hw1.trans (hb3.mono hw1.size)
  clear hb3
  go_wp2_with fail
  go_ret
  exact ⟨rfl, hw3⟩

end Go.Proofs.YtigkgfdnnfmmmaaGreat
