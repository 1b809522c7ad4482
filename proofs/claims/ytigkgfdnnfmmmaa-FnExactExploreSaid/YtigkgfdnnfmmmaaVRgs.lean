/- WALKS: szStringS, szMoveS, szReachabilityGraph, eqStringS, eqMove, eqMoveS, eqReachabilityGraph of the laws.
   WALKS: l4Find, l4Good of the model. -/
import Derived.Test.YtigkgfdnnfmmmaaVRgbt
import Derived.Test.YtigkgfdnnfmmmaaVSigb
import Derived.Test.YtigkgfdnnfmmmaaVRgp
import Derived.Test.YtigkgfdnnfmmmaaVGood
namespace Go.Proofs.Ytigkgfdnnfmmmaa
open Go.RowKit

set_option maxRecDepth 100000 in
set_option maxHeartbeats 400000 in
theorem eqMove_any (a b c a' b' c' : Int) (w : World) :
    Calls Try.prog 93 #[.agg #[.int .i64 a, .int .i64 b, .int .i64 c], .agg #[.int .i64 a', .int .i64 b', .int .i64 c']] w (RetB w (decide ((a, b, c) = (a', b', c')))) := by
  go_enter Try.func93, Try.ntmps93
  by_cases h1 : a = a'
  · subst h1
    have g1 : (a != a) = false := by simp
    by_cases h2 : b = b'
    · subst h2
      have g2 : (b != b) = false := by simp
      by_cases h3 : c = c'
      · subst h3
        have g3 : (c != c) = false := by simp
        go_wp2
        go_ret
        exact ⟨by simp, by (repeat' (first | (with_reducible exact Below.refl _ _) | (with_reducible assumption) | (with_reducible refine Below.alloc ?_ ?_ _) | (with_reducible refine Below.drew ?_) | (with_reducible refine below_drewN ?_ _) | (with_reducible refine Below.setCell ?_ ?_ _) | go_size))⟩
      · have g3 : (c != c') = true := by simpa using h3
        have hd : decide ((a, b, c) = (a, b, c')) = false := by simp [h3]
        rw [hd]; clear hd h3
        go_wp2
        go_ret
        exact ⟨rfl, by (repeat' (first | (with_reducible exact Below.refl _ _) | (with_reducible assumption) | (with_reducible refine Below.alloc ?_ ?_ _) | (with_reducible refine Below.drew ?_) | (with_reducible refine below_drewN ?_ _) | (with_reducible refine Below.setCell ?_ ?_ _) | go_size))⟩
    · have g2 : (b != b') = true := by simpa using h2
      have hd : decide ((a, b, c) = (a, b', c')) = false := by simp [h2]
      rw [hd]; clear hd h2
      go_wp2
      go_ret
      exact ⟨rfl, by (repeat' (first | (with_reducible exact Below.refl _ _) | (with_reducible assumption) | (with_reducible refine Below.alloc ?_ ?_ _) | (with_reducible refine Below.drew ?_) | (with_reducible refine below_drewN ?_ _) | (with_reducible refine Below.setCell ?_ ?_ _) | go_size))⟩
  · have g1 : (a != a') = true := by simpa using h1
    have hd : decide ((a, b, c) = (a', b', c')) = false := by simp [h1]
    rw [hd]; clear hd h1
    go_wp2
    go_ret
    exact ⟨rfl, by (repeat' (first | (with_reducible exact Below.refl _ _) | (with_reducible assumption) | (with_reducible refine Below.alloc ?_ ?_ _) | (with_reducible refine Below.drew ?_) | (with_reducible refine below_drewN ?_ _) | (with_reducible refine Below.setCell ?_ ?_ _) | go_size))⟩

set_option maxRecDepth 100000 in
set_option maxHeartbeats 400000 in
theorem eqMoveS_any (v v' : Value) (zs ys : List Mv) (w : World) (lo lo' : Nat) (hv : MovesAt lo w v zs) (hv' : MovesAt lo' w v' ys) (hn : zs.length ≤ 1048576) (hn' : ys.length ≤ 1048576) :
    Calls Try.prog 51 #[v, v'] w (RetB w (decide (zs = ys))) := by
  obtain ⟨ao, cap, rfl, hc, hz⟩ := hv
  obtain ⟨ao', cap', rfl, hc', hz'⟩ := hv'
  by_cases hl : zs.length = ys.length
  · have hb : ((zs.length : Int) != (ys.length : Int)) = false := by simp [hl]
    by_cases hzs : 0 < zs.length
    · rcases hz with h0 | ⟨b, off, rfl, hlo, hcell⟩
      · omega
      rcases hz' with h0 | ⟨b', off', rfl, hlo', hcell'⟩
      · omega
      have HC := Lib.hid hcell; clear hcell
      have HC' := Lib.hid hcell'; clear hcell'
      have HL := Lib.hid hl
      have hl1 : zs.length ≤ ys.length := by omega
      have hl2 : ys.length ≤ zs.length := by omega
      clear hl
      go_enter Try.func51, Try.ntmps51
      go_wp2
      go_loopw [5] (fun i wr => ∃ k : Nat, k ≤ zs.length ∧ i = .int .i64 k ∧ Hid (zs.take k = ys.take k) ∧ Below w.heap.size w wr) (fun i _ => zs.length - (intOf i).toNat)
      case atStart => exact ⟨0, Nat.zero_le _, rfl, rfl, Below.refl _ _⟩
      case round =>
        obtain ⟨k, hk, rfl, ht, hb1⟩ := hrel
        by_cases hlt : k < zs.length
        · have hk2 : k < ys.length := by omega
          obtain ⟨c0, c1, c2⟩ := HC.out k hlt
          obtain ⟨e0, e1, e2⟩ := HC'.out k hk2
          have d0 := Carries.of lo hb1 _ _ hlo c0
          have d1 := Carries.of lo hb1 _ _ hlo c1
          have d2 := Carries.of lo hb1 _ _ hlo c2
          have d3 := Carries.of lo' hb1 _ _ hlo' e0
          have d4 := Carries.of lo' hb1 _ _ hlo' e1
          have d5 := Carries.of lo' hb1 _ _ hlo' e2
          clear c0 c1 c2 e0 e1 e2
          have HD : Hid (decide ((mvF zs k, mvB zs k, mvT zs k) = (mvF ys k, mvB ys k, mvT ys k)) = decide (zs[k] = ys[k])) := by rw [mv_getD hlt, mv_getD hk2]; exact rfl
          go_wp2
          go_still_tail 8, (by kernel_rfl)
          change wpList _ _ _ _ _ wr.drew
          go_wp2_with fail
          refine (eqMove_any _ _ _ _ _ _ _).mono ?_
          rintro e w1 ⟨rfl, hb2⟩
          have hw1 : Below w.heap.size w w1 := by
            refine Below.trans ?_ (hb2.mono ?_)
            · (repeat' (first | (with_reducible exact Below.refl _ _) | (with_reducible assumption) | (with_reducible refine Below.alloc ?_ ?_ _) | (with_reducible refine Below.drew ?_) | (with_reducible refine below_drewN ?_ _) | (with_reducible refine Below.setCell ?_ ?_ _) | go_size))
            · simpa using hb1.size
          rw [HD.out]
          cases hd : decide (zs[k] = ys[k]) with
          | false =>
            have hne : ¬ zs[k] = ys[k] := of_decide_eq_false hd
            have hfin : Hid (decide (zs = ys) = false) := decide_eq_false (list_ne_of hlt hk2 hne)
            clear hd hne
            go_wp2_with fail
            go_ret
            refine ⟨?_, hw1⟩
            rw [hfin.out]; rfl
          | true =>
            have hs := Lib.hid (take_succ_of hlt hk2 ht.out (of_decide_eq_true hd))
            clear hd
            go_wp2_with fail
            go_roundw
            case rel => exact ⟨k + 1, by omega, by go_num, hs, hw1⟩
            case measure => simp [intOf]; omega
        · go_wp2
          go_ret
          refine ⟨?_, hb1⟩
          have h1 := ht.out
          rw [List.take_of_length_le (by omega), List.take_of_length_le (by omega)] at h1
          simp [h1]
    · have hz0 : zs = [] := List.eq_nil_of_length_eq_zero (by omega)
      have hy0 : ys = [] := List.eq_nil_of_length_eq_zero (by omega)
      subst hz0; subst hy0
      simp only [List.length_nil]
      clear hz hz' hc hc' hb hl hzs hn hn'
      go_enter Try.func51, Try.ntmps51
      go_wp2
      go_rounds 1
      go_ret
      exact ⟨rfl, Below.refl _ _⟩
  · have hb : ((zs.length : Int) != (ys.length : Int)) = true := by rw [bne_iff_ne]; omega
    have hd : decide (zs = ys) = false := by rw [decide_eq_false_iff_not]; rintro rfl; exact hl rfl
    rw [hd]; clear hd
    clear hz hz'
    go_enter Try.func51, Try.ntmps51
    go_wp2
    go_ret
    exact ⟨rfl, Below.refl _ _⟩

def eqRgB (r r' : RgD) : Bool := decide (r.marks = r'.marks) && decide (r.moves = r'.moves)
theorem eqRgB_self (r : RgD) : eqRgB r r = true := by simp [eqRgB]

set_option maxRecDepth 100000 in
set_option maxHeartbeats 1000000 in
theorem eqRg_any (v v' : Value) (r r' : RgD) (w : World) (lo lo' : Nat) (hv : RgAt lo w v r) (hv' : RgAt lo' w v' r') (hs : SmallRg r) (hs' : SmallRg r') :
    Calls Try.prog 14 #[v, v'] w (RetB w (eqRgB r r')) := by
  generalize hG : eqRgB r r' = g
  unfold eqRgB at hG
  obtain ⟨a0, c0, a1, c1, rfl, hm, hl⟩ := hv.form
  obtain ⟨b0, d0, b1, d1, rfl, hm', hl'⟩ := hv'.form
  clear hv hv'
  obtain ⟨ss, ls⟩ := r
  obtain ⟨ss', ls'⟩ := r'
  obtain ⟨k1, k2⟩ := hs
  obtain ⟨k1', k2'⟩ := hs'
  simp only at hm hl hm' hl' k1 k2 k1' k2' hG ⊢
  generalize hp2 : decide (ss = ss') = p2 at hG
  generalize hp3 : decide (ls = ls') = p3 at hG
  have P2 := Lib.hid hp2; clear hp2
  have P3 := Lib.hid hp3; clear hp3
  have GG := Lib.hid hG; clear hG
  have HG := Lib.hid hm; clear hm
  have HL := Lib.hid hl; clear hl
  have HG' := Lib.hid hm'; clear hm'
  have HL' := Lib.hid hl'; clear hl'
  have K2 := k1.1; clear k1
  have K2' := k1'.1; clear k1'
  go_enter Try.func14, Try.ntmps14
  go_wp2_with fail
  refine (eqStringS_any _ _ ss ss' _ lo lo' (HG.out.keep ?_) (HG'.out.keep ?_) K2 K2').mono ?_
  · (repeat' (first | (with_reducible exact Carries.refl _ _) | (with_reducible assumption) | (with_reducible refine Carries.alloc ?_ _) | (with_reducible refine Carries.drew ?_) | (with_reducible refine Carries.drewN ?_ _) | (with_reducible refine Carries.set ?_ ?_ _) | go_size))
  · (repeat' (first | (with_reducible exact Carries.refl _ _) | (with_reducible assumption) | (with_reducible refine Carries.alloc ?_ _) | (with_reducible refine Carries.drew ?_) | (with_reducible refine Carries.drewN ?_ _) | (with_reducible refine Carries.set ?_ ?_ _) | go_size))
  rintro e w1 ⟨rfl, hb1⟩
  have z1 : w.heap.size + 1 < w1.heap.size := by have := hb1.size; simp at this; omega
  have hw1 : Below w.heap.size w w1 := by
    refine Below.trans ?_ (hb1.mono ?_)
    · (repeat' (first | (with_reducible exact Below.refl _ _) | (with_reducible assumption) | (with_reducible refine Below.alloc ?_ ?_ _) | (with_reducible refine Below.drew ?_) | (with_reducible refine below_drewN ?_ _) | (with_reducible refine Below.setCell ?_ ?_ _) | go_size))
    · simp; omega
  have x1 : w1.cell? ⟨w.heap.size, 1, none⟩ = some (.slice a1 ls.length c1) := cell_carry (by simp) (Carries.of 0 hb1)
  have y1 : w1.cell? ⟨w.heap.size + 1, 1, none⟩ = some (.slice b1 ls'.length d1) := cell_carry (by simp) (Carries.of 0 hb1)
  clear hb1
  rw [P2.out]
  cases p2 with
  | false =>
    have := GG.out
    simp only [Bool.false_and] at this
    subst this
    go_wp2_with fail
    go_ret
    exact ⟨rfl, hw1⟩
  | true =>
  go_wp2_with fail
  refine (eqMoveS_any _ _ ls ls' _ lo lo' (HL.out.keep (Carries.of lo hw1)) (HL'.out.keep (Carries.of lo' hw1)) k2 k2').mono ?_
  rintro e w3 ⟨rfl, hb3⟩
  have hw3 : Below w.heap.size w w3 := hw1.trans (hb3.mono hw1.size)
  clear hb3
  rw [P3.out]
  cases p3 with
  | false =>
    have := GG.out
    simp only [Bool.false_and, Bool.true_and] at this
    subst this
    go_wp2_with fail
    go_ret
    exact ⟨rfl, hw3⟩
  | true =>
    have := GG.out
    simp only [Bool.true_and] at this
    subst this
    go_wp2_with fail
    go_ret
    exact ⟨rfl, hw3⟩

end Go.Proofs.Ytigkgfdnnfmmmaa

namespace Go.Proofs.Ytigkgfdnnfmmmaa
open Go.RowKit

theorem TextsAt.take {lo : Nat} {w : World} {a : Option Addr} {n c : Nat} {ss : List ByteArray} (h : TextsAt lo w (.slice a n c) ss) {k : Nat} (hk : k ≤ ss.length) : TextsAt lo w (.slice a k c) (ss.take k) := by
  obtain ⟨ao, cap, hv, hc, hz⟩ := h
  injection hv with e1 e2 e3
  subst e1; subst e2; subst e3
  have hl : (ss.take k).length = k := by simp; omega
  refine ⟨a, c, by rw [hl], by omega, ?_⟩
  by_cases h0 : k = 0
  · left; omega
  · rcases hz with hz | ⟨b, off, ha, hlo, hcell⟩
    · omega
    · exact Or.inr ⟨b, off, ha, hlo, fun i hi => by rw [stN_take (by omega)]; exact hcell i (by omega)⟩

set_option maxHeartbeats 400000 in
theorem l4Find_any (v : Value) (ss : List ByteArray) (m : ByteArray) (w : World) (lo : Nat) (hv : TextsAt lo w v ss) (hn : ss.length ≤ 1048576) :
    Calls Try.prog 85 #[v, .string m] w (RetV w (.int .i64 (findI ss m))) := by
  obtain ⟨R, hR⟩ : ∃ R, R = findI ss m := ⟨_, rfl⟩
  rw [← hR]
  have HR := Lib.hid hR; clear hR
  obtain ⟨ao, cap, rfl, hc, hz⟩ := hv
  have HF := Lib.hid hz; clear hz
  go_enter Try.func85, Try.ntmps85
  go_wp2_with fail
  go_loop [9] (fun i => ∃ k : Nat, k ≤ ss.length ∧ i = .int .i64 k ∧ Hid (∀ i, i < k → stN ss i ≠ m)) (fun i => ss.length - (intOf i).toNat)
  case atStart => exact ⟨0, Nat.zero_le _, rfl, fun i hi => absurd hi (Nat.not_lt_zero _)⟩
  case round =>
    obtain ⟨k, hk, rfl, hall⟩ := hrel
    by_cases hlt : k < ss.length
    · rcases HF.out with h0 | ⟨b, off, rfl, hlo, hcell⟩
      · omega
      have c1 := hcell k hlt
      clear hcell
      by_cases he : stN ss k = m
      · have e := HR.out
        rw [findI_at hlt hall.out he] at e
        subst e
        have te : ((stN ss k).toList == m.toList) = true := by rw [bytes_toList_beq, decide_eq_true he]
        clear he
        go_wp2_with fail
        go_ret
        exact ⟨rfl, Below.refl _ _⟩
      · have H2 : Hid (∀ i, i < k + 1 → stN ss i ≠ m) := by
          intro i hi
          by_cases e : i = k
          · subst e; exact he
          · exact hall.out i (by omega)
        have te : ((stN ss k).toList == m.toList) = false := by rw [bytes_toList_beq, decide_eq_false he]
        clear he
        go_wp2_with fail
        go_round
        case rel => exact ⟨k + 1, by omega, by go_num, H2⟩
        case measure => simp [intOf]; omega
    · have hkk : k = ss.length := by omega
      subst hkk
      have e := HR.out
      rw [findI_none hall.out] at e
      subst e
      go_wp2_with fail
      go_ret
      exact ⟨rfl, Below.refl _ _⟩

theorem goodR_no {r : RgD} (h : ¬ (1 ≤ r.marks.length ∧ r.marks.length ≤ 300 ∧ r.moves.length ≤ 4000)) : goodR r = false := by
  unfold goodR; rw [decide_eq_false h]; rfl
theorem goodR_yes {r : RgD} (h : 1 ≤ r.marks.length ∧ r.marks.length ≤ 300 ∧ r.moves.length ≤ 4000) : goodR r = (distB r.marks && movesB r.marks.length r.moves) := by
  unfold goodR; rw [decide_eq_true h]; rfl

end Go.Proofs.Ytigkgfdnnfmmmaa
