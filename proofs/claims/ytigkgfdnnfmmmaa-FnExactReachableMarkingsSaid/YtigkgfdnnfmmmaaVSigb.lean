/- WALKS: szSignal, szSignalS, eqSignal, eqSignalS of the laws.
   WALKS: szSignal, szSignalS, szLabelS, eqSignal, eqSignalS, eqLabel, eqLabelS of the laws. -/
import Derived.Test.YtigkgfdnnfmmmaaVSiga
import Derived.Test.YtigkgfdnnfmmmaaVL1in
namespace Go.Proofs.Ytigkgfdnnfmmmaa
open Go.RowKit

set_option maxHeartbeats 400000 in
theorem szSignal_any (s : ByteArray) (k left : Int) (w : World) (h0 : 0 ≤ left) (h1 : left ≤ 1048576) (hn : s.size ≤ 9223372036854775807) :
    Calls Try.prog 82 #[.agg #[.string s, .int .i64 k], .int .i64 left] w (RetV w (.int .i64 (szI left s.size))) := by
  by_cases hlt : left < s.size
  · have e : szI left s.size = -1 := by unfold szI; rw [if_pos hlt]
    rw [e]; clear e
    go_enter Try.func82, Try.ntmps82
    go_wp2
    go_ret
    exact ⟨rfl, by (repeat' (first | (with_reducible exact Below.refl _ _) | (with_reducible assumption) | (with_reducible refine Below.alloc ?_ ?_ _) | (with_reducible refine Below.drew ?_) | (with_reducible refine below_drewN ?_ _) | (with_reducible refine Below.setCell ?_ ?_ _) | go_size))⟩
  · have e : szI left s.size = left - s.size := by unfold szI; rw [if_neg hlt]
    rw [e]; clear e
    go_enter Try.func82, Try.ntmps82
    go_wp2
    go_ret
    exact ⟨rfl, by (repeat' (first | (with_reducible exact Below.refl _ _) | (with_reducible assumption) | (with_reducible refine Below.alloc ?_ ?_ _) | (with_reducible refine Below.drew ?_) | (with_reducible refine below_drewN ?_ _) | (with_reducible refine Below.setCell ?_ ?_ _) | go_size))⟩

set_option maxHeartbeats 400000 in
theorem szSignalS_any (v : Value) (ss : List Sig) (left : Int) (w : World) (lo : Nat) (hv : SigsAt lo w v ss) (h0 : 0 ≤ left) (h1 : left ≤ 1048576) (hok : OkSigs ss) :
    Calls Try.prog 41 #[v, .int .i64 left] w (RetSz w left (SmallSigs ss)) := by
  obtain ⟨ao, cap, rfl, hc, hz⟩ := hv
  obtain ⟨hn, hsm⟩ := hok
  have HF := Lib.hid hz; clear hz
  have HS := Lib.hid hsm; clear hsm
  go_enter Try.func41, Try.ntmps41
  by_cases hlt0 : left < ss.length
  · go_wp2_with fail
    go_ret
    exact ⟨_, rfl, Or.inl rfl, Below.refl _ _⟩
  go_wp2_with fail
  go_loopw [1, 5] (fun l i wr => ∃ (k : Nat) (r : Int), k ≤ ss.length ∧ i = .int .i64 k ∧ l = .int .i64 r ∧ 0 ≤ r ∧ r ≤ left ∧ Hid (∀ i, i < k → (sgN ss i).size ≤ 1048576) ∧ Below w.heap.size w wr) (fun _ i _ => ss.length - (intOf i).toNat)
  case atStart =>
    exact ⟨0, left - ss.length, Nat.zero_le _, rfl, rfl, by omega, by omega, fun i hi => absurd hi (Nat.not_lt_zero _), Below.refl _ _⟩
  case round =>
    obtain ⟨k, r, hk, rfl, rfl, g0, g1, hall, hb1⟩ := hrel
    by_cases hlt : k < ss.length
    · rcases HF.out with h0 | ⟨b, off, rfl, hlo, hcell⟩
      · omega
      obtain ⟨c0, c1⟩ := hcell k hlt
      have d0 := Carries.of lo hb1 _ _ hlo c0
      have d1 := Carries.of lo hb1 _ _ hlo c1
      have hk1 := HS.out k hlt
      clear hcell c0 c1
      go_wp2_with fail
      refine (szSignal_any _ _ _ _ g0 (by omega) hk1).mono ?_
      rintro e w1 ⟨rfl, hb2⟩
      have hw1 : Below w.heap.size w w1 := hb1.trans (hb2.mono hb1.size)
      by_cases hq : r < (sgN ss k).size
      · have e : szI r (sgN ss k).size = -1 := by unfold szI; rw [if_pos hq]
        rw [e]; clear e
        go_wp2_with fail
        go_ret
        exact ⟨_, rfl, Or.inl rfl, hw1⟩
      · have e : szI r (sgN ss k).size = r - (sgN ss k).size := by unfold szI; rw [if_neg hq]
        rw [e]; clear e
        have H2 : Hid (∀ i, i < k + 1 → (sgN ss i).size ≤ 1048576) := by
          intro i hi
          by_cases e : i = k
          · subst e; omega
          · exact hall.out i (by omega)
        obtain ⟨q, hqq⟩ : ∃ q, q = r - ((sgN ss k).size : Int) := ⟨_, rfl⟩
        rw [← hqq]
        have q0 : 0 ≤ q := by omega
        have q1 : q ≤ r := by omega
        clear hqq hq hk1
        go_wp2_with fail
        go_roundw
        case rel => exact ⟨k + 1, q, by omega, by go_num, rfl, q0, by omega, H2, hw1⟩
        case measure => simp [intOf]; omega
    · have hkk : k = ss.length := by omega
      subst hkk
      go_wp2_with fail
      go_ret
      exact ⟨_, rfl, Or.inr ⟨g0, g1, by omega, hall.out⟩, hb1⟩

theorem sig_getD {zs : List Sig} {i : Nat} (h : i < zs.length) : (sgN zs i, sgK zs i) = zs[i] := by simp [sgN, sgK, List.getD, h]
theorem take_succ_of {α : Type} {zs ys : List α} {k : Nat} (hk : k < zs.length) (hy : k < ys.length) (h : zs.take k = ys.take k) (he : zs[k] = ys[k]) : zs.take (k + 1) = ys.take (k + 1) := by
  rw [List.take_succ_eq_append_getElem hk, List.take_succ_eq_append_getElem hy, h, he]
theorem list_ne_of {α : Type} {zs ys : List α} {k : Nat} (hk : k < zs.length) (hy : k < ys.length) (he : zs[k] ≠ ys[k]) : zs ≠ ys := by
  rintro rfl; exact he rfl

set_option maxHeartbeats 400000 in
theorem eqSignal_any (s s' : ByteArray) (k k' : Int) (w : World) :
    Calls Try.prog 94 #[.agg #[.string s, .int .i64 k], .agg #[.string s', .int .i64 k']] w (RetB w (decide ((s, k) = (s', k')))) := by
  have hd : decide ((s, k) = (s', k')) = (decide (s = s') && decide (k = k')) := by simp [Prod.ext_iff]
  rw [hd]; clear hd
  by_cases h1 : s = s'
  · subst h1
    by_cases h2 : k = k'
    · subst h2
      have hb : (k != k) = false := by simp
      go_enter Try.func94, Try.ntmps94
      go_wp2
      go_ret
      exact ⟨by simp, by (repeat' (first | (with_reducible exact Below.refl _ _) | (with_reducible assumption) | (with_reducible refine Below.alloc ?_ ?_ _) | (with_reducible refine Below.drew ?_) | (with_reducible refine below_drewN ?_ _) | (with_reducible refine Below.setCell ?_ ?_ _) | go_size))⟩
    · have hb : (k != k') = true := by simpa using h2
      have hd : decide (k = k') = false := decide_eq_false h2
      go_enter Try.func94, Try.ntmps94
      go_wp2
      go_ret
      exact ⟨by simpa using h2, by (repeat' (first | (with_reducible exact Below.refl _ _) | (with_reducible assumption) | (with_reducible refine Below.alloc ?_ ?_ _) | (with_reducible refine Below.drew ?_) | (with_reducible refine below_drewN ?_ _) | (with_reducible refine Below.setCell ?_ ?_ _) | go_size))⟩
  · have hb : (s.toList == s'.toList) = false := by rw [bytes_toList_beq]; exact decide_eq_false h1
    rw [decide_eq_false h1]
    go_enter Try.func94, Try.ntmps94
    go_wp2
    go_ret
    exact ⟨by simp, by (repeat' (first | (with_reducible exact Below.refl _ _) | (with_reducible assumption) | (with_reducible refine Below.alloc ?_ ?_ _) | (with_reducible refine Below.drew ?_) | (with_reducible refine below_drewN ?_ _) | (with_reducible refine Below.setCell ?_ ?_ _) | go_size))⟩

set_option maxRecDepth 100000 in
set_option maxHeartbeats 400000 in
theorem eqSignalS_any (v v' : Value) (zs ys : List Sig) (w : World) (lo lo' : Nat) (hv : SigsAt lo w v zs) (hv' : SigsAt lo' w v' ys) (hn : zs.length ≤ 1048576) (hn' : ys.length ≤ 1048576) :
    Calls Try.prog 52 #[v, v'] w (RetB w (decide (zs = ys))) := by
  obtain ⟨ao, cap, rfl, hc, hz⟩ := hv
  obtain ⟨ao', cap', rfl, hc', hz'⟩ := hv'
  by_cases hl : zs.length = ys.length
  · have hb : ((zs.length : Int) != (ys.length : Int)) = false := by simp [hl]
    by_cases hzs : 0 < zs.length
    · rcases hz with h0 | ⟨b, off, rfl, hlo, hcell⟩
      · omega
      rcases hz' with h0 | ⟨b', off', rfl, hlo', hcell'⟩
      · omega
      have HC := Lib.hid hcell; clear hcell
      have HC' := Lib.hid hcell'; clear hcell'
      have HL := Lib.hid hl
      have hl1 : zs.length ≤ ys.length := by omega
      have hl2 : ys.length ≤ zs.length := by omega
      clear hl
      go_enter Try.func52, Try.ntmps52
      go_wp2
      go_loopw [5] (fun i wr => ∃ k : Nat, k ≤ zs.length ∧ i = .int .i64 k ∧ Hid (zs.take k = ys.take k) ∧ Below w.heap.size w wr) (fun i _ => zs.length - (intOf i).toNat)
      case atStart => exact ⟨0, Nat.zero_le _, rfl, rfl, Below.refl _ _⟩
      case round =>
        obtain ⟨k, hk, rfl, ht, hb1⟩ := hrel
        by_cases hlt : k < zs.length
        · have hk2 : k < ys.length := by omega
          obtain ⟨c0, c1⟩ := HC.out k hlt
          obtain ⟨e0, e1⟩ := HC'.out k hk2
          have d0 := Carries.of lo hb1 _ _ hlo c0
          have d1 := Carries.of lo hb1 _ _ hlo c1
          have d2 := Carries.of lo' hb1 _ _ hlo' e0
          have d3 := Carries.of lo' hb1 _ _ hlo' e1
          clear c0 c1 e0 e1
          have HD : Hid (decide ((sgN zs k, sgK zs k) = (sgN ys k, sgK ys k)) = decide (zs[k] = ys[k])) := by rw [sig_getD hlt, sig_getD hk2]; exact rfl
          go_wp2
          go_still_tail 8, (by kernel_rfl)
          change wpList _ _ _ _ _ wr.drew
          go_wp2_with fail
          refine (eqSignal_any _ _ _ _ _).mono ?_
          rintro e w1 ⟨rfl, hb2⟩
          have hw1 : Below w.heap.size w w1 := by
            refine Below.trans ?_ (hb2.mono ?_)
            · (repeat' (first | (with_reducible exact Below.refl _ _) | (with_reducible assumption) | (with_reducible refine Below.alloc ?_ ?_ _) | (with_reducible refine Below.drew ?_) | (with_reducible refine below_drewN ?_ _) | (with_reducible refine Below.setCell ?_ ?_ _) | go_size))
            · simpa using hb1.size
          rw [HD.out]
          cases hd : decide (zs[k] = ys[k]) with
          | false =>
            have hne : ¬ zs[k] = ys[k] := of_decide_eq_false hd
            have hfin : Hid (decide (zs = ys) = false) := decide_eq_false (list_ne_of hlt hk2 hne)
            clear hd hne
            go_wp2_with fail
            go_ret
            refine ⟨?_, hw1⟩
            rw [hfin.out]; rfl
          | true =>
            have hs := Lib.hid (take_succ_of hlt hk2 ht.out (of_decide_eq_true hd))
            clear hd
            go_wp2_with fail
            go_roundw
            case rel => exact ⟨k + 1, by omega, by go_num, hs, hw1⟩
            case measure => simp [intOf]; omega
        · go_wp2
          go_ret
          refine ⟨?_, hb1⟩
          have h1 := ht.out
          rw [List.take_of_length_le (by omega), List.take_of_length_le (by omega)] at h1
          simp [h1]
    · have hz0 : zs = [] := List.eq_nil_of_length_eq_zero (by omega)
      have hy0 : ys = [] := List.eq_nil_of_length_eq_zero (by omega)
      subst hz0; subst hy0
      simp only [List.length_nil]
      clear hz hz' hc hc' hb hl hzs hn hn'
      go_enter Try.func52, Try.ntmps52
      go_wp2
      go_rounds 1
      go_ret
      exact ⟨rfl, Below.refl _ _⟩
  · have hb : ((zs.length : Int) != (ys.length : Int)) = true := by rw [bne_iff_ne]; omega
    have hd : decide (zs = ys) = false := by rw [decide_eq_false_iff_not]; rintro rfl; exact hl rfl
    rw [hd]; clear hd
    clear hz hz'
    go_enter Try.func52, Try.ntmps52
    go_wp2
    go_ret
    exact ⟨rfl, Below.refl _ _⟩


end Go.Proofs.Ytigkgfdnnfmmmaa

namespace Go.Proofs.Ytigkgfdnnfmmmaa
open Go.RowKit

set_option maxHeartbeats 400000 in
theorem szLabelS_any (ao : Option Addr) (n cap : Nat) (left : Int) (w : World) (h0 : 0 ≤ left) (h1 : left ≤ 1048576) (hn : n ≤ 9223372036854775807) :
    Calls Try.prog 42 #[.slice ao n cap, .int .i64 left] w (RetV w (.int .i64 (szI left n))) := by
  by_cases hlt : left < n
  · have e : szI left n = -1 := by unfold szI; rw [if_pos hlt]
    rw [e]; clear e
    go_enter Try.func42, Try.ntmps42
    go_wp2
    go_ret
    exact ⟨rfl, Below.refl _ _⟩
  · have e : szI left n = left - n := by unfold szI; rw [if_neg hlt]
    rw [e]; clear e
    go_enter Try.func42, Try.ntmps42
    go_wp2
    go_ret
    exact ⟨rfl, Below.refl _ _⟩

theorem lab_getD {zs : List Lab} {i : Nat} (h : i < zs.length) : (lbS zs i, lbU zs i) = zs[i] := by simp [lbS, lbU, List.getD, h]
set_option maxHeartbeats 400000 in
theorem eqLabel_any (s s' : Int) (k k' : Bool) (w : World) :
    Calls Try.prog 95 #[.agg #[.int .i64 s, .bool k], .agg #[.int .i64 s', .bool k']] w (RetB w (decide ((s, k) = (s', k')))) := by
  have hd : decide ((s, k) = (s', k')) = (decide (s = s') && decide (k = k')) := by simp [Prod.ext_iff]
  rw [hd]; clear hd
  by_cases h1 : s = s'
  · subst h1
    have hb0 : (s != s) = false := by simp
    by_cases h2 : k = k'
    · subst h2
      have hb : (k != k) = false := by simp
      go_enter Try.func95, Try.ntmps95
      go_wp2
      go_ret
      exact ⟨by simp, by (repeat' (first | (with_reducible exact Below.refl _ _) | (with_reducible assumption) | (with_reducible refine Below.alloc ?_ ?_ _) | (with_reducible refine Below.drew ?_) | (with_reducible refine below_drewN ?_ _) | (with_reducible refine Below.setCell ?_ ?_ _) | go_size))⟩
    · have hb : (k == k') = false := by simpa using h2
      rw [decide_eq_false h2]
      go_enter Try.func95, Try.ntmps95
      go_wp2
      go_ret
      exact ⟨by simp, by (repeat' (first | (with_reducible exact Below.refl _ _) | (with_reducible assumption) | (with_reducible refine Below.alloc ?_ ?_ _) | (with_reducible refine Below.drew ?_) | (with_reducible refine below_drewN ?_ _) | (with_reducible refine Below.setCell ?_ ?_ _) | go_size))⟩
  · have hb : (s != s') = true := by simpa using h1
    rw [decide_eq_false h1]
    go_enter Try.func95, Try.ntmps95
    go_wp2
    go_ret
    exact ⟨by simp, by (repeat' (first | (with_reducible exact Below.refl _ _) | (with_reducible assumption) | (with_reducible refine Below.alloc ?_ ?_ _) | (with_reducible refine Below.drew ?_) | (with_reducible refine below_drewN ?_ _) | (with_reducible refine Below.setCell ?_ ?_ _) | go_size))⟩

set_option maxRecDepth 100000 in
set_option maxHeartbeats 400000 in
theorem eqLabelS_any (v v' : Value) (zs ys : List Lab) (w : World) (lo lo' : Nat) (hv : LabsAt lo w v zs) (hv' : LabsAt lo' w v' ys) (hn : zs.length ≤ 1048576) (hn' : ys.length ≤ 1048576) :
    Calls Try.prog 53 #[v, v'] w (RetB w (decide (zs = ys))) := by
  obtain ⟨ao, cap, rfl, hc, hz⟩ := hv
  obtain ⟨ao', cap', rfl, hc', hz'⟩ := hv'
  by_cases hl : zs.length = ys.length
  · have hb : ((zs.length : Int) != (ys.length : Int)) = false := by simp [hl]
    by_cases hzs : 0 < zs.length
    · rcases hz with h0 | ⟨b, off, rfl, hlo, hcell⟩
      · omega
      rcases hz' with h0 | ⟨b', off', rfl, hlo', hcell'⟩
      · omega
      have HC := Lib.hid hcell; clear hcell
      have HC' := Lib.hid hcell'; clear hcell'
      have HL := Lib.hid hl
      have hl1 : zs.length ≤ ys.length := by omega
      have hl2 : ys.length ≤ zs.length := by omega
      clear hl
      go_enter Try.func53, Try.ntmps53
      go_wp2
      go_loopw [5] (fun i wr => ∃ k : Nat, k ≤ zs.length ∧ i = .int .i64 k ∧ Hid (zs.take k = ys.take k) ∧ Below w.heap.size w wr) (fun i _ => zs.length - (intOf i).toNat)
      case atStart => exact ⟨0, Nat.zero_le _, rfl, rfl, Below.refl _ _⟩
      case round =>
        obtain ⟨k, hk, rfl, ht, hb1⟩ := hrel
        by_cases hlt : k < zs.length
        · have hk2 : k < ys.length := by omega
          obtain ⟨c0, c1⟩ := HC.out k hlt
          obtain ⟨e0, e1⟩ := HC'.out k hk2
          have d0 := Carries.of lo hb1 _ _ hlo c0
          have d1 := Carries.of lo hb1 _ _ hlo c1
          have d2 := Carries.of lo' hb1 _ _ hlo' e0
          have d3 := Carries.of lo' hb1 _ _ hlo' e1
          clear c0 c1 e0 e1
          have HD : Hid (decide ((lbS zs k, lbU zs k) = (lbS ys k, lbU ys k)) = decide (zs[k] = ys[k])) := by rw [lab_getD hlt, lab_getD hk2]; exact rfl
          go_wp2
          go_still_tail 8, (by kernel_rfl)
          change wpList _ _ _ _ _ wr.drew
          go_wp2_with fail
          refine (eqLabel_any _ _ _ _ _).mono ?_
          rintro e w1 ⟨rfl, hb2⟩
          have hw1 : Below w.heap.size w w1 := by
            refine Below.trans ?_ (hb2.mono ?_)
            · (repeat' (first | (with_reducible exact Below.refl _ _) | (with_reducible assumption) | (with_reducible refine Below.alloc ?_ ?_ _) | (with_reducible refine Below.drew ?_) | (with_reducible refine below_drewN ?_ _) | (with_reducible refine Below.setCell ?_ ?_ _) | go_size))
            · simpa using hb1.size
          rw [HD.out]
          cases hd : decide (zs[k] = ys[k]) with
          | false =>
            have hne : ¬ zs[k] = ys[k] := of_decide_eq_false hd
            have hfin : Hid (decide (zs = ys) = false) := decide_eq_false (list_ne_of hlt hk2 hne)
            clear hd hne
            go_wp2_with fail
            go_ret
            refine ⟨?_, hw1⟩
            rw [hfin.out]; rfl
          | true =>
            have hs := Lib.hid (take_succ_of hlt hk2 ht.out (of_decide_eq_true hd))
            clear hd
            go_wp2_with fail
            go_roundw
            case rel => exact ⟨k + 1, by omega, by go_num, hs, hw1⟩
            case measure => simp [intOf]; omega
        · go_wp2
          go_ret
          refine ⟨?_, hb1⟩
          have h1 := ht.out
          rw [List.take_of_length_le (by omega), List.take_of_length_le (by omega)] at h1
          simp [h1]
    · have hz0 : zs = [] := List.eq_nil_of_length_eq_zero (by omega)
      have hy0 : ys = [] := List.eq_nil_of_length_eq_zero (by omega)
      subst hz0; subst hy0
      simp only [List.length_nil]
      clear hz hz' hc hc' hb hl hzs hn hn'
      go_enter Try.func53, Try.ntmps53
      go_wp2
      go_rounds 1
      go_ret
      exact ⟨rfl, Below.refl _ _⟩
  · have hb : ((zs.length : Int) != (ys.length : Int)) = true := by rw [bne_iff_ne]; omega
    have hd : decide (zs = ys) = false := by rw [decide_eq_false_iff_not]; rintro rfl; exact hl rfl
    rw [hd]; clear hd
    clear hz hz'
    go_enter Try.func53, Try.ntmps53
    go_wp2
    go_ret
    exact ⟨rfl, Below.refl _ _⟩



end Go.Proofs.Ytigkgfdnnfmmmaa
