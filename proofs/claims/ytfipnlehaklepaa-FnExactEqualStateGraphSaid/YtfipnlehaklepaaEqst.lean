/-
  WALKS: slices.Equal at strings; l1SameS.
-/
import Derived.Test.YtfipnlehaklepaaRgb
namespace Go.Proofs.Ytfipnlehaklepaa
open Go.RowKit

set_option maxRecDepth 100000 in
set_option maxHeartbeats 1000000 in
theorem slEqStr_any (v v' : Value) (zs ys : List ByteArray) (w : World) (lo lo' : Nat) (hv : TextsAt lo w v zs) (hv' : TextsAt lo' w v' ys) (hn : zs.length ≤ 1048576) (hn' : ys.length ≤ 1048576) :
    Calls Try.prog 76 #[v, v'] w (RetB w (decide (zs = ys))) := by
  obtain ⟨ao, cap, rfl, hc, hz⟩ := hv
  obtain ⟨ao', cap', rfl, hc', hz'⟩ := hv'
  by_cases hl : zs.length = ys.length
  · have hb : ((zs.length : Int) != (ys.length : Int)) = false := by simp [hl]
    by_cases hzs : 0 < zs.length
    · rcases hz with h0 | ⟨b, off, rfl, hlo, hcell⟩
      · omega
      rcases hz' with h0 | ⟨b', off', rfl, hlo', hcell'⟩
      · omega
      have HC := Lib.hid hcell; clear hcell
      have HC' := Lib.hid hcell'; clear hcell'
      have HL := Lib.hid hl
      have hl1 : zs.length ≤ ys.length := by omega
      have hl2 : ys.length ≤ zs.length := by omega
      clear hl
      go_enter Try.func76, Try.ntmps76
      go_wp2
      go_loopw [13] (fun i wr => ∃ k : Nat, k ≤ zs.length ∧ i = .int .i64 k ∧ Hid (zs.take k = ys.take k) ∧ Below w.heap.size w wr) (fun i _ => zs.length - (intOf i).toNat)
      case atStart => exact ⟨0, Nat.zero_le _, rfl, rfl, Below.refl _ _⟩
      case round =>
        obtain ⟨k, hk, rfl, ht, hb1⟩ := hrel
        by_cases hlt : k < zs.length
        · have hk2 : k < ys.length := by omega
          have d0 := Carries.of lo hb1 _ _ hlo (HC.out k hlt)
          have d1 := Carries.of lo' hb1 _ _ hlo' (HC'.out k hk2)
          have HZ := Lib.hid (stN_getD hlt)
          have HY := Lib.hid (stN_getD hk2)
          generalize stN zs k = x0 at d0 HZ
          generalize stN ys k = y0 at d1 HY
          by_cases q0 : x0 = y0
          · subst q0
            have hs := Lib.hid (take_succ_of hlt hk2 ht.out (by rw [← HZ.out, ← HY.out]))
            have t0 : (x0.toList == x0.toList) = true := by simp
            go_wp2
            go_quiet (fail)
            go_wp2
            go_roundw
            case rel => exact ⟨k + 1, by omega, by go_num, hs, below_drewN hb1 _⟩
            case measure => simp [intOf]; omega
          · have hfin : Hid (decide (zs = ys) = false) := decide_eq_false (list_ne_of hlt hk2 (by rw [← HZ.out, ← HY.out]; exact q0))
            have t0 : (x0.toList == y0.toList) = false := by rw [bytes_toList_beq]; exact decide_eq_false q0
            go_wp2
            go_quiet (fail)
            go_wp2
            go_ret
            refine ⟨?_, below_drewN hb1 _⟩
            rw [hfin.out]; rfl
        · go_wp2
          go_ret
          refine ⟨?_, hb1⟩
          have h1 := ht.out
          rw [List.take_of_length_le (by omega), List.take_of_length_le (by omega)] at h1
          simp [h1]
    · have hz0 : zs = [] := List.eq_nil_of_length_eq_zero (by omega)
      have hy0 : ys = [] := List.eq_nil_of_length_eq_zero (by omega)
      subst hz0; subst hy0
      simp only [List.length_nil]
      clear hz hz' hc hc' hb hl hzs hn hn'
      go_enter Try.func76, Try.ntmps76
      go_wp2
      go_rounds 1
      go_ret
      exact ⟨rfl, Below.refl _ _⟩
  · have hb : ((zs.length : Int) != (ys.length : Int)) = true := by rw [bne_iff_ne]; omega
    have hd : decide (zs = ys) = false := by rw [decide_eq_false_iff_not]; rintro rfl; exact hl rfl
    rw [hd]; clear hd
    clear hz hz'
    go_enter Try.func76, Try.ntmps76
    go_wp2
    go_ret
    exact ⟨rfl, Below.refl _ _⟩

set_option maxRecDepth 100000 in
set_option maxHeartbeats 1000000 in
theorem l1SameS_any (v v' : Value) (zs ys : List ByteArray) (w : World) (lo lo' : Nat) (hv : TextsAt lo w v zs) (hv' : TextsAt lo' w v' ys) (hn : zs.length ≤ 1048576) (hn' : ys.length ≤ 1048576) :
    Calls Try.prog 74 #[v, v'] w (RetB w (decide (zs = ys))) := by
  obtain ⟨ao, cap, rfl, hc, hz⟩ := hv
  obtain ⟨ao', cap', rfl, hc', hz'⟩ := hv'
  by_cases hl : zs.length = ys.length
  · have hb : ((zs.length : Int) != (ys.length : Int)) = false := by simp [hl]
    by_cases hzs : 0 < zs.length
    · rcases hz with h0 | ⟨b, off, rfl, hlo, hcell⟩
      · omega
      rcases hz' with h0 | ⟨b', off', rfl, hlo', hcell'⟩
      · omega
      have HC := Lib.hid hcell; clear hcell
      have HC' := Lib.hid hcell'; clear hcell'
      have HL := Lib.hid hl
      have hl1 : zs.length ≤ ys.length := by omega
      have hl2 : ys.length ≤ zs.length := by omega
      clear hl
      go_enter Try.func74, Try.ntmps74
      go_wp2
      go_loopw [13] (fun i wr => ∃ k : Nat, k ≤ zs.length ∧ i = .int .i64 k ∧ Hid (zs.take k = ys.take k) ∧ Below w.heap.size w wr) (fun i _ => zs.length - (intOf i).toNat)
      case atStart => exact ⟨0, Nat.zero_le _, rfl, rfl, Below.refl _ _⟩
      case round =>
        obtain ⟨k, hk, rfl, ht, hb1⟩ := hrel
        by_cases hlt : k < zs.length
        · have hk2 : k < ys.length := by omega
          have d0 := Carries.of lo hb1 _ _ hlo (HC.out k hlt)
          have d1 := Carries.of lo' hb1 _ _ hlo' (HC'.out k hk2)
          have HZ := Lib.hid (stN_getD hlt)
          have HY := Lib.hid (stN_getD hk2)
          generalize stN zs k = x0 at d0 HZ
          generalize stN ys k = y0 at d1 HY
          by_cases q0 : x0 = y0
          · subst q0
            have hs := Lib.hid (take_succ_of hlt hk2 ht.out (by rw [← HZ.out, ← HY.out]))
            have t0 : (x0.toList == x0.toList) = true := by simp
            go_wp2
            go_quiet (fail)
            go_wp2
            go_roundw
            case rel => exact ⟨k + 1, by omega, by go_num, hs, below_drewN hb1 _⟩
            case measure => simp [intOf]; omega
          · have hfin : Hid (decide (zs = ys) = false) := decide_eq_false (list_ne_of hlt hk2 (by rw [← HZ.out, ← HY.out]; exact q0))
            have t0 : (x0.toList == y0.toList) = false := by rw [bytes_toList_beq]; exact decide_eq_false q0
            go_wp2
            go_quiet (fail)
            go_wp2
            go_ret
            refine ⟨?_, below_drewN hb1 _⟩
            rw [hfin.out]; rfl
        · go_wp2
          go_ret
          refine ⟨?_, hb1⟩
          have h1 := ht.out
          rw [List.take_of_length_le (by omega), List.take_of_length_le (by omega)] at h1
          simp [h1]
    · have hz0 : zs = [] := List.eq_nil_of_length_eq_zero (by omega)
      have hy0 : ys = [] := List.eq_nil_of_length_eq_zero (by omega)
      subst hz0; subst hy0
      simp only [List.length_nil]
      clear hz hz' hc hc' hb hl hzs hn hn'
      go_enter Try.func74, Try.ntmps74
      go_wp2
      go_rounds 1
      go_ret
      exact ⟨rfl, Below.refl _ _⟩
  · have hb : ((zs.length : Int) != (ys.length : Int)) = true := by rw [bne_iff_ne]; omega
    have hd : decide (zs = ys) = false := by rw [decide_eq_false_iff_not]; rintro rfl; exact hl rfl
    rw [hd]; clear hd
    clear hz hz'
    go_enter Try.func74, Try.ntmps74
    go_wp2
    go_ret
    exact ⟨rfl, Below.refl _ _⟩

end Go.Proofs.Ytfipnlehaklepaa
