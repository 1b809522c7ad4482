/-
  WALKS: slices.Equal at signals; l2SameSignals.
-/
import Derived.Test.YtfipnlehaklepaaSigb
namespace Go.Proofs.Ytfipnlehaklepaa
open Go.RowKit

set_option maxRecDepth 100000 in
set_option maxHeartbeats 1000000 in
theorem slEqSig_any (v v' : Value) (zs ys : List Sig) (w : World) (lo lo' : Nat) (hv : SigsAt lo w v zs) (hv' : SigsAt lo' w v' ys) (hn : zs.length ≤ 1048576) (hn' : ys.length ≤ 1048576) :
    Calls Try.prog 75 #[v, v'] w (RetB w (decide (zs = ys))) := by
  obtain ⟨ao, cap, rfl, hc, hz⟩ := hv
  obtain ⟨ao', cap', rfl, hc', hz'⟩ := hv'
  by_cases hl : zs.length = ys.length
  · have hb : ((zs.length : Int) != (ys.length : Int)) = false := by simp [hl]
    by_cases hzs : 0 < zs.length
    · rcases hz with h0 | ⟨b, off, rfl, hlo, hcell⟩
      · omega
      rcases hz' with h0 | ⟨b', off', rfl, hlo', hcell'⟩
      · omega
      have HC := Lib.hid hcell; clear hcell
      have HC' := Lib.hid hcell'; clear hcell'
      have HL := Lib.hid hl
      have hl1 : zs.length ≤ ys.length := by omega
      have hl2 : ys.length ≤ zs.length := by omega
      clear hl
      go_enter Try.func75, Try.ntmps75
      go_wp2
      go_loopw [13] (fun i wr => ∃ k : Nat, k ≤ zs.length ∧ i = .int .i64 k ∧ Hid (zs.take k = ys.take k) ∧ Below w.heap.size w wr) (fun i _ => zs.length - (intOf i).toNat)
      case atStart => exact ⟨0, Nat.zero_le _, rfl, rfl, Below.refl _ _⟩
      case round =>
        obtain ⟨k, hk, rfl, ht, hb1⟩ := hrel
        by_cases hlt : k < zs.length
        · have hk2 : k < ys.length := by omega
          obtain ⟨c0, c1⟩ := HC.out k hlt
          obtain ⟨e0, e1⟩ := HC'.out k hk2
          have d0 := Carries.of lo hb1 _ _ hlo c0
          have d1 := Carries.of lo hb1 _ _ hlo c1
          have d2 := Carries.of lo' hb1 _ _ hlo' e0
          have d3 := Carries.of lo' hb1 _ _ hlo' e1
          clear c0 c1 e0 e1
          have HZ := Lib.hid (sig_getD hlt)
          have HY := Lib.hid (sig_getD hk2)
          try dsimp only at d0 d1 d2 d3
          generalize sgN zs k = x0 at d0 HZ
          generalize sgK zs k = x1 at d1 HZ
          generalize sgN ys k = y0 at d2 HY
          generalize sgK ys k = y1 at d3 HY
          by_cases q0 : x0 = y0
          · subst q0
            by_cases q1 : x1 = y1
            · subst q1
              have hs := Lib.hid (take_succ_of hlt hk2 ht.out (by rw [← HZ.out, ← HY.out]))
              go_wp2
              go_quiet (fail)
              go_wp2
              go_roundw
              case rel => exact ⟨k + 1, by omega, by go_num, hs, below_drewN hb1 _⟩
              case measure => simp [intOf]; omega
            · have hfin : Hid (decide (zs = ys) = false) := decide_eq_false (list_ne_of hlt hk2 (by rw [← HZ.out, ← HY.out]; simpa using q1))
              have t1 : (x1 == y1) = false := by simpa using q1
              go_wp2
              go_quiet (fail)
              go_wp2
              go_ret
              refine ⟨?_, below_drewN hb1 _⟩
              rw [hfin.out]; rfl
          · have hfin : Hid (decide (zs = ys) = false) := decide_eq_false (list_ne_of hlt hk2 (by rw [← HZ.out, ← HY.out]; simp [q0]))
            have t0 : (x0.toList == y0.toList) = false := by rw [bytes_toList_beq]; exact decide_eq_false q0
            go_wp2
            go_quiet (fail)
            go_wp2
            go_ret
            refine ⟨?_, below_drewN hb1 _⟩
            rw [hfin.out]; rfl
        · go_wp2
          go_ret
          refine ⟨?_, hb1⟩
          have h1 := ht.out
          rw [List.take_of_length_le (by omega), List.take_of_length_le (by omega)] at h1
          simp [h1]
    · have hz0 : zs = [] := List.eq_nil_of_length_eq_zero (by omega)
      have hy0 : ys = [] := List.eq_nil_of_length_eq_zero (by omega)
      subst hz0; subst hy0
      simp only [List.length_nil]
      clear hz hz' hc hc' hb hl hzs hn hn'
      go_enter Try.func75, Try.ntmps75
      go_wp2
      go_rounds 1
      go_ret
      exact ⟨rfl, Below.refl _ _⟩
  · have hb : ((zs.length : Int) != (ys.length : Int)) = true := by rw [bne_iff_ne]; omega
    have hd : decide (zs = ys) = false := by rw [decide_eq_false_iff_not]; rintro rfl; exact hl rfl
    rw [hd]; clear hd
    clear hz hz'
    go_enter Try.func75, Try.ntmps75
    go_wp2
    go_ret
    exact ⟨rfl, Below.refl _ _⟩

set_option maxRecDepth 100000 in
set_option maxHeartbeats 1000000 in
theorem l2SameSignals_any (v v' : Value) (zs ys : List Sig) (w : World) (lo lo' : Nat) (hv : SigsAt lo w v zs) (hv' : SigsAt lo' w v' ys) (hn : zs.length ≤ 1048576) (hn' : ys.length ≤ 1048576) :
    Calls Try.prog 73 #[v, v'] w (RetB w (decide (zs = ys))) := by
  obtain ⟨ao, cap, rfl, hc, hz⟩ := hv
  obtain ⟨ao', cap', rfl, hc', hz'⟩ := hv'
  by_cases hl : zs.length = ys.length
  · have hb : ((zs.length : Int) != (ys.length : Int)) = false := by simp [hl]
    by_cases hzs : 0 < zs.length
    · rcases hz with h0 | ⟨b, off, rfl, hlo, hcell⟩
      · omega
      rcases hz' with h0 | ⟨b', off', rfl, hlo', hcell'⟩
      · omega
      have HC := Lib.hid hcell; clear hcell
      have HC' := Lib.hid hcell'; clear hcell'
      have HL := Lib.hid hl
      have hl1 : zs.length ≤ ys.length := by omega
      have hl2 : ys.length ≤ zs.length := by omega
      clear hl
      go_enter Try.func73, Try.ntmps73
      go_wp2
      go_loopw [13] (fun i wr => ∃ k : Nat, k ≤ zs.length ∧ i = .int .i64 k ∧ Hid (zs.take k = ys.take k) ∧ Below w.heap.size w wr) (fun i _ => zs.length - (intOf i).toNat)
      case atStart => exact ⟨0, Nat.zero_le _, rfl, rfl, Below.refl _ _⟩
      case round =>
        obtain ⟨k, hk, rfl, ht, hb1⟩ := hrel
        by_cases hlt : k < zs.length
        · have hk2 : k < ys.length := by omega
          obtain ⟨c0, c1⟩ := HC.out k hlt
          obtain ⟨e0, e1⟩ := HC'.out k hk2
          have d0 := Carries.of lo hb1 _ _ hlo c0
          have d1 := Carries.of lo hb1 _ _ hlo c1
          have d2 := Carries.of lo' hb1 _ _ hlo' e0
          have d3 := Carries.of lo' hb1 _ _ hlo' e1
          clear c0 c1 e0 e1
          have HZ := Lib.hid (sig_getD hlt)
          have HY := Lib.hid (sig_getD hk2)
          try dsimp only at d0 d1 d2 d3
          generalize sgN zs k = x0 at d0 HZ
          generalize sgK zs k = x1 at d1 HZ
          generalize sgN ys k = y0 at d2 HY
          generalize sgK ys k = y1 at d3 HY
          by_cases q0 : x0 = y0
          · subst q0
            by_cases q1 : x1 = y1
            · subst q1
              have hs := Lib.hid (take_succ_of hlt hk2 ht.out (by rw [← HZ.out, ← HY.out]))
              go_wp2
              go_quiet (fail)
              go_wp2
              go_roundw
              case rel => exact ⟨k + 1, by omega, by go_num, hs, below_drewN hb1 _⟩
              case measure => simp [intOf]; omega
            · have hfin : Hid (decide (zs = ys) = false) := decide_eq_false (list_ne_of hlt hk2 (by rw [← HZ.out, ← HY.out]; simpa using q1))
              have t1 : (x1 == y1) = false := by simpa using q1
              go_wp2
              go_quiet (fail)
              go_wp2
              go_ret
              refine ⟨?_, below_drewN hb1 _⟩
              rw [hfin.out]; rfl
          · have hfin : Hid (decide (zs = ys) = false) := decide_eq_false (list_ne_of hlt hk2 (by rw [← HZ.out, ← HY.out]; simp [q0]))
            have t0 : (x0.toList == y0.toList) = false := by rw [bytes_toList_beq]; exact decide_eq_false q0
            go_wp2
            go_quiet (fail)
            go_wp2
            go_ret
            refine ⟨?_, below_drewN hb1 _⟩
            rw [hfin.out]; rfl
        · go_wp2
          go_ret
          refine ⟨?_, hb1⟩
          have h1 := ht.out
          rw [List.take_of_length_le (by omega), List.take_of_length_le (by omega)] at h1
          simp [h1]
    · have hz0 : zs = [] := List.eq_nil_of_length_eq_zero (by omega)
      have hy0 : ys = [] := List.eq_nil_of_length_eq_zero (by omega)
      subst hz0; subst hy0
      simp only [List.length_nil]
      clear hz hz' hc hc' hb hl hzs hn hn'
      go_enter Try.func73, Try.ntmps73
      go_wp2
      go_rounds 1
      go_ret
      exact ⟨rfl, Below.refl _ _⟩
  · have hb : ((zs.length : Int) != (ys.length : Int)) = true := by rw [bne_iff_ne]; omega
    have hd : decide (zs = ys) = false := by rw [decide_eq_false_iff_not]; rintro rfl; exact hl rfl
    rw [hd]; clear hd
    clear hz hz'
    go_enter Try.func73, Try.ntmps73
    go_wp2
    go_ret
    exact ⟨rfl, Below.refl _ _⟩

end Go.Proofs.Ytfipnlehaklepaa
