/- WALKS: szStringS, eqStringS of the laws. -/
import Derived.Test.YtnmoocgocnjdjaaVRgat
import Derived.Test.YtnmoocgocnjdjaaVSigbs
namespace Go.Proofs.Ytnmoocgocnjdjaa
open Go.RowKit

set_option maxHeartbeats 400000 in
theorem szStringS_any (v : Value) (ss : List ByteArray) (left : Int) (w : World) (lo : Nat) (hv : TextsAt lo w v ss) (h0 : 0 ≤ left) (h1 : left ≤ 1048576) (hok : OkTexts ss) :
    Calls Try.prog 56 #[v, .int .i64 left] w (RetSz w left (SmallTexts ss)) := by
  obtain ⟨ao, cap, rfl, hc, hz⟩ := hv
  obtain ⟨hn, hsm⟩ := hok
  have HF := Lib.hid hz; clear hz
  have HS := Lib.hid hsm; clear hsm
  go_enter Try.func56, Try.ntmps56
  by_cases hlt0 : left < ss.length
  · go_wp2_with fail
    go_ret
    exact ⟨_, rfl, Or.inl rfl, Below.refl _ _⟩
  go_wp2_with fail
  go_loopw [1, 5] (fun l i wr => ∃ (k : Nat) (r : Int), k ≤ ss.length ∧ i = .int .i64 k ∧ l = .int .i64 r ∧ 0 ≤ r ∧ r ≤ left ∧ Hid (∀ i, i < k → (stN ss i).size ≤ 1048576) ∧ Below w.heap.size w wr) (fun _ i _ => ss.length - (intOf i).toNat)
  case atStart =>
    exact ⟨0, left - ss.length, Nat.zero_le _, rfl, rfl, by omega, by omega, fun i hi => absurd hi (Nat.not_lt_zero _), Below.refl _ _⟩
  case round =>
    obtain ⟨k, r, hk, rfl, rfl, g0, g1, hall, hb1⟩ := hrel
    by_cases hlt : k < ss.length
    · rcases HF.out with h0 | ⟨b, off, rfl, hlo, hcell⟩
      · omega
      have d0 := Carries.of lo hb1 _ _ hlo (hcell k hlt)
      have hk1 := HS.out k hlt
      clear hcell
      by_cases hq : r < (stN ss k).size
      · go_wp2_with fail
        go_ret
        exact ⟨_, rfl, Or.inl rfl, by (repeat' (first | (with_reducible exact Below.refl _ _) | (with_reducible assumption) | (with_reducible refine Below.alloc ?_ ?_ _) | (with_reducible refine Below.drew ?_) | (with_reducible refine below_drewN ?_ _) | (with_reducible refine Below.setCell ?_ ?_ _) | go_size))⟩
      · have H2 : Hid (∀ i, i < k + 1 → (stN ss i).size ≤ 1048576) := by
          intro i hi
          by_cases e : i = k
          · subst e; omega
          · exact hall.out i (by omega)
        go_wp2_with fail
        go_roundw
        case rel => exact ⟨k + 1, r - (stN ss k).size, by omega, by go_num, rfl, by omega, by omega, H2, by (repeat' (first | (with_reducible exact Below.refl _ _) | (with_reducible assumption) | (with_reducible refine Below.alloc ?_ ?_ _) | (with_reducible refine Below.drew ?_) | (with_reducible refine below_drewN ?_ _) | (with_reducible refine Below.setCell ?_ ?_ _) | go_size))⟩
        case measure => simp [intOf]; omega
    · have hkk : k = ss.length := by omega
      subst hkk
      go_wp2_with fail
      go_ret
      exact ⟨_, rfl, Or.inr ⟨g0, g1, by omega, hall.out⟩, hb1⟩

theorem stN_ne {zs ys : List ByteArray} {k : Nat} (he : ¬ stN zs k = stN ys k) : decide (zs = ys) = false := by
  rw [decide_eq_false_iff_not]; rintro rfl; exact he rfl
theorem stN_succ {zs ys : List ByteArray} {k : Nat} (hk : k < zs.length) (hy : k < ys.length) (h : zs.take k = ys.take k) (he : stN zs k = stN ys k) : zs.take (k + 1) = ys.take (k + 1) :=
  take_succ_of hk hy h (by rw [← stN_getD hk, ← stN_getD hy]; exact he)

set_option maxHeartbeats 400000 in
theorem eqStringS_any (v v' : Value) (zs ys : List ByteArray) (w : World) (lo lo' : Nat) (hv : TextsAt lo w v zs) (hv' : TextsAt lo' w v' ys) (hn : zs.length ≤ 1048576) (hm : ys.length ≤ 1048576) :
    Calls Try.prog 66 #[v, v'] w (RetB w (decide (zs = ys))) := by
  obtain ⟨ao, cap, rfl, hc, hz⟩ := hv
  obtain ⟨ao', cap', rfl, hc', hz'⟩ := hv'
  by_cases hl : zs.length = ys.length
  · have hb : ((zs.length : Int) != (ys.length : Int)) = false := by simp [hl]
    by_cases hzs : 0 < zs.length
    · rcases hz with h0 | ⟨b, off, rfl, _, hcell⟩
      · omega
      rcases hz' with h0 | ⟨b', off', rfl, _, hcell'⟩
      · omega
      have HC := Lib.hid hcell; clear hcell
      have HC' := Lib.hid hcell'; clear hcell'
      have HL := Lib.hid hl
      have hl1 : zs.length ≤ ys.length := by omega
      have hl2 : ys.length ≤ zs.length := by omega
      clear hl
      go_enter Try.func66, Try.ntmps66
      go_wp2
      go_loopw [5] (fun i wr => ∃ k : Nat, k ≤ zs.length ∧ i = .int .i64 k ∧ Hid (zs.take k = ys.take k) ∧ Below w.heap.size w wr) (fun i _ => zs.length - (intOf i).toNat)
      case atStart => exact ⟨0, Nat.zero_le _, rfl, rfl, Below.refl _ _⟩
      case round =>
        obtain ⟨k, hk, rfl, ht, hb1⟩ := hrel
        by_cases hlt : k < zs.length
        · have hk2 : k < ys.length := by omega
          have c1 := cell_keep (HC.out k hlt) hb1 (Nat.le_refl _)
          have c2 := cell_keep (HC'.out k hk2) hb1 (Nat.le_refl _)
          by_cases heq : stN zs k = stN ys k
          · have hs := Lib.hid (stN_succ hlt hk2 ht.out heq)
            have hne : ((stN zs k).toList == (stN ys k).toList) = true := by rw [bytes_toList_beq, decide_eq_true heq]
            have HE := Lib.hid heq; clear heq
            go_wp2
            go_quiet (fail)
            go_wp2
            go_roundw
            case rel => exact ⟨k + 1, by omega, by go_num, hs, below_drewN hb1 _⟩
            case measure => simp [intOf]; omega
          · have hfin := Lib.hid (stN_ne heq)
            have hne : ((stN zs k).toList == (stN ys k).toList) = false := by rw [bytes_toList_beq, decide_eq_false heq]
            have HE := Lib.hid heq; clear heq
            go_wp2
            go_quiet (fail)
            go_wp2
            go_ret
            exact ⟨by rw [hfin.out]; rfl, below_drewN hb1 _⟩
        · go_wp2
          go_ret
          refine ⟨?_, hb1⟩
          have h1 := ht.out
          rw [List.take_of_length_le (by omega), List.take_of_length_le (by omega)] at h1
          simp [h1]
    · have hz0 : zs = [] := List.eq_nil_of_length_eq_zero (by omega)
      have hy0 : ys = [] := List.eq_nil_of_length_eq_zero (by omega)
      subst hz0; subst hy0
      simp only [List.length_nil]
      clear hz hz' hc hc' hb hl hzs hn hm
      go_enter Try.func66, Try.ntmps66
      go_wp2
      go_rounds 1
      go_ret
      exact ⟨rfl, Below.refl _ _⟩
  · have hb : ((zs.length : Int) != (ys.length : Int)) = true := by rw [bne_iff_ne]; omega
    have hd : decide (zs = ys) = false := by rw [decide_eq_false_iff_not]; rintro rfl; exact hl rfl
    rw [hd]; clear hd
    clear hz hz'
    go_enter Try.func66, Try.ntmps66
    go_wp2
    go_ret
    exact ⟨rfl, Below.refl _ _⟩

end Go.Proofs.Ytnmoocgocnjdjaa
