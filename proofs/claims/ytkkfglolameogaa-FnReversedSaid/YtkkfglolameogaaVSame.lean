/- PLAIN PART: the reversed net undoes a firing without self-loops.
   WALK: sameInts of the laws. -/
import Derived.Test.YtkkfglolameogaaVFaid
import Derived.Test.YtkkfglolameogaaVRevb
import Derived.Test.YtkkfglolameogaaVApp
import Derived.Deep.QuietTactic
import Derived.BigQuiet
namespace Go.Proofs.Ytkkfglolameogaa
open Go.RowKit

theorem inT_rev (n : NetD) (t : Int) : inT ⟨n.places, revTs n.ts⟩ t = inT n t := by unfold inT; simp only [revTs_length]
theorem trOf_rev {n : NetD} {t : Int} (h : inT n t = true) : trOf ⟨n.places, revTs n.ts⟩ t = ((trOf n t).2, (trOf n t).1) := by
  have h' : 0 ≤ t ∧ t < n.ts.length := of_decide_eq_true h
  unfold trOf
  exact revTs_get (by omega)
theorem markB_rev (n : NetD) (s : ByteArray) : markB ⟨n.places, revTs n.ts⟩ s = markB n s := rfl
/-- no place of the list lies in the other -/
def loopB (X : Tr) : Bool := X.1.any (hasB X.2)
theorem loopB_false {X : Tr} (h : loopB X = false) : ∀ x, x ∈ X.1 → x ∉ X.2 := by
  unfold loopB at h
  rw [List.any_eq_false] at h
  intro x hx hy
  exact h x hx (decide_eq_true hy)
theorem fire_back_ok {n : NetD} {s : ByteArray} {t : Int} (h : fireOk n s t = true) (hr : goodN ⟨n.places, revTs n.ts⟩ = true) (hl : loopB (trOf n t) = false) : fireOk ⟨n.places, revTs n.ts⟩ (bstr (fireS n s t)) t = true := by
  obtain ⟨hg, hm, ht, hrd, hp, _⟩ := fire_all h
  have ap := loopB_false hl
  have sz : (s.size : Int) = n.places := mark_size hm
  have htr : inT ⟨n.places, revTs n.ts⟩ t = true := by rw [inT_rev]; exact ht
  have szm : (bstr (fireS n s t)).size = s.size := by rw [bstr_size, fired_length h]
  have e0 := trOf_rev ht
  refine fire_mk hr (by rw [markB_rev]; exact fired_mark h) htr ?_ ?_
  · rw [bytes_bstr, e0]
    unfold readyB
    rw [List.all_eq_true]
    intro p hp1
    obtain ⟨p0, p1⟩ := (tr_in hg ht).2 p hp1
    obtain ⟨q, rfl⟩ := Int.eq_ofNat_of_zero_le p0
    simp only [Int.toNat_natCast]
    rw [fired_at h (by omega), if_pos hp1]; rfl
  · unfold postB
    rw [List.all_eq_true]
    intro p hp1
    have hp2 : p ∈ (trOf n t).1 := by rw [e0] at hp1; exact hp1
    obtain ⟨p0, p1⟩ := (tr_in hg ht).1 p hp2
    obtain ⟨q, rfl⟩ := Int.eq_ofNat_of_zero_le p0
    simp only [Int.toNat_natCast]
    rw [rest_at hr htr (by omega), e0]
    simp only
    rw [if_neg (ap _ hp2), bytes_bstr, fired_at h (by omega), if_neg (ap _ hp2), if_pos hp2]; rfl
theorem fire_back {n : NetD} {s : ByteArray} {t : Int} (h : fireOk n s t = true) (hr : goodN ⟨n.places, revTs n.ts⟩ = true) (hl : loopB (trOf n t) = false) : bstr (fireS ⟨n.places, revTs n.ts⟩ (bstr (fireS n s t)) t) = s := by
  have k := fire_back_ok h hr hl
  obtain ⟨hg, hm, ht, hrd, hp, _⟩ := fire_all h
  have ap := loopB_false hl
  have sz : (s.size : Int) = n.places := mark_size hm
  have szm : (bstr (fireS n s t)).size = s.size := by rw [bstr_size, fired_length h]
  have e0 := trOf_rev ht
  have hd := mark_dig hm
  rw [show s = bstr (bytes s) from (bstr_bytes s).symm]
  have hb : fireS ⟨n.places, revTs n.ts⟩ (bstr (fireS n s t)) t = bytes s := by
    refine bytes_ext (by rw [fired_length k, szm, bytes_length]) fun i hi => ?_
    rw [fired_length k, szm] at hi
    rw [fired_at k (by rw [szm]; exact hi), e0]
    simp only
    by_cases h1 : (i : Int) ∈ (trOf n t).1
    · rw [if_pos h1]
      unfold readyB at hrd
      rw [List.all_eq_true] at hrd
      have := hrd _ h1
      simp only [Int.toNat_natCast, beq_iff_eq] at this
      exact this.symm
    · rw [if_neg h1]
      by_cases h2 : (i : Int) ∈ (trOf n t).2
      · rw [if_pos h2]
        unfold postB at hp
        rw [List.all_eq_true] at hp
        have := hp _ h2
        simp only [Int.toNat_natCast] at this
        rw [rest_at hg ht hi, if_neg h1] at this
        rcases hd i (by rw [bytes_length]; exact hi) with c | c
        · exact c.symm
        · rw [c] at this; exact absurd this (by decide)
      · rw [if_neg h2, bytes_bstr, fired_at h hi, if_neg h2, if_neg h1]
  rw [bstr_bytes, hb, bstr_bytes]

end Go.Proofs.Ytkkfglolameogaa

namespace Go.Proofs.Ytkkfglolameogaa
open Go.RowKit

set_option maxHeartbeats 400000 in
theorem sameInts_eq (v v' : Value) (zs ys : List Int) (w : World) (lo lo' : Nat) (hv : IntsAt lo w v zs) (hv' : IntsAt lo' w v' ys) (hn : zs.length ≤ 4611686018427387904) (hm : ys.length ≤ 4611686018427387904) :
    Calls Try.prog 47 #[v, v'] w (fun e w' => e = .returned (.bool (decide (zs = ys))) ∧ ∃ m, w' = w.drewN m) := by
  obtain ⟨ao, cap, rfl, hc, hz⟩ := hv
  obtain ⟨ao', cap', rfl, hc', hz'⟩ := hv'
  by_cases hl : zs.length = ys.length
  · have hb : ((zs.length : Int) != (ys.length : Int)) = false := by simp [hl]
    by_cases hzs : 0 < zs.length
    · rcases hz with rfl | ⟨b, off, rfl, _, hcell⟩
      · simp at hzs
      rcases hz' with rfl | ⟨b', off', rfl, _, hcell'⟩
      · simp at hl; simp [hl] at hzs
      have HC := Lib.hid hcell; clear hcell
      have HC' := Lib.hid hcell'; clear hcell'
      have HL := Lib.hid hl
      have hl1 : zs.length ≤ ys.length := by omega
      have hl2 : ys.length ≤ zs.length := by omega
      clear hl
      go_enter Try.func47, Try.ntmps47
      go_wp2
      go_loopw [13] (fun i wr => ∃ k : Nat, k ≤ zs.length ∧ i = .int .i64 k ∧ Hid (zs.take k = ys.take k) ∧ ∃ q, wr = w.drewN q) (fun i _ => zs.length - (intOf i).toNat)
      case atStart => exact ⟨0, Nat.zero_le _, rfl, rfl, 0, rfl⟩
      case round =>
        obtain ⟨k, hk, rfl, ht, q, rfl⟩ := hrel
        by_cases hlt : k < zs.length
        · have hk2 : k < ys.length := by omega
          have c1 := HC.out k hlt
          have c2 := HC'.out k hk2
          go_wp2
          go_quiet (fail)
          go_wp2
          · have hne : (zs[k] != ys[k]) = true := by assumption
            go_ret
            refine ⟨?_, _, by first | exact World.drewN_drewN _ _ _ | rfl⟩
            rw [ne_of_getD (k := k) (by rw [getD_eq hlt, getD_eq hk2]; simpa using hne)]; rfl
          · have heq : (zs[k] != ys[k]) = false := by assumption
            have hs := Lib.hid (take_eq_succ hlt hk2 ht.out (by rw [getD_eq hlt, getD_eq hk2]; simpa using heq))
            go_roundw
            case rel => exact ⟨k + 1, by omega, by go_num, hs, _, rfl⟩
            case measure => simp [intOf]; omega
        · go_wp2
          go_ret
          refine ⟨?_, q, rfl⟩
          have h1 := ht.out
          rw [List.take_of_length_le (by omega), List.take_of_length_le (by omega)] at h1
          simp [h1]
    · have hz0 : zs = [] := List.eq_nil_of_length_eq_zero (by omega)
      have hy0 : ys = [] := List.eq_nil_of_length_eq_zero (by omega)
      subst hz0; subst hy0
      simp only [List.length_nil]
      clear hz hz' hc hc' hb hl hzs
      go_enter Try.func47, Try.ntmps47
      go_wp2
      go_rounds 1
      go_ret
      exact ⟨rfl, 0, rfl⟩
  · have hb : ((zs.length : Int) != (ys.length : Int)) = true := by rw [bne_iff_ne]; omega
    have hd : decide (zs = ys) = false := by rw [decide_eq_false_iff_not]; rintro rfl; exact hl rfl
    rw [hd]; clear hd
    go_enter Try.func47, Try.ntmps47
    go_wp2
    go_ret
    exact ⟨rfl, 0, rfl⟩

/-- of one list and itself -/
theorem sameInts_self (v v' : Value) (zs : List Int) (w : World) (lo lo' : Nat) (hv : IntsAt lo w v zs) (hv' : IntsAt lo' w v' zs) (hn : zs.length ≤ 4611686018427387904) :
    Calls Try.prog 47 #[v, v'] w (fun e w' => e = .returned (.bool true) ∧ ∃ m, w' = w.drewN m) := by
  have h := sameInts_eq v v' zs zs w lo lo' hv hv' hn hn
  rwa [show decide (zs = zs) = true from decide_eq_true rfl] at h

end Go.Proofs.Ytkkfglolameogaa
