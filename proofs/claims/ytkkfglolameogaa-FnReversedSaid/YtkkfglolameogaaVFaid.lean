/- PLAIN PART: what a firing does to each place; two independent transitions fire in either order.
   WALKS: has and big of the laws.
   AIDS to the laws FnFired and FnReversed. -/
import Derived.Test.YtkkfglolameogaaVSeqb
import Derived.Test.YtkkfglolameogaaVApp
import Derived.Deep.QuietTactic
import Derived.BigQuiet
import Derived.Test.YtkkfglolameogaaVDseq
namespace Go.Proofs.Ytkkfglolameogaa
open Go.RowKit

theorem fire_all {n : NetD} {s : ByteArray} {t : Int} (h : fireOk n s t = true) : goodN n = true ∧ markB n s = true ∧ inT n t = true ∧ readyB (bytes s) (trOf n t).1 = true ∧ postB (restB s (trOf n t)) (trOf n t).2 = true ∧ canB n s t = true := by
  have h' := h
  unfold fireOk at h'
  simp only [Bool.and_eq_true] at h'
  have hc := h'.1
  unfold canB at hc
  simp only [Bool.and_eq_true] at hc
  exact ⟨hc.1, hc.2.1, hc.2.2.1, hc.2.2.2, h'.2, h'.1⟩
theorem fire_mk {n : NetD} {s : ByteArray} {t : Int} (h1 : goodN n = true) (h2 : markB n s = true) (h3 : inT n t = true) (h4 : readyB (bytes s) (trOf n t).1 = true) (h5 : postB (restB s (trOf n t)) (trOf n t).2 = true) : fireOk n s t = true := by
  unfold fireOk canB
  rw [h1, h2, h3, h4, h5]; rfl
theorem tr_in {n : NetD} (hg : goodN n = true) {t : Int} (ht : inT n t = true) : (∀ p ∈ (trOf n t).1, 0 ≤ p ∧ p < n.places) ∧ (∀ p ∈ (trOf n t).2, 0 ≤ p ∧ p < n.places) := by
  have ht' : 0 ≤ t ∧ t < n.ts.length := of_decide_eq_true ht
  obtain ⟨_, h2, h3⟩ := (goodN_parts hg).2.2.2 t.toNat (by omega)
  have g2 : InS n.places (trOf n t).1 := riseB_inS h2
  have g3 : InS n.places (trOf n t).2 := riseB_inS h3
  refine ⟨fun p hp => ?_, fun p hp => ?_⟩
  · obtain ⟨i, hi, rfl⟩ := List.mem_iff_getElem.1 hp
    have := g2 i hi; rwa [getD_eq hi] at this
  · obtain ⟨i, hi, rfl⟩ := List.mem_iff_getElem.1 hp
    have := g3 i hi; rwa [getD_eq hi] at this
theorem fired_eq {n : NetD} {s : ByteArray} {t : Int} (h : fireOk n s t = true) : fireS n s t = putAll 49 (restB s (trOf n t)) (trOf n t).2 := by
  obtain ⟨_, _, _, _, hp, hc⟩ := fire_all h
  unfold fireS fired
  rw [if_pos hc, if_pos hp]
theorem fired_length {n : NetD} {s : ByteArray} {t : Int} (h : fireOk n s t = true) : (fireS n s t).length = s.size := by
  rw [fired_eq h, putAll_length]; unfold restB; rw [putAll_length, bytes_length]
theorem rest_at {n : NetD} {s : ByteArray} {t : Int} (hg : goodN n = true) (ht : inT n t = true) {i : Nat} (hi : i < s.size) : (restB s (trOf n t)).getD i 0 = if (i : Int) ∈ (trOf n t).1 then 48 else (bytes s).getD i 0 := by
  unfold restB
  exact putAll_getD 48 _ _ i (fun p hp => ((tr_in hg ht).1 p hp).1) (by rw [bytes_length]; exact hi)
theorem fired_at {n : NetD} {s : ByteArray} {t : Int} (h : fireOk n s t = true) {i : Nat} (hi : i < s.size) : (fireS n s t).getD i 0 = if (i : Int) ∈ (trOf n t).2 then 49 else if (i : Int) ∈ (trOf n t).1 then 48 else (bytes s).getD i 0 := by
  obtain ⟨hg, _, ht, _, _, _⟩ := fire_all h
  rw [fired_eq h, putAll_getD 49 _ _ i (fun p hp => ((tr_in hg ht).2 p hp).1) (by unfold restB; rw [putAll_length, bytes_length]; exact hi), rest_at hg ht hi]
/-- a marked place behind a firing -/
theorem fired_bit {n : NetD} {s : ByteArray} {t : Int} (h : fireOk n s t = true) {i : Nat} (hi : i < s.size) : ((fireS n s t).getD i 0 == 49) = (((bytes s).getD i 0 == 49) && !(hasB (trOf n t).1 i) || hasB (trOf n t).2 i) := by
  rw [fired_at h hi]
  unfold hasB
  by_cases h2 : (i : Int) ∈ (trOf n t).2
  · rw [if_pos h2, decide_eq_true h2]; simp
  · rw [if_neg h2, decide_eq_false h2]
    by_cases h1 : (i : Int) ∈ (trOf n t).1
    · rw [if_pos h1, decide_eq_true h1]; simp
    · rw [if_neg h1, decide_eq_false h1]; simp
theorem apart_of {n : NetD} {t u : Int} (h : indB n t u = true) : ∀ x, x ∈ both (trOf n t) → x ∉ both (trOf n u) := by
  intro x h1 h2
  have hm : meetB (both (trOf n t)) (both (trOf n u)) = true := by
    unfold meetB
    rw [List.any_eq_true]
    exact ⟨x, h1, decide_eq_true h2⟩
  unfold indB at h
  unfold trOf at hm
  rw [hm] at h
  exact absurd h (by simp)
theorem indB_comm (n : NetD) (t u : Int) : indB n t u = indB n u t := by unfold indB; rw [meetB_comm]
theorem fire_then {n : NetD} {s : ByteArray} {t u : Int} (hi : indB n t u = true) (h1 : fireOk n s t = true) (h2 : fireOk n s u = true) : fireOk n (bstr (fireS n s t)) u = true := by
  obtain ⟨hg, hm, ht, hr, hp, _⟩ := fire_all h1
  obtain ⟨_, _, hu, hr2, hp2, _⟩ := fire_all h2
  have ap := apart_of hi
  have sz : (s.size : Int) = n.places := mark_size hm
  have szm : (bstr (fireS n s t)).size = s.size := by rw [bstr_size, fired_length h1]
  have hsame : ∀ i : Nat, i < s.size → (i : Int) ∈ both (trOf n u) → (fireS n s t).getD i 0 = (bytes s).getD i 0 := fun i hi' hx => by
    have hnx : (i : Int) ∉ both (trOf n t) := fun hy => ap _ hy hx
    unfold both at hnx
    rw [List.mem_append, not_or] at hnx
    rw [fired_at h1 hi', if_neg hnx.2, if_neg hnx.1]
  refine fire_mk hg (fired_mark h1) hu ?_ ?_
  · rw [bytes_bstr]
    unfold readyB at hr2 ⊢
    rw [List.all_eq_true] at hr2 ⊢
    intro p hp1
    obtain ⟨p0, p1⟩ := (tr_in hg hu).1 p hp1
    obtain ⟨q, rfl⟩ := Int.eq_ofNat_of_zero_le p0
    have := hr2 _ hp1
    simp only [Int.toNat_natCast] at this ⊢
    rw [hsame q (by omega) (List.mem_append_left _ hp1)]
    exact this
  · unfold postB at hp2 ⊢
    rw [List.all_eq_true] at hp2 ⊢
    intro p hp1
    obtain ⟨p0, p1⟩ := (tr_in hg hu).2 p hp1
    obtain ⟨q, rfl⟩ := Int.eq_ofNat_of_zero_le p0
    have := hp2 _ hp1
    simp only [Int.toNat_natCast] at this ⊢
    rw [rest_at hg hu (by omega)] at this ⊢
    rw [bytes_bstr, hsame q (by omega) (List.mem_append_right _ hp1)]
    exact this
theorem fire_swap {n : NetD} {s : ByteArray} {t u : Int} (hi : indB n t u = true) (h1 : fireOk n s t = true) (h2 : fireOk n s u = true) : fireS n (bstr (fireS n s t)) u = fireS n (bstr (fireS n s u)) t := by
  have k1 := fire_then hi h1 h2
  have k2 := fire_then (indB_comm n t u ▸ hi) h2 h1
  have ap := apart_of hi
  have szt : (bstr (fireS n s t)).size = s.size := by rw [bstr_size, fired_length h1]
  have szu : (bstr (fireS n s u)).size = s.size := by rw [bstr_size, fired_length h2]
  refine bytes_ext (by rw [fired_length k1, fired_length k2, szt, szu]) fun i hi' => ?_
  rw [fired_length k1, szt] at hi'
  rw [fired_at k1 (by rw [szt]; exact hi'), fired_at k2 (by rw [szu]; exact hi'), bytes_bstr, bytes_bstr, fired_at h1 hi', fired_at h2 hi']
  have a := ap (i : Int)
  unfold both at a
  simp only [List.mem_append, not_or] at a
  by_cases t1 : (i : Int) ∈ (trOf n t).1 <;> by_cases t2 : (i : Int) ∈ (trOf n t).2 <;> by_cases u1 : (i : Int) ∈ (trOf n u).1 <;> by_cases u2 : (i : Int) ∈ (trOf n u).2 <;> simp_all

end Go.Proofs.Ytkkfglolameogaa

namespace Go.Proofs.Ytkkfglolameogaa
open Go.RowKit

set_option maxHeartbeats 400000 in
theorem has_eq (v : Value) (zs : List Int) (x : Int) (w : World) (lo : Nat) (hv : IntsAt lo w v zs) (hn : zs.length ≤ 4611686018427387904) :
    Calls Try.prog 38 #[v, .int .i64 x] w (fun e w2 => e = .returned (.bool (hasB zs x)) ∧ w2 = w) := by
  generalize hR : hasB zs x = r
  have HR := Lib.hid hR; clear hR
  obtain ⟨ao, cap, rfl, hc, hz⟩ := hv
  have HF := Lib.hid hz; clear hz
  go_enter Try.func38, Try.ntmps38
  go_wp2_with fail
  go_loop [9] (fun i => ∃ k : Nat, k ≤ zs.length ∧ i = .int .i64 k ∧ Hid (∀ i, i < k → zs.getD i 0 ≠ x)) (fun i => zs.length - (intOf i).toNat)
  case atStart => exact ⟨0, Nat.zero_le _, rfl, fun i hi => absurd hi (Nat.not_lt_zero _)⟩
  case round =>
    obtain ⟨k, hk, rfl, hall⟩ := hrel
    by_cases hlt : k < zs.length
    · rcases HF.out with rfl | ⟨b, off, rfl, hlo, hcell⟩
      · simp at hlt
      have c1 := hcell k hlt
      obtain ⟨y, hy⟩ : ∃ y, y = zs.getD k 0 := ⟨_, rfl⟩
      rw [← hy] at c1
      have HY := Lib.hid hy; clear hy hcell
      by_cases he : y = x
      · have hfin := hasB_true hlt (HY.out.symm.trans he)
        rw [HR.out] at hfin
        subst hfin
        have te : (y == x) = true := by simpa using he
        clear he
        go_wp2_with fail
        go_ret
        exact ⟨rfl, rfl⟩
      · have H2 : Hid (∀ i, i < k + 1 → zs.getD i 0 ≠ x) := by
          intro i hi
          by_cases e : i = k
          · subst e; rw [← HY.out]; exact he
          · exact hall.out i (by omega)
        have te : (y == x) = false := by simpa using he
        clear he
        go_wp2_with fail
        go_round
        case rel => exact ⟨k + 1, by omega, by go_num, H2⟩
        case measure => simp [intOf]; omega
    · have hkk : k = zs.length := by omega
      subst hkk
      have hfin := hasB_false hall.out
      rw [HR.out] at hfin
      subst hfin
      go_wp2_with fail
      go_ret
      exact ⟨rfl, rfl⟩

theorem has_any (v : Value) (zs : List Int) (x : Int) (w : World) (lo : Nat) (hv : IntsAt lo w v zs) (hn : zs.length ≤ 4611686018427387904) :
    Calls Try.prog 38 #[v, .int .i64 x] w (RetB w (hasB zs x)) := by
  refine (has_eq v zs x w lo hv hn).mono ?_
  rintro e w2 ⟨rfl, rfl⟩
  exact ⟨rfl, Below.refl _ _⟩

set_option maxRecDepth 100000 in
set_option maxHeartbeats 400000 in
theorem big_any (a0 a1 : Option Addr) (n0 n1 k0 k1 : Nat) (w : World) (h0 : n0 ≤ 9223372036854775807) (h1 : n1 ≤ 9223372036854775807) :
    Calls Try.prog 31 #[.slice a0 n0 k0, .slice a1 n1 k1] w (RetB w (!decide (n0 + n1 ≤ 1048576))) := by
  by_cases c0 : n0 ≤ 1048576
  · by_cases c1 : n0 + n1 ≤ 1048576
    · rw [decide_eq_true c1]
      have t1 : decide ((1048576 : Int) < (n0 : Int)) = false := decide_eq_false (by omega)
      have t2 : decide ((1048576 : Int) - (n0 : Int) < (n1 : Int)) = false := decide_eq_false (by omega)
      go_enter Try.func31, Try.ntmps31
      go_wp2_with fail
      go_ret
      exact ⟨rfl, by (repeat' (first | (with_reducible exact Below.refl _ _) | (with_reducible assumption) | (with_reducible refine Below.alloc ?_ ?_ _) | (with_reducible refine Below.drew ?_) | (with_reducible refine below_drewN ?_ _) | (with_reducible refine Below.setCell ?_ ?_ _) | go_size))⟩
    · rw [decide_eq_false c1]
      have t1 : decide ((1048576 : Int) < (n0 : Int)) = false := decide_eq_false (by omega)
      have t2 : decide ((1048576 : Int) - (n0 : Int) < (n1 : Int)) = true := decide_eq_true (by omega)
      go_enter Try.func31, Try.ntmps31
      go_wp2_with fail
      go_ret
      exact ⟨rfl, by (repeat' (first | (with_reducible exact Below.refl _ _) | (with_reducible assumption) | (with_reducible refine Below.alloc ?_ ?_ _) | (with_reducible refine Below.drew ?_) | (with_reducible refine below_drewN ?_ _) | (with_reducible refine Below.setCell ?_ ?_ _) | go_size))⟩
  · rw [decide_eq_false (show ¬ n0 + n1 ≤ 1048576 by omega)]
    have t1 : decide ((1048576 : Int) < (n0 : Int)) = true := decide_eq_true (by omega)
    go_enter Try.func31, Try.ntmps31
    go_wp2_with fail
    go_ret
    exact ⟨rfl, by (repeat' (first | (with_reducible exact Below.refl _ _) | (with_reducible assumption) | (with_reducible refine Below.alloc ?_ ?_ _) | (with_reducible refine Below.drew ?_) | (with_reducible refine below_drewN ?_ _) | (with_reducible refine Below.setCell ?_ ?_ _) | go_size))⟩

end Go.Proofs.Ytkkfglolameogaa

namespace Go.Proofs.Ytkkfglolameogaa
open Go.RowKit

theorem NetAt.shape {lo : Nat} {w : World} {P : Int} {u : Value} {ts : List Tr} (h : NetAt lo w (.agg #[.int .i64 P, u]) ⟨P, ts⟩) : ∃ ao cap, u = .slice ao ts.length cap ∧ TrsAt lo w u ts := by
  obtain ⟨_, _, u', hu', ht⟩ := h
  have hu : u = u' := by simpa using hu'
  subst hu
  obtain ⟨ao, cap, e, _⟩ := id ht
  exact ⟨ao, cap, e, ht⟩
theorem SetRow.ints {B k : Nat} {w : World} {v : Value} (h : SetRow B k w v) : ∃ zs : List Int, zs.length ≤ k ∧ IntsAt B w v zs := by
  obtain ⟨zs, hz, hr⟩ := h
  exact ⟨zs, hz, ints_of_owns hr⟩
theorem IntsAt.shape {lo : Nat} {w : World} {v : Value} {zs : List Int} (h : IntsAt lo w v zs) : ∃ ao cap, v = .slice ao zs.length cap := by
  obtain ⟨ao, cap, e, _⟩ := h
  exact ⟨ao, cap, e⟩
theorem byte_bit {s : ByteArray} {k : Nat} (h : k < s.size) : ((s[k].toNat : Int) == 49) = ((bytes s).getD k 0 == 49) := by
  rw [byte_at h]; exact (byte_49 _).symm
theorem NetAt.tr {lo : Nat} {w : World} {P : Int} {ao : Option Addr} {m cap : Nat} {n : NetD} {t : Nat} (h : NetAt lo w (.agg #[.int .i64 P, .slice ao m cap]) n) (ht : t < n.ts.length) :
    ∃ b off x0 x1, ao = some ⟨b, off, none⟩ ∧ w.cell? ⟨b, off + t * 2, none⟩ = some x0 ∧ w.cell? ⟨b, off + t * 2 + 1, none⟩ = some x1 ∧ TrAt lo w x0 x1 (n.ts.getD t ([], [])) := by
  obtain ⟨_, _, u', hu', ⟨ao', cap', hs', _, hz⟩⟩ := h
  have hu2 : P = n.places ∧ Value.slice ao m cap = u' := by simpa using hu'
  obtain ⟨_, rfl⟩ := hu2
  simp only [Value.slice.injEq] at hs'
  obtain ⟨rfl, _, _⟩ := hs'
  rcases hz with hz | ⟨b, off, rfl, _, hcell⟩
  · rw [hz] at ht; exact absurd ht (Nat.not_lt_zero _)
  · obtain ⟨x0, x1, e0, e1, hx⟩ := hcell t ht
    exact ⟨b, off, x0, x1, rfl, e0, e1, hx⟩
theorem CodeIn.over {w w' : World} {v : Value} {n : Nat} (h : CodeIn w.heap.size w v n) (hb : Below w.heap.size w w') : CodeIn w'.heap.size w' v n :=
  (h.keep (fun x hx _ => hb.block x hx)).up hb.size


end Go.Proofs.Ytkkfglolameogaa
