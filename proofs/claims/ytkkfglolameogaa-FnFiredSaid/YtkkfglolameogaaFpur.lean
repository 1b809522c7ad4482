/-
  PLAIN PART: what a firing does to each place; two independent transitions fire in either order.
-/
import Derived.Test.YtkkfglolameogaaSeqb
namespace Go.Proofs.Ytkkfglolameogaa
open Go.RowKit

theorem fire_all {n : NetD} {s : ByteArray} {t : Int} (h : fireOk n s t = true) : goodN n = true ∧ markB n s = true ∧ inT n t = true ∧ readyB (bytes s) (trOf n t).1 = true ∧ postB (restB s (trOf n t)) (trOf n t).2 = true ∧ canB n s t = true := by
  have h' := h
  unfold fireOk at h'
  simp only [Bool.and_eq_true] at h'
  have hc := h'.1
  unfold canB at hc
  simp only [Bool.and_eq_true] at hc
  exact ⟨hc.1, hc.2.1, hc.2.2.1, hc.2.2.2, h'.2, h'.1⟩
theorem fire_mk {n : NetD} {s : ByteArray} {t : Int} (h1 : goodN n = true) (h2 : markB n s = true) (h3 : inT n t = true) (h4 : readyB (bytes s) (trOf n t).1 = true) (h5 : postB (restB s (trOf n t)) (trOf n t).2 = true) : fireOk n s t = true := by
  unfold fireOk canB
  rw [h1, h2, h3, h4, h5]; rfl
theorem tr_in {n : NetD} (hg : goodN n = true) {t : Int} (ht : inT n t = true) : (∀ p ∈ (trOf n t).1, 0 ≤ p ∧ p < n.places) ∧ (∀ p ∈ (trOf n t).2, 0 ≤ p ∧ p < n.places) := by
  have ht' : 0 ≤ t ∧ t < n.ts.length := of_decide_eq_true ht
  obtain ⟨_, h2, h3⟩ := (goodN_parts hg).2.2.2 t.toNat (by omega)
  have g2 : InS n.places (trOf n t).1 := riseB_inS h2
  have g3 : InS n.places (trOf n t).2 := riseB_inS h3
  refine ⟨fun p hp => ?_, fun p hp => ?_⟩
  · obtain ⟨i, hi, rfl⟩ := List.mem_iff_getElem.1 hp
    have := g2 i hi; rwa [getD_eq hi] at this
  · obtain ⟨i, hi, rfl⟩ := List.mem_iff_getElem.1 hp
    have := g3 i hi; rwa [getD_eq hi] at this
theorem fired_eq {n : NetD} {s : ByteArray} {t : Int} (h : fireOk n s t = true) : fireS n s t = putAll 49 (restB s (trOf n t)) (trOf n t).2 := by
  obtain ⟨_, _, _, _, hp, hc⟩ := fire_all h
  unfold fireS fired
  rw [if_pos hc, if_pos hp]
theorem fired_length {n : NetD} {s : ByteArray} {t : Int} (h : fireOk n s t = true) : (fireS n s t).length = s.size := by
  rw [fired_eq h, putAll_length]; unfold restB; rw [putAll_length, bytes_length]
theorem rest_at {n : NetD} {s : ByteArray} {t : Int} (hg : goodN n = true) (ht : inT n t = true) {i : Nat} (hi : i < s.size) : (restB s (trOf n t)).getD i 0 = if (i : Int) ∈ (trOf n t).1 then 48 else (bytes s).getD i 0 := by
  unfold restB
  exact putAll_getD 48 _ _ i (fun p hp => ((tr_in hg ht).1 p hp).1) (by rw [bytes_length]; exact hi)
theorem fired_at {n : NetD} {s : ByteArray} {t : Int} (h : fireOk n s t = true) {i : Nat} (hi : i < s.size) : (fireS n s t).getD i 0 = if (i : Int) ∈ (trOf n t).2 then 49 else if (i : Int) ∈ (trOf n t).1 then 48 else (bytes s).getD i 0 := by
  obtain ⟨hg, _, ht, _, _, _⟩ := fire_all h
  rw [fired_eq h, putAll_getD 49 _ _ i (fun p hp => ((tr_in hg ht).2 p hp).1) (by unfold restB; rw [putAll_length, bytes_length]; exact hi), rest_at hg ht hi]
/-- a marked place behind a firing -/
theorem fired_bit {n : NetD} {s : ByteArray} {t : Int} (h : fireOk n s t = true) {i : Nat} (hi : i < s.size) : ((fireS n s t).getD i 0 == 49) = (((bytes s).getD i 0 == 49) && !(hasB (trOf n t).1 i) || hasB (trOf n t).2 i) := by
  rw [fired_at h hi]
  unfold hasB
  by_cases h2 : (i : Int) ∈ (trOf n t).2
  · rw [if_pos h2, decide_eq_true h2]; simp
  · rw [if_neg h2, decide_eq_false h2]
    by_cases h1 : (i : Int) ∈ (trOf n t).1
    · rw [if_pos h1, decide_eq_true h1]; simp
    · rw [if_neg h1, decide_eq_false h1]; simp
theorem apart_of {n : NetD} {t u : Int} (h : indB n t u = true) : ∀ x, x ∈ both (trOf n t) → x ∉ both (trOf n u) := by
  intro x h1 h2
  have hm : meetB (both (trOf n t)) (both (trOf n u)) = true := by
    unfold meetB
    rw [List.any_eq_true]
    exact ⟨x, h1, decide_eq_true h2⟩
  unfold indB at h
  unfold trOf at hm
  rw [hm] at h
  exact absurd h (by simp)
theorem indB_comm (n : NetD) (t u : Int) : indB n t u = indB n u t := by unfold indB; rw [meetB_comm]
theorem fire_then {n : NetD} {s : ByteArray} {t u : Int} (hi : indB n t u = true) (h1 : fireOk n s t = true) (h2 : fireOk n s u = true) : fireOk n (bstr (fireS n s t)) u = true := by
  obtain ⟨hg, hm, ht, hr, hp, _⟩ := fire_all h1
  obtain ⟨_, _, hu, hr2, hp2, _⟩ := fire_all h2
  have ap := apart_of hi
  have sz : (s.size : Int) = n.places := mark_size hm
  have szm : (bstr (fireS n s t)).size = s.size := by rw [bstr_size, fired_length h1]
  have hsame : ∀ i : Nat, i < s.size → (i : Int) ∈ both (trOf n u) → (fireS n s t).getD i 0 = (bytes s).getD i 0 := fun i hi' hx => by
    have hnx : (i : Int) ∉ both (trOf n t) := fun hy => ap _ hy hx
    unfold both at hnx
    rw [List.mem_append, not_or] at hnx
    rw [fired_at h1 hi', if_neg hnx.2, if_neg hnx.1]
  refine fire_mk hg (fired_mark h1) hu ?_ ?_
  · rw [bytes_bstr]
    unfold readyB at hr2 ⊢
    rw [List.all_eq_true] at hr2 ⊢
    intro p hp1
    obtain ⟨p0, p1⟩ := (tr_in hg hu).1 p hp1
    obtain ⟨q, rfl⟩ := Int.eq_ofNat_of_zero_le p0
    have := hr2 _ hp1
    simp only [Int.toNat_natCast] at this ⊢
    rw [hsame q (by omega) (List.mem_append_left _ hp1)]
    exact this
  · unfold postB at hp2 ⊢
    rw [List.all_eq_true] at hp2 ⊢
    intro p hp1
    obtain ⟨p0, p1⟩ := (tr_in hg hu).2 p hp1
    obtain ⟨q, rfl⟩ := Int.eq_ofNat_of_zero_le p0
    have := hp2 _ hp1
    simp only [Int.toNat_natCast] at this ⊢
    rw [rest_at hg hu (by omega)] at this ⊢
    rw [bytes_bstr, hsame q (by omega) (List.mem_append_right _ hp1)]
    exact this
theorem fire_swap {n : NetD} {s : ByteArray} {t u : Int} (hi : indB n t u = true) (h1 : fireOk n s t = true) (h2 : fireOk n s u = true) : fireS n (bstr (fireS n s t)) u = fireS n (bstr (fireS n s u)) t := by
  have k1 := fire_then hi h1 h2
  have k2 := fire_then (indB_comm n t u ▸ hi) h2 h1
  have ap := apart_of hi
  have szt : (bstr (fireS n s t)).size = s.size := by rw [bstr_size, fired_length h1]
  have szu : (bstr (fireS n s u)).size = s.size := by rw [bstr_size, fired_length h2]
  refine bytes_ext (by rw [fired_length k1, fired_length k2, szt, szu]) fun i hi' => ?_
  rw [fired_length k1, szt] at hi'
  rw [fired_at k1 (by rw [szt]; exact hi'), fired_at k2 (by rw [szu]; exact hi'), bytes_bstr, bytes_bstr, fired_at h1 hi', fired_at h2 hi']
  have a := ap (i : Int)
  unfold both at a
  simp only [List.mem_append, not_or] at a
  by_cases t1 : (i : Int) ∈ (trOf n t).1 <;> by_cases t2 : (i : Int) ∈ (trOf n t).2 <;> by_cases u1 : (i : Int) ∈ (trOf n u).1 <;> by_cases u2 : (i : Int) ∈ (trOf n u).2 <;> simp_all

end Go.Proofs.Ytkkfglolameogaa
