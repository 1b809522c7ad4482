/- WALK: Fire of the model. -/
import Derived.Test.YtigkgfdnnfmmmaaVSfire
namespace Go.Proofs.Ytigkgfdnnfmmmaa
open Go.RowKit

/-- the transition of that number -/
def trOf (n : NetD) (t : Int) : Tr := n.ts.getD t.toNat ([], [])
def canB (n : NetD) (s : ByteArray) (t : Int) : Bool := goodN n && (markB n s && (inT n t && readyB (bytes s) (trOf n t).1))
def fireOk (n : NetD) (s : ByteArray) (t : Int) : Bool := canB n s t && postB (restB s (trOf n t)) (trOf n t).2
def fireS (n : NetD) (s : ByteArray) (t : Int) : List UInt8 := if canB n s t = true then fired s (trOf n t) else []

theorem good_tr {n : NetD} (hg : goodN n = true) {t : Nat} (ht : t < n.ts.length) : InS n.places (n.ts.getD t ([], [])).1 ∧ InS n.places (n.ts.getD t ([], [])).2 ∧ (n.ts.getD t ([], [])).1.Pairwise (· < ·) ∧ (n.ts.getD t ([], [])).2.Pairwise (· < ·) := by
  obtain ⟨_, _, _, h4⟩ := goodN_parts hg
  exact ⟨riseB_inS (h4 t ht).2.1, riseB_inS (h4 t ht).2.2, riseB_sorted (h4 t ht).2.1, riseB_sorted (h4 t ht).2.2⟩
theorem mark_size {n : NetD} {s : ByteArray} (h : markB n s = true) : (s.size : Int) = n.places := by
  unfold markB at h
  simp only [Bool.and_eq_true, decide_eq_true_eq] at h
  exact h.2

theorem fire_no {n : NetD} {s : ByteArray} {t : Int} (h : canB n s t = false) : fireS n s t = [] ∧ fireOk n s t = false := by
  unfold fireS fireOk; rw [h]; exact ⟨rfl, rfl⟩
theorem fire_yes {n : NetD} {s : ByteArray} {t : Int} (h : canB n s t = true) : fireS n s t = fired s (trOf n t) ∧ fireOk n s t = postB (restB s (trOf n t)) (trOf n t).2 := by
  unfold fireS fireOk; rw [h]; exact ⟨rfl, rfl⟩

set_option maxRecDepth 100000 in
set_option maxHeartbeats 2000000 in
theorem specFire_any (v : Value) (n : NetD) (s : ByteArray) (t : Int) (w : World) (lo : Nat) (hv : NetAt lo w v n) (hs : SmallTrs n.ts) (hsz : s.size ≤ 1048576) :
    Calls Try.prog 37 #[v, .string s, .int .i64 t] w (RetV w (.tuple #[.string (bstr (fireS n s t)), .bool (fireOk n s t)])) := by
  generalize hFS : fireS n s t = F
  generalize hFO : fireOk n s t = O
  have HFS := Lib.hid hFS; clear hFS
  have HFO := Lib.hid hFO; clear hFO
  have hv' := hv
  obtain ⟨hp0, hp1, q, rfl, ht⟩ := hv'
  obtain ⟨ao, cap, rfl, hc, hz⟩ := ht
  obtain ⟨p, hp⟩ : ∃ p, p = n.places := ⟨_, rfl⟩
  obtain ⟨m, hm⟩ : ∃ m, m = n.ts.length := ⟨_, rfl⟩
  rw [← hp, ← hm] at hv ⊢
  have hmm : m ≤ 1048576 := by rw [hm]; exact hs.1
  have Hm := Lib.hid hm
  clear hz hc hp0 hp1 hp hm
  have HV := Lib.hid hv; clear hv
  have HS := Lib.hid hs; clear hs
  go_enter Try.func37, Try.ntmps37
  go_wp2_with fail
  refine (l1Good_any _ n _ lo (HV.out.keep ?_) HS.out).mono ?_
  · (repeat' (first | (with_reducible exact Carries.refl _ _) | (with_reducible assumption) | (with_reducible refine Carries.alloc ?_ _) | (with_reducible refine Carries.drew ?_) | (with_reducible refine Carries.drewN ?_ _) | (with_reducible refine Carries.set ?_ ?_ _) | go_size))
  rintro e w1 ⟨rfl, hb⟩
  have hw1 : Below w.heap.size w w1 := by
    refine Below.trans ?_ (hb.mono ?_)
    · (repeat' (first | (with_reducible exact Below.refl _ _) | (with_reducible assumption) | (with_reducible refine Below.alloc ?_ ?_ _) | (with_reducible refine Below.drew ?_) | (with_reducible refine below_drewN ?_ _) | (with_reducible refine Below.setCell ?_ ?_ _) | go_size))
    · simp
  have a0 : w1.cell? ⟨w.heap.size, 0, none⟩ = some (.int .i64 p) := cell_carry (by simp) (Carries.of 0 hb)
  have a1 : w1.cell? ⟨w.heap.size, 1, none⟩ = some (.slice ao m cap) := cell_carry (by simp) (Carries.of 0 hb)
  clear hb
  cases hg : goodN n with
  | false =>
    have hcf : canB n s t = false := by unfold canB; rw [hg]; rfl
    obtain ⟨k1, k2⟩ := fire_no hcf
    rw [HFS.out] at k1; rw [HFO.out] at k2
    subst k1; subst k2
    clear hcf
    clear hg
    go_wp2_with fail
    go_ret2
    exact ⟨rfl, hw1⟩
  | true =>
  have HG := Lib.hid hg; clear hg
  go_wp2_with fail
  refine (l1Mark_any _ n s _ lo (HV.out.keep (Carries.of lo hw1)) hsz).mono ?_
  rintro e w2 ⟨rfl, hb⟩
  have hw2 : Below w.heap.size w w2 := hw1.trans (hb.mono hw1.size)
  have a2 := cell_carry a0 (Carries.of 0 hb)
  have a3 := cell_carry a1 (Carries.of 0 hb)
  clear hb a0 a1
  cases hg : markB n s with
  | false =>
    have hcf : canB n s t = false := by unfold canB; rw [HG.out, hg]; rfl
    obtain ⟨k1, k2⟩ := fire_no hcf
    rw [HFS.out] at k1; rw [HFO.out] at k2
    subst k1; subst k2
    clear hcf
    clear hg
    go_wp2_with fail
    go_ret2
    exact ⟨rfl, hw2⟩
  | true =>
  have HM := Lib.hid hg; clear hg
  go_wp2_with fail
  refine (l1In_any _ _ _ _).mono ?_
  rintro e w3 ⟨rfl, hb⟩
  have hw3 : Below w.heap.size w w3 := hw2.trans (hb.mono hw2.size)
  have a4 := cell_carry a2 (Carries.of 0 hb)
  have a5 := cell_carry a3 (Carries.of 0 hb)
  clear hb a2 a3
  have hin : decide (0 ≤ t ∧ t ≤ (m : Int) - 1) = inT n t := by rw [Hm.out]; exact inT_le n t
  rw [hin]
  clear hin
  cases hg : inT n t with
  | false =>
    have hcf : canB n s t = false := by unfold canB; rw [HG.out, HM.out, hg]; rfl
    obtain ⟨k1, k2⟩ := fire_no hcf
    rw [HFS.out] at k1; rw [HFO.out] at k2
    subst k1; subst k2
    clear hcf
    clear hg
    go_wp2_with fail
    go_ret2
    exact ⟨rfl, hw3⟩
  | true =>
  have ht3 : 0 ≤ t ∧ t < n.ts.length := of_decide_eq_true hg
  have HT := Lib.hid hg; clear hg
  obtain ⟨ht0, ht1⟩ := ht3
  obtain ⟨tn, rfl⟩ := Int.eq_ofNat_of_zero_le ht0
  have ht2 : tn < n.ts.length := by omega
  have hgt := good_tr HG.out ht2
  rw [← mark_size HM.out] at hgt
  have HGT := Lib.hid hgt; clear hgt
  have HT2 := Lib.hid ht2; clear ht0 ht1 ht2
  go_wp2_with fail
  refine (l1Ready_any _ n s tn _ lo (HV.out.keep (Carries.of lo hw3)) HS.out HT2.out HGT.out.1 hsz).mono ?_
  rintro e w4 ⟨rfl, hb⟩
  have hw4 : Below w.heap.size w w4 := hw3.trans (hb.mono hw3.size)
  have a6 := cell_carry a4 (Carries.of 0 hb)
  have a7 := cell_carry a5 (Carries.of 0 hb)
  clear hb a4 a5
  have htr : trOf n (tn : Int) = n.ts.getD tn ([], []) := by unfold trOf; rw [Int.toNat_natCast]
  have HTR := Lib.hid htr; clear htr
  cases hg : readyB (bytes s) (n.ts.getD tn ([], [])).1 with
  | false =>
    have hcf : canB n s (tn : Int) = false := by unfold canB; rw [HG.out, HM.out, HT.out, HTR.out, hg]; rfl
    obtain ⟨k1, k2⟩ := fire_no hcf
    rw [HFS.out] at k1; rw [HFO.out] at k2
    subst k1; subst k2
    clear hcf
    clear hg
    go_wp2_with fail
    go_ret2
    exact ⟨rfl, hw4⟩
  | true =>
  have hcf : canB n s (tn : Int) = true := by unfold canB; rw [HG.out, HM.out, HT.out, HTR.out, hg]; rfl
  obtain ⟨k1, k2⟩ := fire_yes hcf
  rw [HFS.out, HTR.out] at k1
  rw [HFO.out, HTR.out] at k2
  have K1 := Lib.hid k1; clear k1
  have K2 := Lib.hid k2; clear k2
  clear hg hcf
  go_wp2_with fail
  refine (l1Fire_any _ n s tn _ lo (HV.out.keep (Carries.of lo hw4)) HS.out HT2.out HGT.out.1 HGT.out.2.1 HGT.out.2.2.2 hsz).mono ?_
  rintro e w5 ⟨rfl, hb⟩
  have hw5 : Below w.heap.size w w5 := hw4.trans (hb.mono hw4.size)
  clear hb a6 a7
  rw [← K1.out, ← K2.out]
  go_wp2_with fail
  go_ret2
  exact ⟨rfl, hw5⟩

end Go.Proofs.Ytigkgfdnnfmmmaa
