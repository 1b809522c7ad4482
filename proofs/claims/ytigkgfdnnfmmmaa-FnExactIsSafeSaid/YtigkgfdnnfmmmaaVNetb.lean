/- WALKS: szTransition, szTransitionS, szNet. -/
import Derived.Test.YtigkgfdnnfmmmaaVNeta
namespace Go.Proofs.Ytigkgfdnnfmmmaa
open Go.RowKit

/-- a size count: either negative, or what is left; then the lists are small -/
def RetSz (w : World) (left : Int) (P : Prop) (e : Ending) (w' : World) : Prop := ∃ r : Int, e = .returned (.int .i64 r) ∧ (r = -1 ∨ (0 ≤ r ∧ r ≤ left ∧ P)) ∧ Below w.heap.size w w'

def OkTrs (ts : List Tr) : Prop := ts.length ≤ 9223372036854775807 ∧ ∀ i, i < ts.length → (ts.getD i ([], [])).1.length ≤ 9223372036854775807 ∧ (ts.getD i ([], [])).2.length ≤ 9223372036854775807

set_option maxHeartbeats 400000 in
theorem szTransition_any (v0 v1 : Value) (t : Tr) (left : Int) (w : World) (lo : Nat) (hv : TrAt lo w v0 v1 t) (h0 : 0 ≤ left) (h1 : left ≤ 1048576) (hn : t.1.length ≤ 9223372036854775807) (hm : t.2.length ≤ 9223372036854775807) :
    Calls Try.prog 100 #[.agg #[v0, v1], .int .i64 left] w (RetSz w left (t.1.length ≤ 1048576 ∧ t.2.length ≤ 1048576)) := by
  obtain ⟨⟨a0, k0, rfl, _, _⟩, ⟨a1, k1, rfl, _, _⟩⟩ := hv
  go_enter Try.func100, Try.ntmps100
  go_wp2_with fail
  refine (szIntS_any _ _ _ _ _ h0 h1 hn).mono ?_
  rintro e w1 ⟨rfl, hb0⟩
  obtain ⟨hc, hf⟩ := bcell hb0
  have hz1b : w.heap.size < w1.heap.size := by have := hb0.size; simp at this; omega
  have hw1 : Below w.heap.size w w1 := by
    refine Below.trans ?_ (hb0.mono ?_)
    · (repeat' (first | (with_reducible exact Below.refl _ _) | (with_reducible assumption) | (with_reducible refine Below.alloc ?_ ?_ _) | (with_reducible refine Below.drew ?_) | (with_reducible refine below_drewN ?_ _) | (with_reducible refine Below.setCell ?_ ?_ _) | go_size))
    · simp
  by_cases hlt : left < t.1.length
  · have e : szI left t.1.length = -1 := by unfold szI; rw [if_pos hlt]
    rw [e]; clear e
    go_wp2_with fail
    go_ret
    exact ⟨_, rfl, Or.inl rfl, hw1⟩
  · have e : szI left t.1.length = left - t.1.length := by unfold szI; rw [if_neg hlt]
    rw [e]; clear e
    obtain ⟨r, hr⟩ : ∃ r, r = left - (t.1.length : Int) := ⟨_, rfl⟩
    rw [← hr]
    have g0 : 0 ≤ r := by omega
    have g1 : r ≤ left := by omega
    have HR := Lib.hid hr; clear hr
    go_wp2_with fail
    refine (szIntS_any _ _ _ _ _ g0 (by omega) hm).mono ?_
    rintro e w2 ⟨rfl, hb1⟩
    have hw2 : Below w.heap.size w w2 := hw1.trans (hb1.mono (by omega))
    by_cases hlt2 : r < t.2.length
    · have e : szI r t.2.length = -1 := by unfold szI; rw [if_pos hlt2]
      rw [e]; clear e
      go_wp2_with fail
      go_ret
      exact ⟨_, rfl, Or.inl rfl, hw2⟩
    · have e : szI r t.2.length = r - t.2.length := by unfold szI; rw [if_neg hlt2]
      rw [e]; clear e
      go_wp2_with fail
      go_ret
      exact ⟨_, rfl, Or.inr ⟨by omega, by omega, by omega, by omega⟩, hw2⟩

set_option maxHeartbeats 400000 in
theorem szTransitionS_any (v : Value) (ts : List Tr) (left : Int) (w : World) (lo : Nat) (hv : TrsAt lo w v ts) (h0 : 0 ≤ left) (h1 : left ≤ 1048576) (hok : OkTrs ts) :
    Calls Try.prog 60 #[v, .int .i64 left] w (RetSz w left (SmallTrs ts)) := by
  obtain ⟨ao, cap, rfl, hc, hz⟩ := hv
  obtain ⟨hn, hsm⟩ := hok
  have HF := Lib.hid hz; clear hz
  have HS := Lib.hid hsm; clear hsm
  go_enter Try.func60, Try.ntmps60
  by_cases hlt0 : left < ts.length
  · go_wp2_with fail
    go_ret
    exact ⟨_, rfl, Or.inl rfl, Below.refl _ _⟩
  go_wp2_with fail
  go_loopw [1, 5] (fun l i wr => ∃ (k : Nat) (r : Int), k ≤ ts.length ∧ i = .int .i64 k ∧ l = .int .i64 r ∧ 0 ≤ r ∧ r ≤ left ∧ Hid (∀ i, i < k → (ts.getD i ([], [])).1.length ≤ 1048576 ∧ (ts.getD i ([], [])).2.length ≤ 1048576) ∧ Below w.heap.size w wr) (fun _ i _ => ts.length - (intOf i).toNat)
  case atStart =>
    exact ⟨0, left - ts.length, Nat.zero_le _, rfl, rfl, by omega, by omega, fun i hi => absurd hi (Nat.not_lt_zero _), Below.refl _ _⟩
  case round =>
    obtain ⟨k, r, hk, rfl, rfl, g0, g1, hall, hb1⟩ := hrel
    by_cases hlt : k < ts.length
    · rcases HF.out with rfl | ⟨b, off, rfl, hlo, hcell⟩
      · simp at hlt
      obtain ⟨x0, x1, c0, c1, hx⟩ := hcell k hlt
      have d0 := Carries.of lo hb1 _ _ hlo c0
      have d1 := Carries.of lo hb1 _ _ hlo c1
      obtain ⟨hk1, hk2⟩ := HS.out k hlt
      obtain ⟨t, htk⟩ : ∃ t, t = ts.getD k ([], []) := ⟨_, rfl⟩
      rw [← htk] at hk1 hk2 hx
      have HK := Lib.hid htk; clear htk
      have HX := Lib.hid (hx.keep (Carries.of lo hb1))
      clear hcell c0 c1 hx
      go_wp2_with fail
      refine (szTransition_any _ _ _ _ _ lo HX.out g0 (by omega) hk1 hk2).mono ?_
      rintro e w1 ⟨q, rfl, hq, hb2⟩
      have hw1 : Below w.heap.size w w1 := hb1.trans (hb2.mono hb1.size)
      rcases hq with rfl | ⟨q0, q1, hq2, hq3⟩
      · go_wp2_with fail
        go_ret
        exact ⟨_, rfl, Or.inl rfl, hw1⟩
      · have H2 : Hid (∀ i, i < k + 1 → (ts.getD i ([], [])).1.length ≤ 1048576 ∧ (ts.getD i ([], [])).2.length ≤ 1048576) := by
          intro i hi
          by_cases e : i = k
          · subst e; rw [← HK.out]; exact ⟨hq2, hq3⟩
          · exact hall.out i (by omega)
        go_wp2_with fail
        go_roundw
        case rel => exact ⟨k + 1, q, by omega, by go_num, rfl, q0, by omega, H2, hw1⟩
        case measure => simp [intOf]; omega
    · have hkk : k = ts.length := by omega
      subst hkk
      go_wp2_with fail
      go_ret
      exact ⟨_, rfl, Or.inr ⟨g0, g1, by omega, hall.out⟩, hb1⟩

set_option maxHeartbeats 400000 in
theorem szNet_any (v : Value) (n : NetD) (left : Int) (w : World) (lo : Nat) (hv : NetAt lo w v n) (h0 : 0 ≤ left) (h1 : left ≤ 1048576) (hok : OkTrs n.ts) :
    Calls Try.prog 24 #[v, .int .i64 left] w (RetSz w left (SmallTrs n.ts)) := by
  obtain ⟨p, ts⟩ := n
  obtain ⟨hp0, hp1, u, rfl, ht⟩ := hv
  simp only at hp0 hp1 ht hok ⊢
  have ht' := ht
  obtain ⟨a0, k0, rfl, _, _⟩ := ht'
  have H0 := Lib.hid ht; clear ht
  have HS := Lib.hid hok; clear hok
  go_enter Try.func24, Try.ntmps24
  go_wp2_with fail
  refine (szTransitionS_any _ ts _ _ lo (H0.out.keep ?_) h0 h1 HS.out).mono ?_
  · (repeat' (first | (with_reducible exact Carries.refl _ _) | (with_reducible assumption) | (with_reducible refine Carries.alloc ?_ _) | (with_reducible refine Carries.drew ?_) | (with_reducible refine Carries.drewN ?_ _) | (with_reducible refine Carries.set ?_ ?_ _) | go_size))
  rintro e w1 ⟨q, rfl, hq, hb2⟩
  have hw1 : Below w.heap.size w w1 := by
    refine Below.trans ?_ (hb2.mono ?_)
    · (repeat' (first | (with_reducible exact Below.refl _ _) | (with_reducible assumption) | (with_reducible refine Below.alloc ?_ ?_ _) | (with_reducible refine Below.drew ?_) | (with_reducible refine below_drewN ?_ _) | (with_reducible refine Below.setCell ?_ ?_ _) | go_size))
    · simp
  rcases hq with rfl | ⟨q0, q1, hq2⟩
  · go_wp2_with fail
    go_ret
    exact ⟨_, rfl, Or.inl rfl, hw1⟩
  · have HQ := Lib.hid hq2; clear hq2
    go_wp2_with fail
    go_ret
    exact ⟨_, rfl, Or.inr ⟨q0, q1, HQ.out⟩, hw1⟩

end Go.Proofs.Ytigkgfdnnfmmmaa
