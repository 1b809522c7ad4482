/-
  WALKS: TransitionByName of the model and of the program.
-/
import Derived.Test.YtjelnlhalpoinaaDoorTnc
namespace Go.Proofs.YtjelnlhalpoinaaDoor
open Go.RowKit

theorem find_range_some {f : Nat → ByteArray} {x : ByteArray} {n k : Nat} (hk : k < n) (h : ∀ i, i < k → f i ≠ x) (e : f k = x) : (List.range n).find? (fun i => decide (f i = x)) = some k := by
  rw [List.find?_range_eq_some]
  exact ⟨by simpa using e, by simpa using hk, fun j hj => by simpa using h j hj⟩
theorem find_range_none {f : Nat → ByteArray} {x : ByteArray} {n : Nat} (h : ∀ i, i < n → f i ≠ x) : (List.range n).find? (fun i => decide (f i = x)) = none := by
  rw [List.find?_eq_none]
  intro i hi
  simpa using h i (by simpa using hi)
/-- the transition of that name in a valid graph -/
def byO (s : StgD) (x : ByteArray) : Option Nat := if goodS s = true then (List.range s.labs.length).find? (fun k => decide (nameL s.sigs s.labs k = x)) else none
theorem by_bad {s : StgD} {x : ByteArray} (h : goodS s = false) : byO s x = none := by unfold byO; rw [h]; rfl
theorem by_some {s : StgD} {x : ByteArray} {k : Nat} (h : goodS s = true) (hk : k < s.labs.length) (hl : ∀ i, i < k → nameL s.sigs s.labs i ≠ x) (e : nameL s.sigs s.labs k = x) : byO s x = some k := by
  unfold byO; rw [if_pos h]
  exact find_range_some hk hl e
theorem by_none {s : StgD} {x : ByteArray} (h : goodS s = true) (hl : ∀ i, i < s.labs.length → nameL s.sigs s.labs i ≠ x) : byO s x = none := by
  unfold byO; rw [if_pos h]
  exact find_range_none hl

set_option maxRecDepth 100000 in
set_option maxHeartbeats 2000000 in
theorem specTransitionByName_any (v : Value) (s : StgD) (x : ByteArray) (w : World) (lo : Nat) (hv : StgAt lo w v s) (hs : SmallStg s) :
    Calls Tryd.prog 13 #[v, .string x] w (RetV w (.tuple #[.int .i64 (idxI (byO s x)), .bool (idxB (byO s x))])) := by
  have e1 : goodS s = false → byO s x = none := by_bad
  have e2 : goodS s = true → ∀ k, k < s.labs.length → (∀ i, i < k → nameL s.sigs s.labs i ≠ x) → nameL s.sigs s.labs k = x → byO s x = some k := fun h k hk hl e => by_some h hk hl e
  have e3 : goodS s = true → (∀ i, i < s.labs.length → nameL s.sigs s.labs i ≠ x) → byO s x = none := by_none
  generalize byO s x = B at e1 e2 e3 ⊢
  obtain ⟨a0, c0, a1, c1, a2, c2, rfl, hn, hsg, hl⟩ := hv.form
  clear hn
  have HV := Lib.hid hv; clear hv
  have HG := Lib.hid hsg; clear hsg
  have HL := Lib.hid hl; clear hl
  have hts := hs.1.1
  have hls := hs.2.2.1
  have HS := Lib.hid hs; clear hs
  obtain ⟨p, hp⟩ : ∃ p, p = s.net.places := ⟨_, rfl⟩
  obtain ⟨m, hm⟩ : ∃ m, m = s.net.ts.length := ⟨_, rfl⟩
  obtain ⟨ns, hns⟩ : ∃ ns, ns = s.sigs.length := ⟨_, rfl⟩
  obtain ⟨nl, hnl⟩ : ∃ nl, nl = s.labs.length := ⟨_, rfl⟩
  obtain ⟨st, hst⟩ : ∃ st, st = s.start := ⟨_, rfl⟩
  rw [← hm] at hts
  rw [← hnl] at hls e2 e3
  rw [← hp, ← hm, ← hns, ← hnl, ← hst] at HV ⊢
  rw [← hns] at HG
  rw [← hnl] at HL
  have HP := Lib.hid (And.intro hp (And.intro hm (And.intro hns (And.intro hnl hst)))); clear hp hm hns hnl hst
  have E1 := Lib.hid e1; clear e1
  have E2 := Lib.hid e2; clear e2
  have E3 := Lib.hid e3; clear e3
  go_enter Tryd.func13, Tryd.ntmps13
  go_wp2_with fail
  refine (l2Good_any _ s _ lo (HV.out.keep ?_) HS.out).mono ?_
  · (repeat' (first | (with_reducible exact Carries.refl _ _) | (with_reducible assumption) | (with_reducible refine Carries.alloc ?_ _) | (with_reducible refine Carries.drew ?_) | (with_reducible refine Carries.drewN ?_ _) | (with_reducible refine Carries.set ?_ ?_ _) | go_size))
  rintro e w1 ⟨rfl, hb⟩
  have hw1 : Below w.heap.size w w1 := by
    refine Below.trans ?_ (hb.mono ?_)
    · (repeat' (first | (with_reducible exact Below.refl _ _) | (with_reducible assumption) | (with_reducible refine Below.alloc ?_ ?_ _) | (with_reducible refine Below.drew ?_) | (with_reducible refine below_drewN ?_ _) | (with_reducible refine Below.setCell ?_ ?_ _) | go_size))
    · simp
  have x0 : w1.cell? ⟨w.heap.size, 0, none⟩ = some (.int .i64 p) := cell_carry (by simp) (Carries.of 0 hb)
  have x1 : w1.cell? ⟨w.heap.size, 1, none⟩ = some (.slice a0 m c0) := cell_carry (by simp) (Carries.of 0 hb)
  have x2 : w1.cell? ⟨w.heap.size, 2, none⟩ = some (.slice a1 ns c1) := cell_carry (by simp) (Carries.of 0 hb)
  have x3 : w1.cell? ⟨w.heap.size, 3, none⟩ = some (.slice a2 nl c2) := cell_carry (by simp) (Carries.of 0 hb)
  have x4 : w1.cell? ⟨w.heap.size, 4, none⟩ = some (.string st) := cell_carry (by simp) (Carries.of 0 hb)
  have zw : w.heap.size < w1.heap.size := by have := hb.size; simp at this; omega
  clear hb
  cases hg : goodS s with
  | false =>
    have hB := E1.out hg
    subst hB
    clear hg
    go_wp2_with fail
    go_ret2
    exact ⟨rfl, hw1⟩
  | true =>
  have hlen := goodS_len hg
  have h24 := goodS_24 hg
  rw [← HP.out.2.1] at h24
  rw [← HP.out.2.1, ← HP.out.2.2.2.1] at hlen
  have HGD := Lib.hid hg; clear hg
  have HLEN := Lib.hid hlen; clear hlen
  go_wp2_with fail
  have z1 : w.heap.size ≤ w1.heap.size := hw1.size
  go_loopw [13] (fun i wr => ∃ k : Nat, k ≤ nl ∧ i = .int .i64 k ∧ Hid (∀ i, i < k → nameL s.sigs s.labs i ≠ x) ∧ Below w1.heap.size w1 wr) (fun i _ => nl - (intOf i).toNat)
  case atStart => exact ⟨0, Nat.zero_le _, rfl, fun i hi => absurd hi (Nat.not_lt_zero _), Below.refl _ _⟩
  case round =>
    obtain ⟨k, hk, rfl, hall, hb1⟩ := hrel
    have zz1 := hb1.size
    have x0 := cell_keep x0 hb1 (by omega)
    have x1 := cell_keep x1 hb1 (by omega)
    have x2 := cell_keep x2 hb1 (by omega)
    have x3 := cell_keep x3 hb1 (by omega)
    have x4 := cell_keep x4 hb1 (by omega)
    have hwr := hw1.trans (hb1.mono z1)
    by_cases hlt : k < nl
    · have HI := Lib.hid (goodS_in HGD.out (k := k) (by rw [← HP.out.2.2.2.1]; have := HLEN.out; omega))
      go_wp2_with fail
      refine (l2Text_any _ _ _ _ _ _ _ s.sigs s.labs k _ lo (HG.out.keep (Carries.of lo hwr)) (HL.out.keep (Carries.of lo hwr)) HS.out.2.1 (by rw [← HP.out.2.2.2.1]; have := HLEN.out; omega) (by rw [← HP.out.2.2.2.1]; have := HLEN.out; omega) HI.out).mono ?_
      rintro e w3 ⟨rfl, hb⟩
      have hw3 : Below w1.heap.size w1 w3 := hb1.trans (hb.mono zz1)
      clear hb
      obtain ⟨N, hN⟩ : ∃ y, y = nameL s.sigs s.labs k := ⟨_, rfl⟩
      rw [← hN]
      by_cases he : N = x
      · have hB := E2.out HGD.out k (by have := HLEN.out; omega) hall.out (hN.symm.trans he)
        subst hB
        have t0 : (N.toList == x.toList) = true := by rw [bytes_toList_beq]; exact decide_eq_true he
        clear he hN
        go_wp2_with fail
        go_ret2
        exact ⟨rfl, hw1.trans (hw3.mono z1)⟩
      · have t0 : (N.toList == x.toList) = false := by rw [bytes_toList_beq]; exact decide_eq_false he
        have H2 : Hid (∀ i, i < k + 1 → nameL s.sigs s.labs i ≠ x) := by
          intro i hi
          by_cases e : i = k
          · subst e; rw [← hN]; exact he
          · exact hall.out i (by omega)
        clear he hN
        go_wp2_with fail
        go_roundw
        case rel => exact ⟨k + 1, by omega, by go_num, H2, hw3⟩
        case measure => simp [intOf]; omega
    · have hkk : k = nl := by omega
      have hB := E3.out HGD.out (fun i hi => hall.out i (by have := HLEN.out; omega))
      subst hB
      subst hkk
      go_wp2_with fail
      go_ret2
      exact ⟨rfl, hwr⟩

set_option maxRecDepth 100000 in
set_option maxHeartbeats 2000000 in
theorem TransitionByName_any (v : Value) (s : StgD) (x : ByteArray) (w : World) (lo : Nat) (hv : StgAt lo w v s) (hs : SmallStg s) :
    Calls Tryd.prog 14 #[v, .string x] w (RetV w (.tuple #[.int .i64 (idxI (byO s x)), .bool (idxB (byO s x))])) := by
  have e1 : goodS s = false → byO s x = none := by_bad
  have e2 : goodS s = true → ∀ k, k < s.labs.length → (∀ i, i < k → nameL s.sigs s.labs i ≠ x) → nameL s.sigs s.labs k = x → byO s x = some k := fun h k hk hl e => by_some h hk hl e
  have e3 : goodS s = true → (∀ i, i < s.labs.length → nameL s.sigs s.labs i ≠ x) → byO s x = none := by_none
  generalize byO s x = B at e1 e2 e3 ⊢
  obtain ⟨a0, c0, a1, c1, a2, c2, rfl, hn, hsg, hl⟩ := hv.form
  clear hn
  have HV := Lib.hid hv; clear hv
  have HG := Lib.hid hsg; clear hsg
  have HL := Lib.hid hl; clear hl
  have hts := hs.1.1
  have hls := hs.2.2.1
  have HS := Lib.hid hs; clear hs
  obtain ⟨p, hp⟩ : ∃ p, p = s.net.places := ⟨_, rfl⟩
  obtain ⟨m, hm⟩ : ∃ m, m = s.net.ts.length := ⟨_, rfl⟩
  obtain ⟨ns, hns⟩ : ∃ ns, ns = s.sigs.length := ⟨_, rfl⟩
  obtain ⟨nl, hnl⟩ : ∃ nl, nl = s.labs.length := ⟨_, rfl⟩
  obtain ⟨st, hst⟩ : ∃ st, st = s.start := ⟨_, rfl⟩
  rw [← hm] at hts
  rw [← hnl] at hls e2 e3
  rw [← hp, ← hm, ← hns, ← hnl, ← hst] at HV ⊢
  rw [← hns] at HG
  rw [← hnl] at HL
  have HP := Lib.hid (And.intro hp (And.intro hm (And.intro hns (And.intro hnl hst)))); clear hp hm hns hnl hst
  have E1 := Lib.hid e1; clear e1
  have E2 := Lib.hid e2; clear e2
  have E3 := Lib.hid e3; clear e3
  go_enter Tryd.func14, Tryd.ntmps14
  go_wp2_with fail
  refine (IsValidSTG_any _ s _ lo (HV.out.keep ?_) HS.out).mono ?_
  · (repeat' (first | (with_reducible exact Carries.refl _ _) | (with_reducible assumption) | (with_reducible refine Carries.alloc ?_ _) | (with_reducible refine Carries.drew ?_) | (with_reducible refine Carries.drewN ?_ _) | (with_reducible refine Carries.set ?_ ?_ _) | go_size))
  rintro e w1 ⟨rfl, hb⟩
  have hw1 : Below w.heap.size w w1 := by
    refine Below.trans ?_ (hb.mono ?_)
    · (repeat' (first | (with_reducible exact Below.refl _ _) | (with_reducible assumption) | (with_reducible refine Below.alloc ?_ ?_ _) | (with_reducible refine Below.drew ?_) | (with_reducible refine below_drewN ?_ _) | (with_reducible refine Below.setCell ?_ ?_ _) | go_size))
    · simp
  have x0 : w1.cell? ⟨w.heap.size, 0, none⟩ = some (.int .i64 p) := cell_carry (by simp) (Carries.of 0 hb)
  have x1 : w1.cell? ⟨w.heap.size, 1, none⟩ = some (.slice a0 m c0) := cell_carry (by simp) (Carries.of 0 hb)
  have x2 : w1.cell? ⟨w.heap.size, 2, none⟩ = some (.slice a1 ns c1) := cell_carry (by simp) (Carries.of 0 hb)
  have x3 : w1.cell? ⟨w.heap.size, 3, none⟩ = some (.slice a2 nl c2) := cell_carry (by simp) (Carries.of 0 hb)
  have x4 : w1.cell? ⟨w.heap.size, 4, none⟩ = some (.string st) := cell_carry (by simp) (Carries.of 0 hb)
  have zw : w.heap.size < w1.heap.size := by have := hb.size; simp at this; omega
  clear hb
  cases hg : goodS s with
  | false =>
    have hB := E1.out hg
    subst hB
    clear hg
    go_wp2_with fail
    go_ret2
    exact ⟨rfl, hw1⟩
  | true =>
  have hlen := goodS_len hg
  have h24 := goodS_24 hg
  rw [← HP.out.2.1] at h24
  rw [← HP.out.2.1, ← HP.out.2.2.2.1] at hlen
  have HGD := Lib.hid hg; clear hg
  have HLEN := Lib.hid hlen; clear hlen
  go_wp2_with fail
  refine (labelledNetOf_any _ _ _ _ _ _ _ _ _ _ _ _).mono ?_
  rintro e w2 ⟨rfl, hb⟩
  have hw2 : Below w.heap.size w w2 := hw1.trans (hb.mono hw1.size)
  have z2 := hw2.size
  clear hb x0 x1 x2 x3 x4
  go_wp2_with fail
  have hW : Below w.heap.size w (w2.alloc (.cells #[.int .i64 p, .slice a0 m c0, .slice a1 ns c1, .slice a2 nl c2] 72)) := hw2.alloc (by omega) _
  have y0 : (w2.alloc (.cells #[.int .i64 p, .slice a0 m c0, .slice a1 ns c1, .slice a2 nl c2] 72)).cell? ⟨w2.heap.size, 0, none⟩ = some (.int .i64 p) := by simp
  have y1 : (w2.alloc (.cells #[.int .i64 p, .slice a0 m c0, .slice a1 ns c1, .slice a2 nl c2] 72)).cell? ⟨w2.heap.size, 1, none⟩ = some (.slice a0 m c0) := by simp
  have y2 : (w2.alloc (.cells #[.int .i64 p, .slice a0 m c0, .slice a1 ns c1, .slice a2 nl c2] 72)).cell? ⟨w2.heap.size, 2, none⟩ = some (.slice a1 ns c1) := by simp
  have y3 : (w2.alloc (.cells #[.int .i64 p, .slice a0 m c0, .slice a1 ns c1, .slice a2 nl c2] 72)).cell? ⟨w2.heap.size, 3, none⟩ = some (.slice a2 nl c2) := by simp
  generalize w2.alloc (.cells #[.int .i64 p, .slice a0 m c0, .slice a1 ns c1, .slice a2 nl c2] 72) = W at hW y0 y1 y2 y3 ⊢
  have zY : w2.heap.size < W.heap.size := by have := cell_old y0; simpa using this
  have z1 : w.heap.size ≤ W.heap.size := hW.size
  go_loopw [17] (fun i wr => ∃ k : Nat, k ≤ m ∧ i = .int .i64 k ∧ Hid (∀ i, i < k → nameL s.sigs s.labs i ≠ x) ∧ Below W.heap.size W wr) (fun i _ => m - (intOf i).toNat)
  case atStart => exact ⟨0, Nat.zero_le _, rfl, fun i hi => absurd hi (Nat.not_lt_zero _), Below.refl _ _⟩
  case round =>
    obtain ⟨k, hk, rfl, hall, hb1⟩ := hrel
    have zz1 := hb1.size
    have y0 := cell_keep y0 hb1 (by omega)
    have y1 := cell_keep y1 hb1 (by omega)
    have y2 := cell_keep y2 hb1 (by omega)
    have y3 := cell_keep y3 hb1 (by omega)
    have hwr := hW.trans (hb1.mono z1)
    by_cases hlt : k < m
    · have HI := Lib.hid (goodS_in HGD.out (k := k) (by rw [← HP.out.2.2.2.1]; have := HLEN.out; omega))
      go_wp2_with fail
      refine (transitionName_any _ _ _ _ _ _ s.sigs s.labs k _ lo (HG.out.keep (Carries.of lo hwr)) (HL.out.keep (Carries.of lo hwr)) HS.out.2.1 (by rw [← HP.out.2.2.2.1]; have := HLEN.out; omega) (by rw [← HP.out.2.2.2.1]; have := HLEN.out; omega) HI.out).mono ?_
      rintro e w3 ⟨rfl, hb⟩
      have hw3 : Below W.heap.size W w3 := hb1.trans (hb.mono zz1)
      clear hb
      obtain ⟨N, hN⟩ : ∃ y, y = nameL s.sigs s.labs k := ⟨_, rfl⟩
      rw [← hN]
      by_cases he : N = x
      · have hB := E2.out HGD.out k (by have := HLEN.out; omega) hall.out (hN.symm.trans he)
        subst hB
        have t0 : (N.toList == x.toList) = true := by rw [bytes_toList_beq]; exact decide_eq_true he
        clear he hN
        go_wp2_with fail
        go_ret2
        exact ⟨rfl, hW.trans (hw3.mono z1)⟩
      · have t0 : (N.toList == x.toList) = false := by rw [bytes_toList_beq]; exact decide_eq_false he
        have H2 : Hid (∀ i, i < k + 1 → nameL s.sigs s.labs i ≠ x) := by
          intro i hi
          by_cases e : i = k
          · subst e; rw [← hN]; exact he
          · exact hall.out i (by omega)
        clear he hN
        go_wp2_with fail
        go_roundw
        case rel => exact ⟨k + 1, by omega, by go_num, H2, hw3⟩
        case measure => simp [intOf]; omega
    · have hkk : k = m := by omega
      have hB := E3.out HGD.out (fun i hi => hall.out i (by have := HLEN.out; omega))
      subst hB
      subst hkk
      go_wp2_with fail
      go_ret2
      exact ⟨rfl, hwr⟩

end Go.Proofs.YtjelnlhalpoinaaDoor
