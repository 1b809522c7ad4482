/-
  WALKS: l1Pair and AreIndependent of the model.
-/
import Derived.Test.YtlakcjcmbhkcdaaApp
import Derived.Test.YtlakcjcmbhkcdaaPur
namespace Go.Proofs.Ytlakcjcmbhkcdaa
open Go.RowKit

/-- the number of a transition -/
def inT (n : NetD) (t : Int) : Bool := decide (0 ≤ t ∧ t < n.ts.length)
theorem inT_le (n : NetD) (t : Int) : decide (0 ≤ t ∧ t ≤ (n.ts.length : Int) - 1) = inT n t := by
  unfold inT
  exact decide_eq_decide.2 ⟨fun h => ⟨h.1, by omega⟩, fun h => ⟨h.1, by omega⟩⟩
def pairB (n : NetD) (t u : Int) : Bool := goodN n && (inT n t && inT n u)
def indB (n : NetD) (t u : Int) : Bool := !meetB (both (n.ts.getD t.toNat ([], []))) (both (n.ts.getD u.toNat ([], [])))

set_option maxRecDepth 100000 in
set_option maxHeartbeats 1000000 in
theorem l1Pair_any (v : Value) (n : NetD) (t u : Int) (w : World) (lo : Nat) (hv : NetAt lo w v n) (hs : SmallTrs n.ts) :
    Calls Try.prog 68 #[v, .int .i64 t, .int .i64 u] w (RetB w (pairB n t u)) := by
  unfold pairB
  generalize hG : goodN n = g
  generalize hA : inT n t = a
  generalize hB : inT n u = b
  have HG := Lib.hid hG; clear hG
  have HA := Lib.hid ((inT_le n t).trans hA); clear hA
  have HB := Lib.hid ((inT_le n u).trans hB); clear hB
  have hv' := hv
  obtain ⟨hp0, hp1, q, rfl, ht⟩ := hv'
  obtain ⟨ao, cap, rfl, hc, hz⟩ := ht
  obtain ⟨p, hp⟩ : ∃ p, p = n.places := ⟨_, rfl⟩
  obtain ⟨m, hm⟩ : ∃ m, m = n.ts.length := ⟨_, rfl⟩
  rw [← hp, ← hm] at hv ⊢
  have hmm : m ≤ 1048576 := by rw [hm]; exact hs.1
  rw [← hm] at HA HB
  clear hz hc hp0 hp1 hp hm
  have HV := Lib.hid hv; clear hv
  have HS := Lib.hid hs; clear hs
  go_enter Try.func68, Try.ntmps68
  go_wp2_with fail
  refine (l1Good_any _ n _ lo (HV.out.keep ?_) HS.out).mono ?_
  · (repeat' (first | (with_reducible exact Carries.refl _ _) | (with_reducible assumption) | (with_reducible refine Carries.alloc ?_ _) | (with_reducible refine Carries.drew ?_) | (with_reducible refine Carries.drewN ?_ _) | (with_reducible refine Carries.set ?_ ?_ _) | go_size))
  rintro e w1 ⟨rfl, hb⟩
  have hw1 : Below w.heap.size w w1 := by
    refine Below.trans ?_ (hb.mono ?_)
    · (repeat' (first | (with_reducible exact Below.refl _ _) | (with_reducible assumption) | (with_reducible refine Below.alloc ?_ ?_ _) | (with_reducible refine Below.drew ?_) | (with_reducible refine below_drewN ?_ _) | (with_reducible refine Below.setCell ?_ ?_ _) | go_size))
    · simp
  have a1 : w1.cell? ⟨w.heap.size, 1, none⟩ = some (.slice ao m cap) := cell_carry (by simp) (Carries.of 0 hb)
  clear hb
  rw [HG.out]
  cases g with
  | false =>
    go_wp2_with fail
    go_ret
    exact ⟨rfl, hw1⟩
  | true =>
    go_wp2_with fail
    refine (l1In_any _ _ _ _).mono ?_
    rintro e w2 ⟨rfl, hb2⟩
    have hw2 : Below w.heap.size w w2 := hw1.trans (hb2.mono hw1.size)
    have a2 := cell_carry a1 (Carries.of 0 hb2)
    clear hb2 a1
    rw [HA.out]
    cases a with
    | false =>
      go_wp2_with fail
      go_ret
      exact ⟨rfl, hw2⟩
    | true =>
      go_wp2_with fail
      refine (l1In_any _ _ _ _).mono ?_
      rintro e w3 ⟨rfl, hb3⟩
      have hw3 : Below w.heap.size w w3 := hw2.trans (hb3.mono hw2.size)
      clear hb3
      rw [HB.out]
      cases b with
      | false =>
        go_wp2_with fail
        go_ret
        exact ⟨rfl, hw3⟩
      | true =>
        go_wp2_with fail
        go_ret
        exact ⟨rfl, hw3⟩

set_option maxRecDepth 100000 in
set_option maxHeartbeats 2000000 in
theorem specAreIndependent_any (v : Value) (n : NetD) (t u : Int) (w : World) (lo : Nat) (hv : NetAt lo w v n) (hs : SmallTrs n.ts) :
    Calls Try.prog 28 #[v, .int .i64 t, .int .i64 u] w (RetV w (.tuple #[.bool (pairB n t u && indB n t u), .bool (pairB n t u)])) := by
  generalize hP : pairB n t u = g
  generalize hI : indB n t u = r
  have HI := Lib.hid hI; clear hI
  have hv' := hv
  obtain ⟨hp0, hp1, q, rfl, ht⟩ := hv'
  obtain ⟨ao, cap, rfl, hc, hz⟩ := ht
  obtain ⟨p, hp⟩ : ∃ p, p = n.places := ⟨_, rfl⟩
  obtain ⟨ts, hts⟩ : ∃ ts, ts = n.ts := ⟨_, rfl⟩
  have hs0 := hs
  rw [← hp, ← hts] at hv ⊢
  rw [← hts] at hs hz hc
  have HPl := Lib.hid hp; clear hp hp0 hp1
  have HT := Lib.hid hts; clear hts
  have HV := Lib.hid hv; clear hv
  have HS := Lib.hid hs
  have hmm := hs.1
  have HS0 := Lib.hid hs0; clear hs0 hs
  have HF := Lib.hid hz; clear hz
  have HP := Lib.hid hP
  cases g with
  | false =>
    go_enter Try.func28, Try.ntmps28
    clear hP
    go_wp2_with fail
    refine (l1Pair_any _ n _ _ _ lo (HV.out.keep ?_) HS0.out).mono ?_
    · (repeat' (first | (with_reducible exact Carries.refl _ _) | (with_reducible assumption) | (with_reducible refine Carries.alloc ?_ _) | (with_reducible refine Carries.drew ?_) | (with_reducible refine Carries.drewN ?_ _) | (with_reducible refine Carries.set ?_ ?_ _) | go_size))
    rintro e w1 ⟨rfl, hb⟩
    have hw1 : Below w.heap.size w w1 := by
      refine Below.trans ?_ (hb.mono ?_)
      · (repeat' (first | (with_reducible exact Below.refl _ _) | (with_reducible assumption) | (with_reducible refine Below.alloc ?_ ?_ _) | (with_reducible refine Below.drew ?_) | (with_reducible refine below_drewN ?_ _) | (with_reducible refine Below.setCell ?_ ?_ _) | go_size))
      · simp
    rw [HP.out]
    clear hb
    go_wp2_with fail
    go_ret2
    exact ⟨rfl, hw1⟩
  | true =>
    have h2 : goodN n = true ∧ (0 ≤ t ∧ t < ts.length) ∧ (0 ≤ u ∧ u < ts.length) := by
      unfold pairB inT at hP
      rw [HT.out]
      simpa [Bool.and_eq_true] using hP
    obtain ⟨_, ⟨ht0, ht1⟩, hu0, hu1⟩ := h2
    obtain ⟨tn, rfl⟩ := Int.eq_ofNat_of_zero_le ht0
    obtain ⟨un, rfl⟩ := Int.eq_ofNat_of_zero_le hu0
    clear hP
    rcases HF.out with rfl | ⟨b, off, rfl, hlo, hcell⟩
    · simp at ht1; omega
    have ht2 : tn < ts.length := by omega
    have hu2 : un < ts.length := by omega
    obtain ⟨x0, x1, c0, c1, hx⟩ := hcell tn ht2
    obtain ⟨y0, y1, e0, e1, hy⟩ := hcell un hu2
    obtain ⟨X, hX⟩ : ∃ X, X = ts.getD tn ([], []) := ⟨_, rfl⟩
    obtain ⟨Y, hY⟩ : ∃ Y, Y = ts.getD un ([], []) := ⟨_, rfl⟩
    have sx := HS.out.2 tn ht2
    have sy := HS.out.2 un hu2
    rw [← hX] at hx sx
    rw [← hY] at hy sy
    have hI2 : indB n tn un = !meetB (both X) (both Y) := by
      unfold indB; rw [Int.toNat_natCast, Int.toNat_natCast, ← HT.out, ← hX, ← hY]
    rw [HI.out] at hI2
    obtain ⟨s1, s2⟩ := sx
    obtain ⟨s3, s4⟩ := sy
    clear hX hY hcell
    subst hI2
    obtain ⟨⟨xa0, xk0, rfl, _, _⟩, ⟨xa1, xk1, rfl, _, _⟩⟩ := id hx
    obtain ⟨⟨ya0, yk0, rfl, _, _⟩, ⟨ya1, yk1, rfl, _, _⟩⟩ := id hy
    have HX := Lib.hid hx; clear hx
    have HY := Lib.hid hy; clear hy
    go_enter Try.func28, Try.ntmps28
    go_wp2_with fail
    refine (l1Pair_any _ n _ _ _ lo (HV.out.keep ?_) HS0.out).mono ?_
    · (repeat' (first | (with_reducible exact Carries.refl _ _) | (with_reducible assumption) | (with_reducible refine Carries.alloc ?_ _) | (with_reducible refine Carries.drew ?_) | (with_reducible refine Carries.drewN ?_ _) | (with_reducible refine Carries.set ?_ ?_ _) | go_size))
    rintro e w1 ⟨rfl, hb⟩
    have hw1 : Below w.heap.size w w1 := by
      refine Below.trans ?_ (hb.mono ?_)
      · (repeat' (first | (with_reducible exact Below.refl _ _) | (with_reducible assumption) | (with_reducible refine Below.alloc ?_ ?_ _) | (with_reducible refine Below.drew ?_) | (with_reducible refine below_drewN ?_ _) | (with_reducible refine Below.setCell ?_ ?_ _) | go_size))
      · simp
    have a1 : w1.cell? ⟨w.heap.size, 1, none⟩ = some (.slice (some ⟨b, off, none⟩) ts.length cap) := cell_carry (by simp) (Carries.of 0 hb)
    rw [HP.out]
    clear hb
    have f0 := Carries.of lo hw1 _ _ hlo c0
    have f1 := Carries.of lo hw1 _ _ hlo c1
    have f2 := Carries.of lo hw1 _ _ hlo e0
    have f3 := Carries.of lo hw1 _ _ hlo e1
    clear c0 c1 e0 e1
    go_wp2_with fail
    refine wp_region_held_drew (S := fun w' => w'.cell? ⟨w.heap.size, 1, none⟩ = some (.slice (some ⟨b, off, none⟩) ts.length cap) ∧ w'.cell? ⟨b, off + tn * 2, none⟩ = some (.slice xa0 X.1.length xk0) ∧ w'.cell? ⟨b, off + tn * 2 + 1, none⟩ = some (.slice xa1 X.2.length xk1) ∧ w'.cell? ⟨b, off + un * 2, none⟩ = some (.slice ya0 Y.1.length yk0) ∧ w'.cell? ⟨b, off + un * 2 + 1, none⟩ = some (.slice ya1 Y.2.length yk1)) (by kernel_rfl) ⟨a1, f0, f1, f2, f3⟩ (fun hHeld => ?_)
    have hbD := hw1.drew
    have HXD := HX.out.keep (Carries.of lo hbD)
    have HYD := HY.out.keep (Carries.of lo hbD)
    have hHeld0 := hHeld
    generalize w1.drew = W0 at hbD HXD HYD hHeld hHeld0 ⊢
    clear a1 f0 f1 f2 f3 hw1
    refine tk0 (v := ?_) (by kernel_rfl) (by kernel_rfl) (by kernel_rfl) (by first | exact fun _ _ _ h => h | exact fun _ _ _ h => absurd h.1 (by simp)) (Or.inl ⟨by rfl, ?_⟩) (by assumption) ?_
    rotate_left 1
    focus (intro wx hSw; (try dsimp only at hSw); go_simp; try (with_reducible rfl))
    try simp only [Act.put, List.setIfInBounds_toArray, List.set_cons_zero, List.set_cons_succ]
    refine tk1 (v := ?_) (by kernel_rfl) (by kernel_rfl) (by kernel_rfl) (by first | exact fun _ _ _ h => h | exact fun _ _ _ h => absurd h.1 (by simp)) (Or.inl ⟨by rfl, ?_⟩) (by assumption) ?_
    rotate_left 1
    focus (intro wx hSw; (try dsimp only at hSw); go_simp; try (with_reducible rfl))
    try simp only [Act.put, List.setIfInBounds_toArray, List.set_cons_zero, List.set_cons_succ]
    refine tk2 (v := ?_) (by kernel_rfl) (by kernel_rfl) (by kernel_rfl) (by first | exact fun _ _ _ h => h | exact fun _ _ _ h => absurd h.1 (by simp)) (Or.inl ⟨by rfl, ?_⟩) (by assumption) ?_
    rotate_left 1
    focus (intro wx hSw; (try dsimp only at hSw); go_simp; try (with_reducible rfl))
    try simp only [Act.put, List.setIfInBounds_toArray, List.set_cons_zero, List.set_cons_succ]
    refine tk3 (v := ?_) (by kernel_rfl) (by kernel_rfl) (by kernel_rfl) (by first | exact fun _ _ _ h => h | exact fun _ _ _ h => absurd h.1 (by simp)) (Or.inl ⟨by rfl, ?_⟩) (by assumption) ?_
    rotate_left 1
    focus (intro wx hSw; (try dsimp only at hSw); go_simp; try (with_reducible rfl))
    try simp only [Act.put, List.setIfInBounds_toArray, List.set_cons_zero, List.set_cons_succ]
    refine tk4 (v := ?_) (by kernel_rfl) (by kernel_rfl) (by kernel_rfl) (by first | exact fun _ _ _ h => h | exact fun _ _ _ h => absurd h.1 (by simp)) (Or.inl ⟨by rfl, ?_⟩) (by assumption) ?_
    rotate_left 1
    focus (intro wx hSw; (try dsimp only at hSw); go_simp; try (with_reducible rfl))
    try simp only [Act.put, List.setIfInBounds_toArray, List.set_cons_zero, List.set_cons_succ]
    refine tk6 (v := ?_) (by kernel_rfl) (by kernel_rfl) (by kernel_rfl) (by first | exact fun _ _ _ h => h | exact fun _ _ _ h => absurd h.1 (by simp)) (Or.inl ⟨by rfl, ?_⟩) (by assumption) ?_
    rotate_left 1
    focus (intro wx hSw; (try dsimp only at hSw); go_simp; try (with_reducible rfl))
    try simp only [Act.put, List.setIfInBounds_toArray, List.set_cons_zero, List.set_cons_succ]
    refine tk7 (v := ?_) (by kernel_rfl) (by kernel_rfl) (by kernel_rfl) (by first | exact fun _ _ _ h => h | exact fun _ _ _ h => absurd h.1 (by simp)) (Or.inl ⟨by rfl, ?_⟩) (by assumption) ?_
    rotate_left 1
    focus (intro wx hSw; (try dsimp only at hSw); go_simp; try (with_reducible rfl))
    try simp only [Act.put, List.setIfInBounds_toArray, List.set_cons_zero, List.set_cons_succ]
    refine tk8 (v := ?_) (by kernel_rfl) (by kernel_rfl) (by kernel_rfl) (by first | exact fun _ _ _ h => h | exact fun _ _ _ h => absurd h.1 (by simp)) (Or.inl ⟨by rfl, ?_⟩) (by assumption) ?_
    rotate_left 1
    focus (intro wx hSw; (try dsimp only at hSw); go_simp; try (with_reducible rfl))
    try simp only [Act.put, List.setIfInBounds_toArray, List.set_cons_zero, List.set_cons_succ]
    refine tk9 (v := ?_) (by kernel_rfl) (by kernel_rfl) (by kernel_rfl) (by first | exact fun _ _ _ h => h | exact fun _ _ _ h => absurd h.1 (by simp)) (Or.inl ⟨by rfl, ?_⟩) (by assumption) ?_
    rotate_left 1
    focus (intro wx hSw; (try dsimp only at hSw); go_simp; try (with_reducible rfl))
    try simp only [Act.put, List.setIfInBounds_toArray, List.set_cons_zero, List.set_cons_succ]
    refine tk10 (v := ?_) (by kernel_rfl) (by kernel_rfl) (by kernel_rfl) (by first | exact fun _ _ _ h => h | exact fun _ _ _ h => absurd h.1 (by simp)) (Or.inl ⟨by rfl, ?_⟩) (by assumption) ?_
    rotate_left 1
    focus (intro wx hSw; (try dsimp only at hSw); go_simp; try (with_reducible rfl))
    try simp only [Act.put, List.setIfInBounds_toArray, List.set_cons_zero, List.set_cons_succ]
    refine rd5 (by kernel_rfl) (fun K hK => ?_)
    go_simp
    refine (l1Both_any _ _ X _ lo HXD (by omega) (by omega)).mono ?_
    rintro e W1 ⟨r1, rfl, i1, hb1⟩
    have hHeld1 := And.intro (cell_carry hHeld0.1 (Carries.of 0 hb1)) (And.intro (cell_carry hHeld0.2.1 (Carries.of 0 hb1)) (And.intro (cell_carry hHeld0.2.2.1 (Carries.of 0 hb1)) (And.intro (cell_carry hHeld0.2.2.2.1 (Carries.of 0 hb1)) (cell_carry hHeld0.2.2.2.2 (Carries.of 0 hb1)))))
    refine hK.out _ _ hHeld1 (fun hHeld => ?_)
    clear hK K
    try simp only [Act.put, List.setIfInBounds_toArray, List.set_cons_zero, List.set_cons_succ]
    refine rd11 (by kernel_rfl) (fun K hK => ?_)
    go_simp
    refine (l1Both_any _ _ Y _ lo (HYD.keep (Carries.of lo hb1)) (by omega) (by omega)).mono ?_
    rintro e W2 ⟨r2, rfl, i2, hb2⟩
    have hHeld2 := And.intro (cell_carry hHeld1.1 (Carries.of 0 hb2)) (And.intro (cell_carry hHeld1.2.1 (Carries.of 0 hb2)) (And.intro (cell_carry hHeld1.2.2.1 (Carries.of 0 hb2)) (And.intro (cell_carry hHeld1.2.2.2.1 (Carries.of 0 hb2)) (cell_carry hHeld1.2.2.2.2 (Carries.of 0 hb2)))))
    refine hK.out _ _ hHeld2 (fun hHeld => ?_)
    clear hK K
    try simp only [Act.put, List.setIfInBounds_toArray, List.set_cons_zero, List.set_cons_succ]
    refine rd12 (by kernel_rfl) (fun K hK => ?_)
    go_simp
    refine (l1Meet_any _ _ (both X) (both Y) _ _ _ (i1.keep (Carries.of _ hb2)) i2 (by unfold both; rw [List.length_append]; omega) (by unfold both; rw [List.length_append]; omega)).mono ?_
    rintro e W3 ⟨rfl, hb3⟩
    have hHeld3 := And.intro (cell_carry hHeld2.1 (Carries.of 0 hb3)) (And.intro (cell_carry hHeld2.2.1 (Carries.of 0 hb3)) (And.intro (cell_carry hHeld2.2.2.1 (Carries.of 0 hb3)) (And.intro (cell_carry hHeld2.2.2.2.1 (Carries.of 0 hb3)) (cell_carry hHeld2.2.2.2.2 (Carries.of 0 hb3)))))
    refine hK.out _ _ hHeld3 (fun hHeld => ?_)
    clear hK K
    try simp only [Act.put, List.setIfInBounds_toArray, List.set_cons_zero, List.set_cons_succ]
    refine tk13 (v := ?_) (by kernel_rfl) (by kernel_rfl) (by kernel_rfl) (by first | exact fun _ _ _ h => h | exact fun _ _ _ h => absurd h.1 (by simp)) (Or.inl ⟨by rfl, ?_⟩) (by assumption) ?_
    rotate_left 1
    focus (intro wx hSw; (try dsimp only at hSw); go_simp; try (with_reducible rfl))
    try simp only [Act.put, List.setIfInBounds_toArray, List.set_cons_zero, List.set_cons_succ]
    refine tk14 (v := ?_) (by kernel_rfl) (by kernel_rfl) (by kernel_rfl) (by first | exact fun _ _ _ h => h | exact fun _ _ _ h => absurd h.1 (by simp)) (Or.inl ⟨by rfl, ?_⟩) (by assumption) ?_
    rotate_left 1
    focus (intro wx hSw; (try dsimp only at hSw); go_simp; try (with_reducible rfl))
    try simp only [Act.put, List.setIfInBounds_toArray, List.set_cons_zero, List.set_cons_succ]
    refine tk15 (v := ?_) (by kernel_rfl) (by kernel_rfl) (by kernel_rfl) (by first | exact fun _ _ _ h => h | exact fun _ _ _ h => absurd h.1 (by simp)) (Or.inl ⟨by rfl, ?_⟩) (by assumption) ?_
    rotate_left 1
    focus (intro wx hSw; (try dsimp only at hSw); go_simp; try (with_reducible rfl))
    try simp only [Act.put, List.setIfInBounds_toArray, List.set_cons_zero, List.set_cons_succ]
    refine wpAnyH_done (by kernel_rfl) ?_ _
    have hwE : Below w.heap.size w W3 := ((hbD.trans (hb1.mono hbD.size)).trans (hb2.mono (hbD.trans (hb1.mono hbD.size)).size)).trans (hb3.mono ((hbD.trans (hb1.mono hbD.size)).trans (hb2.mono (hbD.trans (hb1.mono hbD.size)).size)).size)
    go_wp2_with fail
    go_ret2
    exact ⟨rfl, hwE⟩

end Go.Proofs.Ytlakcjcmbhkcdaa
