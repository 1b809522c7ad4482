/- WALK of the law FnExactEventRelation. -/
import Derived.Test.YtigkgfdnnfmmmaaGreatVErm
import Derived.Test.YtigkgfdnnfmmmaaGreatVEro
import Derived.Test.YtigkgfdnnfmmmaaGreatVUfr
import Derived.Test.YtigkgfdnnfmmmaaGreatVUfq
import Derived.Deep.RegionHeld3
import Derived.Deep.CutRange
namespace Go.Proofs.YtigkgfdnnfmmmaaGreat
open Go.RowKit

set_option maxRecDepth 100000 in
set_option maxHeartbeats 2000000 in
theorem lawEventRelation_any (v : Value) (n : NetD) (s : ByteArray) (vu : Value) (u : UnfD) (a : Int) (b : Int) (w : World) (lo : Nat) (hv : NetAt lo w v n) (hvu : UnfAt lo w vu u) (hok : OkTrs n.ts) (hoku : OkUnf u) (hs : s.size ≤ 9223372036854775807) :
    Calls Tryz.prog 4 #[v, .string s, vu, .int .i64 a, .int .i64 b] w (RetB w true) := by
  have hv' := hv
  obtain ⟨hp0, hp1, u0, rfl, ht⟩ := hv'
  obtain ⟨ao, cap, rfl, _, hz⟩ := ht
  obtain ⟨a0, k0, a1, k1, rfl, hcc, hee⟩ := hvu.form
  have HV := Lib.hid hv; clear hv hz
  have HVU := Lib.hid hvu; clear hvu hcc hee
  have HO := Lib.hid hok; clear hok
  have HOU := Lib.hid hoku; clear hoku
  obtain ⟨m, hm⟩ : ∃ m, m = n.ts.length := ⟨_, rfl⟩
  obtain ⟨p, hp⟩ : ∃ p, p = n.places := ⟨_, rfl⟩
  obtain ⟨nc, hnc⟩ : ∃ m, m = u.cs.length := ⟨_, rfl⟩
  obtain ⟨ne, hne⟩ : ∃ m, m = u.es.length := ⟨_, rfl⟩
  rw [← hm, ← hp] at HV ⊢
  rw [← hnc, ← hne] at HVU ⊢
  rw [← hp] at hp0 hp1
  have HM := Lib.hid hm; clear hm
  have HP := Lib.hid hp; clear hp
  have HNC := Lib.hid hnc; clear hnc
  have HNE := Lib.hid hne; clear hne
  by_cases hz_s : s.size ≤ 1048576
  case neg =>
    go_enter Tryz.func4, Tryz.ntmps4
    go_wp2_with fail
    go_ret
    exact ⟨rfl, by (repeat' (first | (with_reducible exact Below.refl _ _) | (with_reducible assumption) | (with_reducible refine Below.alloc ?_ ?_ _) | (with_reducible refine Below.drew ?_) | (with_reducible refine below_drewN ?_ _) | (with_reducible refine Below.setCell ?_ ?_ _) | go_size))⟩
  go_enter Tryz.func4, Tryz.ntmps4
  go_wp2_with fail
  refine (szNet_any _ n _ _ lo (HV.out.keep ?_) (by omega) (by omega) HO.out).mono ?_
  · (repeat' (first | (with_reducible exact Carries.refl _ _) | (with_reducible assumption) | (with_reducible refine Carries.alloc ?_ _) | (with_reducible refine Carries.drew ?_) | (with_reducible refine Carries.drewN ?_ _) | (with_reducible refine Carries.set ?_ ?_ _) | go_size))
  rintro e w1 ⟨r, rfl, hr, hb1⟩
  have hw1 : Below w.heap.size w w1 := by
    refine Below.trans ?_ (hb1.mono ?_)
    · (repeat' (first | (with_reducible exact Below.refl _ _) | (with_reducible assumption) | (with_reducible refine Below.alloc ?_ ?_ _) | (with_reducible refine Below.drew ?_) | (with_reducible refine below_drewN ?_ _) | (with_reducible refine Below.setCell ?_ ?_ _) | go_size))
    · simp; omega
  have a0_ : w1.cell? ⟨w.heap.size, 0, none⟩ = some (.int .i64 p) := cell_carry (by simp) (Carries.of 0 hb1)
  have a1_ : w1.cell? ⟨w.heap.size, 1, none⟩ = some (.slice ao m cap) := cell_carry (by simp) (Carries.of 0 hb1)
  have a2_ : w1.cell? ⟨w.heap.size + 1, 0, none⟩ = some (.slice a0 nc k0) := cell_carry (by simp) (Carries.of 0 hb1)
  have a3_ : w1.cell? ⟨w.heap.size + 1, 1, none⟩ = some (.slice a1 ne k1) := cell_carry (by simp) (Carries.of 0 hb1)
  have z1 : w.heap.size + 1 < w1.heap.size := by have := hb1.size; simp at this; omega
  clear hb1
  rcases hr with rfl | ⟨hr0, hr1, hsm⟩
  · go_wp2_with fail
    go_ret
    exact ⟨rfl, hw1⟩
  have HS := Lib.hid hsm; clear hsm
  go_wp2_with fail
  refine (szUnfolding_any _ u _ _ lo (HVU.out.keep (Carries.of lo hw1)) hr0 (by omega) HOU.out).mono ?_
  rintro e w1b ⟨r2, rfl, hr2, hb1b⟩
  have hw1 : Below w.heap.size w w1b := hw1.trans (hb1b.mono hw1.size)
  have a0_ := cell_carry a0_ (Carries.of 0 hb1b)
  have a1_ := cell_carry a1_ (Carries.of 0 hb1b)
  have a2_ := cell_carry a2_ (Carries.of 0 hb1b)
  have a3_ := cell_carry a3_ (Carries.of 0 hb1b)
  have z1 : w.heap.size + 1 < w1b.heap.size := by have := hb1b.size; omega
  clear hb1b
  rcases hr2 with rfl | ⟨hr20, _, hsu⟩
  · go_wp2_with fail
    go_ret
    exact ⟨rfl, hw1⟩
  have HSU := Lib.hid hsu; clear hsu
  go_upto_region 10 with fail
  go_cut [12, 13] from 31 to 41 (fun v8 v9 wx => v8 = .int .i64 (erV n s u a b) ∧ v9 = .bool (erB n s u a b) ∧ Below w1b.heap.size w1b wx)
  case first =>
    refine wp_region_held_drew (S := fun w' => w'.cell? ⟨w.heap.size, 0, none⟩ = some (.int .i64 p) ∧ w'.cell? ⟨w.heap.size, 1, none⟩ = some (.slice ao m cap) ∧ w'.cell? ⟨w.heap.size + 1, 0, none⟩ = some (.slice a0 nc k0) ∧ w'.cell? ⟨w.heap.size + 1, 1, none⟩ = some (.slice a1 ne k1)) (by kernel_rfl) ⟨a0_, a1_, a2_, a3_⟩ (fun hHeld => ?_)
    refine tk0 (v := ?_) (by kernel_rfl) (by kernel_rfl) (by kernel_rfl) (by first | exact fun _ _ _ h => h | exact fun _ _ _ h => absurd h.1 (by simp)) (Or.inl ⟨by rfl, ?_⟩) (by assumption) ?_
    rotate_left 1
    focus (intro wx hSw; (try dsimp only at hSw); go_simp; try (with_reducible rfl))
    try simp only [Act.put, List.setIfInBounds_toArray, List.set_cons_zero, List.set_cons_succ]
    refine tk2 (v := ?_) (by kernel_rfl) (by kernel_rfl) (by kernel_rfl) (by first | exact fun _ _ _ h => h | exact fun _ _ _ h => absurd h.1 (by simp)) (Or.inl ⟨by rfl, ?_⟩) (by assumption) ?_
    rotate_left 1
    focus (intro wx hSw; (try dsimp only at hSw); go_simp; try (with_reducible rfl))
    try simp only [Act.put, List.setIfInBounds_toArray, List.set_cons_zero, List.set_cons_succ]
    refine tk3 (v := ?_) (by kernel_rfl) (by kernel_rfl) (by kernel_rfl) (by first | exact fun _ _ _ h => h | exact fun _ _ _ h => absurd h.1 (by simp)) (Or.inl ⟨by rfl, ?_⟩) (by assumption) ?_
    rotate_left 1
    focus (intro wx hSw; (try dsimp only at hSw); go_simp; try (with_reducible rfl))
    try simp only [Act.put, List.setIfInBounds_toArray, List.set_cons_zero, List.set_cons_succ]
    refine tk5 (v := ?_) (by kernel_rfl) (by kernel_rfl) (by kernel_rfl) (by first | exact fun _ _ _ h => h | exact fun _ _ _ h => absurd h.1 (by simp)) (Or.inl ⟨by rfl, ?_⟩) (by assumption) ?_
    rotate_left 1
    focus (intro wx hSw; (try dsimp only at hSw); go_simp; try (with_reducible rfl))
    try simp only [Act.put, List.setIfInBounds_toArray, List.set_cons_zero, List.set_cons_succ]
    refine tk6 (v := ?_) (by kernel_rfl) (by kernel_rfl) (by kernel_rfl) (by first | exact fun _ _ _ h => h | exact fun _ _ _ h => absurd h.1 (by simp)) (Or.inl ⟨by rfl, ?_⟩) (by assumption) ?_
    rotate_left 1
    focus (intro wx hSw; (try dsimp only at hSw); go_simp; try (with_reducible rfl))
    try simp only [Act.put, List.setIfInBounds_toArray, List.set_cons_zero, List.set_cons_succ]
    refine rd1 (by kernel_rfl) (fun K hK => ?_)
    go_simp
    refine (toNet_any _ n w1b.drew lo (HV.out.keep (Carries.of lo hw1.drew)) HS.out).mono ?_
    rintro e x1 ⟨vn, rfl, hn2, hc_x1⟩
    have hx1 : Below w1b.heap.size w1b x1 := Below.trans (b := w1b.drew) (Below.refl _ _).drew (hc_x1.mono (by simp))
    have a0_ := cell_carry a0_ (Carries.of 0 hx1)
    have a1_ := cell_carry a1_ (Carries.of 0 hx1)
    have a2_ := cell_carry a2_ (Carries.of 0 hx1)
    have a3_ := cell_carry a3_ (Carries.of 0 hx1)
    refine hK.out _ _ ⟨a0_, a1_, a2_, a3_⟩ (fun hHeld => ?_)
    clear hK K
    try simp only [Act.put, List.setIfInBounds_toArray, List.set_cons_zero, List.set_cons_succ]
    refine rd4 (by kernel_rfl) (fun K hK => ?_)
    go_simp
    refine (toUnfolding_any _ u x1 lo (HVU.out.keep (Carries.of lo (hw1.trans (hx1.mono hw1.size)))) HSU.out).mono ?_
    rintro e x2 ⟨vq, rfl, hu2, hc_x2⟩
    have hx2 : Below w1b.heap.size w1b x2 := hx1.trans (hc_x2.mono hx1.size)
    have a0_ := cell_carry a0_ (Carries.of 0 hc_x2)
    have a1_ := cell_carry a1_ (Carries.of 0 hc_x2)
    have a2_ := cell_carry a2_ (Carries.of 0 hc_x2)
    have a3_ := cell_carry a3_ (Carries.of 0 hc_x2)
    refine hK.out _ _ ⟨a0_, a1_, a2_, a3_⟩ (fun hHeld => ?_)
    clear hK K
    try simp only [Act.put, List.setIfInBounds_toArray, List.set_cons_zero, List.set_cons_succ]
    refine rd7 (by kernel_rfl) (fun K hK => ?_)
    go_simp
    refine (specEventRelation_any _ n s _ u a b x2 _ _ (hn2.keep (Carries.of _ hc_x2)) (hu2) HS.out HSU.out hz_s).mono ?_
    rintro e x3 ⟨rfl, hc_x3⟩
    have hx3 : Below w1b.heap.size w1b x3 := hx2.trans (hc_x3.mono hx2.size)
    have a0_ := cell_carry a0_ (Carries.of 0 hc_x3)
    have a1_ := cell_carry a1_ (Carries.of 0 hc_x3)
    have a2_ := cell_carry a2_ (Carries.of 0 hc_x3)
    have a3_ := cell_carry a3_ (Carries.of 0 hc_x3)
    refine hK.out _ _ ⟨a0_, a1_, a2_, a3_⟩ (fun hHeld => ?_)
    clear hK K
    try simp only [Act.put, List.setIfInBounds_toArray, List.set_cons_zero, List.set_cons_succ]
    refine tk8 (v := ?_) (by kernel_rfl) (by kernel_rfl) (by kernel_rfl) (by first | exact fun _ _ _ h => h | exact fun _ _ _ h => absurd h.1 (by simp)) (Or.inl ⟨by rfl, ?_⟩) (by assumption) ?_
    rotate_left 1
    focus (intro wx hSw; (try dsimp only at hSw); go_simp; try (with_reducible rfl))
    try simp only [Act.put, List.setIfInBounds_toArray, List.set_cons_zero, List.set_cons_succ]
    refine tk9 (v := ?_) (by kernel_rfl) (by kernel_rfl) (by kernel_rfl) (by first | exact fun _ _ _ h => h | exact fun _ _ _ h => absurd h.1 (by simp)) (Or.inl ⟨by rfl, ?_⟩) (by assumption) ?_
    rotate_left 1
    focus (intro wx hSw; (try dsimp only at hSw); go_simp; try (with_reducible rfl))
    try simp only [Act.put, List.setIfInBounds_toArray, List.set_cons_zero, List.set_cons_succ]
    refine tk10 (v := ?_) (by kernel_rfl) (by kernel_rfl) (by kernel_rfl) (by first | exact fun _ _ _ h => h | exact fun _ _ _ h => absurd h.1 (by simp)) (Or.inl ⟨by rfl, ?_⟩) (by assumption) ?_
    rotate_left 1
    focus (intro wx hSw; (try dsimp only at hSw); go_simp; try (with_reducible rfl))
    try simp only [Act.put, List.setIfInBounds_toArray, List.set_cons_zero, List.set_cons_succ]
    refine tk11 (v := ?_) (by kernel_rfl) (by kernel_rfl) (by kernel_rfl) (by first | exact fun _ _ _ h => h | exact fun _ _ _ h => absurd h.1 (by simp)) (Or.inl ⟨by rfl, ?_⟩) (by assumption) ?_
    rotate_left 1
    focus (intro wx hSw; (try dsimp only at hSw); go_simp; try (with_reducible rfl))
    try simp only [Act.put, List.setIfInBounds_toArray, List.set_cons_zero, List.set_cons_succ]
    refine tk12 (v := ?_) (by kernel_rfl) (by kernel_rfl) (by kernel_rfl) (by first | exact fun _ _ _ h => h | exact fun _ _ _ h => absurd h.1 (by simp)) (Or.inl ⟨by rfl, ?_⟩) (by assumption) ?_
    rotate_left 1
    focus (intro wx hSw; (try dsimp only at hSw); go_simp; try (with_reducible rfl))
    try simp only [Act.put, List.setIfInBounds_toArray, List.set_cons_zero, List.set_cons_succ]
    refine wpAnyH_done (by kernel_rfl) ?_ _
    go_wp2_with fail
    go_meet
    case rel => exact ⟨rfl, rfl, hx3⟩
  case rest =>
  obtain ⟨rfl, rfl, hb3⟩ := hcut
  obtain ⟨w3, hw3e⟩ : ∃ x, x = wc := ⟨_, rfl⟩
  subst hw3e
  have hw3 : Below w.heap.size w w3 := hw1.trans (hb3.mono hw1.size)
  have c0_ := cell_carry a0_ (Carries.of 0 hb3)
  have c1_ := cell_carry a1_ (Carries.of 0 hb3)
  have c2_ := cell_carry a2_ (Carries.of 0 hb3)
  have c3_ := cell_carry a3_ (Carries.of 0 hb3)
  have z3 : w.heap.size + 1 < w3.heap.size := by have := hb3.size; omega
  generalize hG0 : erB n s u a b = r0_
  have HG0 := Lib.hid hG0; clear hG0
  generalize hG1 : erV n s u a b = r1_
  have HG1 := Lib.hid hG1; clear hG1
  clear a0_ a1_ a2_ a3_ hb3 z1
  go_wp2_with fail
  refine (toNet_any _ n _ lo (HV.out.keep (Carries.of lo hw3)) HS.out).mono ?_
  rintro e w4 ⟨v4, rfl, hn4, hb4⟩
  have hn4' := hn4
  obtain ⟨_, _, u4, rfl, ⟨a4, k4, rfl, _, _⟩⟩ := hn4'
  rw [← HM.out, ← HP.out] at hn4 ⊢
  have hw4 : Below w.heap.size w w4 := hw3.trans (hb4.mono (by omega))
  have d0_ := cell_carry c0_ (Carries.of 0 hb4)
  have d1_ := cell_carry c1_ (Carries.of 0 hb4)
  have d2_ := cell_carry c2_ (Carries.of 0 hb4)
  have d3_ := cell_carry c3_ (Carries.of 0 hb4)
  have z4 : w.heap.size + 1 < w4.heap.size := by have := hb4.size; omega
  clear c0_ c1_ c2_ c3_ hb4
  have H4 := Lib.hid hn4; clear hn4
  obtain ⟨W4, hW4⟩ : ∃ x, x = w4.alloc (.cells #[.int .i64 p, .slice a4 m k4] 43) := ⟨_, rfl⟩
  have HA4 : Below w4.heap.size w4 W4 := by rw [hW4]; exact (Below.refl _ _).alloc (Nat.le_refl _) _
  have n0 : W4.cell? ⟨w4.heap.size, 0, none⟩ = some (.int .i64 p) := by rw [hW4]; exact (cell_new2 rfl).1
  have n1 : W4.cell? ⟨w4.heap.size, 1, none⟩ = some (.slice a4 m k4) := by rw [hW4]; exact (cell_new2 rfl).2
  have zW4 : W4.heap.size = w4.heap.size + 1 := by rw [hW4]; simp
  have HZ4 := Lib.hid zW4; clear zW4
  have hw4b : Below w.heap.size w W4 := hw4.trans (HA4.mono hw4.size)
  have d0_ := cell_carry d0_ (Carries.of 0 HA4)
  have d1_ := cell_carry d1_ (Carries.of 0 HA4)
  have d2_ := cell_carry d2_ (Carries.of 0 HA4)
  have d3_ := cell_carry d3_ (Carries.of 0 HA4)
  have H4b := Lib.hid (H4.out.keep (Carries.of _ HA4))
  go_wp2_with (go_at_call 10; rw [← hW4]; clear hW4; refine (toUnfolding_any _ u _ lo (HVU.out.keep (Carries.of lo hw4b)) HSU.out).mono ?_)
  rintro e w5 ⟨v5, rfl, hu5, hb5⟩
  obtain ⟨a5, k5, a6, k6, rfl, _, _⟩ := hu5.form
  rw [← HNC.out, ← HNE.out] at hu5 ⊢
  have hw5 : Below w.heap.size w w5 := hw4b.trans (hb5.mono hw4b.size)
  have d0_ := cell_carry d0_ (Carries.of 0 hb5)
  have d1_ := cell_carry d1_ (Carries.of 0 hb5)
  have d2_ := cell_carry d2_ (Carries.of 0 hb5)
  have d3_ := cell_carry d3_ (Carries.of 0 hb5)
  have n0 := cell_carry n0 (Carries.of 0 hb5)
  have n1 := cell_carry n1 (Carries.of 0 hb5)
  have z5 : w4.heap.size < w5.heap.size := by have := hb5.size; have := HZ4.out; omega
  have H5 := Lib.hid (H4b.out.keep (Carries.of _ hb5))
  clear hb5 HA4
  have HU5 := Lib.hid hu5; clear hu5
  obtain ⟨W5, hW5⟩ : ∃ x, x = w5.alloc (.cells #[.slice a5 nc k5, .slice a6 ne k6] 38) := ⟨_, rfl⟩
  have HA5 : Below w5.heap.size w5 W5 := by rw [hW5]; exact (Below.refl _ _).alloc (Nat.le_refl _) _
  have u0 : W5.cell? ⟨w5.heap.size, 0, none⟩ = some (.slice a5 nc k5) := by rw [hW5]; exact (cell_new2 rfl).1
  have u1 : W5.cell? ⟨w5.heap.size, 1, none⟩ = some (.slice a6 ne k6) := by rw [hW5]; exact (cell_new2 rfl).2
  have zW5 : W5.heap.size = w5.heap.size + 1 := by rw [hW5]; simp
  have HZ5 := Lib.hid zW5; clear zW5
  have hw5b : Below w.heap.size w W5 := hw5.trans (HA5.mono hw5.size)
  have d0_ := cell_carry d0_ (Carries.of 0 HA5)
  have d1_ := cell_carry d1_ (Carries.of 0 HA5)
  have d2_ := cell_carry d2_ (Carries.of 0 HA5)
  have d3_ := cell_carry d3_ (Carries.of 0 HA5)
  have n0 := cell_carry n0 (Carries.of 0 HA5)
  have n1 := cell_carry n1 (Carries.of 0 HA5)
  have H5b := Lib.hid (H5.out.keep (Carries.of _ HA5))
  have HU5b := Lib.hid (HU5.out.keep (Carries.of _ HA5))
  clear HA5
  have n0c := n0
  have n1c := n1
  rw [hW5] at n0c n1c
  go_wp2_with (go_at_call 21; rw [← hW5]; clear n0c n1c hW5; refine (EventRelation_any _ n s _ u a b _ _ _ H5b.out HU5b.out HS.out HSU.out hz_s).mono ?_)
  rintro e w6 ⟨rfl, hb6⟩
  rw [HG0.out, HG1.out]
  have hw6 : Below w.heap.size w w6 := hw5b.trans (hb6.mono hw5b.size)
  have d0_ := cell_carry d0_ (Carries.of 0 hb6)
  have d1_ := cell_carry d1_ (Carries.of 0 hb6)
  have d2_ := cell_carry d2_ (Carries.of 0 hb6)
  have d3_ := cell_carry d3_ (Carries.of 0 hb6)
  have n0 := cell_carry n0 (Carries.of 0 hb6)
  have n1 := cell_carry n1 (Carries.of 0 hb6)
  have u0 := cell_carry u0 (Carries.of 0 hb6)
  have u1 := cell_carry u1 (Carries.of 0 hb6)
  have H6 := Lib.hid (H5b.out.keep (Carries.of _ hb6))
  have HU6 := Lib.hid (HU5b.out.keep (Carries.of _ hb6))
  have z6 : w5.heap.size < w6.heap.size := by have := hb6.size; have := HZ5.out; omega
  clear hb6
  have hne0 : (r0_ != r0_) = false := by simp
  have hne1 : (r1_ != r1_) = false := by simp
  go_wp2_with fail
  go_region_held3 (fun w' => w'.cell? ⟨w.heap.size, 0, none⟩ = some (.int .i64 p) ∧ w'.cell? ⟨w.heap.size, 1, none⟩ = some (.slice ao m cap) ∧ w'.cell? ⟨w4.heap.size, 0, none⟩ = some (.int .i64 p) ∧ w'.cell? ⟨w4.heap.size, 1, none⟩ = some (.slice a4 m k4))
    (first
      | exact ⟨d0_, d1_, n0, n1⟩
      | exact ⟨cell_carry (w := w6.drew) d0_ (Carries.of 0 hb7), cell_carry (w := w6.drew) d1_ (Carries.of 0 hb7), cell_carry (w := w6.drew) n0 (Carries.of 0 hb7), cell_carry (w := w6.drew) n1 (Carries.of 0 hb7)⟩
      | exact ⟨cell_carry (cell_carry (w := w6.drew) d0_ (Carries.of 0 hb7)) (Carries.of 0 hb8), cell_carry (cell_carry (w := w6.drew) d1_ (Carries.of 0 hb7)) (Carries.of 0 hb8), cell_carry (cell_carry (w := w6.drew) n0 (Carries.of 0 hb7)) (Carries.of 0 hb8), cell_carry (cell_carry (w := w6.drew) n1 (Carries.of 0 hb7)) (Carries.of 0 hb8)⟩)
    (first
      | (go_at_call 9; refine (toNet_any _ n w6.drew lo (HV.out.keep (Carries.of lo hw6.drew)) HS.out).mono ?_; rintro e w7 ⟨v7, rfl, hn7, hb7⟩)
      | (go_at_call 14; refine (eqNet_any _ _ n n _ _ _ (H6.out.keep (Carries.of (w := w6.drew) _ hb7)) hn7 HS.out HS.out).mono ?_; rintro e w8 ⟨rfl, hb8⟩))
  have b68 : Below w6.heap.size w6 w8 := Below.trans (b := w6.drew) (Below.refl _ _).drew (Below.trans hb7 (hb8.mono hb7.size))
  have hw8 : Below w.heap.size w w8 := hw6.trans (b68.mono hw6.size)
  have d2_ := cell_carry d2_ (Carries.of 0 b68)
  have d3_ := cell_carry d3_ (Carries.of 0 b68)
  have u0 := cell_carry u0 (Carries.of 0 b68)
  have u1 := cell_carry u1 (Carries.of 0 b68)
  have HU8 := Lib.hid (HU6.out.keep (Carries.of _ b68))
  have z8 : w5.heap.size < w8.heap.size := by have := b68.size; omega
  clear hb7 hb8 b68 d0_ d1_ n0 n1 hn7 hne0 hne1
  go_wp2_with fail
  go_region_held3 (fun w' => w'.cell? ⟨w.heap.size + 1, 0, none⟩ = some (.slice a0 nc k0) ∧ w'.cell? ⟨w.heap.size + 1, 1, none⟩ = some (.slice a1 ne k1) ∧ w'.cell? ⟨w5.heap.size, 0, none⟩ = some (.slice a5 nc k5) ∧ w'.cell? ⟨w5.heap.size, 1, none⟩ = some (.slice a6 ne k6))
    (first
      | exact ⟨d2_, d3_, u0, u1⟩
      | exact ⟨cell_carry (w := w8.drew) d2_ (Carries.of 0 hb9), cell_carry (w := w8.drew) d3_ (Carries.of 0 hb9), cell_carry (w := w8.drew) u0 (Carries.of 0 hb9), cell_carry (w := w8.drew) u1 (Carries.of 0 hb9)⟩
      | exact ⟨cell_carry (cell_carry (w := w8.drew) d2_ (Carries.of 0 hb9)) (Carries.of 0 hb10), cell_carry (cell_carry (w := w8.drew) d3_ (Carries.of 0 hb9)) (Carries.of 0 hb10), cell_carry (cell_carry (w := w8.drew) u0 (Carries.of 0 hb9)) (Carries.of 0 hb10), cell_carry (cell_carry (w := w8.drew) u1 (Carries.of 0 hb9)) (Carries.of 0 hb10)⟩)
    (first
      | (go_at_call 10; refine (toUnfolding_any _ u w8.drew lo (HVU.out.keep (Carries.of lo hw8.drew)) HSU.out).mono ?_; rintro e w9 ⟨v9, rfl, hu9, hb9⟩)
      | (go_at_call 13; refine (eqUnfolding_any _ _ u u _ _ _ (HU8.out.keep (Carries.of (w := w8.drew) _ hb9)) hu9 HSU.out HSU.out).mono ?_; rintro e w10 ⟨rfl, hb10⟩))
  have b810 : Below w8.heap.size w8 w10 := Below.trans (b := w8.drew) (Below.refl _ _).drew (Below.trans hb9 (hb10.mono hb9.size))
  have hw10 : Below w.heap.size w w10 := hw8.trans (b810.mono hw8.size)
  rw [eqUnfB_self]
  go_wp2_with fail
  go_ret
  exact ⟨rfl, hw10⟩

end Go.Proofs.YtigkgfdnnfmmmaaGreat
