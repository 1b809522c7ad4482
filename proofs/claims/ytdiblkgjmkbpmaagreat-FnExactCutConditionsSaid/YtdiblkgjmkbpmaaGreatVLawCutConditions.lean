/- WALK of the law FnExactCutConditions. -/
import Derived.Test.YtdiblkgjmkbpmaaGreatVCcp
import Derived.Test.YtdiblkgjmkbpmaaGreatVUfw
import Derived.Test.YtdiblkgjmkbpmaaGreatVSep
import Derived.Test.YtdiblkgjmkbpmaaGreatVUfr
import Derived.Test.YtdiblkgjmkbpmaaGreatVUfq
import Derived.Deep.RegionHeld3
import Derived.Deep.CutRange
namespace Go.Proofs.YtdiblkgjmkbpmaaGreat
open Go.RowKit

theorem self_ints (L : List Int) : decide (L = L) = true := decide_eq_true rfl
theorem stir_same {lo hi l : Nat} {w w' : World} (h : Stir lo hi w w') (hl : hi ≤ l) : Same l w w' := ⟨h.size, fun b h1 h2 => h.block b h2 (Or.inr (by omega))⟩
theorem marks_stir {lo hi : Nat} {w w' : World} (h : Marks lo hi w w') : Stir lo hi w w' := ⟨h.os, h.tape, h.output, by rw [h.size]; exact Nat.le_refl _, fun b _ hc => h.block b hc⟩
theorem ints_stir {lo hi l k : Nat} {w w' : World} {v : Value} {zs : List Int} (h : IntsIn lo hi w v zs) (hm : Stir l k w w') (hl : hi ≤ l) : IntsIn lo hi w' v zs := by
  obtain ⟨⟨ao, cap, rfl, hc, hz⟩, hB⟩ := h
  refine ⟨⟨ao, cap, rfl, hc, ?_⟩, hB⟩
  rcases hz with hz | ⟨b, off, rfl, hlo, hcell⟩
  · exact Or.inl hz
  · exact Or.inr ⟨b, off, rfl, hlo, fun i hi => hm.cell (Or.inl (by have := hB b off _ _ rfl (by omega); simp; omega)) (hcell i hi)⟩

set_option maxRecDepth 100000 in
set_option maxHeartbeats 2000000 in
theorem lawCutConditions_any (v : Value) (n : NetD) (s : ByteArray) (vu : Value) (u : UnfD) (vl : Value) (L : List Int) (w : World) (lo : Nat) (hv : NetAt lo w v n) (hvu : UnfAt lo w vu u) (hvl : IntsAt lo w vl L) (hok : OkTrs n.ts) (hoku : OkUnf u) (hokl : L.length ≤ 9223372036854775807) (hs : s.size ≤ 9223372036854775807) :
    Calls Tryz.prog 6 #[v, .string s, vu, vl] w (RetB w true) := by
  have hv' := hv
  obtain ⟨hp0, hp1, u0, rfl, ht⟩ := hv'
  obtain ⟨ao, cap, rfl, _, hz⟩ := ht
  obtain ⟨a0, k0, a1, k1, rfl, hcc, hee⟩ := hvu.form
  have HVL := Lib.hid hvl
  obtain ⟨al, kl, rfl, hxa, hxb⟩ := hvl
  obtain ⟨nl, hnl⟩ : ∃ x, x = L.length := ⟨_, rfl⟩
  rw [← hnl] at HVL hokl ⊢
  have HNL := Lib.hid hnl
  clear hxa hxb hnl
  have HV := Lib.hid hv; clear hv hz
  have HVU := Lib.hid hvu; clear hvu hcc hee
  have HO := Lib.hid hok; clear hok
  have HOU := Lib.hid hoku; clear hoku
  obtain ⟨m, hm⟩ : ∃ m, m = n.ts.length := ⟨_, rfl⟩
  obtain ⟨p, hp⟩ : ∃ p, p = n.places := ⟨_, rfl⟩
  obtain ⟨nc, hnc⟩ : ∃ m, m = u.cs.length := ⟨_, rfl⟩
  obtain ⟨ne, hne⟩ : ∃ m, m = u.es.length := ⟨_, rfl⟩
  rw [← hm, ← hp] at HV ⊢
  rw [← hnc, ← hne] at HVU ⊢
  rw [← hp] at hp0 hp1
  have HM := Lib.hid hm; clear hm
  have HP := Lib.hid hp; clear hp
  have HNC := Lib.hid hnc; clear hnc
  have HNE := Lib.hid hne; clear hne
  by_cases hz_s : s.size ≤ 1048576
  case neg =>
    go_enter Tryz.func6, Tryz.ntmps6
    go_wp2_with fail
    go_ret
    exact ⟨rfl, by (repeat' (first | (with_reducible exact Below.refl _ _) | (with_reducible assumption) | (with_reducible refine Below.alloc ?_ ?_ _) | (with_reducible refine Below.drew ?_) | (with_reducible refine below_drewN ?_ _) | (with_reducible refine Below.setCell ?_ ?_ _) | go_size))⟩
  by_cases hz_l : nl ≤ 1048576
  case neg =>
    go_enter Tryz.func6, Tryz.ntmps6
    go_wp2_with fail
    go_ret
    exact ⟨rfl, by (repeat' (first | (with_reducible exact Below.refl _ _) | (with_reducible assumption) | (with_reducible refine Below.alloc ?_ ?_ _) | (with_reducible refine Below.drew ?_) | (with_reducible refine below_drewN ?_ _) | (with_reducible refine Below.setCell ?_ ?_ _) | go_size))⟩
  have HLL : Hid (L.length ≤ 1048576) := by have := HNL.out; unfold Hid; omega
  go_enter Tryz.func6, Tryz.ntmps6
  go_wp2_with fail
  refine (szNet_any _ n _ _ lo (HV.out.keep ?_) (by omega) (by omega) HO.out).mono ?_
  · (repeat' (first | (with_reducible exact Carries.refl _ _) | (with_reducible assumption) | (with_reducible refine Carries.alloc ?_ _) | (with_reducible refine Carries.drew ?_) | (with_reducible refine Carries.drewN ?_ _) | (with_reducible refine Carries.set ?_ ?_ _) | go_size))
  rintro e w1 ⟨r, rfl, hr, hb1⟩
  have hw1 : Below w.heap.size w w1 := by
    refine Below.trans ?_ (hb1.mono ?_)
    · (repeat' (first | (with_reducible exact Below.refl _ _) | (with_reducible assumption) | (with_reducible refine Below.alloc ?_ ?_ _) | (with_reducible refine Below.drew ?_) | (with_reducible refine below_drewN ?_ _) | (with_reducible refine Below.setCell ?_ ?_ _) | go_size))
    · simp; omega
  have a0_ : w1.cell? ⟨w.heap.size, 0, none⟩ = some (.int .i64 p) := cell_carry (by simp) (Carries.of 0 hb1)
  have a1_ : w1.cell? ⟨w.heap.size, 1, none⟩ = some (.slice ao m cap) := cell_carry (by simp) (Carries.of 0 hb1)
  have a2_ : w1.cell? ⟨w.heap.size + 1, 0, none⟩ = some (.slice a0 nc k0) := cell_carry (by simp) (Carries.of 0 hb1)
  have a3_ : w1.cell? ⟨w.heap.size + 1, 1, none⟩ = some (.slice a1 ne k1) := cell_carry (by simp) (Carries.of 0 hb1)
  have z1 : w.heap.size + 1 < w1.heap.size := by have := hb1.size; simp at this; omega
  clear hb1
  rcases hr with rfl | ⟨hr0, hr1, hsm⟩
  · go_wp2_with fail
    go_ret
    exact ⟨rfl, hw1⟩
  have HS := Lib.hid hsm; clear hsm
  go_wp2_with fail
  refine (szUnfolding_any _ u _ _ lo (HVU.out.keep (Carries.of lo hw1)) hr0 (by omega) HOU.out).mono ?_
  rintro e w1b ⟨r2, rfl, hr2, hb1b⟩
  have hw1 : Below w.heap.size w w1b := hw1.trans (hb1b.mono hw1.size)
  have a0_ := cell_carry a0_ (Carries.of 0 hb1b)
  have a1_ := cell_carry a1_ (Carries.of 0 hb1b)
  have a2_ := cell_carry a2_ (Carries.of 0 hb1b)
  have a3_ := cell_carry a3_ (Carries.of 0 hb1b)
  have z1 : w.heap.size + 1 < w1b.heap.size := by have := hb1b.size; omega
  clear hb1b
  rcases hr2 with rfl | ⟨hr20, _, hsu⟩
  · go_wp2_with fail
    go_ret
    exact ⟨rfl, hw1⟩
  have HSU := Lib.hid hsu; clear hsu
  go_upto_region 12 with fail
  go_cut [10, 11] from 38 to 48 (fun vA vB wx => IntsOw w1b.heap.size wx vA (ccV n s u L) ∧ vB = .bool (icV n s u L) ∧ Below w1b.heap.size w1b wx)
  case first =>
    refine wp_region_held_drew (S := fun w' => w'.cell? ⟨w.heap.size, 0, none⟩ = some (.int .i64 p) ∧ w'.cell? ⟨w.heap.size, 1, none⟩ = some (.slice ao m cap) ∧ w'.cell? ⟨w.heap.size + 1, 0, none⟩ = some (.slice a0 nc k0) ∧ w'.cell? ⟨w.heap.size + 1, 1, none⟩ = some (.slice a1 ne k1)) (by kernel_rfl) ⟨a0_, a1_, a2_, a3_⟩ (fun hHeld => ?_)
    refine tk0 (v := ?_) (by kernel_rfl) (by kernel_rfl) (by kernel_rfl) (by first | exact fun _ _ _ h => h | exact fun _ _ _ h => absurd h.1 (by simp)) (Or.inl ⟨by rfl, ?_⟩) (by assumption) ?_
    rotate_left 1
    focus (intro wx hSw; (try dsimp only at hSw); go_simp; try (with_reducible rfl))
    try simp only [Act.put, List.setIfInBounds_toArray, List.set_cons_zero, List.set_cons_succ]
    refine tk2 (v := ?_) (by kernel_rfl) (by kernel_rfl) (by kernel_rfl) (by first | exact fun _ _ _ h => h | exact fun _ _ _ h => absurd h.1 (by simp)) (Or.inl ⟨by rfl, ?_⟩) (by assumption) ?_
    rotate_left 1
    focus (intro wx hSw; (try dsimp only at hSw); go_simp; try (with_reducible rfl))
    try simp only [Act.put, List.setIfInBounds_toArray, List.set_cons_zero, List.set_cons_succ]
    refine tk3 (v := ?_) (by kernel_rfl) (by kernel_rfl) (by kernel_rfl) (by first | exact fun _ _ _ h => h | exact fun _ _ _ h => absurd h.1 (by simp)) (Or.inl ⟨by rfl, ?_⟩) (by assumption) ?_
    rotate_left 1
    focus (intro wx hSw; (try dsimp only at hSw); go_simp; try (with_reducible rfl))
    try simp only [Act.put, List.setIfInBounds_toArray, List.set_cons_zero, List.set_cons_succ]
    refine tk5 (v := ?_) (by kernel_rfl) (by kernel_rfl) (by kernel_rfl) (by first | exact fun _ _ _ h => h | exact fun _ _ _ h => absurd h.1 (by simp)) (Or.inl ⟨by rfl, ?_⟩) (by assumption) ?_
    rotate_left 1
    focus (intro wx hSw; (try dsimp only at hSw); go_simp; try (with_reducible rfl))
    try simp only [Act.put, List.setIfInBounds_toArray, List.set_cons_zero, List.set_cons_succ]
    refine rd1 (by kernel_rfl) (fun K hK => ?_)
    go_simp
    refine (toNet_any _ n w1b.drew lo (HV.out.keep (Carries.of lo hw1.drew)) HS.out).mono ?_
    rintro e x1 ⟨vn, rfl, hn2, hc_x1⟩
    have hx1 : Below w1b.heap.size w1b x1 := Below.trans (b := w1b.drew) (Below.refl _ _).drew (hc_x1.mono (by simp))
    have a0_ := cell_carry a0_ (Carries.of 0 hx1)
    have a1_ := cell_carry a1_ (Carries.of 0 hx1)
    have a2_ := cell_carry a2_ (Carries.of 0 hx1)
    have a3_ := cell_carry a3_ (Carries.of 0 hx1)
    refine hK.out _ _ ⟨a0_, a1_, a2_, a3_⟩ (fun hHeld => ?_)
    clear hK K
    try simp only [Act.put, List.setIfInBounds_toArray, List.set_cons_zero, List.set_cons_succ]
    refine rd4 (by kernel_rfl) (fun K hK => ?_)
    go_simp
    refine (toUnfolding_any _ u x1 lo (HVU.out.keep (Carries.of lo (hw1.trans (hx1.mono hw1.size)))) HSU.out).mono ?_
    rintro e x2 ⟨vq, rfl, hu2, hc_x2⟩
    have hx2 : Below w1b.heap.size w1b x2 := hx1.trans (hc_x2.mono hx1.size)
    have a0_ := cell_carry a0_ (Carries.of 0 hc_x2)
    have a1_ := cell_carry a1_ (Carries.of 0 hc_x2)
    have a2_ := cell_carry a2_ (Carries.of 0 hc_x2)
    have a3_ := cell_carry a3_ (Carries.of 0 hc_x2)
    refine hK.out _ _ ⟨a0_, a1_, a2_, a3_⟩ (fun hHeld => ?_)
    clear hK K
    try simp only [Act.put, List.setIfInBounds_toArray, List.set_cons_zero, List.set_cons_succ]
    refine rd6 (by kernel_rfl) (fun K hK => ?_)
    go_simp
    refine (toIntS_any _ L x2 lo (HVL.out.keep (Carries.of lo (hw1.trans (hx2.mono hw1.size)))) HLL.out).mono ?_
    rintro e x2b ⟨vi, rfl, hi2, hc_x2b⟩
    have hx2b : Below w1b.heap.size w1b x2b := hx2.trans (hc_x2b.mono hx2.size)
    have a0_ := cell_carry a0_ (Carries.of 0 hc_x2b)
    have a1_ := cell_carry a1_ (Carries.of 0 hc_x2b)
    have a2_ := cell_carry a2_ (Carries.of 0 hc_x2b)
    have a3_ := cell_carry a3_ (Carries.of 0 hc_x2b)
    refine hK.out _ _ ⟨a0_, a1_, a2_, a3_⟩ (fun hHeld => ?_)
    clear hK K
    try simp only [Act.put, List.setIfInBounds_toArray, List.set_cons_zero, List.set_cons_succ]
    refine rd7 (by kernel_rfl) (fun K hK => ?_)
    go_simp
    refine (specCutConditions_any _ n s _ u _ L x2b _ _ _ ((hn2.keep (Carries.of _ hc_x2)).keep (Carries.of _ hc_x2b)) (hu2.keep (Carries.of _ hc_x2b)) hi2 HS.out HSU.out HLL.out hz_s).mono ?_
    rintro e x3 ⟨vw, rfl, hiw, hc_x3⟩
    have hx3 : Below w1b.heap.size w1b x3 := hx2b.trans (hc_x3.mono hx2b.size)
    obtain ⟨aw, kw, rfl, hya, hyb⟩ := id hiw
    clear hya hyb
    obtain ⟨nw, hnw⟩ : ∃ y, y = (ccV n s u L).length := ⟨_, rfl⟩
    rw [← hnw] at hiw ⊢
    clear hnw
    have HIW := Lib.hid (hiw.low (lo' := w1b.heap.size) hx2b.size)
    clear hiw
    have a0_ := cell_carry a0_ (Carries.of 0 hc_x3)
    have a1_ := cell_carry a1_ (Carries.of 0 hc_x3)
    have a2_ := cell_carry a2_ (Carries.of 0 hc_x3)
    have a3_ := cell_carry a3_ (Carries.of 0 hc_x3)
    refine hK.out _ _ ⟨a0_, a1_, a2_, a3_⟩ (fun hHeld => ?_)
    clear hK K
    try simp only [Act.put, List.setIfInBounds_toArray, List.set_cons_zero, List.set_cons_succ]
    refine tk8 (v := ?_) (by kernel_rfl) (by kernel_rfl) (by kernel_rfl) (by first | exact fun _ _ _ h => h | exact fun _ _ _ h => absurd h.1 (by simp)) (Or.inl ⟨by rfl, ?_⟩) (by assumption) ?_
    rotate_left 1
    focus (intro wx hSw; (try dsimp only at hSw); go_simp; try (with_reducible rfl))
    try simp only [Act.put, List.setIfInBounds_toArray, List.set_cons_zero, List.set_cons_succ]
    refine tk9 (v := ?_) (by kernel_rfl) (by kernel_rfl) (by kernel_rfl) (by first | exact fun _ _ _ h => h | exact fun _ _ _ h => absurd h.1 (by simp)) (Or.inl ⟨by rfl, ?_⟩) (by assumption) ?_
    rotate_left 1
    focus (intro wx hSw; (try dsimp only at hSw); go_simp; try (with_reducible rfl))
    try simp only [Act.put, List.setIfInBounds_toArray, List.set_cons_zero, List.set_cons_succ]
    refine tk10 (v := ?_) (by kernel_rfl) (by kernel_rfl) (by kernel_rfl) (by first | exact fun _ _ _ h => h | exact fun _ _ _ h => absurd h.1 (by simp)) (Or.inl ⟨by rfl, ?_⟩) (by assumption) ?_
    rotate_left 1
    focus (intro wx hSw; (try dsimp only at hSw); go_simp; try (with_reducible rfl))
    try simp only [Act.put, List.setIfInBounds_toArray, List.set_cons_zero, List.set_cons_succ]
    refine tk11 (v := ?_) (by kernel_rfl) (by kernel_rfl) (by kernel_rfl) (by first | exact fun _ _ _ h => h | exact fun _ _ _ h => absurd h.1 (by simp)) (Or.inl ⟨by rfl, ?_⟩) (by assumption) ?_
    rotate_left 1
    focus (intro wx hSw; (try dsimp only at hSw); go_simp; try (with_reducible rfl))
    try simp only [Act.put, List.setIfInBounds_toArray, List.set_cons_zero, List.set_cons_succ]
    refine tk12 (v := ?_) (by kernel_rfl) (by kernel_rfl) (by kernel_rfl) (by first | exact fun _ _ _ h => h | exact fun _ _ _ h => absurd h.1 (by simp)) (Or.inl ⟨by rfl, ?_⟩) (by assumption) ?_
    rotate_left 1
    focus (intro wx hSw; (try dsimp only at hSw); go_simp; try (with_reducible rfl))
    try simp only [Act.put, List.setIfInBounds_toArray, List.set_cons_zero, List.set_cons_succ]
    refine wpAnyH_done (by kernel_rfl) ?_ _
    go_wp2_with fail
    go_meet
    case rel => exact ⟨HIW.out, rfl, hx3⟩
  case rest =>
  obtain ⟨hiw, rfl, hb3⟩ := hcut
  obtain ⟨w3, hw3e⟩ : ∃ x, x = wc := ⟨_, rfl⟩
  subst hw3e
  have hw3 : Below w.heap.size w w3 := hw1.trans (hb3.mono hw1.size)
  have c0_ := cell_carry a0_ (Carries.of 0 hb3)
  have c1_ := cell_carry a1_ (Carries.of 0 hb3)
  have c2_ := cell_carry a2_ (Carries.of 0 hb3)
  have c3_ := cell_carry a3_ (Carries.of 0 hb3)
  have z3 : w.heap.size + 1 < w3.heap.size := by have := hb3.size; omega
  generalize hG0 : icV n s u L = r0_
  have HG0 := Lib.hid hG0; clear hG0
  have hLR := ccV_len (n := n) (s := s) (u := u) (L := L)
  obtain ⟨aw, kw, rfl, hya, hyb⟩ := id hiw
  clear hya hyb
  generalize hG1 : ccV n s u L = r1_ at hiw hLR ⊢
  obtain ⟨nw, hnw⟩ : ∃ y, y = r1_.length := ⟨_, rfl⟩
  rw [← hnw] at hiw ⊢
  have HNW := Lib.hid hnw; clear hnw
  have HW3 : Hid (IntsIn w1b.heap.size w3.heap.size w3 (.slice aw nw kw) r1_) := ⟨hiw.at, hiw.at.bound⟩
  have HLR := Lib.hid hLR
  clear hiw hLR
  have HG1 := Lib.hid hG1; clear hG1
  clear a0_ a1_ a2_ a3_ hb3 z1
  go_wp2_with fail
  refine (toNet_ow _ n _ lo (HV.out.keep (Carries.of lo hw3)) HS.out).mono ?_
  rintro e w4 ⟨v4, rfl, how4, hb4⟩
  have hn4 := how4.at
  have hn4' := hn4
  obtain ⟨_, _, u4, rfl, ⟨a4, k4, rfl, _, _⟩⟩ := hn4'
  rw [← HM.out, ← HP.out] at hn4 how4 ⊢
  have HOW4 := Lib.hid how4; clear how4
  have HW4 := Lib.hid (HW3.out.keep (Carries.of _ hb4)); clear HW3
  have Z34 := Lib.hid hb4.size
  have hw4 : Below w.heap.size w w4 := hw3.trans (hb4.mono (by omega))
  have d0_ := cell_carry c0_ (Carries.of 0 hb4)
  have d1_ := cell_carry c1_ (Carries.of 0 hb4)
  have d2_ := cell_carry c2_ (Carries.of 0 hb4)
  have d3_ := cell_carry c3_ (Carries.of 0 hb4)
  have z4 : w.heap.size + 1 < w4.heap.size := by have := hb4.size; omega
  clear c0_ c1_ c2_ c3_ hb4
  have H4 := Lib.hid hn4; clear hn4
  obtain ⟨W4, hW4⟩ : ∃ x, x = w4.alloc (.cells #[.int .i64 p, .slice a4 m k4] 34) := ⟨_, rfl⟩
  have HA4 : Below w4.heap.size w4 W4 := by rw [hW4]; exact (Below.refl _ _).alloc (Nat.le_refl _) _
  have n0 : W4.cell? ⟨w4.heap.size, 0, none⟩ = some (.int .i64 p) := by rw [hW4]; exact (cell_new2 rfl).1
  have n1 : W4.cell? ⟨w4.heap.size, 1, none⟩ = some (.slice a4 m k4) := by rw [hW4]; exact (cell_new2 rfl).2
  have zW4 : W4.heap.size = w4.heap.size + 1 := by rw [hW4]; simp
  have HZ4 := Lib.hid zW4; clear zW4
  have BA4 := Lib.hid HA4
  have HW4b := Lib.hid (HW4.out.keep (Carries.of _ HA4)); clear HW4
  have hw4b : Below w.heap.size w W4 := hw4.trans (HA4.mono hw4.size)
  have d0_ := cell_carry d0_ (Carries.of 0 HA4)
  have d1_ := cell_carry d1_ (Carries.of 0 HA4)
  have d2_ := cell_carry d2_ (Carries.of 0 HA4)
  have d3_ := cell_carry d3_ (Carries.of 0 HA4)
  have H4b := Lib.hid (H4.out.keep (Carries.of _ HA4))
  go_wp2_with (go_at_call 14; rw [← hW4]; clear hW4; refine (toUnfolding_ow _ u _ lo (HVU.out.keep (Carries.of lo hw4b)) HSU.out).mono ?_)
  rintro e w5 ⟨v5, rfl, huo5, hu5, hb5⟩
  obtain ⟨a5, k5, a6, k6, rfl, _, _⟩ := hu5.form
  rw [← HNC.out, ← HNE.out] at hu5 huo5 ⊢
  have HUO5 := Lib.hid huo5; clear huo5
  have Z45 := Lib.hid hb5.size
  have BB4 := Lib.hid (BA4.out.trans (hb5.mono BA4.out.size)); clear BA4
  have HW5 := Lib.hid (HW4b.out.keep (Carries.of _ hb5)); clear HW4b
  have hw5 : Below w.heap.size w w5 := hw4b.trans (hb5.mono hw4b.size)
  have d0_ := cell_carry d0_ (Carries.of 0 hb5)
  have d1_ := cell_carry d1_ (Carries.of 0 hb5)
  have d2_ := cell_carry d2_ (Carries.of 0 hb5)
  have d3_ := cell_carry d3_ (Carries.of 0 hb5)
  have n0 := cell_carry n0 (Carries.of 0 hb5)
  have n1 := cell_carry n1 (Carries.of 0 hb5)
  have z5 : w4.heap.size < w5.heap.size := by have := hb5.size; have := HZ4.out; omega
  have H5 := Lib.hid (H4b.out.keep (Carries.of _ hb5))
  clear hb5 HA4
  have HU5 := Lib.hid hu5; clear hu5
  obtain ⟨W5, hW5⟩ : ∃ x, x = w5.alloc (.cells #[.slice a5 nc k5, .slice a6 ne k6] 39) := ⟨_, rfl⟩
  have HA5 : Below w5.heap.size w5 W5 := by rw [hW5]; exact (Below.refl _ _).alloc (Nat.le_refl _) _
  have u0 : W5.cell? ⟨w5.heap.size, 0, none⟩ = some (.slice a5 nc k5) := by rw [hW5]; exact (cell_new2 rfl).1
  have u1 : W5.cell? ⟨w5.heap.size, 1, none⟩ = some (.slice a6 ne k6) := by rw [hW5]; exact (cell_new2 rfl).2
  have zW5 : W5.heap.size = w5.heap.size + 1 := by rw [hW5]; simp
  have HZ5 := Lib.hid zW5; clear zW5
  have BC4 := Lib.hid (BB4.out.trans (HA5.mono BB4.out.size)); clear BB4
  have BC5 := Lib.hid HA5
  have HW5b := Lib.hid (HW5.out.keep (Carries.of _ HA5)); clear HW5
  have hw5b : Below w.heap.size w W5 := hw5.trans (HA5.mono hw5.size)
  have d0_ := cell_carry d0_ (Carries.of 0 HA5)
  have d1_ := cell_carry d1_ (Carries.of 0 HA5)
  have d2_ := cell_carry d2_ (Carries.of 0 HA5)
  have d3_ := cell_carry d3_ (Carries.of 0 HA5)
  have n0 := cell_carry n0 (Carries.of 0 HA5)
  have n1 := cell_carry n1 (Carries.of 0 HA5)
  have H5b := Lib.hid (H5.out.keep (Carries.of _ HA5))
  have HU5b := Lib.hid (HU5.out.keep (Carries.of _ HA5))
  clear HA5
  have n0c := n0
  have n1c := n1
  rw [hW5] at n0c n1c
  go_wp2_with (go_at_call 19; rw [← hW5]; clear n0c n1c hW5; refine (toIntS_ow _ L _ lo (HVL.out.keep (Carries.of lo hw5b)) HLL.out).mono ?_)
  rintro e w5c ⟨vi, rfl, hio5, hb5c⟩
  have hi5 := hio5.at
  have hi5' := hi5
  obtain ⟨ai, ki, rfl, hxa, hxb⟩ := hi5'
  clear hxa hxb
  rw [← HNL.out] at hi5 hio5 ⊢
  have HIO5 := Lib.hid hio5; clear hio5
  have Z5c := Lib.hid hb5c.size
  have BD4 := Lib.hid (BC4.out.trans (hb5c.mono BC4.out.size)); clear BC4
  have BD5 := Lib.hid (BC5.out.trans (hb5c.mono BC5.out.size)); clear BC5
  have HW5c := Lib.hid (HW5b.out.keep (Carries.of _ hb5c)); clear HW5b
  have hw5c : Below w.heap.size w w5c := hw5b.trans (hb5c.mono hw5b.size)
  have d0_ := cell_carry d0_ (Carries.of 0 hb5c)
  have d1_ := cell_carry d1_ (Carries.of 0 hb5c)
  have d2_ := cell_carry d2_ (Carries.of 0 hb5c)
  have d3_ := cell_carry d3_ (Carries.of 0 hb5c)
  have n0 := cell_carry n0 (Carries.of 0 hb5c)
  have n1 := cell_carry n1 (Carries.of 0 hb5c)
  have u0 := cell_carry u0 (Carries.of 0 hb5c)
  have u1 := cell_carry u1 (Carries.of 0 hb5c)
  have H5c := Lib.hid (H5b.out.keep (Carries.of _ hb5c))
  have HU5c := Lib.hid (HU5b.out.keep (Carries.of _ hb5c))
  have HI5 := Lib.hid hi5
  have z5c : w5.heap.size < w5c.heap.size := by have := hb5c.size; have := HZ5.out; omega
  clear hi5 hb5c
  go_wp2_with fail
  refine (CutConditions_any _ n s _ u _ L w5c _ _ _ H5c.out HU5c.out HI5.out HS.out HSU.out HLL.out hz_s).mono ?_
  rintro e w6a ⟨vg, rfl, hig, hb6a⟩
  rw [HG0.out]
  rw [HG1.out] at hig
  obtain ⟨ag, kg, rfl, hya, hyb⟩ := id hig
  clear hya hyb
  rw [← HNW.out] at hig ⊢
  have HIGa := Lib.hid hig; clear hig
  have hne0 : (r0_ != r0_) = false := by simp
  go_wp2_with fail
  refine (eqIntS_any _ _ r1_ r1_ w6a _ _ HIGa.out.at (HW5c.out.1.keep (Carries.of _ hb6a)) (by have := HLR.out; omega) (by have := HLR.out; omega)).mono ?_
  rintro e w6 ⟨rfl, hb6b⟩
  rw [self_ints]
  have hb6 : Below w5c.heap.size w5c w6 := hb6a.trans (hb6b.mono hb6a.size)
  have HIG6 := Lib.hid (HIGa.out.keep (Same.of _ hb6b)); clear HIGa
  have HW6 := Lib.hid (HW5c.out.keep (Carries.of _ hb6)); clear HW5c
  have BE4 := Lib.hid (BD4.out.trans (hb6.mono BD4.out.size)); clear BD4
  have BE5 := Lib.hid (BD5.out.trans (hb6.mono BD5.out.size)); clear BD5
  have BE6 := Lib.hid hb6
  clear hb6a hb6b
  have hw6 : Below w.heap.size w w6 := hw5c.trans (hb6.mono hw5c.size)
  have d0_ := cell_carry d0_ (Carries.of 0 hb6)
  have d1_ := cell_carry d1_ (Carries.of 0 hb6)
  have d2_ := cell_carry d2_ (Carries.of 0 hb6)
  have d3_ := cell_carry d3_ (Carries.of 0 hb6)
  have n0 := cell_carry n0 (Carries.of 0 hb6)
  have n1 := cell_carry n1 (Carries.of 0 hb6)
  have u0 := cell_carry u0 (Carries.of 0 hb6)
  have u1 := cell_carry u1 (Carries.of 0 hb6)
  have HI6 := Lib.hid (HI5.out.keep (Carries.of _ hb6))
  have H6 := Lib.hid (H5c.out.keep (Carries.of _ hb6))
  have HU6 := Lib.hid (HU5c.out.keep (Carries.of _ hb6))
  have z6 : w5.heap.size < w6.heap.size := by have := hb6.size; omega
  clear hb6
  go_wp2_with fail
  go_region_held3 (fun w' => w'.cell? ⟨w.heap.size, 0, none⟩ = some (.int .i64 p) ∧ w'.cell? ⟨w.heap.size, 1, none⟩ = some (.slice ao m cap) ∧ w'.cell? ⟨w4.heap.size, 0, none⟩ = some (.int .i64 p) ∧ w'.cell? ⟨w4.heap.size, 1, none⟩ = some (.slice a4 m k4))
    (first
      | exact ⟨d0_, d1_, n0, n1⟩
      | exact ⟨cell_carry (w := w6.drew) d0_ (Carries.of 0 hb7), cell_carry (w := w6.drew) d1_ (Carries.of 0 hb7), cell_carry (w := w6.drew) n0 (Carries.of 0 hb7), cell_carry (w := w6.drew) n1 (Carries.of 0 hb7)⟩
      | exact ⟨cell_carry (cell_carry (w := w6.drew) d0_ (Carries.of 0 hb7)) (Carries.of 0 hb8), cell_carry (cell_carry (w := w6.drew) d1_ (Carries.of 0 hb7)) (Carries.of 0 hb8), cell_carry (cell_carry (w := w6.drew) n0 (Carries.of 0 hb7)) (Carries.of 0 hb8), cell_carry (cell_carry (w := w6.drew) n1 (Carries.of 0 hb7)) (Carries.of 0 hb8)⟩)
    (first
      | (go_at_call 13; refine (toNet_any _ n w6.drew lo (HV.out.keep (Carries.of lo hw6.drew)) HS.out).mono ?_; rintro e w7 ⟨v7, rfl, hn7, hb7⟩)
      | (go_at_call 16; refine (eqNet_any _ _ n n _ _ _ (H6.out.keep (Carries.of (w := w6.drew) _ hb7)) hn7 HS.out HS.out).mono ?_; rintro e w8 ⟨rfl, hb8⟩))
  have b68 : Below w6.heap.size w6 w8 := Below.trans (b := w6.drew) (Below.refl _ _).drew (Below.trans hb7 (hb8.mono hb7.size))
  have hw8 : Below w.heap.size w w8 := hw6.trans (b68.mono hw6.size)
  have d2_ := cell_carry d2_ (Carries.of 0 b68)
  have d3_ := cell_carry d3_ (Carries.of 0 b68)
  have u0 := cell_carry u0 (Carries.of 0 b68)
  have u1 := cell_carry u1 (Carries.of 0 b68)
  have HU8 := Lib.hid (HU6.out.keep (Carries.of _ b68))
  have z8 : w5.heap.size < w8.heap.size := by have := b68.size; omega
  have d0_ := cell_carry d0_ (Carries.of 0 b68)
  have d1_ := cell_carry d1_ (Carries.of 0 b68)
  have n0 := cell_carry n0 (Carries.of 0 b68)
  have n1 := cell_carry n1 (Carries.of 0 b68)
  have HIG8 := Lib.hid (HIG6.out.keep (Same.of _ b68)); clear HIG6
  have HW8 := Lib.hid (HW6.out.keep (Carries.of _ b68)); clear HW6
  have BF4 := Lib.hid (BE4.out.trans (b68.mono BE4.out.size)); clear BE4
  have BF5 := Lib.hid (BE5.out.trans (b68.mono BE5.out.size)); clear BE5
  have BF6 := Lib.hid (BE6.out.trans (b68.mono BE6.out.size)); clear BE6
  clear hb7 hb8 hn7 hne0
  go_wp2_with fail
  go_region_held3 (fun w' => w'.cell? ⟨w.heap.size + 1, 0, none⟩ = some (.slice a0 nc k0) ∧ w'.cell? ⟨w.heap.size + 1, 1, none⟩ = some (.slice a1 ne k1) ∧ w'.cell? ⟨w5.heap.size, 0, none⟩ = some (.slice a5 nc k5) ∧ w'.cell? ⟨w5.heap.size, 1, none⟩ = some (.slice a6 ne k6))
    (first
      | exact ⟨d2_, d3_, u0, u1⟩
      | exact ⟨cell_carry (w := w8.drew) d2_ (Carries.of 0 hb9), cell_carry (w := w8.drew) d3_ (Carries.of 0 hb9), cell_carry (w := w8.drew) u0 (Carries.of 0 hb9), cell_carry (w := w8.drew) u1 (Carries.of 0 hb9)⟩
      | exact ⟨cell_carry (cell_carry (w := w8.drew) d2_ (Carries.of 0 hb9)) (Carries.of 0 hb10), cell_carry (cell_carry (w := w8.drew) d3_ (Carries.of 0 hb9)) (Carries.of 0 hb10), cell_carry (cell_carry (w := w8.drew) u0 (Carries.of 0 hb9)) (Carries.of 0 hb10), cell_carry (cell_carry (w := w8.drew) u1 (Carries.of 0 hb9)) (Carries.of 0 hb10)⟩)
    (first
      | (go_at_call 14; refine (toUnfolding_any _ u w8.drew lo (HVU.out.keep (Carries.of lo hw8.drew)) HSU.out).mono ?_; rintro e w9 ⟨v9, rfl, hu9, hb9⟩)
      | (go_at_call 17; refine (eqUnfolding_any _ _ u u _ _ _ (HU8.out.keep (Carries.of (w := w8.drew) _ hb9)) hu9 HSU.out HSU.out).mono ?_; rintro e w10 ⟨rfl, hb10⟩))
  have b810 : Below w8.heap.size w8 w10 := Below.trans (b := w8.drew) (Below.refl _ _).drew (Below.trans hb9 (hb10.mono hb9.size))
  have hw10 : Below w.heap.size w w10 := hw8.trans (b810.mono hw8.size)
  rw [eqUnfB_self]
  have HI10 := Lib.hid ((HI6.out.keep (Carries.of _ b68)).keep (Carries.of _ b810))
  go_wp2_with fail
  refine (toIntS_any _ L w10 lo (HVL.out.keep (Carries.of lo hw10)) HLL.out).mono ?_
  rintro e w11 ⟨vj, rfl, hj11, hb11⟩
  have hw11 : Below w.heap.size w w11 := hw10.trans (hb11.mono hw10.size)
  go_wp2_with fail
  refine (eqIntS_any _ _ L L w11 _ _ (HI10.out.keep (Carries.of _ hb11)) hj11 (by have := HLL.out; omega) (by have := HLL.out; omega)).mono ?_
  rintro e w12 ⟨rfl, hb12⟩
  have hw12 : Below w.heap.size w w12 := hw11.trans (hb12.mono hw11.size)
  have hdl : decide (L = L) = true := by simp
  rw [hdl]
  have b112 : Below w10.heap.size w10 w12 := hb11.trans (hb12.mono hb11.size)
  have b812 : Below w8.heap.size w8 w12 := b810.trans (b112.mono b810.size)
  have d0_ := cell_carry d0_ (Carries.of 0 b812)
  have d1_ := cell_carry d1_ (Carries.of 0 b812)
  have d2_ := cell_carry d2_ (Carries.of 0 b812)
  have d3_ := cell_carry d3_ (Carries.of 0 b812)
  have n0 := cell_carry n0 (Carries.of 0 b812)
  have n1 := cell_carry n1 (Carries.of 0 b812)
  have u0 := cell_carry u0 (Carries.of 0 b812)
  have u1 := cell_carry u1 (Carries.of 0 b812)
  have HIG12 := Lib.hid (HIG8.out.keep (Same.of _ b812)); clear HIG8
  have HW12 := Lib.hid (HW8.out.keep (Carries.of _ b812)); clear HW8
  have B4 := Lib.hid (BF4.out.trans (b812.mono BF4.out.size)); clear BF4
  have B5 := Lib.hid (BF5.out.trans (b812.mono BF5.out.size)); clear BF5
  have B6 := Lib.hid (BF6.out.trans (b812.mono BF6.out.size)); clear BF6
  have y34 := Z34.out
  have y44 := HZ4.out
  have y45 := Z45.out
  have y55 := HZ5.out
  have y5c := Z5c.out
  have y12 := B6.out.size
  have hTN := totTo_le HS.out n.ts.length (Nat.le_refl _)
  have hnl := HS.out.1
  have hT2 : totTo n.ts n.ts.length ≤ 2199023255552 := by omega
  clear b112 b812 hb11 hb12 b810 b68 hj11 HI10 H6 HU6 HU8 hTN hnl hdl hu9 hb9 hb10
  go_wp2_with fail
  refine (markNet_any _ n 1 w4 w12 w3.heap.size HOW4.out (Same.of _ B4.out) HS.out (by omega) (by omega)).mono ?_
  rintro e w13 ⟨wa, rfl, hba, hmk⟩
  have st : Stir w3.heap.size w4.heap.size w12 w13 := (Stir.of _ _ hba).trans (marks_stir hmk)
  have hw13 : Below w.heap.size w w13 := st.below hw12 (by omega) (by omega)
  have d0_ := st.cell (Or.inl (by simp; omega)) d0_
  have d1_ := st.cell (Or.inl (by simp; omega)) d1_
  have d2_ := st.cell (Or.inl (by simp; omega)) d2_
  have d3_ := st.cell (Or.inl (by simp; omega)) d3_
  have u0 := st.cell (Or.inr (by simp; omega)) u0
  have u1 := st.cell (Or.inr (by simp; omega)) u1
  have HW13 := Lib.hid (ints_stir HW12.out st (Nat.le_refl _)); clear HW12
  have HIG13 := Lib.hid (HIG12.out.keep (stir_same st (by omega))); clear HIG12
  have SU := Lib.hid ((Same.of W4.heap.size B5.out).trans (stir_same st (by omega)))
  have SI := Lib.hid ((Same.of W5.heap.size B6.out).trans (stir_same st (by omega)))
  have y13 := st.size
  clear hmk hba st n0 n1 B4 B5 B6
  generalize totTo n.ts n.ts.length = T at hT2 ⊢
  go_wp2_with fail
  refine (markUnfolding_any _ u _ w5 w13 W4.heap.size HUO5.out SU.out HSU.out (by omega) (by omega)).mono ?_
  rintro e w14 ⟨r14, rfl, hr0, hr1, st⟩
  have hw14 : Below w.heap.size w w14 := st.below hw13 (by omega) (by omega)
  have d0_ := st.cell (Or.inl (by simp; omega)) d0_
  have d1_ := st.cell (Or.inl (by simp; omega)) d1_
  have d2_ := st.cell (Or.inl (by simp; omega)) d2_
  have d3_ := st.cell (Or.inl (by simp; omega)) d3_
  have HW14 := Lib.hid (ints_stir HW13.out st (by omega)); clear HW13
  have HIG14 := Lib.hid (HIG13.out.keep (stir_same st (by omega))); clear HIG13
  have SJ := Lib.hid (SI.out.trans (stir_same st (by omega))); clear SI
  have y14 := st.size
  have HBX := Lib.hid ((HIO5.out.keep SJ.out).boxIn HIO5.out.at.bound)
  clear st u0 u1 SU SJ
  go_wp2_with fail
  refine (markIntS_any _ L.length r14 w14 _ _ HBX.out HLL.out hr0 (by omega)).mono ?_
  rintro e w15 ⟨rfl, hmk, hex⟩
  have st := marks_stir hmk
  have hw15 : Below w.heap.size w w15 := st.below hw14 (by omega) (by omega)
  have d0_ := st.cell (Or.inl (by simp; omega)) d0_
  have d1_ := st.cell (Or.inl (by simp; omega)) d1_
  have d2_ := st.cell (Or.inl (by simp; omega)) d2_
  have d3_ := st.cell (Or.inl (by simp; omega)) d3_
  have HW15 := Lib.hid (ints_stir HW14.out st (by omega)); clear HW14
  have HIG15 := Lib.hid (HIG14.out.keep (stir_same st (Nat.le_refl _))); clear HIG14
  have y15 := st.size
  have hll := HLL.out
  have hT : decide (r14 + (L.length : Int) < 0) = false := by rw [decide_eq_false_iff_not]; omega
  have hne0 : (r0_ != r0_) = false := by simp
  clear hmk hex st HBX
  go_wp2_with fail
  refine (eqIntS_any _ _ r1_ r1_ w15 _ _ HIG15.out.at HW15.out.1 (by have := HLR.out; omega) (by have := HLR.out; omega)).mono ?_
  rintro e w16 ⟨rfl, hb⟩
  rw [self_ints]
  have hw16 : Below w.heap.size w w16 := hw15.trans (hb.mono hw15.size)
  have d0_ := cell_carry d0_ (Carries.of 0 hb)
  have d1_ := cell_carry d1_ (Carries.of 0 hb)
  have d2_ := cell_carry d2_ (Carries.of 0 hb)
  have d3_ := cell_carry d3_ (Carries.of 0 hb)
  have HW16 := Lib.hid (HW15.out.keep (Carries.of _ hb)); clear HW15
  have HIG16 := Lib.hid (HIG15.out.keep (Same.of _ hb)); clear HIG15
  have y16 := hb.size
  clear hb hT
  go_wp2_with fail
  refine (markIntS_any _ r1_.length 1 w16 _ w16.heap.size HIG16.out.box (by have := HLR.out; omega) (by omega) (by omega)).mono ?_
  rintro e w17 ⟨rfl, hmk, hex⟩
  have st := marks_stir hmk
  have hw17 : Below w.heap.size w w17 := st.below hw16 (by omega) (by omega)
  have d0_ := st.cell (Or.inl (by simp; omega)) d0_
  have d1_ := st.cell (Or.inl (by simp; omega)) d1_
  have d2_ := st.cell (Or.inl (by simp; omega)) d2_
  have d3_ := st.cell (Or.inl (by simp; omega)) d3_
  have HW17 := Lib.hid (ints_stir HW16.out st (by omega)); clear HW16
  have HU17 := Lib.hid (IntsOw.marked HIG16.out hex)
  have y17 := st.size
  clear hmk hex HIG16 st
  go_wp2_with fail
  refine (heldIntS_any _ r1_.length 1 w17 _ HU17.out (by have := HLR.out; omega) (by omega) (by omega)).mono ?_
  rintro e w18 ⟨rfl, hb⟩
  have hw18 : Below w.heap.size w w18 := hw17.trans (hb.mono hw17.size)
  have d0_ := cell_carry d0_ (Carries.of 0 hb)
  have d1_ := cell_carry d1_ (Carries.of 0 hb)
  have d2_ := cell_carry d2_ (Carries.of 0 hb)
  have d3_ := cell_carry d3_ (Carries.of 0 hb)
  have HW18 := Lib.hid (HW17.out.keep (Carries.of _ hb)); clear HW17
  have HU18 := Lib.hid (HU17.out.keep (Carries.of _ hb)); clear HU17
  clear hb
  rw [← HNW.out]
  have hq : ((1 : Int) + (nw : Int) != 1 + (nw : Int)) = false := by simp
  have hq2 : decide ((1 : Int) + (nw : Int) < 0) = false := by rw [decide_eq_false_iff_not]; omega
  go_upto_region 39 with fail
  go_cut [20, 21] from 120 to 130 (fun vA vB wx => IntsOw w18.heap.size wx vA (r1_) ∧ vB = .bool (r0_) ∧ Below w18.heap.size w18 wx)
  case first =>
    refine wp_region_held_drew (S := fun w' => w'.cell? ⟨w.heap.size, 0, none⟩ = some (.int .i64 p) ∧ w'.cell? ⟨w.heap.size, 1, none⟩ = some (.slice ao m cap) ∧ w'.cell? ⟨w.heap.size + 1, 0, none⟩ = some (.slice a0 nc k0) ∧ w'.cell? ⟨w.heap.size + 1, 1, none⟩ = some (.slice a1 ne k1)) (by kernel_rfl) ⟨d0_, d1_, d2_, d3_⟩ (fun hHeld => ?_)
    refine tk0 (v := ?_) (by kernel_rfl) (by kernel_rfl) (by kernel_rfl) (by first | exact fun _ _ _ h => h | exact fun _ _ _ h => absurd h.1 (by simp)) (Or.inl ⟨by rfl, ?_⟩) (by assumption) ?_
    rotate_left 1
    focus (intro wx hSw; (try dsimp only at hSw); go_simp; try (with_reducible rfl))
    try simp only [Act.put, List.setIfInBounds_toArray, List.set_cons_zero, List.set_cons_succ]
    refine tk2 (v := ?_) (by kernel_rfl) (by kernel_rfl) (by kernel_rfl) (by first | exact fun _ _ _ h => h | exact fun _ _ _ h => absurd h.1 (by simp)) (Or.inl ⟨by rfl, ?_⟩) (by assumption) ?_
    rotate_left 1
    focus (intro wx hSw; (try dsimp only at hSw); go_simp; try (with_reducible rfl))
    try simp only [Act.put, List.setIfInBounds_toArray, List.set_cons_zero, List.set_cons_succ]
    refine tk3 (v := ?_) (by kernel_rfl) (by kernel_rfl) (by kernel_rfl) (by first | exact fun _ _ _ h => h | exact fun _ _ _ h => absurd h.1 (by simp)) (Or.inl ⟨by rfl, ?_⟩) (by assumption) ?_
    rotate_left 1
    focus (intro wx hSw; (try dsimp only at hSw); go_simp; try (with_reducible rfl))
    try simp only [Act.put, List.setIfInBounds_toArray, List.set_cons_zero, List.set_cons_succ]
    refine tk5 (v := ?_) (by kernel_rfl) (by kernel_rfl) (by kernel_rfl) (by first | exact fun _ _ _ h => h | exact fun _ _ _ h => absurd h.1 (by simp)) (Or.inl ⟨by rfl, ?_⟩) (by assumption) ?_
    rotate_left 1
    focus (intro wx hSw; (try dsimp only at hSw); go_simp; try (with_reducible rfl))
    try simp only [Act.put, List.setIfInBounds_toArray, List.set_cons_zero, List.set_cons_succ]
    refine rd1 (by kernel_rfl) (fun K hK => ?_)
    go_simp
    refine (toNet_any _ n w18.drew lo (HV.out.keep (Carries.of lo hw18.drew)) HS.out).mono ?_
    rintro e x1 ⟨vn, rfl, hn2, hc_x1⟩
    have hx1 : Below w18.heap.size w18 x1 := Below.trans (b := w18.drew) (Below.refl _ _).drew (hc_x1.mono (by simp))
    have d0_ := cell_carry d0_ (Carries.of 0 hx1)
    have d1_ := cell_carry d1_ (Carries.of 0 hx1)
    have d2_ := cell_carry d2_ (Carries.of 0 hx1)
    have d3_ := cell_carry d3_ (Carries.of 0 hx1)
    refine hK.out _ _ ⟨d0_, d1_, d2_, d3_⟩ (fun hHeld => ?_)
    clear hK K
    try simp only [Act.put, List.setIfInBounds_toArray, List.set_cons_zero, List.set_cons_succ]
    refine rd4 (by kernel_rfl) (fun K hK => ?_)
    go_simp
    refine (toUnfolding_any _ u x1 lo (HVU.out.keep (Carries.of lo (hw18.trans (hx1.mono hw18.size)))) HSU.out).mono ?_
    rintro e x2 ⟨vq, rfl, hu2, hc_x2⟩
    have hx2 : Below w18.heap.size w18 x2 := hx1.trans (hc_x2.mono hx1.size)
    have d0_ := cell_carry d0_ (Carries.of 0 hc_x2)
    have d1_ := cell_carry d1_ (Carries.of 0 hc_x2)
    have d2_ := cell_carry d2_ (Carries.of 0 hc_x2)
    have d3_ := cell_carry d3_ (Carries.of 0 hc_x2)
    refine hK.out _ _ ⟨d0_, d1_, d2_, d3_⟩ (fun hHeld => ?_)
    clear hK K
    try simp only [Act.put, List.setIfInBounds_toArray, List.set_cons_zero, List.set_cons_succ]
    refine rd6 (by kernel_rfl) (fun K hK => ?_)
    go_simp
    refine (toIntS_any _ L x2 lo (HVL.out.keep (Carries.of lo (hw18.trans (hx2.mono hw18.size)))) HLL.out).mono ?_
    rintro e x2b ⟨vi, rfl, hi2, hc_x2b⟩
    have hx2b : Below w18.heap.size w18 x2b := hx2.trans (hc_x2b.mono hx2.size)
    have d0_ := cell_carry d0_ (Carries.of 0 hc_x2b)
    have d1_ := cell_carry d1_ (Carries.of 0 hc_x2b)
    have d2_ := cell_carry d2_ (Carries.of 0 hc_x2b)
    have d3_ := cell_carry d3_ (Carries.of 0 hc_x2b)
    refine hK.out _ _ ⟨d0_, d1_, d2_, d3_⟩ (fun hHeld => ?_)
    clear hK K
    try simp only [Act.put, List.setIfInBounds_toArray, List.set_cons_zero, List.set_cons_succ]
    refine rd7 (by kernel_rfl) (fun K hK => ?_)
    go_simp
    refine (CutConditions_any _ n s _ u _ L x2b _ _ _ ((hn2.keep (Carries.of _ hc_x2)).keep (Carries.of _ hc_x2b)) (hu2.keep (Carries.of _ hc_x2b)) hi2 HS.out HSU.out HLL.out hz_s).mono ?_
    rintro e x3 ⟨vw, rfl, hiw, hc_x3⟩
    have hx3 : Below w18.heap.size w18 x3 := hx2b.trans (hc_x3.mono hx2b.size)
    rw [HG0.out]
    rw [HG1.out] at hiw
    obtain ⟨aw, kw, rfl, hya, hyb⟩ := id hiw
    clear hya hyb
    rw [← HNW.out] at hiw ⊢
    have HIW := Lib.hid (hiw.low (lo' := w18.heap.size) hx2b.size)
    clear hiw
    have d0_ := cell_carry d0_ (Carries.of 0 hc_x3)
    have d1_ := cell_carry d1_ (Carries.of 0 hc_x3)
    have d2_ := cell_carry d2_ (Carries.of 0 hc_x3)
    have d3_ := cell_carry d3_ (Carries.of 0 hc_x3)
    refine hK.out _ _ ⟨d0_, d1_, d2_, d3_⟩ (fun hHeld => ?_)
    clear hK K
    try simp only [Act.put, List.setIfInBounds_toArray, List.set_cons_zero, List.set_cons_succ]
    refine tk8 (v := ?_) (by kernel_rfl) (by kernel_rfl) (by kernel_rfl) (by first | exact fun _ _ _ h => h | exact fun _ _ _ h => absurd h.1 (by simp)) (Or.inl ⟨by rfl, ?_⟩) (by assumption) ?_
    rotate_left 1
    focus (intro wx hSw; (try dsimp only at hSw); go_simp; try (with_reducible rfl))
    try simp only [Act.put, List.setIfInBounds_toArray, List.set_cons_zero, List.set_cons_succ]
    refine tk9 (v := ?_) (by kernel_rfl) (by kernel_rfl) (by kernel_rfl) (by first | exact fun _ _ _ h => h | exact fun _ _ _ h => absurd h.1 (by simp)) (Or.inl ⟨by rfl, ?_⟩) (by assumption) ?_
    rotate_left 1
    focus (intro wx hSw; (try dsimp only at hSw); go_simp; try (with_reducible rfl))
    try simp only [Act.put, List.setIfInBounds_toArray, List.set_cons_zero, List.set_cons_succ]
    refine tk10 (v := ?_) (by kernel_rfl) (by kernel_rfl) (by kernel_rfl) (by first | exact fun _ _ _ h => h | exact fun _ _ _ h => absurd h.1 (by simp)) (Or.inl ⟨by rfl, ?_⟩) (by assumption) ?_
    rotate_left 1
    focus (intro wx hSw; (try dsimp only at hSw); go_simp; try (with_reducible rfl))
    try simp only [Act.put, List.setIfInBounds_toArray, List.set_cons_zero, List.set_cons_succ]
    refine tk11 (v := ?_) (by kernel_rfl) (by kernel_rfl) (by kernel_rfl) (by first | exact fun _ _ _ h => h | exact fun _ _ _ h => absurd h.1 (by simp)) (Or.inl ⟨by rfl, ?_⟩) (by assumption) ?_
    rotate_left 1
    focus (intro wx hSw; (try dsimp only at hSw); go_simp; try (with_reducible rfl))
    try simp only [Act.put, List.setIfInBounds_toArray, List.set_cons_zero, List.set_cons_succ]
    refine tk12 (v := ?_) (by kernel_rfl) (by kernel_rfl) (by kernel_rfl) (by first | exact fun _ _ _ h => h | exact fun _ _ _ h => absurd h.1 (by simp)) (Or.inl ⟨by rfl, ?_⟩) (by assumption) ?_
    rotate_left 1
    focus (intro wx hSw; (try dsimp only at hSw); go_simp; try (with_reducible rfl))
    try simp only [Act.put, List.setIfInBounds_toArray, List.set_cons_zero, List.set_cons_succ]
    refine wpAnyH_done (by kernel_rfl) ?_ _
    go_wp2_with fail
    go_meet
    case rel => exact ⟨HIW.out, rfl, hx3⟩
  case rest =>
  obtain ⟨hiw, rfl, hbv⟩ := hcut
  obtain ⟨w19, hw19e⟩ : ∃ x, x = wc := ⟨_, rfl⟩
  subst hw19e
  have hw19 : Below w.heap.size w w19 := hw18.trans (hbv.mono hw18.size)
  obtain ⟨ah, kh, rfl, hya, hyb⟩ := id hiw
  clear hya hyb
  rw [← HNW.out] at hiw ⊢
  have HH19 := Lib.hid hiw.at
  have HW19 := Lib.hid (HW18.out.keep (Carries.of _ hbv)); clear HW18
  have HU19 := Lib.hid (HU18.out.keep (Carries.of _ hbv)); clear HU18
  clear hiw hbv d0_ d1_ d2_ d3_
  have hne0 : (r0_ != r0_) = false := by simp
  go_wp2_with fail
  refine (eqIntS_any _ _ r1_ r1_ w19 _ _ HH19.out HW19.out.1 (by have := HLR.out; omega) (by have := HLR.out; omega)).mono ?_
  rintro e w20 ⟨rfl, hb⟩
  rw [self_ints]
  have hw20 : Below w.heap.size w w20 := hw19.trans (hb.mono hw19.size)
  have HU20 := Lib.hid (HU19.out.keep (Carries.of _ hb)); clear HU19
  clear hb
  go_wp2_with fail
  refine (heldIntS_any _ r1_.length 1 w20 _ HU20.out (by have := HLR.out; omega) (by omega) (by omega)).mono ?_
  rintro e w21 ⟨rfl, hb⟩
  rw [← HNW.out]
  have hq : ((1 : Int) + (nw : Int) != 1 + (nw : Int)) = false := by simp
  have hq2 : decide ((1 : Int) + (nw : Int) < 0) = false := by rw [decide_eq_false_iff_not]; omega
  have hw21 : Below w.heap.size w w21 := hw20.trans (hb.mono hw20.size)
  clear hb
  go_wp2_with fail
  go_ret
  exact ⟨rfl, hw21⟩

end Go.Proofs.YtdiblkgjmkbpmaaGreat
