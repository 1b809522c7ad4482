/- WALK of the law FnExactViolationTrace. -/
import Derived.Test.YtnmoocgocnjdjaaGreatVVti
import Derived.Test.YtnmoocgocnjdjaaGreatVVtm
import Derived.Deep.RegionHeld3
namespace Go.Proofs.YtnmoocgocnjdjaaGreat
open Go.RowKit

theorem toPv_any (a b c : Int) (w : World) :
    Calls Tryz.prog 39 #[.agg #[.int .i64 a, .int .i64 b, .int .i64 c]] w (RetV w (.agg #[.int .i64 a, .int .i64 b, .int .i64 c])) := by
  go_enter Tryz.func39, Tryz.ntmps39
  go_wp2_with fail
  refine bodyPost_ret (v := .agg #[.int .i64 a, .int .i64 b, .int .i64 c]) (by simp [results, Tryz.results39, go_sem]) rfl ?_
  exact ⟨rfl, by (repeat' (first | (with_reducible exact Below.refl _ _) | (with_reducible assumption) | (with_reducible refine Below.alloc ?_ ?_ _) | (with_reducible refine Below.drew ?_) | (with_reducible refine below_drewN ?_ _) | (with_reducible refine Below.setCell ?_ ?_ _) | go_size))⟩

set_option maxRecDepth 100000 in
set_option maxHeartbeats 2000000 in
theorem lawViolationTrace_any (v : Value) (s : SgD) (pf ps pt : Int) (w : World) (lo : Nat) (hv : SgAt lo w v s) (hok : OkSg s) :
    Calls Tryz.prog 8 #[v, .agg #[.int .i64 pf, .int .i64 ps, .int .i64 pt]] w (RetB w true) := by
  obtain ⟨a0, c0, a1, c1, a2, c2, rfl, h_0, h_1, h_2⟩ := hv.form
  clear h_0 h_1 h_2
  have HV := Lib.hid hv; clear hv
  have HO := Lib.hid hok; clear hok
  obtain ⟨ng, hng⟩ : ∃ x, x = s.sigs.length := ⟨_, rfl⟩
  obtain ⟨nc, hnc⟩ : ∃ x, x = s.codes.length := ⟨_, rfl⟩
  obtain ⟨na, hna⟩ : ∃ x, x = s.arcs.length := ⟨_, rfl⟩
  rw [← hng, ← hnc, ← hna] at HV ⊢
  have HDng := Lib.hid hng; clear hng
  have HDnc := Lib.hid hnc; clear hnc
  have HDna := Lib.hid hna; clear hna
  go_enter Tryz.func8, Tryz.ntmps8
  go_wp2_with fail
  obtain ⟨V, hVe⟩ : ∃ x, x = (w.alloc (.cells #[.slice a0 ng c0, .slice a1 nc c1, .slice a2 na c2] 72)).alloc (.cells #[.int .i64 pf, .int .i64 ps, .int .i64 pt] 74) := ⟨_, rfl⟩
  have hV : Below w.heap.size w V := by rw [hVe]; (repeat' (first | (with_reducible exact Below.refl _ _) | (with_reducible assumption) | (with_reducible refine Below.alloc ?_ ?_ _) | (with_reducible refine Below.drew ?_) | (with_reducible refine below_drewN ?_ _) | (with_reducible refine Below.setCell ?_ ?_ _) | go_size))
  have a_0 : V.cell? ⟨w.heap.size, 0, none⟩ = some (.slice a0 ng c0) := by
    rw [hVe]
    exact cell_carry (w := w.alloc (.cells #[.slice a0 ng c0, .slice a1 nc c1, .slice a2 na c2] 72)) (by simp) ((Carries.refl 0 _).alloc _)
  have a_1 : V.cell? ⟨w.heap.size, 1, none⟩ = some (.slice a1 nc c1) := by
    rw [hVe]
    exact cell_carry (w := w.alloc (.cells #[.slice a0 ng c0, .slice a1 nc c1, .slice a2 na c2] 72)) (by simp) ((Carries.refl 0 _).alloc _)
  have a_2 : V.cell? ⟨w.heap.size, 2, none⟩ = some (.slice a2 na c2) := by
    rw [hVe]
    exact cell_carry (w := w.alloc (.cells #[.slice a0 ng c0, .slice a1 nc c1, .slice a2 na c2] 72)) (by simp) ((Carries.refl 0 _).alloc _)
  have p_0 : V.cell? ⟨w.heap.size + 1, 0, none⟩ = some (.int .i64 pf) := by rw [hVe]; simp
  have p_1 : V.cell? ⟨w.heap.size + 1, 1, none⟩ = some (.int .i64 ps) := by rw [hVe]; simp
  have p_2 : V.cell? ⟨w.heap.size + 1, 2, none⟩ = some (.int .i64 pt) := by rw [hVe]; simp
  have XP : Hid (∀ w', Below V.heap.size V w' → (w'.cell? ⟨w.heap.size, 0, none⟩ = some (.slice a0 ng c0) ∧ w'.cell? ⟨w.heap.size, 1, none⟩ = some (.slice a1 nc c1) ∧ w'.cell? ⟨w.heap.size, 2, none⟩ = some (.slice a2 na c2)) ∧ w'.cell? ⟨w.heap.size + 1, 0, none⟩ = some (.int .i64 pf) ∧ w'.cell? ⟨w.heap.size + 1, 1, none⟩ = some (.int .i64 ps) ∧ w'.cell? ⟨w.heap.size + 1, 2, none⟩ = some (.int .i64 pt)) := fun w' hb => ⟨⟨cell_carry a_0 (Carries.of 0 hb), cell_carry a_1 (Carries.of 0 hb), cell_carry a_2 (Carries.of 0 hb)⟩, cell_carry p_0 (Carries.of 0 hb), cell_carry p_1 (Carries.of 0 hb), cell_carry p_2 (Carries.of 0 hb)⟩
  have zV : w.heap.size + 1 < V.heap.size := cell_old p_0
  rw [← hVe]
  clear hVe a_0 a_1 a_2 p_0 p_1 p_2
  refine (szSg_any _ s _ _ lo (HV.out.keep (Carries.of lo hV)) (by omega) (by omega) HO.out).mono ?_
  rintro e w1 ⟨r, rfl, hr, hb1⟩
  have hv1 := hb1
  have hw1 : Below w.heap.size w w1 := hV.trans (hb1.mono hV.size)
  clear hb1
  rcases hr with rfl | ⟨hr0, _, hsm⟩
  · go_wp2_with fail
    go_ret
    exact ⟨rfl, hw1⟩
  have HS := Lib.hid hsm; clear hsm
  go_wp2_with fail
  refine wp_region_held_drew (S := fun w' => (w'.cell? ⟨w.heap.size, 0, none⟩ = some (.slice a0 ng c0) ∧ w'.cell? ⟨w.heap.size, 1, none⟩ = some (.slice a1 nc c1) ∧ w'.cell? ⟨w.heap.size, 2, none⟩ = some (.slice a2 na c2)) ∧ w'.cell? ⟨w.heap.size + 1, 0, none⟩ = some (.int .i64 pf) ∧ w'.cell? ⟨w.heap.size + 1, 1, none⟩ = some (.int .i64 ps) ∧ w'.cell? ⟨w.heap.size + 1, 2, none⟩ = some (.int .i64 pt)) (by kernel_rfl) (XP.out _ hv1.drew) (fun hHeld => ?_)
  refine tk0 (v := ?_) (by kernel_rfl) (by kernel_rfl) (by kernel_rfl) (by first | exact fun _ _ _ h => h | exact fun _ _ _ h => absurd h.1 (by simp)) (Or.inl ⟨by rfl, ?_⟩) (by assumption) ?_
  rotate_left 1
  focus (intro wx hSw; (try dsimp only at hSw); go_simp; try (with_reducible rfl))
  try simp only [Act.put, List.setIfInBounds_toArray, List.set_cons_zero, List.set_cons_succ]
  refine tk2 (v := ?_) (by kernel_rfl) (by kernel_rfl) (by kernel_rfl) (by first | exact fun _ _ _ h => h | exact fun _ _ _ h => absurd h.1 (by simp)) (Or.inl ⟨by rfl, ?_⟩) (by assumption) ?_
  rotate_left 1
  focus (intro wx hSw; (try dsimp only at hSw); go_simp; try (with_reducible rfl))
  try simp only [Act.put, List.setIfInBounds_toArray, List.set_cons_zero, List.set_cons_succ]
  refine rd1 (by kernel_rfl) (fun K hK => ?_)
  go_simp
  refine (toSg_any _ s w1.drew lo (HV.out.keep (Carries.of lo hw1.drew)) HS.out).mono ?_
  rintro e w2 ⟨v2, rfl, hn2, hb2⟩
  have hb2 : Below w1.heap.size w1 w2 := Below.trans (b := w1.drew) (Below.refl _ _).drew (hb2.mono (by simp))
  have hw2 : Below w.heap.size w w2 := hw1.trans (hb2.mono hw1.size)
  have hv2 := hv1.trans (hb2.mono hv1.size)
  have H2 := Lib.hid hn2; clear hn2 hb2
  refine hK.out _ _ ⟨(XP.out _ hv2).1, (XP.out _ hv2).2⟩ (fun hHeld => ?_)
  clear hK K
  try simp only [Act.put, List.setIfInBounds_toArray, List.set_cons_zero, List.set_cons_succ]
  refine rd3 (by kernel_rfl) (fun K hK => ?_)
  go_simp
  refine (toPv_any pf ps pt w2).mono ?_
  rintro e w2b ⟨rfl, hb2⟩
  have hw2b := hw2.trans (hb2.mono hw2.size)
  have hv2b := hv2.trans (hb2.mono hv2.size)
  have H2b := Lib.hid (H2.out.keep (Carries.of _ hb2))
  clear hb2
  refine hK.out _ _ ⟨(XP.out _ hv2b).1, (XP.out _ hv2b).2⟩ (fun hHeld => ?_)
  clear hK K
  try simp only [Act.put, List.setIfInBounds_toArray, List.set_cons_zero, List.set_cons_succ]
  refine rd4 (by kernel_rfl) (fun K hK => ?_)
  go_simp
  refine (specViolationTrace_any _ s pf ps pt w2b _ H2b.out HS.out).mono ?_
  rintro e w3 ⟨rfl, hb3⟩
  generalize hG0 : (vtS s pf ps pt) = r0_
  have HG0 := Lib.hid hG0; clear hG0
  generalize hG1 : (vtB s pf ps pt) = r1_
  have HG1 := Lib.hid hG1; clear hG1
  have hw3 : Below w.heap.size w w3 := hw2b.trans (hb3.mono hw2b.size)
  have hv3 := hv2b.trans (hb3.mono hv2b.size)
  clear hb3
  refine hK.out _ _ ⟨(XP.out _ hv3).1, (XP.out _ hv3).2⟩ (fun hHeld => ?_)
  clear hK K
  try simp only [Act.put, List.setIfInBounds_toArray, List.set_cons_zero, List.set_cons_succ]
  refine tk5 (v := ?_) (by kernel_rfl) (by kernel_rfl) (by kernel_rfl) (by first | exact fun _ _ _ h => h | exact fun _ _ _ h => absurd h.1 (by simp)) (Or.inl ⟨by rfl, ?_⟩) (by assumption) ?_
  rotate_left 1
  focus (intro wx hSw; (try dsimp only at hSw); go_simp; try (with_reducible rfl))
  try simp only [Act.put, List.setIfInBounds_toArray, List.set_cons_zero, List.set_cons_succ]
  refine tk6 (v := ?_) (by kernel_rfl) (by kernel_rfl) (by kernel_rfl) (by first | exact fun _ _ _ h => h | exact fun _ _ _ h => absurd h.1 (by simp)) (Or.inl ⟨by rfl, ?_⟩) (by assumption) ?_
  rotate_left 1
  focus (intro wx hSw; (try dsimp only at hSw); go_simp; try (with_reducible rfl))
  try simp only [Act.put, List.setIfInBounds_toArray, List.set_cons_zero, List.set_cons_succ]
  refine tk7 (v := ?_) (by kernel_rfl) (by kernel_rfl) (by kernel_rfl) (by first | exact fun _ _ _ h => h | exact fun _ _ _ h => absurd h.1 (by simp)) (Or.inl ⟨by rfl, ?_⟩) (by assumption) ?_
  rotate_left 1
  focus (intro wx hSw; (try dsimp only at hSw); go_simp; try (with_reducible rfl))
  try simp only [Act.put, List.setIfInBounds_toArray, List.set_cons_zero, List.set_cons_succ]
  refine tk8 (v := ?_) (by kernel_rfl) (by kernel_rfl) (by kernel_rfl) (by first | exact fun _ _ _ h => h | exact fun _ _ _ h => absurd h.1 (by simp)) (Or.inl ⟨by rfl, ?_⟩) (by assumption) ?_
  rotate_left 1
  focus (intro wx hSw; (try dsimp only at hSw); go_simp; try (with_reducible rfl))
  try simp only [Act.put, List.setIfInBounds_toArray, List.set_cons_zero, List.set_cons_succ]
  refine tk9 (v := ?_) (by kernel_rfl) (by kernel_rfl) (by kernel_rfl) (by first | exact fun _ _ _ h => h | exact fun _ _ _ h => absurd h.1 (by simp)) (Or.inl ⟨by rfl, ?_⟩) (by assumption) ?_
  rotate_left 1
  focus (intro wx hSw; (try dsimp only at hSw); go_simp; try (with_reducible rfl))
  try simp only [Act.put, List.setIfInBounds_toArray, List.set_cons_zero, List.set_cons_succ]
  refine wpAnyH_done (by kernel_rfl) ?_ _
  obtain ⟨⟨c_0, c_1, c_2⟩, p_0, p_1, p_2⟩ := XP.out _ hv3
  go_wp2_with fail
  refine (toSg_any _ s _ lo (HV.out.keep (Carries.of lo hw3)) HS.out).mono ?_
  rintro e w4 ⟨v4, rfl, hn4, hb4⟩
  obtain ⟨b0, d0, b1, d1, b2, d2, rfl, h_0, h_1, h_2⟩ := hn4.form
  clear h_0 h_1 h_2
  rw [← HDng.out, ← HDnc.out, ← HDna.out] at hn4 ⊢
  have hw4 : Below w.heap.size w w4 := hw3.trans (hb4.mono hw3.size)
  have hv4 := hv3.trans (hb4.mono hv3.size)
  clear c_0 c_1 c_2 p_0 p_1 p_2 hb4
  have H4 := Lib.hid hn4; clear hn4
  obtain ⟨W4, hW4⟩ : ∃ x, x = w4.alloc (.cells #[.slice b0 ng d0, .slice b1 nc d1, .slice b2 na d2] 80) := ⟨_, rfl⟩
  have HA4 : Below w4.heap.size w4 W4 := by rw [hW4]; exact (Below.refl _ _).alloc (Nat.le_refl _) _
  have g_0 : W4.cell? ⟨w4.heap.size, 0, none⟩ = some (.slice b0 ng d0) := by rw [hW4]; simp
  have g_1 : W4.cell? ⟨w4.heap.size, 1, none⟩ = some (.slice b1 nc d1) := by rw [hW4]; simp
  have g_2 : W4.cell? ⟨w4.heap.size, 2, none⟩ = some (.slice b2 na d2) := by rw [hW4]; simp
  have zW4 : w4.heap.size < W4.heap.size := by rw [hW4]; simp
  have hw4b := hw4.trans (HA4.mono hw4.size)
  have hv4b := hv4.trans (HA4.mono hv4.size)
  have H4b := Lib.hid (H4.out.keep (Carries.of _ HA4))
  clear HA4
  go_wp2_with fail
  rw [← hW4]
  clear hW4
  have XG : Hid (∀ w', Below W4.heap.size W4 w' → (w'.cell? ⟨w4.heap.size, 0, none⟩ = some (.slice b0 ng d0) ∧ w'.cell? ⟨w4.heap.size, 1, none⟩ = some (.slice b1 nc d1) ∧ w'.cell? ⟨w4.heap.size, 2, none⟩ = some (.slice b2 na d2)) ∧ w'.cell? ⟨w.heap.size + 1, 0, none⟩ = some (.int .i64 pf) ∧ w'.cell? ⟨w.heap.size + 1, 1, none⟩ = some (.int .i64 ps) ∧ w'.cell? ⟨w.heap.size + 1, 2, none⟩ = some (.int .i64 pt)) := fun w' hb => ⟨⟨cell_carry g_0 (Carries.of 0 hb), cell_carry g_1 (Carries.of 0 hb), cell_carry g_2 (Carries.of 0 hb)⟩, (XP.out _ (hv4b.trans (hb.mono hv4b.size))).2⟩
  clear g_0 g_1 g_2
  have hg4 : Below W4.heap.size W4 W4 := Below.refl _ _
  refine wp_region_held_drew (S := fun w' => (w'.cell? ⟨w4.heap.size, 0, none⟩ = some (.slice b0 ng d0) ∧ w'.cell? ⟨w4.heap.size, 1, none⟩ = some (.slice b1 nc d1) ∧ w'.cell? ⟨w4.heap.size, 2, none⟩ = some (.slice b2 na d2)) ∧ w'.cell? ⟨w.heap.size + 1, 0, none⟩ = some (.int .i64 pf) ∧ w'.cell? ⟨w.heap.size + 1, 1, none⟩ = some (.int .i64 ps) ∧ w'.cell? ⟨w.heap.size + 1, 2, none⟩ = some (.int .i64 pt)) (by kernel_rfl) (XG.out _ hg4.drew) (fun hHeld => ?_)
  refine tk0 (v := ?_) (by kernel_rfl) (by kernel_rfl) (by kernel_rfl) (by first | exact fun _ _ _ h => h | exact fun _ _ _ h => absurd h.1 (by simp)) (Or.inl ⟨by rfl, ?_⟩) (by assumption) ?_
  rotate_left 1
  focus (intro wx hSw; (try dsimp only at hSw); go_simp; try (with_reducible rfl))
  try simp only [Act.put, List.setIfInBounds_toArray, List.set_cons_zero, List.set_cons_succ]
  refine tk1 (v := ?_) (by kernel_rfl) (by kernel_rfl) (by kernel_rfl) (by first | exact fun _ _ _ h => h | exact fun _ _ _ h => absurd h.1 (by simp)) (Or.inl ⟨by rfl, ?_⟩) (by assumption) ?_
  rotate_left 1
  focus (intro wx hSw; (try dsimp only at hSw); go_simp; try (with_reducible rfl))
  try simp only [Act.put, List.setIfInBounds_toArray, List.set_cons_zero, List.set_cons_succ]
  refine rd2 (by kernel_rfl) (fun K hK => ?_)
  go_simp
  refine (toPv_any pf ps pt W4.drew).mono ?_
  rintro e w4c ⟨rfl, hb4⟩
  have hgc : Below W4.heap.size W4 w4c := Below.trans (b := W4.drew) (Below.refl _ _).drew (hb4.mono (by simp))
  have hw4c := hw4b.trans (hgc.mono hw4b.size)
  have H4c := Lib.hid (H4b.out.keep (Carries.of _ hgc))
  clear hb4
  refine hK.out _ _ ⟨(XG.out _ hgc).1, (XG.out _ hgc).2⟩ (fun hHeld => ?_)
  clear hK K
  try simp only [Act.put, List.setIfInBounds_toArray, List.set_cons_zero, List.set_cons_succ]
  refine rd3 (by kernel_rfl) (fun K hK => ?_)
  go_simp
  refine (ViolationTrace_any _ s pf ps pt w4c _ H4c.out HS.out).mono ?_
  rintro e w5 ⟨rfl, hb5⟩
  rw [HG0.out]
  rw [HG1.out]
  have hw5 : Below w.heap.size w w5 := hw4c.trans (hb5.mono hw4c.size)
  have hg5 := hgc.trans (hb5.mono hgc.size)
  have H5 := Lib.hid (H4c.out.keep (Carries.of _ hb5))
  clear hb5
  refine hK.out _ _ ⟨(XG.out _ hg5).1, (XG.out _ hg5).2⟩ (fun hHeld => ?_)
  clear hK K
  try simp only [Act.put, List.setIfInBounds_toArray, List.set_cons_zero, List.set_cons_succ]
  refine tk4 (v := ?_) (by kernel_rfl) (by kernel_rfl) (by kernel_rfl) (by first | exact fun _ _ _ h => h | exact fun _ _ _ h => absurd h.1 (by simp)) (Or.inl ⟨by rfl, ?_⟩) (by assumption) ?_
  rotate_left 1
  focus (intro wx hSw; (try dsimp only at hSw); go_simp; try (with_reducible rfl))
  try simp only [Act.put, List.setIfInBounds_toArray, List.set_cons_zero, List.set_cons_succ]
  refine tk5 (v := ?_) (by kernel_rfl) (by kernel_rfl) (by kernel_rfl) (by first | exact fun _ _ _ h => h | exact fun _ _ _ h => absurd h.1 (by simp)) (Or.inl ⟨by rfl, ?_⟩) (by assumption) ?_
  rotate_left 1
  focus (intro wx hSw; (try dsimp only at hSw); go_simp; try (with_reducible rfl))
  try simp only [Act.put, List.setIfInBounds_toArray, List.set_cons_zero, List.set_cons_succ]
  refine tk6 (v := ?_) (by kernel_rfl) (by kernel_rfl) (by kernel_rfl) (by first | exact fun _ _ _ h => h | exact fun _ _ _ h => absurd h.1 (by simp)) (Or.inl ⟨by rfl, ?_⟩) (by assumption) ?_
  rotate_left 1
  focus (intro wx hSw; (try dsimp only at hSw); go_simp; try (with_reducible rfl))
  try simp only [Act.put, List.setIfInBounds_toArray, List.set_cons_zero, List.set_cons_succ]
  refine tk7 (v := ?_) (by kernel_rfl) (by kernel_rfl) (by kernel_rfl) (by first | exact fun _ _ _ h => h | exact fun _ _ _ h => absurd h.1 (by simp)) (Or.inl ⟨by rfl, ?_⟩) (by assumption) ?_
  rotate_left 1
  focus (intro wx hSw; (try dsimp only at hSw); go_simp; try (with_reducible rfl))
  try simp only [Act.put, List.setIfInBounds_toArray, List.set_cons_zero, List.set_cons_succ]
  refine tk8 (v := ?_) (by kernel_rfl) (by kernel_rfl) (by kernel_rfl) (by first | exact fun _ _ _ h => h | exact fun _ _ _ h => absurd h.1 (by simp)) (Or.inl ⟨by rfl, ?_⟩) (by assumption) ?_
  rotate_left 1
  focus (intro wx hSw; (try dsimp only at hSw); go_simp; try (with_reducible rfl))
  try simp only [Act.put, List.setIfInBounds_toArray, List.set_cons_zero, List.set_cons_succ]
  refine wpAnyH_done (by kernel_rfl) ?_ _
  have hv5 := hv4b.trans (hg5.mono hv4b.size)
  have z6 : w4.heap.size < w5.heap.size := by have := hg5.size; omega
  obtain ⟨⟨e_0, e_1, e_2⟩, _, _, _⟩ := XP.out _ hv5
  obtain ⟨⟨g_0, g_1, g_2⟩, _, _, _⟩ := XG.out _ hg5
  have hne0 : (r0_.toList == r0_.toList) = true := by simp
  have hne0' : (r0_.toList != r0_.toList) = false := by simp
  have hne1 : (r1_ != r1_) = false := by simp
  go_wp2_with fail
  go_region_held3 (fun w' => w'.cell? ⟨w.heap.size, 0, none⟩ = some (.slice a0 ng c0) ∧ w'.cell? ⟨w.heap.size, 1, none⟩ = some (.slice a1 nc c1) ∧ w'.cell? ⟨w.heap.size, 2, none⟩ = some (.slice a2 na c2) ∧ w'.cell? ⟨w4.heap.size, 0, none⟩ = some (.slice b0 ng d0) ∧ w'.cell? ⟨w4.heap.size, 1, none⟩ = some (.slice b1 nc d1) ∧ w'.cell? ⟨w4.heap.size, 2, none⟩ = some (.slice b2 na d2))
    (first
      | exact ⟨e_0, e_1, e_2, g_0, g_1, g_2⟩
      | exact ⟨cell_carry (w := w5.drew) e_0 (Carries.of 0 hb6), cell_carry (w := w5.drew) e_1 (Carries.of 0 hb6), cell_carry (w := w5.drew) e_2 (Carries.of 0 hb6), cell_carry (w := w5.drew) g_0 (Carries.of 0 hb6), cell_carry (w := w5.drew) g_1 (Carries.of 0 hb6), cell_carry (w := w5.drew) g_2 (Carries.of 0 hb6)⟩
      | exact ⟨cell_carry (cell_carry (w := w5.drew) e_0 (Carries.of 0 hb6)) (Carries.of 0 hb7), cell_carry (cell_carry (w := w5.drew) e_1 (Carries.of 0 hb6)) (Carries.of 0 hb7), cell_carry (cell_carry (w := w5.drew) e_2 (Carries.of 0 hb6)) (Carries.of 0 hb7), cell_carry (cell_carry (w := w5.drew) g_0 (Carries.of 0 hb6)) (Carries.of 0 hb7), cell_carry (cell_carry (w := w5.drew) g_1 (Carries.of 0 hb6)) (Carries.of 0 hb7), cell_carry (cell_carry (w := w5.drew) g_2 (Carries.of 0 hb6)) (Carries.of 0 hb7)⟩)
    (first
      | (go_at_call 38; refine (toSg_any _ s w5.drew lo (HV.out.keep (Carries.of lo hw5.drew)) HS.out).mono ?_; rintro e w6 ⟨v6, rfl, hn6, hb6⟩)
      | (go_at_call 41; refine (eqSg_any _ _ s s _ _ _ (H5.out.keep (Carries.of (w := w5.drew) _ hb6)) hn6 HS.out HS.out).mono ?_; rintro e w7 ⟨rfl, hb7⟩; rw [eqSgB_self]))
  have hw6 : Below w.heap.size w w6 := hw5.trans (Below.trans (b := w5.drew) (Below.refl _ _).drew (hb6.mono (by simp; have := hw5.size; omega)))
  have hw7 : Below w.heap.size w w7 := hw6.trans (hb7.mono hw6.size)
  clear hb6 hb7
  go_wp2_with fail
  go_ret
  exact ⟨rfl, hw7⟩

end Go.Proofs.YtnmoocgocnjdjaaGreat
