/-
  WALK of the law FnExactDeadTransitions.
-/
import Derived.Test.YtjelnlhalpoinaaDt
import Derived.Test.YtjelnlhalpoinaaOvk
import Derived.Test.YtjelnlhalpoinaaStgn
import Derived.Test.YtjelnlhalpoinaaRgm
import Derived.Test.YtjelnlhalpoinaaStepsb
import Derived.Deep.RegionHeld3
namespace Go.Proofs.Ytjelnlhalpoinaa
open Go.RowKit

set_option maxRecDepth 100000 in
set_option maxHeartbeats 8000000 in
theorem lawDeadTransitions_any (va vb : Value) (s0 : StgD) (s1 : RgD) (w : World) (lo : Nat) (hva : StgAt lo w va s0) (hvb : RgAt lo w vb s1) (hok0 : OkStg s0) (hok1 : OkRg s1) :
    Calls Try.prog 8 #[va, vb] w (RetB w true) := by
  obtain ⟨a0, c0, a1, c1, a2, c2, rfl, h_0, h_1, h_2⟩ := hva.form
  clear h_0 h_1 h_2
  obtain ⟨b0, e0, b1, e1, rfl, h_0, h_1⟩ := hvb.form
  clear h_0 h_1
  have HV := Lib.hid hva; clear hva
  have HU := Lib.hid hvb; clear hvb
  have HO0 := Lib.hid hok0; clear hok0
  have HO1 := Lib.hid hok1; clear hok1
  obtain ⟨d0p, hd0p⟩ : ∃ x, x = s0.net.places := ⟨_, rfl⟩
  obtain ⟨d0m, hd0m⟩ : ∃ x, x = s0.net.ts.length := ⟨_, rfl⟩
  obtain ⟨d0ns, hd0ns⟩ : ∃ x, x = s0.sigs.length := ⟨_, rfl⟩
  obtain ⟨d0nl, hd0nl⟩ : ∃ x, x = s0.labs.length := ⟨_, rfl⟩
  obtain ⟨d0st, hd0st⟩ : ∃ x, x = s0.start := ⟨_, rfl⟩
  rw [← hd0p, ← hd0m, ← hd0ns, ← hd0nl, ← hd0st] at HV ⊢
  have HDd0p := Lib.hid hd0p; clear hd0p
  have HDd0m := Lib.hid hd0m; clear hd0m
  have HDd0ns := Lib.hid hd0ns; clear hd0ns
  have HDd0nl := Lib.hid hd0nl; clear hd0nl
  have HDd0st := Lib.hid hd0st; clear hd0st
  obtain ⟨d1nm, hd1nm⟩ : ∃ x, x = s1.marks.length := ⟨_, rfl⟩
  obtain ⟨d1nv, hd1nv⟩ : ∃ x, x = s1.moves.length := ⟨_, rfl⟩
  rw [← hd1nm, ← hd1nv] at HU ⊢
  have HDd1nm := Lib.hid hd1nm; clear hd1nm
  have HDd1nv := Lib.hid hd1nv; clear hd1nv
  go_enter Try.func8, Try.ntmps8
  go_wp2_with fail
  refine (szSTG_any _ s0 _ _ lo (HV.out.keep ?_) (by omega) (by omega) HO0.out).mono ?_
  · (repeat' (first | (with_reducible exact Carries.refl _ _) | (with_reducible assumption) | (with_reducible refine Carries.alloc ?_ _) | (with_reducible refine Carries.drew ?_) | (with_reducible refine Carries.drewN ?_ _) | (with_reducible refine Carries.set ?_ ?_ _) | go_size))
  rintro e w1 ⟨r, rfl, hr, hb⟩
  have hv_w1 : Below w.heap.size w w1 := by
    refine Below.trans ?_ (hb.mono ?_)
    · (repeat' (first | (with_reducible exact Below.refl _ _) | (with_reducible assumption) | (with_reducible refine Below.alloc ?_ ?_ _) | (with_reducible refine Below.drew ?_) | (with_reducible refine below_drewN ?_ _) | (with_reducible refine Below.setCell ?_ ?_ _) | go_size))
    · simp; omega
  have a_0 : w1.cell? ⟨w.heap.size, 0, none⟩ = some (.int .i64 d0p) := cell_carry (by simp) (Carries.of 0 hb)
  have a_1 : w1.cell? ⟨w.heap.size, 1, none⟩ = some (.slice a0 d0m c0) := cell_carry (by simp) (Carries.of 0 hb)
  have a_2 : w1.cell? ⟨w.heap.size, 2, none⟩ = some (.slice a1 d0ns c1) := cell_carry (by simp) (Carries.of 0 hb)
  have a_3 : w1.cell? ⟨w.heap.size, 3, none⟩ = some (.slice a2 d0nl c2) := cell_carry (by simp) (Carries.of 0 hb)
  have a_4 : w1.cell? ⟨w.heap.size, 4, none⟩ = some (.string d0st) := cell_carry (by simp) (Carries.of 0 hb)
  have b_0 : w1.cell? ⟨w.heap.size + 1, 0, none⟩ = some (.slice b0 d1nm e0) := cell_carry (by simp) (Carries.of 0 hb)
  have b_1 : w1.cell? ⟨w.heap.size + 1, 1, none⟩ = some (.slice b1 d1nv e1) := cell_carry (by simp) (Carries.of 0 hb)
  have z1 : w.heap.size + 1 < w1.heap.size := by have := hb.size; simp at this; omega
  clear hb
  rcases hr with rfl | ⟨hr0, hr1, hsm⟩
  · go_wp2_with fail
    go_ret
    exact ⟨rfl, hv_w1⟩
  have HS0 := Lib.hid hsm; clear hsm
  go_wp2_with fail
  refine (szRg_any _ s1 _ _ lo (HU.out.keep (Carries.of lo hv_w1)) hr0 (by omega) HO1.out).mono ?_
  rintro e w2 ⟨r2, rfl, hr2, hb⟩
  have hv_w2 : Below w.heap.size w w2 := hv_w1.trans (hb.mono hv_w1.size)
  have zs_w2 : w1.heap.size ≤ w2.heap.size := hb.size
  have a_0 := cell_carry a_0 (Carries.of 0 hb)
  have a_1 := cell_carry a_1 (Carries.of 0 hb)
  have a_2 := cell_carry a_2 (Carries.of 0 hb)
  have a_3 := cell_carry a_3 (Carries.of 0 hb)
  have a_4 := cell_carry a_4 (Carries.of 0 hb)
  have b_0 := cell_carry b_0 (Carries.of 0 hb)
  have b_1 := cell_carry b_1 (Carries.of 0 hb)
  clear hb
  rcases hr2 with rfl | ⟨hr3, hr4, hsm⟩
  · go_wp2_with fail
    go_ret
    exact ⟨rfl, hv_w2⟩
  have HS1 := Lib.hid hsm; clear hsm
  go_wp2_with fail
  refine wp_region_held_drew (S := fun w' => w'.cell? ⟨w.heap.size, 0, none⟩ = some (.int .i64 d0p) ∧ w'.cell? ⟨w.heap.size, 1, none⟩ = some (.slice a0 d0m c0) ∧ w'.cell? ⟨w.heap.size, 2, none⟩ = some (.slice a1 d0ns c1) ∧ w'.cell? ⟨w.heap.size, 3, none⟩ = some (.slice a2 d0nl c2) ∧ w'.cell? ⟨w.heap.size, 4, none⟩ = some (.string d0st) ∧ w'.cell? ⟨w.heap.size + 1, 0, none⟩ = some (.slice b0 d1nm e0) ∧ w'.cell? ⟨w.heap.size + 1, 1, none⟩ = some (.slice b1 d1nv e1)) (by kernel_rfl) ⟨a_0, a_1, a_2, a_3, a_4, b_0, b_1⟩ (fun hHeld => ?_)
  refine tk0 (v := ?_) (by kernel_rfl) (by kernel_rfl) (by kernel_rfl) (by first | exact fun _ _ _ h => h | exact fun _ _ _ h => absurd h.1 (by simp)) (Or.inl ⟨by rfl, ?_⟩) (by assumption) ?_
  rotate_left 1
  focus (intro wx hSw; (try dsimp only at hSw); go_simp; try (with_reducible rfl))
  try simp only [Act.put, List.setIfInBounds_toArray, List.set_cons_zero, List.set_cons_succ]
  refine tk2 (v := ?_) (by kernel_rfl) (by kernel_rfl) (by kernel_rfl) (by first | exact fun _ _ _ h => h | exact fun _ _ _ h => absurd h.1 (by simp)) (Or.inl ⟨by rfl, ?_⟩) (by assumption) ?_
  rotate_left 1
  focus (intro wx hSw; (try dsimp only at hSw); go_simp; try (with_reducible rfl))
  try simp only [Act.put, List.setIfInBounds_toArray, List.set_cons_zero, List.set_cons_succ]
  refine rd1 (by kernel_rfl) (fun K hK => ?_)
  go_simp
  refine (toSTG_any _ s0 w2.drew lo (HV.out.keep (Carries.of lo hv_w2.drew)) HS0.out).mono ?_
  rintro e r1A ⟨v1A, rfl, hn1A, hb⟩
  have hbd : Below w2.heap.size w2 r1A := Below.trans (b := w2.drew) (Below.refl _ _).drew (hb.mono (by simp))
  clear hb
  have hv_r1A : Below w.heap.size w r1A := hv_w2.trans (hbd.mono hv_w2.size)
  have zs_r1A : w2.heap.size ≤ r1A.heap.size := hbd.size
  have a_0 := cell_carry a_0 (Carries.of 0 hbd)
  have a_1 := cell_carry a_1 (Carries.of 0 hbd)
  have a_2 := cell_carry a_2 (Carries.of 0 hbd)
  have a_3 := cell_carry a_3 (Carries.of 0 hbd)
  have a_4 := cell_carry a_4 (Carries.of 0 hbd)
  have b_0 := cell_carry b_0 (Carries.of 0 hbd)
  have b_1 := cell_carry b_1 (Carries.of 0 hbd)
  clear hbd
  refine hK.out _ _ ⟨a_0, a_1, a_2, a_3, a_4, b_0, b_1⟩ (fun hHeld => ?_)
  clear hK K
  try simp only [Act.put, List.setIfInBounds_toArray, List.set_cons_zero, List.set_cons_succ]
  refine rd3 (by kernel_rfl) (fun K hK => ?_)
  go_simp
  refine (toRg_any _ s1 r1A lo (HU.out.keep (Carries.of lo hv_r1A)) HS1.out).mono ?_
  rintro e r2A ⟨v2A, rfl, hn2A, hb⟩
  have hn1A := hn1A.keep (Carries.of _ hb)
  have hv_r2A : Below w.heap.size w r2A := hv_r1A.trans (hb.mono hv_r1A.size)
  have zs_r2A : r1A.heap.size ≤ r2A.heap.size := hb.size
  have a_0 := cell_carry a_0 (Carries.of 0 hb)
  have a_1 := cell_carry a_1 (Carries.of 0 hb)
  have a_2 := cell_carry a_2 (Carries.of 0 hb)
  have a_3 := cell_carry a_3 (Carries.of 0 hb)
  have a_4 := cell_carry a_4 (Carries.of 0 hb)
  have b_0 := cell_carry b_0 (Carries.of 0 hb)
  have b_1 := cell_carry b_1 (Carries.of 0 hb)
  clear hb
  refine hK.out _ _ ⟨a_0, a_1, a_2, a_3, a_4, b_0, b_1⟩ (fun hHeld => ?_)
  clear hK K
  try simp only [Act.put, List.setIfInBounds_toArray, List.set_cons_zero, List.set_cons_succ]
  refine rd4 (by kernel_rfl) (fun K hK => ?_)
  go_simp
  refine (specDeadTransitions_any _ _ s0 s1 r2A _ _ hn1A hn2A HS0.out HS1.out).mono ?_
  rintro e w3 ⟨vw, rfl, hiw, hb⟩
  have hLL0 : (dtL s0 s1).length ≤ 1048576 := dtL_small HS0.out
  generalize hG0 : dtL s0 s1 = L at hiw hLL0
  have hLL : L.length ≤ 1048576 := hLL0
  clear hLL0
  have HG0 := Lib.hid hG0; clear hG0
  generalize hG1 : dtB s0 s1 = r1_
  have HG1 := Lib.hid hG1; clear hG1
  obtain ⟨aw, kw, rfl, hkw⟩ := hiw.cap
  have HW := Lib.hid hiw.at; clear hiw
  have HWB := Lib.hid (IntsAt.bound HW.out)
  have hv_w3 : Below w.heap.size w w3 := hv_r2A.trans (hb.mono hv_r2A.size)
  have zs_w3 : r2A.heap.size ≤ w3.heap.size := hb.size
  have a_0 := cell_carry a_0 (Carries.of 0 hb)
  have a_1 := cell_carry a_1 (Carries.of 0 hb)
  have a_2 := cell_carry a_2 (Carries.of 0 hb)
  have a_3 := cell_carry a_3 (Carries.of 0 hb)
  have a_4 := cell_carry a_4 (Carries.of 0 hb)
  have b_0 := cell_carry b_0 (Carries.of 0 hb)
  have b_1 := cell_carry b_1 (Carries.of 0 hb)
  clear hb
  clear hn1A hn2A
  refine hK.out _ _ ⟨a_0, a_1, a_2, a_3, a_4, b_0, b_1⟩ (fun hHeld => ?_)
  clear hK K
  try simp only [Act.put, List.setIfInBounds_toArray, List.set_cons_zero, List.set_cons_succ]
  refine tk5 (v := ?_) (by kernel_rfl) (by kernel_rfl) (by kernel_rfl) (by first | exact fun _ _ _ h => h | exact fun _ _ _ h => absurd h.1 (by simp)) (Or.inl ⟨by rfl, ?_⟩) (by assumption) ?_
  rotate_left 1
  focus (intro wx hSw; (try dsimp only at hSw); go_simp; try (with_reducible rfl))
  try simp only [Act.put, List.setIfInBounds_toArray, List.set_cons_zero, List.set_cons_succ]
  refine tk6 (v := ?_) (by kernel_rfl) (by kernel_rfl) (by kernel_rfl) (by first | exact fun _ _ _ h => h | exact fun _ _ _ h => absurd h.1 (by simp)) (Or.inl ⟨by rfl, ?_⟩) (by assumption) ?_
  rotate_left 1
  focus (intro wx hSw; (try dsimp only at hSw); go_simp; try (with_reducible rfl))
  try simp only [Act.put, List.setIfInBounds_toArray, List.set_cons_zero, List.set_cons_succ]
  refine tk7 (v := ?_) (by kernel_rfl) (by kernel_rfl) (by kernel_rfl) (by first | exact fun _ _ _ h => h | exact fun _ _ _ h => absurd h.1 (by simp)) (Or.inl ⟨by rfl, ?_⟩) (by assumption) ?_
  rotate_left 1
  focus (intro wx hSw; (try dsimp only at hSw); go_simp; try (with_reducible rfl))
  try simp only [Act.put, List.setIfInBounds_toArray, List.set_cons_zero, List.set_cons_succ]
  refine tk8 (v := ?_) (by kernel_rfl) (by kernel_rfl) (by kernel_rfl) (by first | exact fun _ _ _ h => h | exact fun _ _ _ h => absurd h.1 (by simp)) (Or.inl ⟨by rfl, ?_⟩) (by assumption) ?_
  rotate_left 1
  focus (intro wx hSw; (try dsimp only at hSw); go_simp; try (with_reducible rfl))
  try simp only [Act.put, List.setIfInBounds_toArray, List.set_cons_zero, List.set_cons_succ]
  refine tk9 (v := ?_) (by kernel_rfl) (by kernel_rfl) (by kernel_rfl) (by first | exact fun _ _ _ h => h | exact fun _ _ _ h => absurd h.1 (by simp)) (Or.inl ⟨by rfl, ?_⟩) (by assumption) ?_
  rotate_left 1
  focus (intro wx hSw; (try dsimp only at hSw); go_simp; try (with_reducible rfl))
  try simp only [Act.put, List.setIfInBounds_toArray, List.set_cons_zero, List.set_cons_succ]
  refine wpAnyH_done (by kernel_rfl) ?_ _
  have zB3 : w.heap.size + 1 < w3.heap.size := by omega
  go_wp2_with fail
  refine (toSTG_ow _ s0 _ lo (HV.out.keep (Carries.of lo hv_w3)) HS0.out).mono ?_
  rintro e w4 ⟨v4, rfl, how, hb⟩
  have hat : StgAt w3.heap.size w4 v4 s0 := by obtain ⟨_, _, _, _, _, _, _, _, _, _, _, _, _, _, _, h⟩ := how; exact h
  obtain ⟨x0, y0, x1, y1, x2, y2, rfl, h_0, h_1, h_2⟩ := hat.form
  clear h_0 h_1 h_2
  rw [← HDd0p.out, ← HDd0m.out, ← HDd0ns.out, ← HDd0nl.out, ← HDd0st.out] at how hat ⊢
  have HOWX := Lib.hid how; clear how
  have HAX := Lib.hid hat; clear hat
  have hv_w4 : Below w.heap.size w w4 := hv_w3.trans (hb.mono hv_w3.size)
  have zs_w4 : w3.heap.size ≤ w4.heap.size := hb.size
  have a_0 := cell_carry a_0 (Carries.of 0 hb)
  have a_1 := cell_carry a_1 (Carries.of 0 hb)
  have a_2 := cell_carry a_2 (Carries.of 0 hb)
  have a_3 := cell_carry a_3 (Carries.of 0 hb)
  have a_4 := cell_carry a_4 (Carries.of 0 hb)
  have b_0 := cell_carry b_0 (Carries.of 0 hb)
  have b_1 := cell_carry b_1 (Carries.of 0 hb)
  have HW := Lib.hid (HW.out.keep (Carries.of _ hb))
  clear hb
  have SX := Lib.hid (Same.refl w3.heap.size w4)
  have hal : Below w4.heap.size w4 (w4.alloc (.cells #[.int .i64 d0p, .slice x0 d0m y0, .slice x1 d0ns y1, .slice x2 d0nl y2, .string d0st] 36)) := (Below.refl _ _).alloc (Nat.le_refl _) _
  have a_0' := cell_carry a_0 (Carries.of 0 hal)
  have a_1' := cell_carry a_1 (Carries.of 0 hal)
  have a_2' := cell_carry a_2 (Carries.of 0 hal)
  have a_3' := cell_carry a_3 (Carries.of 0 hal)
  have a_4' := cell_carry a_4 (Carries.of 0 hal)
  have b_0' := cell_carry b_0 (Carries.of 0 hal)
  have b_1' := cell_carry b_1 (Carries.of 0 hal)
  go_wp2_with fail
  have x_0 : (w4.alloc (.cells #[.int .i64 d0p, .slice x0 d0m y0, .slice x1 d0ns y1, .slice x2 d0nl y2, .string d0st] 36)).cell? ⟨w4.heap.size, 0, none⟩ = some (.int .i64 d0p) := by simp
  have x_1 : (w4.alloc (.cells #[.int .i64 d0p, .slice x0 d0m y0, .slice x1 d0ns y1, .slice x2 d0nl y2, .string d0st] 36)).cell? ⟨w4.heap.size, 1, none⟩ = some (.slice x0 d0m y0) := by simp
  have x_2 : (w4.alloc (.cells #[.int .i64 d0p, .slice x0 d0m y0, .slice x1 d0ns y1, .slice x2 d0nl y2, .string d0st] 36)).cell? ⟨w4.heap.size, 2, none⟩ = some (.slice x1 d0ns y1) := by simp
  have x_3 : (w4.alloc (.cells #[.int .i64 d0p, .slice x0 d0m y0, .slice x1 d0ns y1, .slice x2 d0nl y2, .string d0st] 36)).cell? ⟨w4.heap.size, 3, none⟩ = some (.slice x2 d0nl y2) := by simp
  have x_4 : (w4.alloc (.cells #[.int .i64 d0p, .slice x0 d0m y0, .slice x1 d0ns y1, .slice x2 d0nl y2, .string d0st] 36)).cell? ⟨w4.heap.size, 4, none⟩ = some (.string d0st) := by simp
  have zB_X : w4.heap.size < (w4.alloc (.cells #[.int .i64 d0p, .slice x0 d0m y0, .slice x1 d0ns y1, .slice x2 d0nl y2, .string d0st] 36)).heap.size := by simp
  clear a_0 a_1 a_2 a_3 a_4 b_0 b_1
  generalize w4.alloc (.cells #[.int .i64 d0p, .slice x0 d0m y0, .slice x1 d0ns y1, .slice x2 d0nl y2, .string d0st] 36) = w4B at hal a_0' a_1' a_2' a_3' a_4' b_0' b_1' x_0 x_1 x_2 x_3 x_4 zB_X ⊢
  have a_0 := a_0'
  have a_1 := a_1'
  have a_2 := a_2'
  have a_3 := a_3'
  have a_4 := a_4'
  have b_0 := b_0'
  have b_1 := b_1'
  clear a_0' a_1' a_2' a_3' a_4' b_0' b_1'
  have hv_w4B : Below w.heap.size w w4B := hv_w4.trans (hal.mono hv_w4.size)
  have zs_w4B : w4.heap.size ≤ w4B.heap.size := hal.size
  have HW := Lib.hid (HW.out.keep (Carries.of _ hal))
  have HAX := Lib.hid (HAX.out.keep (Carries.of _ hal))
  have SX := Lib.hid (SX.out.trans (Same.of _ hal))
  clear hal
  refine (toRg_ow _ s1 _ lo (HU.out.keep (Carries.of lo hv_w4B)) HS1.out).mono ?_
  rintro e w5 ⟨v4, rfl, how, hb⟩
  have hat : RgAt w4B.heap.size w5 v4 s1 := how.at
  obtain ⟨u0, v0, u1, v1, rfl, h_0, h_1⟩ := hat.form
  clear h_0 h_1
  rw [← HDd1nm.out, ← HDd1nv.out] at how hat ⊢
  have HOWY := Lib.hid how; clear how
  have HAY := Lib.hid hat; clear hat
  have hv_w5 : Below w.heap.size w w5 := hv_w4B.trans (hb.mono hv_w4B.size)
  have zs_w5 : w4B.heap.size ≤ w5.heap.size := hb.size
  have a_0 := cell_carry a_0 (Carries.of 0 hb)
  have a_1 := cell_carry a_1 (Carries.of 0 hb)
  have a_2 := cell_carry a_2 (Carries.of 0 hb)
  have a_3 := cell_carry a_3 (Carries.of 0 hb)
  have a_4 := cell_carry a_4 (Carries.of 0 hb)
  have b_0 := cell_carry b_0 (Carries.of 0 hb)
  have b_1 := cell_carry b_1 (Carries.of 0 hb)
  have x_0 := cell_carry x_0 (Carries.of 0 hb)
  have x_1 := cell_carry x_1 (Carries.of 0 hb)
  have x_2 := cell_carry x_2 (Carries.of 0 hb)
  have x_3 := cell_carry x_3 (Carries.of 0 hb)
  have x_4 := cell_carry x_4 (Carries.of 0 hb)
  have HW := Lib.hid (HW.out.keep (Carries.of _ hb))
  have HAX := Lib.hid (HAX.out.keep (Carries.of _ hb))
  have SX := Lib.hid (SX.out.trans (Same.of _ hb))
  clear hb
  have SY := Lib.hid (Same.refl w4B.heap.size w5)
  have hal : Below w5.heap.size w5 (w5.alloc (.cells #[.slice u0 d1nm v0, .slice u1 d1nv v1] 75)) := (Below.refl _ _).alloc (Nat.le_refl _) _
  have a_0' := cell_carry a_0 (Carries.of 0 hal)
  have a_1' := cell_carry a_1 (Carries.of 0 hal)
  have a_2' := cell_carry a_2 (Carries.of 0 hal)
  have a_3' := cell_carry a_3 (Carries.of 0 hal)
  have a_4' := cell_carry a_4 (Carries.of 0 hal)
  have b_0' := cell_carry b_0 (Carries.of 0 hal)
  have b_1' := cell_carry b_1 (Carries.of 0 hal)
  have x_0' := cell_carry x_0 (Carries.of 0 hal)
  have x_1' := cell_carry x_1 (Carries.of 0 hal)
  have x_2' := cell_carry x_2 (Carries.of 0 hal)
  have x_3' := cell_carry x_3 (Carries.of 0 hal)
  have x_4' := cell_carry x_4 (Carries.of 0 hal)
  go_wp2_with fail
  have y_0 : (w5.alloc (.cells #[.slice u0 d1nm v0, .slice u1 d1nv v1] 75)).cell? ⟨w5.heap.size, 0, none⟩ = some (.slice u0 d1nm v0) := by simp
  have y_1 : (w5.alloc (.cells #[.slice u0 d1nm v0, .slice u1 d1nv v1] 75)).cell? ⟨w5.heap.size, 1, none⟩ = some (.slice u1 d1nv v1) := by simp
  have zB_Y : w5.heap.size < (w5.alloc (.cells #[.slice u0 d1nm v0, .slice u1 d1nv v1] 75)).heap.size := by simp
  clear a_0 a_1 a_2 a_3 a_4 b_0 b_1 x_0 x_1 x_2 x_3 x_4
  generalize w5.alloc (.cells #[.slice u0 d1nm v0, .slice u1 d1nv v1] 75) = w5B at hal a_0' a_1' a_2' a_3' a_4' b_0' b_1' x_0' x_1' x_2' x_3' x_4' y_0 y_1 zB_Y ⊢
  have a_0 := a_0'
  have a_1 := a_1'
  have a_2 := a_2'
  have a_3 := a_3'
  have a_4 := a_4'
  have b_0 := b_0'
  have b_1 := b_1'
  have x_0 := x_0'
  have x_1 := x_1'
  have x_2 := x_2'
  have x_3 := x_3'
  have x_4 := x_4'
  clear a_0' a_1' a_2' a_3' a_4' b_0' b_1' x_0' x_1' x_2' x_3' x_4'
  have hv_w5B : Below w.heap.size w w5B := hv_w5.trans (hal.mono hv_w5.size)
  have zs_w5B : w5.heap.size ≤ w5B.heap.size := hal.size
  have HW := Lib.hid (HW.out.keep (Carries.of _ hal))
  have HAX := Lib.hid (HAX.out.keep (Carries.of _ hal))
  have HAY := Lib.hid (HAY.out.keep (Carries.of _ hal))
  have SX := Lib.hid (SX.out.trans (Same.of _ hal))
  have SY := Lib.hid (SY.out.trans (Same.of _ hal))
  clear hal
  refine (DeadTransitions_any _ _ s0 s1 _ _ _ HAX.out HAY.out HS0.out HS1.out).mono ?_
  rintro e w6 ⟨vg, rfl, hig, hb⟩
  rw [HG1.out]
  rw [HG0.out] at hig
  obtain ⟨ag, kg, rfl, hkg⟩ := hig.cap
  have HIG := Lib.hid hig; clear hig
  have hv_w6 : Below w.heap.size w w6 := hv_w5B.trans (hb.mono hv_w5B.size)
  have zs_w6 : w5B.heap.size ≤ w6.heap.size := hb.size
  have a_0 := cell_carry a_0 (Carries.of 0 hb)
  have a_1 := cell_carry a_1 (Carries.of 0 hb)
  have a_2 := cell_carry a_2 (Carries.of 0 hb)
  have a_3 := cell_carry a_3 (Carries.of 0 hb)
  have a_4 := cell_carry a_4 (Carries.of 0 hb)
  have b_0 := cell_carry b_0 (Carries.of 0 hb)
  have b_1 := cell_carry b_1 (Carries.of 0 hb)
  have x_0 := cell_carry x_0 (Carries.of 0 hb)
  have x_1 := cell_carry x_1 (Carries.of 0 hb)
  have x_2 := cell_carry x_2 (Carries.of 0 hb)
  have x_3 := cell_carry x_3 (Carries.of 0 hb)
  have x_4 := cell_carry x_4 (Carries.of 0 hb)
  have y_0 := cell_carry y_0 (Carries.of 0 hb)
  have y_1 := cell_carry y_1 (Carries.of 0 hb)
  have HW := Lib.hid (HW.out.keep (Carries.of _ hb))
  have HAX := Lib.hid (HAX.out.keep (Carries.of _ hb))
  have HAY := Lib.hid (HAY.out.keep (Carries.of _ hb))
  have SX := Lib.hid (SX.out.trans (Same.of _ hb))
  have SY := Lib.hid (SY.out.trans (Same.of _ hb))
  clear hb
  go_wp2_with fail
  refine (eqIntS_any _ _ L L _ _ _ HIG.out.at HW.out (by omega) (by omega)).mono ?_
  rintro e w7 ⟨rfl, hb⟩
  rw [selfInts']
  have hne1 : (r1_ != r1_) = false := by simp
  have hv_w7 : Below w.heap.size w w7 := hv_w6.trans (hb.mono hv_w6.size)
  have zs_w7 : w6.heap.size ≤ w7.heap.size := hb.size
  have a_0 := cell_carry a_0 (Carries.of 0 hb)
  have a_1 := cell_carry a_1 (Carries.of 0 hb)
  have a_2 := cell_carry a_2 (Carries.of 0 hb)
  have a_3 := cell_carry a_3 (Carries.of 0 hb)
  have a_4 := cell_carry a_4 (Carries.of 0 hb)
  have b_0 := cell_carry b_0 (Carries.of 0 hb)
  have b_1 := cell_carry b_1 (Carries.of 0 hb)
  have x_0 := cell_carry x_0 (Carries.of 0 hb)
  have x_1 := cell_carry x_1 (Carries.of 0 hb)
  have x_2 := cell_carry x_2 (Carries.of 0 hb)
  have x_3 := cell_carry x_3 (Carries.of 0 hb)
  have x_4 := cell_carry x_4 (Carries.of 0 hb)
  have y_0 := cell_carry y_0 (Carries.of 0 hb)
  have y_1 := cell_carry y_1 (Carries.of 0 hb)
  have HW := Lib.hid (HW.out.keep (Carries.of _ hb))
  have HAX := Lib.hid (HAX.out.keep (Carries.of _ hb))
  have HAY := Lib.hid (HAY.out.keep (Carries.of _ hb))
  have HIG := Lib.hid (IntsOw.after HIG.out hb)
  have SX := Lib.hid (SX.out.trans (Same.of _ hb))
  have SY := Lib.hid (SY.out.trans (Same.of _ hb))
  clear hb
  go_wp2_with fail
  go_region_held3 (fun w' => w'.cell? ⟨w.heap.size, 0, none⟩ = some (.int .i64 d0p) ∧ w'.cell? ⟨w.heap.size, 1, none⟩ = some (.slice a0 d0m c0) ∧ w'.cell? ⟨w.heap.size, 2, none⟩ = some (.slice a1 d0ns c1) ∧ w'.cell? ⟨w.heap.size, 3, none⟩ = some (.slice a2 d0nl c2) ∧ w'.cell? ⟨w.heap.size, 4, none⟩ = some (.string d0st) ∧ w'.cell? ⟨w4.heap.size, 0, none⟩ = some (.int .i64 d0p) ∧ w'.cell? ⟨w4.heap.size, 1, none⟩ = some (.slice x0 d0m y0) ∧ w'.cell? ⟨w4.heap.size, 2, none⟩ = some (.slice x1 d0ns y1) ∧ w'.cell? ⟨w4.heap.size, 3, none⟩ = some (.slice x2 d0nl y2) ∧ w'.cell? ⟨w4.heap.size, 4, none⟩ = some (.string d0st))
    (first
      | exact ⟨a_0, a_1, a_2, a_3, a_4, x_0, x_1, x_2, x_3, x_4⟩
      | exact ⟨cell_carry (w := w7.drew) a_0 (Carries.of 0 hb7), cell_carry (w := w7.drew) a_1 (Carries.of 0 hb7), cell_carry (w := w7.drew) a_2 (Carries.of 0 hb7), cell_carry (w := w7.drew) a_3 (Carries.of 0 hb7), cell_carry (w := w7.drew) a_4 (Carries.of 0 hb7), cell_carry (w := w7.drew) x_0 (Carries.of 0 hb7), cell_carry (w := w7.drew) x_1 (Carries.of 0 hb7), cell_carry (w := w7.drew) x_2 (Carries.of 0 hb7), cell_carry (w := w7.drew) x_3 (Carries.of 0 hb7), cell_carry (w := w7.drew) x_4 (Carries.of 0 hb7)⟩
      | exact ⟨cell_carry (cell_carry (w := w7.drew) a_0 (Carries.of 0 hb7)) (Carries.of 0 hb8), cell_carry (cell_carry (w := w7.drew) a_1 (Carries.of 0 hb7)) (Carries.of 0 hb8), cell_carry (cell_carry (w := w7.drew) a_2 (Carries.of 0 hb7)) (Carries.of 0 hb8), cell_carry (cell_carry (w := w7.drew) a_3 (Carries.of 0 hb7)) (Carries.of 0 hb8), cell_carry (cell_carry (w := w7.drew) a_4 (Carries.of 0 hb7)) (Carries.of 0 hb8), cell_carry (cell_carry (w := w7.drew) x_0 (Carries.of 0 hb7)) (Carries.of 0 hb8), cell_carry (cell_carry (w := w7.drew) x_1 (Carries.of 0 hb7)) (Carries.of 0 hb8), cell_carry (cell_carry (w := w7.drew) x_2 (Carries.of 0 hb7)) (Carries.of 0 hb8), cell_carry (cell_carry (w := w7.drew) x_3 (Carries.of 0 hb7)) (Carries.of 0 hb8), cell_carry (cell_carry (w := w7.drew) x_4 (Carries.of 0 hb7)) (Carries.of 0 hb8)⟩)
    (first
      | (go_at_call 12; refine (toSTG_any _ s0 w7.drew lo (HV.out.keep (Carries.of lo hv_w7.drew)) HS0.out).mono ?_; rintro e q1X ⟨v7, rfl, hn7, hb7⟩)
      | (go_at_call 14; refine (eqSTG_any _ _ s0 s0 _ _ _ (HAX.out.keep (Carries.of (w := w7.drew) _ hb7)) hn7 HS0.out HS0.out).mono ?_; rintro e q2X ⟨rfl, hb8⟩; rw [eqStgB_self]))
  have hb78 : Below w7.heap.size w7 q2X := (Below.trans (b := w7.drew) (Below.refl _ _).drew (Below.trans (hb7.mono (by simp)) (hb8.mono (by have := hb7.size; simp at this; omega))))
  clear hb7 hb8 hn7
  have hv_q2X : Below w.heap.size w q2X := hv_w7.trans (hb78.mono hv_w7.size)
  have zs_q2X : w7.heap.size ≤ q2X.heap.size := hb78.size
  have a_0 := cell_carry a_0 (Carries.of 0 hb78)
  have a_1 := cell_carry a_1 (Carries.of 0 hb78)
  have a_2 := cell_carry a_2 (Carries.of 0 hb78)
  have a_3 := cell_carry a_3 (Carries.of 0 hb78)
  have a_4 := cell_carry a_4 (Carries.of 0 hb78)
  have b_0 := cell_carry b_0 (Carries.of 0 hb78)
  have b_1 := cell_carry b_1 (Carries.of 0 hb78)
  have x_0 := cell_carry x_0 (Carries.of 0 hb78)
  have x_1 := cell_carry x_1 (Carries.of 0 hb78)
  have x_2 := cell_carry x_2 (Carries.of 0 hb78)
  have x_3 := cell_carry x_3 (Carries.of 0 hb78)
  have x_4 := cell_carry x_4 (Carries.of 0 hb78)
  have y_0 := cell_carry y_0 (Carries.of 0 hb78)
  have y_1 := cell_carry y_1 (Carries.of 0 hb78)
  have HW := Lib.hid (HW.out.keep (Carries.of _ hb78))
  have HAX := Lib.hid (HAX.out.keep (Carries.of _ hb78))
  have HAY := Lib.hid (HAY.out.keep (Carries.of _ hb78))
  have HIG := Lib.hid (IntsOw.after HIG.out hb78)
  have SX := Lib.hid (SX.out.trans (Same.of _ hb78))
  have SY := Lib.hid (SY.out.trans (Same.of _ hb78))
  clear hb78
  go_wp2_with fail
  go_region_held3 (fun w' => w'.cell? ⟨w.heap.size + 1, 0, none⟩ = some (.slice b0 d1nm e0) ∧ w'.cell? ⟨w.heap.size + 1, 1, none⟩ = some (.slice b1 d1nv e1) ∧ w'.cell? ⟨w5.heap.size, 0, none⟩ = some (.slice u0 d1nm v0) ∧ w'.cell? ⟨w5.heap.size, 1, none⟩ = some (.slice u1 d1nv v1))
    (first
      | exact ⟨b_0, b_1, y_0, y_1⟩
      | exact ⟨cell_carry (w := q2X.drew) b_0 (Carries.of 0 hb7), cell_carry (w := q2X.drew) b_1 (Carries.of 0 hb7), cell_carry (w := q2X.drew) y_0 (Carries.of 0 hb7), cell_carry (w := q2X.drew) y_1 (Carries.of 0 hb7)⟩
      | exact ⟨cell_carry (cell_carry (w := q2X.drew) b_0 (Carries.of 0 hb7)) (Carries.of 0 hb8), cell_carry (cell_carry (w := q2X.drew) b_1 (Carries.of 0 hb7)) (Carries.of 0 hb8), cell_carry (cell_carry (w := q2X.drew) y_0 (Carries.of 0 hb7)) (Carries.of 0 hb8), cell_carry (cell_carry (w := q2X.drew) y_1 (Carries.of 0 hb7)) (Carries.of 0 hb8)⟩)
    (first
      | (go_at_call 34; refine (toRg_any _ s1 q2X.drew lo (HU.out.keep (Carries.of lo hv_q2X.drew)) HS1.out).mono ?_; rintro e q1Y ⟨v7, rfl, hn7, hb7⟩)
      | (go_at_call 36; refine (eqRg_any _ _ s1 s1 _ _ _ (HAY.out.keep (Carries.of (w := q2X.drew) _ hb7)) hn7 HS1.out HS1.out).mono ?_; rintro e q2Y ⟨rfl, hb8⟩; rw [eqRgB_self]))
  have hb78 : Below q2X.heap.size q2X q2Y := (Below.trans (b := q2X.drew) (Below.refl _ _).drew (Below.trans (hb7.mono (by simp)) (hb8.mono (by have := hb7.size; simp at this; omega))))
  clear hb7 hb8 hn7
  have hv_q2Y : Below w.heap.size w q2Y := hv_q2X.trans (hb78.mono hv_q2X.size)
  have zs_q2Y : q2X.heap.size ≤ q2Y.heap.size := hb78.size
  have a_0 := cell_carry a_0 (Carries.of 0 hb78)
  have a_1 := cell_carry a_1 (Carries.of 0 hb78)
  have a_2 := cell_carry a_2 (Carries.of 0 hb78)
  have a_3 := cell_carry a_3 (Carries.of 0 hb78)
  have a_4 := cell_carry a_4 (Carries.of 0 hb78)
  have b_0 := cell_carry b_0 (Carries.of 0 hb78)
  have b_1 := cell_carry b_1 (Carries.of 0 hb78)
  have x_0 := cell_carry x_0 (Carries.of 0 hb78)
  have x_1 := cell_carry x_1 (Carries.of 0 hb78)
  have x_2 := cell_carry x_2 (Carries.of 0 hb78)
  have x_3 := cell_carry x_3 (Carries.of 0 hb78)
  have x_4 := cell_carry x_4 (Carries.of 0 hb78)
  have y_0 := cell_carry y_0 (Carries.of 0 hb78)
  have y_1 := cell_carry y_1 (Carries.of 0 hb78)
  have HW := Lib.hid (HW.out.keep (Carries.of _ hb78))
  have HAX := Lib.hid (HAX.out.keep (Carries.of _ hb78))
  have HAY := Lib.hid (HAY.out.keep (Carries.of _ hb78))
  have HIG := Lib.hid (IntsOw.after HIG.out hb78)
  have SX := Lib.hid (SX.out.trans (Same.of _ hb78))
  have SY := Lib.hid (SY.out.trans (Same.of _ hb78))
  clear hb78
  clear HAX HAY
  go_wp2_with fail
  refine (markSTG_le _ s0 w4 q2Y w3.heap.size HOWX.out SX.out HS0.out).mono ?_
  rintro e w10 ⟨T1, rfl, hT10, hT1b, hst⟩
  clear x_0 x_1 x_2 x_3 x_4
  have hv_w10 : Below w.heap.size w w10 := hst.below hv_q2Y (by omega) (by omega)
  have zs_w10 : q2Y.heap.size ≤ w10.heap.size := hst.size
  have a_0 := hst.cell (Or.inl (by simp; omega)) a_0
  have a_1 := hst.cell (Or.inl (by simp; omega)) a_1
  have a_2 := hst.cell (Or.inl (by simp; omega)) a_2
  have a_3 := hst.cell (Or.inl (by simp; omega)) a_3
  have a_4 := hst.cell (Or.inl (by simp; omega)) a_4
  have b_0 := hst.cell (Or.inl (by simp; omega)) b_0
  have b_1 := hst.cell (Or.inl (by simp; omega)) b_1
  have y_0 := hst.cell (Or.inr (by simp; omega)) y_0
  have y_1 := hst.cell (Or.inr (by simp; omega)) y_1
  have HW := Lib.hid (IntsAt.stir HW.out HWB.out hst (by omega))
  have HIG := Lib.hid (IntsOw.stir HIG.out hst (by omega))
  have SY := Lib.hid (show Same w4B.heap.size w5 w10 from SY.out.trans ⟨hst.size, fun b h1 h2 => hst.block b h2 (Or.inr (by omega))⟩)
  clear hst SX
  go_wp2_with fail
  refine (markRg_at _ s1 T1 w5 w10 w4B.heap.size HOWY.out SY.out HS1.out hT10 hT1b).mono ?_
  rintro e w11 ⟨T2, rfl, hT20, hst⟩
  have hv_w11 : Below w.heap.size w w11 := hst.below hv_w10 (by omega) (by omega)
  have zs_w11 : w10.heap.size ≤ w11.heap.size := hst.size
  have a_0 := hst.cell (Or.inl (by simp; omega)) a_0
  have a_1 := hst.cell (Or.inl (by simp; omega)) a_1
  have a_2 := hst.cell (Or.inl (by simp; omega)) a_2
  have a_3 := hst.cell (Or.inl (by simp; omega)) a_3
  have a_4 := hst.cell (Or.inl (by simp; omega)) a_4
  have b_0 := hst.cell (Or.inl (by simp; omega)) b_0
  have b_1 := hst.cell (Or.inl (by simp; omega)) b_1
  have HW := Lib.hid (IntsAt.stir HW.out HWB.out hst (by omega))
  have HIG := Lib.hid (IntsOw.stir HIG.out hst (by omega))
  clear hst SY y_0 y_1
  have hT : decide (T2 < 0) = false := by rw [decide_eq_false_iff_not]; omega
  go_wp2_with fail
  refine (eqIntS_any _ _ L L _ _ _ HIG.out.at HW.out (by omega) (by omega)).mono ?_
  rintro e w12 ⟨rfl, hb⟩
  rw [selfInts']
  have hv_w12 : Below w.heap.size w w12 := hv_w11.trans (hb.mono hv_w11.size)
  have zs_w12 : w11.heap.size ≤ w12.heap.size := hb.size
  have a_0 := cell_carry a_0 (Carries.of 0 hb)
  have a_1 := cell_carry a_1 (Carries.of 0 hb)
  have a_2 := cell_carry a_2 (Carries.of 0 hb)
  have a_3 := cell_carry a_3 (Carries.of 0 hb)
  have a_4 := cell_carry a_4 (Carries.of 0 hb)
  have b_0 := cell_carry b_0 (Carries.of 0 hb)
  have b_1 := cell_carry b_1 (Carries.of 0 hb)
  have HW := Lib.hid (HW.out.keep (Carries.of _ hb))
  have HIG := Lib.hid (IntsOw.after HIG.out hb)
  clear hb
  go_wp2_with fail
  refine (markInts_row _ L 1 w12 _ HIG.out hLL (by omega) (by omega)).mono ?_
  rintro e w13 ⟨rfl, hmk, hex⟩
  have hv_w13 : Below w.heap.size w w13 := hmk.below hv_w12 (by omega) (by omega)
  have zs_w13 : w12.heap.size ≤ w13.heap.size := hmk.size
  have a_0 := hmk.cell (Or.inl (by simp; omega)) a_0
  have a_1 := hmk.cell (Or.inl (by simp; omega)) a_1
  have a_2 := hmk.cell (Or.inl (by simp; omega)) a_2
  have a_3 := hmk.cell (Or.inl (by simp; omega)) a_3
  have a_4 := hmk.cell (Or.inl (by simp; omega)) a_4
  have b_0 := hmk.cell (Or.inl (by simp; omega)) b_0
  have b_1 := hmk.cell (Or.inl (by simp; omega)) b_1
  have HW := Lib.hid (IntsAt.stir HW.out HWB.out hmk (by omega))
  have HX := Lib.hid hex
  clear hmk hex HIG
  obtain ⟨TQ, hTQ⟩ : ∃ x : Int, x = 1 + (L.length : Int) := ⟨_, rfl⟩
  rw [← hTQ]
  have hTQ0 : 0 ≤ TQ := by omega
  have HTQ := Lib.hid hTQ; clear hTQ
  go_wp2_with fail
  refine (heldIntS_any _ L.length 1 w13 _ HX.out hLL (by omega) (by omega)).mono ?_
  rintro e w14 ⟨rfl, hb⟩
  rw [← HTQ.out]
  have hv_w14 : Below w.heap.size w w14 := hv_w13.trans (hb.mono hv_w13.size)
  have zs_w14 : w13.heap.size ≤ w14.heap.size := hb.size
  have a_0 := cell_carry a_0 (Carries.of 0 hb)
  have a_1 := cell_carry a_1 (Carries.of 0 hb)
  have a_2 := cell_carry a_2 (Carries.of 0 hb)
  have a_3 := cell_carry a_3 (Carries.of 0 hb)
  have a_4 := cell_carry a_4 (Carries.of 0 hb)
  have b_0 := cell_carry b_0 (Carries.of 0 hb)
  have b_1 := cell_carry b_1 (Carries.of 0 hb)
  have HW := Lib.hid (HW.out.keep (Carries.of _ hb))
  have HX := Lib.hid (HX.out.keep (Carries.of _ hb))
  clear hb
  have hq : (TQ != TQ) = false := by simp
  have hq2 : decide (TQ < 0) = false := by rw [decide_eq_false_iff_not]; omega
  go_wp2_with fail
  refine wp_region_held_drew (S := fun w' => w'.cell? ⟨w.heap.size, 0, none⟩ = some (.int .i64 d0p) ∧ w'.cell? ⟨w.heap.size, 1, none⟩ = some (.slice a0 d0m c0) ∧ w'.cell? ⟨w.heap.size, 2, none⟩ = some (.slice a1 d0ns c1) ∧ w'.cell? ⟨w.heap.size, 3, none⟩ = some (.slice a2 d0nl c2) ∧ w'.cell? ⟨w.heap.size, 4, none⟩ = some (.string d0st) ∧ w'.cell? ⟨w.heap.size + 1, 0, none⟩ = some (.slice b0 d1nm e0) ∧ w'.cell? ⟨w.heap.size + 1, 1, none⟩ = some (.slice b1 d1nv e1)) (by kernel_rfl) ⟨a_0, a_1, a_2, a_3, a_4, b_0, b_1⟩ (fun hHeld => ?_)
  refine tk0 (v := ?_) (by kernel_rfl) (by kernel_rfl) (by kernel_rfl) (by first | exact fun _ _ _ h => h | exact fun _ _ _ h => absurd h.1 (by simp)) (Or.inl ⟨by rfl, ?_⟩) (by assumption) ?_
  rotate_left 1
  focus (intro wx hSw; (try dsimp only at hSw); go_simp; try (with_reducible rfl))
  try simp only [Act.put, List.setIfInBounds_toArray, List.set_cons_zero, List.set_cons_succ]
  refine tk2 (v := ?_) (by kernel_rfl) (by kernel_rfl) (by kernel_rfl) (by first | exact fun _ _ _ h => h | exact fun _ _ _ h => absurd h.1 (by simp)) (Or.inl ⟨by rfl, ?_⟩) (by assumption) ?_
  rotate_left 1
  focus (intro wx hSw; (try dsimp only at hSw); go_simp; try (with_reducible rfl))
  try simp only [Act.put, List.setIfInBounds_toArray, List.set_cons_zero, List.set_cons_succ]
  refine rd1 (by kernel_rfl) (fun K hK => ?_)
  go_simp
  refine (toSTG_any _ s0 w14.drew lo (HV.out.keep (Carries.of lo hv_w14.drew)) HS0.out).mono ?_
  rintro e r1B ⟨v1B, rfl, hn1B, hb⟩
  have hbd : Below w14.heap.size w14 r1B := Below.trans (b := w14.drew) (Below.refl _ _).drew (hb.mono (by simp))
  clear hb
  have hv_r1B : Below w.heap.size w r1B := hv_w14.trans (hbd.mono hv_w14.size)
  have zs_r1B : w14.heap.size ≤ r1B.heap.size := hbd.size
  have a_0 := cell_carry a_0 (Carries.of 0 hbd)
  have a_1 := cell_carry a_1 (Carries.of 0 hbd)
  have a_2 := cell_carry a_2 (Carries.of 0 hbd)
  have a_3 := cell_carry a_3 (Carries.of 0 hbd)
  have a_4 := cell_carry a_4 (Carries.of 0 hbd)
  have b_0 := cell_carry b_0 (Carries.of 0 hbd)
  have b_1 := cell_carry b_1 (Carries.of 0 hbd)
  have HW := Lib.hid (HW.out.keep (Carries.of _ hbd))
  have HX := Lib.hid (HX.out.keep (Carries.of _ hbd))
  clear hbd
  refine hK.out _ _ ⟨a_0, a_1, a_2, a_3, a_4, b_0, b_1⟩ (fun hHeld => ?_)
  clear hK K
  try simp only [Act.put, List.setIfInBounds_toArray, List.set_cons_zero, List.set_cons_succ]
  refine rd3 (by kernel_rfl) (fun K hK => ?_)
  go_simp
  refine (toRg_any _ s1 r1B lo (HU.out.keep (Carries.of lo hv_r1B)) HS1.out).mono ?_
  rintro e r2B ⟨v2B, rfl, hn2B, hb⟩
  have hn1B := hn1B.keep (Carries.of _ hb)
  have hv_r2B : Below w.heap.size w r2B := hv_r1B.trans (hb.mono hv_r1B.size)
  have zs_r2B : r1B.heap.size ≤ r2B.heap.size := hb.size
  have a_0 := cell_carry a_0 (Carries.of 0 hb)
  have a_1 := cell_carry a_1 (Carries.of 0 hb)
  have a_2 := cell_carry a_2 (Carries.of 0 hb)
  have a_3 := cell_carry a_3 (Carries.of 0 hb)
  have a_4 := cell_carry a_4 (Carries.of 0 hb)
  have b_0 := cell_carry b_0 (Carries.of 0 hb)
  have b_1 := cell_carry b_1 (Carries.of 0 hb)
  have HW := Lib.hid (HW.out.keep (Carries.of _ hb))
  have HX := Lib.hid (HX.out.keep (Carries.of _ hb))
  clear hb
  refine hK.out _ _ ⟨a_0, a_1, a_2, a_3, a_4, b_0, b_1⟩ (fun hHeld => ?_)
  clear hK K
  try simp only [Act.put, List.setIfInBounds_toArray, List.set_cons_zero, List.set_cons_succ]
  refine rd4 (by kernel_rfl) (fun K hK => ?_)
  go_simp
  refine (DeadTransitions_any _ _ s0 s1 r2B _ _ hn1B hn2B HS0.out HS1.out).mono ?_
  rintro e w15 ⟨vh, rfl, hih, hb⟩
  rw [HG1.out]
  rw [HG0.out] at hih
  obtain ⟨ah, kh, rfl, hkh⟩ := hih.cap
  have HH := Lib.hid hih.at; clear hih
  have hv_w15 : Below w.heap.size w w15 := hv_r2B.trans (hb.mono hv_r2B.size)
  have zs_w15 : r2B.heap.size ≤ w15.heap.size := hb.size
  have a_0 := cell_carry a_0 (Carries.of 0 hb)
  have a_1 := cell_carry a_1 (Carries.of 0 hb)
  have a_2 := cell_carry a_2 (Carries.of 0 hb)
  have a_3 := cell_carry a_3 (Carries.of 0 hb)
  have a_4 := cell_carry a_4 (Carries.of 0 hb)
  have b_0 := cell_carry b_0 (Carries.of 0 hb)
  have b_1 := cell_carry b_1 (Carries.of 0 hb)
  have HW := Lib.hid (HW.out.keep (Carries.of _ hb))
  have HX := Lib.hid (HX.out.keep (Carries.of _ hb))
  clear hb
  clear hn1B hn2B
  refine hK.out _ _ ⟨a_0, a_1, a_2, a_3, a_4, b_0, b_1⟩ (fun hHeld => ?_)
  clear hK K
  try simp only [Act.put, List.setIfInBounds_toArray, List.set_cons_zero, List.set_cons_succ]
  refine tk5 (v := ?_) (by kernel_rfl) (by kernel_rfl) (by kernel_rfl) (by first | exact fun _ _ _ h => h | exact fun _ _ _ h => absurd h.1 (by simp)) (Or.inl ⟨by rfl, ?_⟩) (by assumption) ?_
  rotate_left 1
  focus (intro wx hSw; (try dsimp only at hSw); go_simp; try (with_reducible rfl))
  try simp only [Act.put, List.setIfInBounds_toArray, List.set_cons_zero, List.set_cons_succ]
  refine tk6 (v := ?_) (by kernel_rfl) (by kernel_rfl) (by kernel_rfl) (by first | exact fun _ _ _ h => h | exact fun _ _ _ h => absurd h.1 (by simp)) (Or.inl ⟨by rfl, ?_⟩) (by assumption) ?_
  rotate_left 1
  focus (intro wx hSw; (try dsimp only at hSw); go_simp; try (with_reducible rfl))
  try simp only [Act.put, List.setIfInBounds_toArray, List.set_cons_zero, List.set_cons_succ]
  refine tk7 (v := ?_) (by kernel_rfl) (by kernel_rfl) (by kernel_rfl) (by first | exact fun _ _ _ h => h | exact fun _ _ _ h => absurd h.1 (by simp)) (Or.inl ⟨by rfl, ?_⟩) (by assumption) ?_
  rotate_left 1
  focus (intro wx hSw; (try dsimp only at hSw); go_simp; try (with_reducible rfl))
  try simp only [Act.put, List.setIfInBounds_toArray, List.set_cons_zero, List.set_cons_succ]
  refine tk8 (v := ?_) (by kernel_rfl) (by kernel_rfl) (by kernel_rfl) (by first | exact fun _ _ _ h => h | exact fun _ _ _ h => absurd h.1 (by simp)) (Or.inl ⟨by rfl, ?_⟩) (by assumption) ?_
  rotate_left 1
  focus (intro wx hSw; (try dsimp only at hSw); go_simp; try (with_reducible rfl))
  try simp only [Act.put, List.setIfInBounds_toArray, List.set_cons_zero, List.set_cons_succ]
  refine tk9 (v := ?_) (by kernel_rfl) (by kernel_rfl) (by kernel_rfl) (by first | exact fun _ _ _ h => h | exact fun _ _ _ h => absurd h.1 (by simp)) (Or.inl ⟨by rfl, ?_⟩) (by assumption) ?_
  rotate_left 1
  focus (intro wx hSw; (try dsimp only at hSw); go_simp; try (with_reducible rfl))
  try simp only [Act.put, List.setIfInBounds_toArray, List.set_cons_zero, List.set_cons_succ]
  refine wpAnyH_done (by kernel_rfl) ?_ _
  clear a_0 a_1 a_2 a_3 a_4 b_0 b_1
  go_wp2_with fail
  refine (eqIntS_any _ _ L L _ _ _ HH.out HW.out (by omega) (by omega)).mono ?_
  rintro e w16 ⟨rfl, hb⟩
  rw [selfInts']
  have hv_w16 : Below w.heap.size w w16 := hv_w15.trans (hb.mono hv_w15.size)
  have zs_w16 : w15.heap.size ≤ w16.heap.size := hb.size
  have HX := Lib.hid (HX.out.keep (Carries.of _ hb))
  clear hb
  go_wp2_with fail
  refine (heldIntS_any _ L.length 1 w16 _ HX.out hLL (by omega) (by omega)).mono ?_
  rintro e w17 ⟨rfl, hb⟩
  rw [← HTQ.out]
  have hv_w17 : Below w.heap.size w w17 := hv_w16.trans (hb.mono hv_w16.size)
  have zs_w17 : w16.heap.size ≤ w17.heap.size := hb.size
  clear hb
  go_wp2_with fail
  go_ret
  exact ⟨rfl, hv_w17⟩

end Go.Proofs.Ytjelnlhalpoinaa
