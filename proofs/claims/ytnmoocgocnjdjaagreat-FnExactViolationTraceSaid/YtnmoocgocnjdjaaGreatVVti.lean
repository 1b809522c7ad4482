/- WALK: ViolationTrace of the program. -/
import Derived.Test.YtnmoocgocnjdjaaGreatVVta
namespace Go.Proofs.YtnmoocgocnjdjaaGreat
open Go.RowKit

set_option maxRecDepth 100000 in
set_option maxHeartbeats 4000000 in
theorem ViolationTrace_any (v : Value) (r : SgD) (f s t : Int) (w : World) (lo : Nat) (hv : SgAt lo w v r) (hs : SmallSg r) :
    Calls Tryz.prog 40 #[v, .agg #[.int .i64 f, .int .i64 s, .int .i64 t]] w (RetTx w (vtS r f s t) (vtB r f s t)) := by
  obtain ⟨S, hS⟩ : ∃ x, x = vtS r f s t := ⟨_, rfl⟩
  obtain ⟨B, hB⟩ : ∃ x, x = vtB r f s t := ⟨_, rfl⟩
  rw [← hS, ← hB]
  have HSS := Lib.hid hS; clear hS
  have HBB := Lib.hid hB; clear hB
  have HV := Lib.hid hv
  obtain ⟨a0, c0, a1, c1, a2, c2, rfl, _, _, h_2⟩ := hv.form
  have HL2 := Lib.hid h_2
  clear hv h_2
  have HS := Lib.hid hs; clear hs
  obtain ⟨n0, hn0⟩ : ∃ x, x = r.sigs.length := ⟨_, rfl⟩
  obtain ⟨n1, hn1⟩ : ∃ x, x = r.codes.length := ⟨_, rfl⟩
  obtain ⟨n2, hn2⟩ : ∃ x, x = r.arcs.length := ⟨_, rfl⟩
  rw [← hn0, ← hn1, ← hn2] at HV ⊢
  rw [← hn2] at HL2
  have HN1 := Lib.hid hn1
  have HN2 := Lib.hid hn2
  clear hn0 hn1 hn2
  go_enter Tryz.func40, Tryz.ntmps40
  go_wp2_with fail
  obtain ⟨V, hVe⟩ : ∃ x, x = (w.alloc (.cells #[.slice a0 n0 c0, .slice a1 n1 c1, .slice a2 n2 c2] 80)).alloc (.cells #[.int .i64 f, .int .i64 s, .int .i64 t] 82) := ⟨_, rfl⟩
  have hV : Below w.heap.size w V := by rw [hVe]; (repeat' (first | (with_reducible exact Below.refl _ _) | (with_reducible assumption) | (with_reducible refine Below.alloc ?_ ?_ _) | (with_reducible refine Below.drew ?_) | (with_reducible refine below_drewN ?_ _) | (with_reducible refine Below.setCell ?_ ?_ _) | go_size))
  have x0 : V.cell? ⟨w.heap.size, 0, none⟩ = some (.slice a0 n0 c0) := by
    rw [hVe]
    exact cell_carry (w := w.alloc (.cells #[.slice a0 n0 c0, .slice a1 n1 c1, .slice a2 n2 c2] 80)) (by simp) ((Carries.refl 0 _).alloc _)
  have x1 : V.cell? ⟨w.heap.size, 1, none⟩ = some (.slice a1 n1 c1) := by
    rw [hVe]
    exact cell_carry (w := w.alloc (.cells #[.slice a0 n0 c0, .slice a1 n1 c1, .slice a2 n2 c2] 80)) (by simp) ((Carries.refl 0 _).alloc _)
  have x2 : V.cell? ⟨w.heap.size, 2, none⟩ = some (.slice a2 n2 c2) := by
    rw [hVe]
    exact cell_carry (w := w.alloc (.cells #[.slice a0 n0 c0, .slice a1 n1 c1, .slice a2 n2 c2] 80)) (by simp) ((Carries.refl 0 _).alloc _)
  have y0 : V.cell? ⟨w.heap.size + 1, 0, none⟩ = some (.int .i64 f) := by rw [hVe]; simp
  have y1 : V.cell? ⟨w.heap.size + 1, 1, none⟩ = some (.int .i64 s) := by rw [hVe]; simp
  have y2 : V.cell? ⟨w.heap.size + 1, 2, none⟩ = some (.int .i64 t) := by rw [hVe]; simp
  rw [← hVe]
  clear hVe
  refine wp_region_held_drew (S := fun w' => (w'.cell? ⟨w.heap.size, 0, none⟩ = some (.slice a0 n0 c0) ∧ w'.cell? ⟨w.heap.size, 1, none⟩ = some (.slice a1 n1 c1) ∧ w'.cell? ⟨w.heap.size, 2, none⟩ = some (.slice a2 n2 c2)) ∧ w'.cell? ⟨w.heap.size + 1, 0, none⟩ = some (.int .i64 f) ∧ w'.cell? ⟨w.heap.size + 1, 1, none⟩ = some (.int .i64 s) ∧ w'.cell? ⟨w.heap.size + 1, 2, none⟩ = some (.int .i64 t)) (by kernel_rfl) ⟨⟨x0, x1, x2⟩, y0, y1, y2⟩ (fun hHeld => ?_)
  refine tk0 (v := ?_) (by kernel_rfl) (by kernel_rfl) (by kernel_rfl) (by first | exact fun _ _ _ h => h | exact fun _ _ _ h => absurd h.1 (by simp)) (Or.inl ⟨by rfl, ?_⟩) (by assumption) ?_
  rotate_left 1
  focus (intro wx hSw; (try dsimp only at hSw); go_simp; try (with_reducible rfl))
  try simp only [Act.put, List.setIfInBounds_toArray, List.set_cons_zero, List.set_cons_succ]
  refine rd1 (by kernel_rfl) (fun K hK => ?_)
  go_simp
  refine (IsValidSg_any _ r V.drew lo (HV.out.keep (Carries.of lo hV.drew)) HS.out).mono ?_
  rintro e w1 ⟨rfl, hb⟩
  have hb : Below V.heap.size V w1 := Below.trans (b := V.drew) (Below.refl _ _).drew (hb.mono (by simp))
  have hw1 : Below w.heap.size w w1 := hV.trans (hb.mono hV.size)
  have x0 := cell_carry x0 (Carries.of 0 hb)
  have x1 := cell_carry x1 (Carries.of 0 hb)
  have x2 := cell_carry x2 (Carries.of 0 hb)
  have y0 := cell_carry y0 (Carries.of 0 hb)
  have y1 := cell_carry y1 (Carries.of 0 hb)
  have y2 := cell_carry y2 (Carries.of 0 hb)
  clear hb
  clear hV
  refine hK.out _ _ ⟨⟨x0, x1, x2⟩, y0, y1, y2⟩ (fun hHeld => ?_)
  clear hK K
  try simp only [Act.put, List.setIfInBounds_toArray, List.set_cons_zero, List.set_cons_succ]
  refine tk2 (v := ?_) (by kernel_rfl) (by kernel_rfl) (by kernel_rfl) (by first | exact fun _ _ _ h => h | exact fun _ _ _ h => absurd h.1 (by simp)) (Or.inl ⟨by rfl, ?_⟩) (by assumption) ?_
  rotate_left 1
  focus (intro wx hSw; (try dsimp only at hSw); go_simp; try (with_reducible rfl))
  try simp only [Act.put, List.setIfInBounds_toArray, List.set_cons_zero, List.set_cons_succ]
  refine tk3 (v := ?_) (by kernel_rfl) (by kernel_rfl) (by kernel_rfl) (by first | exact fun _ _ _ h => h | exact fun _ _ _ h => absurd h.1 (by simp)) (Or.inl ⟨by rfl, ?_⟩) (by assumption) ?_
  rotate_left 1
  focus (intro wx hSw; (try dsimp only at hSw); go_simp; try (with_reducible rfl))
  try simp only [Act.put, List.setIfInBounds_toArray, List.set_cons_zero, List.set_cons_succ]
  cases hg : goodG r with
  | false =>
    have hf : vtB r f s t = false := by unfold vtB; rw [hg]; rfl
    have k1 := HSS.out
    have k2 := HBB.out
    rw [vtS_no hf] at k1
    rw [hf] at k2
    subst k1; subst k2
    clear hf
    clear hg
    refine tk4 (by kernel_rfl) (by kernel_rfl) (by kernel_rfl) (by first | exact fun _ _ _ h => h | exact fun _ _ _ h => absurd h.1 (by simp)) (Or.inr ⟨by first | kernel_rfl | rfl, rfl⟩) (by assumption) ?_
    try simp only [Act.put, List.setIfInBounds_toArray, List.set_cons_zero, List.set_cons_succ]
    refine tk5 (by kernel_rfl) (by kernel_rfl) (by kernel_rfl) (by first | exact fun _ _ _ h => h | exact fun _ _ _ h => absurd h.1 (by simp)) (Or.inr ⟨by first | kernel_rfl | rfl, rfl⟩) (by assumption) ?_
    try simp only [Act.put, List.setIfInBounds_toArray, List.set_cons_zero, List.set_cons_succ]
    refine tk6 (by kernel_rfl) (by kernel_rfl) (by kernel_rfl) (by first | exact fun _ _ _ h => h | exact fun _ _ _ h => absurd h.1 (by simp)) (Or.inr ⟨by first | kernel_rfl | rfl, rfl⟩) (by assumption) ?_
    try simp only [Act.put, List.setIfInBounds_toArray, List.set_cons_zero, List.set_cons_succ]
    refine tk7 (by kernel_rfl) (by kernel_rfl) (by kernel_rfl) (by first | exact fun _ _ _ h => h | exact fun _ _ _ h => absurd h.1 (by simp)) (Or.inr ⟨by first | kernel_rfl | rfl, rfl⟩) (by assumption) ?_
    try simp only [Act.put, List.setIfInBounds_toArray, List.set_cons_zero, List.set_cons_succ]
    refine tk8 (by kernel_rfl) (by kernel_rfl) (by kernel_rfl) (by first | exact fun _ _ _ h => h | exact fun _ _ _ h => absurd h.1 (by simp)) (Or.inr ⟨by first | kernel_rfl | rfl, rfl⟩) (by assumption) ?_
    try simp only [Act.put, List.setIfInBounds_toArray, List.set_cons_zero, List.set_cons_succ]
    refine tk9 (v := ?_) (by kernel_rfl) (by kernel_rfl) (by kernel_rfl) (by first | exact fun _ _ _ h => h | exact fun _ _ _ h => absurd h.1 (by simp)) (Or.inl ⟨by rfl, ?_⟩) (by assumption) ?_
    rotate_left 1
    focus (intro wx hSw; (try dsimp only at hSw); go_simp; try (with_reducible rfl))
    try simp only [Act.put, List.setIfInBounds_toArray, List.set_cons_zero, List.set_cons_succ]
    refine wpAnyH_done (by kernel_rfl) ?_ _
    go_wp2_with fail
    go_ret2
    exact ⟨rfl, hw1⟩
  | true =>
  have hfB : vtB r f s t = pvHas (bkL r) f s t := by unfold vtB; rw [hg]; rfl
  have HFB := Lib.hid hfB; clear hfB
  have h8 := Lib.hid (of_decide_eq_true (Bool.and_eq_true_iff.1 (goodG_get hg).1).2).2
  have HG := Lib.hid hg; clear hg
  refine tk4 (v := ?_) (by kernel_rfl) (by kernel_rfl) (by kernel_rfl) (by first | exact fun _ _ _ h => h | exact fun _ _ _ h => absurd h.1 (by simp)) (Or.inl ⟨by rfl, ?_⟩) (by assumption) ?_
  rotate_left 1
  focus (intro wx hSw; (try dsimp only at hSw); go_simp; try (with_reducible rfl))
  try simp only [Act.put, List.setIfInBounds_toArray, List.set_cons_zero, List.set_cons_succ]
  refine tk6 (v := ?_) (by kernel_rfl) (by kernel_rfl) (by kernel_rfl) (by first | exact fun _ _ _ h => h | exact fun _ _ _ h => absurd h.1 (by simp)) (Or.inl ⟨by rfl, ?_⟩) (by assumption) ?_
  rotate_left 1
  focus (intro wx hSw; (try dsimp only at hSw); go_simp; try (with_reducible rfl))
  try simp only [Act.put, List.setIfInBounds_toArray, List.set_cons_zero, List.set_cons_succ]
  refine rd5 (by kernel_rfl) (fun K hK => ?_)
  go_simp
  refine (violations_any _ r w1 lo (HV.out.keep (Carries.of lo hw1)) HS.out HG.out h8.out).mono ?_
  rintro e w2 ⟨vp, rfl, hrow, hb⟩
  have hw2 : Below w.heap.size w w2 := hw1.trans (hb.mono hw1.size)
  have x0 := cell_carry x0 (Carries.of 0 hb)
  have x1 := cell_carry x1 (Carries.of 0 hb)
  have x2 := cell_carry x2 (Carries.of 0 hb)
  have y0 := cell_carry y0 (Carries.of 0 hb)
  have y1 := cell_carry y1 (Carries.of 0 hb)
  have y2 := cell_carry y2 (Carries.of 0 hb)
  clear hb
  have HP := Lib.hid hrow.at
  obtain ⟨ap, cp, rfl⟩ := hrow.form
  clear hrow
  refine hK.out _ _ ⟨⟨x0, x1, x2⟩, y0, y1, y2⟩ (fun hHeld => ?_)
  clear hK K
  try simp only [Act.put, List.setIfInBounds_toArray, List.set_cons_zero, List.set_cons_succ]
  refine rd7 (by kernel_rfl) (fun K hK => ?_)
  go_simp
  refine (ContainsPv_any _ (bkL r) f s t w2 _ HP.out (by have := pvL_small r; rw [pvL_yes HG.out] at this; exact this)).mono ?_
  rintro e w3 ⟨rfl, hb⟩
  have hw3 : Below w.heap.size w w3 := hw2.trans (hb.mono hw2.size)
  have x0 := cell_carry x0 (Carries.of 0 hb)
  have x1 := cell_carry x1 (Carries.of 0 hb)
  have x2 := cell_carry x2 (Carries.of 0 hb)
  have y0 := cell_carry y0 (Carries.of 0 hb)
  have y1 := cell_carry y1 (Carries.of 0 hb)
  have y2 := cell_carry y2 (Carries.of 0 hb)
  clear hb
  refine hK.out _ _ ⟨⟨x0, x1, x2⟩, y0, y1, y2⟩ (fun hHeld => ?_)
  clear hK K
  try simp only [Act.put, List.setIfInBounds_toArray, List.set_cons_zero, List.set_cons_succ]
  refine tk8 (v := ?_) (by kernel_rfl) (by kernel_rfl) (by kernel_rfl) (by first | exact fun _ _ _ h => h | exact fun _ _ _ h => absurd h.1 (by simp)) (Or.inl ⟨by rfl, ?_⟩) (by assumption) ?_
  rotate_left 1
  focus (intro wx hSw; (try dsimp only at hSw); go_simp; try (with_reducible rfl))
  try simp only [Act.put, List.setIfInBounds_toArray, List.set_cons_zero, List.set_cons_succ]
  refine tk9 (v := ?_) (by kernel_rfl) (by kernel_rfl) (by kernel_rfl) (by first | exact fun _ _ _ h => h | exact fun _ _ _ h => absurd h.1 (by simp)) (Or.inl ⟨by rfl, ?_⟩) (by assumption) ?_
  rotate_left 1
  focus (intro wx hSw; (try dsimp only at hSw); go_simp; try (with_reducible rfl))
  try simp only [Act.put, List.setIfInBounds_toArray, List.set_cons_zero, List.set_cons_succ]
  refine wpAnyH_done (by kernel_rfl) ?_ _
  cases hp : pvHas (bkL r) f s t with
  | false =>
    have hf := HFB.out
    rw [hp] at hf
    have k1 := HSS.out
    have k2 := HBB.out
    rw [vtS_no hf] at k1
    rw [hf] at k2
    subst k1; subst k2
    clear hf
    clear hp
    go_wp2_with fail
    go_ret2
    exact ⟨rfl, hw3⟩
  | true =>
    obtain ⟨k, n, rfl, rfl, hk, hn, h0⟩ := vtB_in hp
    have hf := HFB.out
    rw [hp] at hf
    have k1 := HSS.out
    have k2 := HBB.out
    rw [vtS_yes hf] at k1
    rw [hf] at k2
    subst k2
    have HK := Lib.hid k1; clear k1 hf hp
    have H0 := Lib.hid h0; clear h0
    rw [← HN2.out] at hn
    have hX3 : (w3.cell? ⟨w.heap.size, 0, none⟩ = some (.slice a0 n0 c0) ∧ w3.cell? ⟨w.heap.size, 1, none⟩ = some (.slice a1 n1 c1) ∧ w3.cell? ⟨w.heap.size, 2, none⟩ = some (.slice a2 n2 c2)) ∧ w3.cell? ⟨w.heap.size + 1, 0, none⟩ = some (.int .i64 (k : Int)) ∧ w3.cell? ⟨w.heap.size + 1, 1, none⟩ = some (.int .i64 s) ∧ w3.cell? ⟨w.heap.size + 1, 2, none⟩ = some (.int .i64 (n : Int)) := ⟨⟨x0, x1, x2⟩, y0, y1, y2⟩
    have HX3 := Lib.hid hX3; clear hX3
    go_wp2_with fail
    refine (ShortestPath_any _ r (k : Int) w3 lo (HV.out.keep (Carries.of lo hw3)) HS.out).mono ?_
    rintro e w4 ⟨vl, rfl, hrow, hb⟩
    have hw4 : Below w.heap.size w w4 := hw3.trans (hb.mono hw3.size)
    have hw34 := hb
    have x0 := cell_carry x0 (Carries.of 0 hb)
    have x1 := cell_carry x1 (Carries.of 0 hb)
    have x2 := cell_carry x2 (Carries.of 0 hb)
    have y0 := cell_carry y0 (Carries.of 0 hb)
    have y1 := cell_carry y1 (Carries.of 0 hb)
    have y2 := cell_carry y2 (Carries.of 0 hb)
    clear hb
    have esp : spB r (k : Int) = true := by unfold spB; rw [HG.out, decide_eq_true (show (0 : Int) ≤ (k : Int) ∧ (k : Int) < (r.codes.length : Int) by omega)]; rfl
    rw [esp]
    clear esp hk
    have HR := Lib.hid hrow
    obtain ⟨al, cl, rfl⟩ := hrow.form
    clear hrow
    obtain ⟨ao, cap, e0, hc2, hz2⟩ := HL2.out
    injection e0 with e1 e2 e3
    subst e1; subst e3; clear e2
    rcases hz2 with h0 | ⟨b, off, rfl, hlo, hcell⟩
    · have := HN2.out; omega
    obtain ⟨q0, q1, q2, q3⟩ := hcell n (by rw [← HN2.out]; exact hn)
    have d0 := Carries.of lo hw4 _ _ hlo q0
    have d1 := Carries.of lo hw4 _ _ hlo q1
    have d2 := Carries.of lo hw4 _ _ hlo q2
    have d3 := Carries.of lo hw4 _ _ hlo q3
    have HD : Hid (∀ w', Below w.heap.size w w' → w'.cell? ⟨b, off + n * 4, none⟩ = some (.int .i64 (arF r.arcs n)) ∧ w'.cell? ⟨b, off + n * 4 + 1, none⟩ = some (.int .i64 (arS r.arcs n)) ∧ w'.cell? ⟨b, off + n * 4 + 2, none⟩ = some (.bool (arU r.arcs n)) ∧ w'.cell? ⟨b, off + n * 4 + 3, none⟩ = some (.int .i64 (arT r.arcs n))) := fun w' h => ⟨Carries.of lo h _ _ hlo q0, Carries.of lo h _ _ hlo q1, Carries.of lo h _ _ hlo q2, Carries.of lo h _ _ hlo q3⟩
    clear hcell q0 q1 q2 q3
    have HAT : Hid (arAt r ((n : Nat) : Int) = (arF r.arcs n, arS r.arcs n, arU r.arcs n, arT r.arcs n)) := rfl
    try dsimp only at d0 d1 d2 d3
    generalize arF r.arcs n = g0 at d0 HAT HD
    generalize arS r.arcs n = g1 at d1 HAT HD
    generalize arU r.arcs n = g2 at d2 HAT HD
    generalize arT r.arcs n = g3 at d3 HAT HD
    go_wp2_with fail
    refine wp_region_held_drew (S := fun w' => ((w'.cell? ⟨w.heap.size, 0, none⟩ = some (.slice a0 n0 c0) ∧ w'.cell? ⟨w.heap.size, 1, none⟩ = some (.slice a1 n1 c1) ∧ w'.cell? ⟨w.heap.size, 2, none⟩ = some (.slice (some ⟨b, off, none⟩) n2 c2)) ∧ w'.cell? ⟨w.heap.size + 1, 0, none⟩ = some (.int .i64 (k : Int)) ∧ w'.cell? ⟨w.heap.size + 1, 1, none⟩ = some (.int .i64 s) ∧ w'.cell? ⟨w.heap.size + 1, 2, none⟩ = some (.int .i64 (n : Int))) ∧ w'.cell? ⟨b, off + n * 4, none⟩ = some (.int .i64 g0) ∧ w'.cell? ⟨b, off + n * 4 + 1, none⟩ = some (.int .i64 g1) ∧ w'.cell? ⟨b, off + n * 4 + 2, none⟩ = some (.bool g2) ∧ w'.cell? ⟨b, off + n * 4 + 3, none⟩ = some (.int .i64 g3)) (by kernel_rfl) ⟨⟨⟨x0, x1, x2⟩, y0, y1, y2⟩, d0, d1, d2, d3⟩ (fun hHeld => ?_)
    refine tk0 (v := ?_) (by kernel_rfl) (by kernel_rfl) (by kernel_rfl) (by first | exact fun _ _ _ h => h | exact fun _ _ _ h => absurd h.1 (by simp)) (Or.inl ⟨by rfl, ?_⟩) (by assumption) ?_
    rotate_left 1
    focus (intro wx hSw; (try dsimp only at hSw); go_simp; try (with_reducible rfl))
    try simp only [Act.put, List.setIfInBounds_toArray, List.set_cons_zero, List.set_cons_succ]
    refine tk1 (v := ?_) (by kernel_rfl) (by kernel_rfl) (by kernel_rfl) (by first | exact fun _ _ _ h => h | exact fun _ _ _ h => absurd h.1 (by simp)) (Or.inl ⟨by rfl, ?_⟩) (by assumption) ?_
    rotate_left 1
    focus (intro wx hSw; (try dsimp only at hSw); go_simp; try (with_reducible rfl))
    try simp only [Act.put, List.setIfInBounds_toArray, List.set_cons_zero, List.set_cons_succ]
    refine tk2 (v := ?_) (by kernel_rfl) (by kernel_rfl) (by kernel_rfl) (by first | exact fun _ _ _ h => h | exact fun _ _ _ h => absurd h.1 (by simp)) (Or.inl ⟨by rfl, ?_⟩) (by assumption) ?_
    rotate_left 1
    focus (intro wx hSw; (try dsimp only at hSw); go_simp; try (with_reducible rfl))
    try simp only [Act.put, List.setIfInBounds_toArray, List.set_cons_zero, List.set_cons_succ]
    refine tk3 (v := ?_) (by kernel_rfl) (by kernel_rfl) (by kernel_rfl) (by first | exact fun _ _ _ h => h | exact fun _ _ _ h => absurd h.1 (by simp)) (Or.inl ⟨by rfl, ?_⟩) (by assumption) ?_
    rotate_left 1
    focus (intro wx hSw; (try dsimp only at hSw); go_simp; try (with_reducible rfl))
    try simp only [Act.put, List.setIfInBounds_toArray, List.set_cons_zero, List.set_cons_succ]
    refine tk4 (v := ?_) (by kernel_rfl) (by kernel_rfl) (by kernel_rfl) (by first | exact fun _ _ _ h => h | exact fun _ _ _ h => absurd h.1 (by simp)) (Or.inl ⟨by rfl, ?_⟩) (by assumption) ?_
    rotate_left 1
    focus (intro wx hSw; (try dsimp only at hSw); go_simp; try (with_reducible rfl))
    try simp only [Act.put, List.setIfInBounds_toArray, List.set_cons_zero, List.set_cons_succ]
    refine tk5 (v := ?_) (by kernel_rfl) (by kernel_rfl) (by kernel_rfl) (by first | exact fun _ _ _ h => h | exact fun _ _ _ h => absurd h.1 (by simp)) (Or.inl ⟨by rfl, ?_⟩) (by assumption) ?_
    rotate_left 1
    focus (intro wx hSw; (try dsimp only at hSw); go_simp; try (with_reducible rfl))
    try simp only [Act.put, List.setIfInBounds_toArray, List.set_cons_zero, List.set_cons_succ]
    refine tk6 (v := ?_) (by kernel_rfl) (by kernel_rfl) (by kernel_rfl) (by first | exact fun _ _ _ h => h | exact fun _ _ _ h => absurd h.1 (by simp)) (Or.inl ⟨by rfl, ?_⟩) (by assumption) ?_
    rotate_left 1
    focus (intro wx hSw; (try dsimp only at hSw); go_simp; try (with_reducible rfl))
    try simp only [Act.put, List.setIfInBounds_toArray, List.set_cons_zero, List.set_cons_succ]
    refine tk7 (v := ?_) (by kernel_rfl) (by kernel_rfl) (by kernel_rfl) (by first | exact fun _ _ _ h => h | exact fun _ _ _ h => absurd h.1 (by simp)) (Or.inl ⟨by rfl, ?_⟩) (by assumption) ?_
    rotate_left 1
    focus (intro wx hSw; (try dsimp only at hSw); go_simp; try (with_reducible rfl))
    try simp only [Act.put, List.setIfInBounds_toArray, List.set_cons_zero, List.set_cons_succ]
    refine tk11 (v := ?_) (by kernel_rfl) (by kernel_rfl) (by kernel_rfl) (by first | exact fun _ _ _ h => h | exact fun _ _ _ h => absurd h.1 (by simp)) (Or.inl ⟨by rfl, ?_⟩) (by assumption) ?_
    rotate_left 1
    focus (intro wx hSw; (try dsimp only at hSw); go_simp; try (with_reducible rfl))
    try simp only [Act.put, List.setIfInBounds_toArray, List.set_cons_zero, List.set_cons_succ]
    refine rd8 (by kernel_rfl) (fun K hK => ?_)
    go_simp
    obtain ⟨A, hA⟩ : ∃ x, x = (w4.alloc (.cells #[.int .i64 g0, .int .i64 g1, .bool g2, .int .i64 g3] 138)).drew := ⟨_, rfl⟩
    have hb : Below w4.heap.size w4 A := by rw [hA]; exact ((Below.refl _ _).alloc (Nat.le_refl _) _).drew
    have hRA : Hid (ARow w3.heap.size A (.slice al (spL r (k : Int)).length cl) (spL r (k : Int))) := by unfold Hid; rw [hA]; exact (World.ownsRow.alloc HR.out _).drew
    have e0 : A.cell? ⟨w4.heap.size, 0, none⟩ = some (.int .i64 g0) := by rw [hA]; simp
    have e1 : A.cell? ⟨w4.heap.size, 1, none⟩ = some (.int .i64 g1) := by rw [hA]; simp
    have e2 : A.cell? ⟨w4.heap.size, 2, none⟩ = some (.bool g2) := by rw [hA]; simp
    have e3 : A.cell? ⟨w4.heap.size, 3, none⟩ = some (.int .i64 g3) := by rw [hA]; simp
    rw [← hA]
    clear hA
    have z3 : w3.heap.size ≤ A.heap.size := by have := hb.size; have := hw34.size; omega
    have hw5 : Below w.heap.size w A := hw4.trans (hb.mono hw4.size)
    have hB3 : Below w3.heap.size w3 A := hw34.trans (hb.mono hw34.size)
    have x0 := cell_carry x0 (Carries.of 0 hb)
    have x1 := cell_carry x1 (Carries.of 0 hb)
    have x2 := cell_carry x2 (Carries.of 0 hb)
    have y0 := cell_carry y0 (Carries.of 0 hb)
    have y1 := cell_carry y1 (Carries.of 0 hb)
    have y2 := cell_carry y2 (Carries.of 0 hb)
    have d0 := cell_carry d0 (Carries.of 0 hb)
    have d1 := cell_carry d1 (Carries.of 0 hb)
    have d2 := cell_carry d2 (Carries.of 0 hb)
    have d3 := cell_carry d3 (Carries.of 0 hb)
    clear hb
    refine hK.out _ _ ⟨⟨⟨x0, x1, x2⟩, y0, y1, y2⟩, d0, d1, d2, d3⟩ (fun hHeld => ?_)
    clear hK K
    try simp only [Act.put, List.setIfInBounds_toArray, List.set_cons_zero, List.set_cons_succ]
    refine rd9 (by kernel_rfl) (fun K hK => ?_)
    rw [if_pos (by rfl)]
    refine wp_append_ar (.tmp 26) (.tmp 33) rfl w3.heap.size _ (spL r (k : Int)) rfl hRA.out w4.heap.size (g0, g1, g2, g3) rfl e0 e1 e2 e3 (by have := spL_small (t := (k : Int)) HS.out; omega) z3 ?_
    intro v' w6 hown6 hgrow
    have hge : ∀ g, (Value.slice al (spL r (k : Int)).length cl).ownBlock = some g → w3.heap.size ≤ g := fun g hg => (hRA.out.lt g hg).1
    have hb3 : Below w3.heap.size w3 w6 := hB3.grown hgrow z3 hge
    have hb : Below w3.heap.size w3 w6 := hb3
    have hw6 : Below w.heap.size w w6 := hw3.trans (hb3.mono hw3.size)
    clear hb3 hgrow hge e0 e1 e2 e3
    obtain ⟨⟨x0, x1, x2⟩, y0, y1, y2⟩ := HX3.out
    have x0 := cell_carry x0 (Carries.of 0 hb)
    have x1 := cell_carry x1 (Carries.of 0 hb)
    have x2 := cell_carry x2 (Carries.of 0 hb)
    have y0 := cell_carry y0 (Carries.of 0 hb)
    have y1 := cell_carry y1 (Carries.of 0 hb)
    have y2 := cell_carry y2 (Carries.of 0 hb)
    obtain ⟨d0, d1, d2, d3⟩ := HD.out _ hw6
    have hvt : ARow w3.heap.size w6 v' (vtL r (k : Int) (n : Int)) := by unfold vtL; rw [HAT.out]; exact hown6
    have HO := Lib.hid hvt.at
    obtain ⟨av, cv, rfl⟩ := hvt.form
    clear hvt hown6 hb
    refine hK.out _ _ ⟨⟨⟨x0, x1, x2⟩, y0, y1, y2⟩, d0, d1, d2, d3⟩ (fun hHeld => ?_)
    clear hK K
    try simp only [Act.put, List.setIfInBounds_toArray, List.set_cons_zero, List.set_cons_succ]
    refine rd10 (by kernel_rfl) (fun K hK => ?_)
    go_simp
    refine (traceText_any _ _ r (vtL r (k : Int) (n : Int)) w6 lo _ (HV.out.keep (Carries.of lo hw6)) HO.out HS.out (vtL_small HG.out) (vtL_labs HG.out H0.out)).mono ?_
    rintro e w7 ⟨rfl, hb⟩
    have hw7 : Below w.heap.size w w7 := hw6.trans (hb.mono hw6.size)
    have x0 := cell_carry x0 (Carries.of 0 hb)
    have x1 := cell_carry x1 (Carries.of 0 hb)
    have x2 := cell_carry x2 (Carries.of 0 hb)
    have y0 := cell_carry y0 (Carries.of 0 hb)
    have y1 := cell_carry y1 (Carries.of 0 hb)
    have y2 := cell_carry y2 (Carries.of 0 hb)
    have d0 := cell_carry d0 (Carries.of 0 hb)
    have d1 := cell_carry d1 (Carries.of 0 hb)
    have d2 := cell_carry d2 (Carries.of 0 hb)
    have d3 := cell_carry d3 (Carries.of 0 hb)
    clear hb
    rw [← HK.out]
    refine hK.out _ _ ⟨⟨⟨x0, x1, x2⟩, y0, y1, y2⟩, d0, d1, d2, d3⟩ (fun hHeld => ?_)
    clear hK K
    try simp only [Act.put, List.setIfInBounds_toArray, List.set_cons_zero, List.set_cons_succ]
    refine tk12 (v := ?_) (by kernel_rfl) (by kernel_rfl) (by kernel_rfl) (by first | exact fun _ _ _ h => h | exact fun _ _ _ h => absurd h.1 (by simp)) (Or.inl ⟨by rfl, ?_⟩) (by assumption) ?_
    rotate_left 1
    focus (intro wx hSw; (try dsimp only at hSw); go_simp; try (with_reducible rfl))
    try simp only [Act.put, List.setIfInBounds_toArray, List.set_cons_zero, List.set_cons_succ]
    refine tk13 (v := ?_) (by kernel_rfl) (by kernel_rfl) (by kernel_rfl) (by first | exact fun _ _ _ h => h | exact fun _ _ _ h => absurd h.1 (by simp)) (Or.inl ⟨by rfl, ?_⟩) (by assumption) ?_
    rotate_left 1
    focus (intro wx hSw; (try dsimp only at hSw); go_simp; try (with_reducible rfl))
    try simp only [Act.put, List.setIfInBounds_toArray, List.set_cons_zero, List.set_cons_succ]
    refine wpAnyH_done (by kernel_rfl) ?_ _
    go_wp2_with fail
    go_ret2
    exact ⟨rfl, hw7⟩

end Go.Proofs.YtnmoocgocnjdjaaGreat
