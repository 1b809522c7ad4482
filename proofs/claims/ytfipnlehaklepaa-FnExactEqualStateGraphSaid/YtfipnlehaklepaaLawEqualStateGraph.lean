/-
  WALK of the law FnExactEqualStateGraph.
-/
import Derived.Test.YtfipnlehaklepaaEqsr
import Derived.Test.YtfipnlehaklepaaEqum
import Derived.Test.YtfipnlehaklepaaStepsb
import Derived.Deep.RegionHeld3
namespace Go.Proofs.Ytfipnlehaklepaa
open Go.RowKit

set_option maxRecDepth 100000 in
set_option maxHeartbeats 4000000 in
theorem lawEqualStateGraph_any (va vb : Value) (s0 s1 : SgD) (w : World) (lo : Nat) (hva : SgAt lo w va s0) (hvb : SgAt lo w vb s1) (hok0 : OkSg s0) (hok1 : OkSg s1) :
    Calls Try.prog 7 #[va, vb] w (RetB w true) := by
  obtain ⟨a0, c0, a1, c1, a2, c2, rfl, hn_, hsg_, hl_⟩ := hva.form
  obtain ⟨b0, d0, b1, d1, b2, d2, rfl, hn_', hsg_', hl_'⟩ := hvb.form
  clear hn_ hsg_ hl_ hn_' hsg_' hl_'
  have HV := Lib.hid hva; clear hva
  have HU := Lib.hid hvb; clear hvb
  have HO := Lib.hid hok0; clear hok0
  have HO1 := Lib.hid hok1; clear hok1
  obtain ⟨n0, hp⟩ : ∃ p, p = s0.sigs.length := ⟨_, rfl⟩
  obtain ⟨m0, hm⟩ : ∃ m, m = s0.codes.length := ⟨_, rfl⟩
  obtain ⟨l0, hns⟩ : ∃ ns, ns = s0.arcs.length := ⟨_, rfl⟩
  rw [← hp, ← hm, ← hns] at HV ⊢
  have HP0 := Lib.hid (And.intro hp (And.intro hm hns)); clear hp hm hns
  obtain ⟨n1, hp⟩ : ∃ p, p = s1.sigs.length := ⟨_, rfl⟩
  obtain ⟨m1, hm⟩ : ∃ m, m = s1.codes.length := ⟨_, rfl⟩
  obtain ⟨l1, hns⟩ : ∃ ns, ns = s1.arcs.length := ⟨_, rfl⟩
  rw [← hp, ← hm, ← hns] at HU ⊢
  have HP1 := Lib.hid (And.intro hp (And.intro hm hns)); clear hp hm hns
  go_enter Try.func7, Try.ntmps7
  go_wp2_with fail
  refine (szSg_any _ s0 _ _ lo (HV.out.keep ?_) (by omega) (by omega) HO.out).mono ?_
  · (repeat' (first | (with_reducible exact Carries.refl _ _) | (with_reducible assumption) | (with_reducible refine Carries.alloc ?_ _) | (with_reducible refine Carries.drew ?_) | (with_reducible refine Carries.drewN ?_ _) | (with_reducible refine Carries.set ?_ ?_ _) | go_size))
  rintro e w1 ⟨r, rfl, hr, hb⟩
  have hw1 : Below w.heap.size w w1 := by
    refine Below.trans ?_ (hb.mono ?_)
    · (repeat' (first | (with_reducible exact Below.refl _ _) | (with_reducible assumption) | (with_reducible refine Below.alloc ?_ ?_ _) | (with_reducible refine Below.drew ?_) | (with_reducible refine below_drewN ?_ _) | (with_reducible refine Below.setCell ?_ ?_ _) | go_size))
    · simp; omega
  have a_0 : w1.cell? ⟨w.heap.size, 0, none⟩ = some (.slice a0 n0 c0) := cell_carry (by simp) (Carries.of 0 hb)
  have a_1 : w1.cell? ⟨w.heap.size, 1, none⟩ = some (.slice a1 m0 c1) := cell_carry (by simp) (Carries.of 0 hb)
  have a_2 : w1.cell? ⟨w.heap.size, 2, none⟩ = some (.slice a2 l0 c2) := cell_carry (by simp) (Carries.of 0 hb)
  have b_0 : w1.cell? ⟨w.heap.size + 1, 0, none⟩ = some (.slice b0 n1 d0) := cell_carry (by simp) (Carries.of 0 hb)
  have b_1 : w1.cell? ⟨w.heap.size + 1, 1, none⟩ = some (.slice b1 m1 d1) := cell_carry (by simp) (Carries.of 0 hb)
  have b_2 : w1.cell? ⟨w.heap.size + 1, 2, none⟩ = some (.slice b2 l1 d2) := cell_carry (by simp) (Carries.of 0 hb)
  have z1 : w.heap.size + 1 < w1.heap.size := by have := hb.size; simp at this; omega
  clear hb
  rcases hr with rfl | ⟨hr0, hr1, hsm⟩
  · go_wp2_with fail
    go_ret
    exact ⟨rfl, hw1⟩
  have HS := Lib.hid hsm; clear hsm
  go_wp2_with fail
  refine (szSg_any _ s1 _ _ lo (HU.out.keep (Carries.of lo hw1)) hr0 (by omega) HO1.out).mono ?_
  rintro e w2 ⟨r2, rfl, hr2, hb⟩
  have hw2 : Below w.heap.size w w2 := hw1.trans (hb.mono hw1.size)
  have z2 : w.heap.size + 1 < w2.heap.size := by have := hb.size; omega
  have a_0 := cell_carry a_0 (Carries.of 0 hb)
  have a_1 := cell_carry a_1 (Carries.of 0 hb)
  have a_2 := cell_carry a_2 (Carries.of 0 hb)
  have b_0 := cell_carry b_0 (Carries.of 0 hb)
  have b_1 := cell_carry b_1 (Carries.of 0 hb)
  have b_2 := cell_carry b_2 (Carries.of 0 hb)
  clear hb hw1 z1
  rcases hr2 with rfl | ⟨hr3, hr4, hsm⟩
  · go_wp2_with fail
    go_ret
    exact ⟨rfl, hw2⟩
  have HS1 := Lib.hid hsm; clear hsm
  go_wp2_with fail
  have zz2 := hw2.size
  refine wp_region_held_drew (S := fun w' => w'.cell? ⟨w.heap.size, 0, none⟩ = some (.slice a0 n0 c0) ∧ w'.cell? ⟨w.heap.size, 1, none⟩ = some (.slice a1 m0 c1) ∧ w'.cell? ⟨w.heap.size, 2, none⟩ = some (.slice a2 l0 c2) ∧ w'.cell? ⟨w.heap.size + 1, 0, none⟩ = some (.slice b0 n1 d0) ∧ w'.cell? ⟨w.heap.size + 1, 1, none⟩ = some (.slice b1 m1 d1) ∧ w'.cell? ⟨w.heap.size + 1, 2, none⟩ = some (.slice b2 l1 d2)) (by kernel_rfl) ⟨a_0, a_1, a_2, b_0, b_1, b_2⟩ (fun hHeld => ?_)
  refine tk0 (v := ?_) (by kernel_rfl) (by kernel_rfl) (by kernel_rfl) (by first | exact fun _ _ _ h => h | exact fun _ _ _ h => absurd h.1 (by simp)) (Or.inl ⟨by rfl, ?_⟩) (by assumption) ?_
  rotate_left 1
  focus (intro wx hSw; (try dsimp only at hSw); go_simp; try (with_reducible rfl))
  try simp only [Act.put, List.setIfInBounds_toArray, List.set_cons_zero, List.set_cons_succ]
  refine tk2 (v := ?_) (by kernel_rfl) (by kernel_rfl) (by kernel_rfl) (by first | exact fun _ _ _ h => h | exact fun _ _ _ h => absurd h.1 (by simp)) (Or.inl ⟨by rfl, ?_⟩) (by assumption) ?_
  rotate_left 1
  focus (intro wx hSw; (try dsimp only at hSw); go_simp; try (with_reducible rfl))
  try simp only [Act.put, List.setIfInBounds_toArray, List.set_cons_zero, List.set_cons_succ]
  refine rd1 (by kernel_rfl) (fun K hK => ?_)
  go_simp
  refine (toSg_any _ s0 w2.drew lo (HV.out.keep (Carries.of lo hw2.drew)) HS.out).mono ?_
  rintro e w6 ⟨v6, rfl, hn6, hb6⟩
  have hw6 : Below w.heap.size w w6 := hw2.trans (Below.trans (b := w2.drew) (Below.refl _ _).drew (hb6.mono (by simp; omega)))
  have a_0 := cell_carry (w := w2.drew) a_0 (Carries.of 0 hb6)
  have a_1 := cell_carry (w := w2.drew) a_1 (Carries.of 0 hb6)
  have a_2 := cell_carry (w := w2.drew) a_2 (Carries.of 0 hb6)
  have b_0 := cell_carry (w := w2.drew) b_0 (Carries.of 0 hb6)
  have b_1 := cell_carry (w := w2.drew) b_1 (Carries.of 0 hb6)
  have b_2 := cell_carry (w := w2.drew) b_2 (Carries.of 0 hb6)
  have z6 : w.heap.size + 1 < w6.heap.size := by have := hb6.size; simp at this; omega
  refine hK.out _ _ ⟨a_0, a_1, a_2, b_0, b_1, b_2⟩ (fun hHeld => ?_)
  clear hK K
  try simp only [Act.put, List.setIfInBounds_toArray, List.set_cons_zero, List.set_cons_succ]
  refine rd3 (by kernel_rfl) (fun K hK => ?_)
  go_simp
  refine (toSg_any _ s1 w6 lo (HU.out.keep (Carries.of lo hw6)) HS1.out).mono ?_
  rintro e w7 ⟨v7, rfl, hn7, hb7⟩
  have hw7 : Below w.heap.size w w7 := hw6.trans (hb7.mono hw6.size)
  have a_0 := cell_carry a_0 (Carries.of 0 hb7)
  have a_1 := cell_carry a_1 (Carries.of 0 hb7)
  have a_2 := cell_carry a_2 (Carries.of 0 hb7)
  have b_0 := cell_carry b_0 (Carries.of 0 hb7)
  have b_1 := cell_carry b_1 (Carries.of 0 hb7)
  have b_2 := cell_carry b_2 (Carries.of 0 hb7)
  have z7 : w.heap.size + 1 < w7.heap.size := by have := hb7.size; omega
  refine hK.out _ _ ⟨a_0, a_1, a_2, b_0, b_1, b_2⟩ (fun hHeld => ?_)
  clear hK K
  try simp only [Act.put, List.setIfInBounds_toArray, List.set_cons_zero, List.set_cons_succ]
  refine rd4 (by kernel_rfl) (fun K hK => ?_)
  go_simp
  refine (specEqualStateGraph_any _ _ s0 s1 w7 _ _ (hn6.keep (Carries.of _ hb7)) hn7 HS.out HS1.out).mono ?_
  rintro e w8 ⟨rfl, hb8⟩
  have hw8 : Below w.heap.size w w8 := hw7.trans (hb8.mono hw7.size)
  have a_0 := cell_carry a_0 (Carries.of 0 hb8)
  have a_1 := cell_carry a_1 (Carries.of 0 hb8)
  have a_2 := cell_carry a_2 (Carries.of 0 hb8)
  have b_0 := cell_carry b_0 (Carries.of 0 hb8)
  have b_1 := cell_carry b_1 (Carries.of 0 hb8)
  have b_2 := cell_carry b_2 (Carries.of 0 hb8)
  have z8 : w.heap.size + 1 < w8.heap.size := by have := hb8.size; omega
  refine hK.out _ _ ⟨a_0, a_1, a_2, b_0, b_1, b_2⟩ (fun hHeld => ?_)
  clear hK K
  try simp only [Act.put, List.setIfInBounds_toArray, List.set_cons_zero, List.set_cons_succ]
  refine tk5 (v := ?_) (by kernel_rfl) (by kernel_rfl) (by kernel_rfl) (by first | exact fun _ _ _ h => h | exact fun _ _ _ h => absurd h.1 (by simp)) (Or.inl ⟨by rfl, ?_⟩) (by assumption) ?_
  rotate_left 1
  focus (intro wx hSw; (try dsimp only at hSw); go_simp; try (with_reducible rfl))
  try simp only [Act.put, List.setIfInBounds_toArray, List.set_cons_zero, List.set_cons_succ]
  refine wpAnyH_done (by kernel_rfl) ?_ _
  generalize hG0 : eqSgB s0 s1 = r0_
  have HG0 := Lib.hid hG0; clear hG0
  clear hb6 hb7 hb8 hw6 hw7 hn6 hn7 hw2 zz2 z2 z6 z7
  go_wp2_with fail
  refine (toSg_any _ s0 _ lo (HV.out.keep (Carries.of lo hw8)) HS.out).mono ?_
  rintro e w3 ⟨v3, rfl, hn3, hb⟩
  obtain ⟨x0, y0, x1, y1, x2, y2, rfl, hn_, hsg_, hl_⟩ := hn3.form
  clear hn_ hsg_ hl_
  rw [← HP0.out.1, ← HP0.out.2.1, ← HP0.out.2.2] at hn3 ⊢
  have hw3 : Below w.heap.size w w3 := hw8.trans (hb.mono hw8.size)
  have z3 : w.heap.size + 1 < w3.heap.size := by have := hb.size; omega
  have a_0 := cell_carry a_0 (Carries.of 0 hb)
  have a_1 := cell_carry a_1 (Carries.of 0 hb)
  have a_2 := cell_carry a_2 (Carries.of 0 hb)
  have b_0 := cell_carry b_0 (Carries.of 0 hb)
  have b_1 := cell_carry b_1 (Carries.of 0 hb)
  have b_2 := cell_carry b_2 (Carries.of 0 hb)
  have HX := Lib.hid hn3; clear hn3 hb hw8 z8
  have ka_0 := cell_carry a_0 (Carries.alloc (Carries.refl 0 w3) (.cells #[.slice x0 n0 y0, .slice x1 m0 y1, .slice x2 l0 y2] 32))
  have ka_1 := cell_carry a_1 (Carries.alloc (Carries.refl 0 w3) (.cells #[.slice x0 n0 y0, .slice x1 m0 y1, .slice x2 l0 y2] 32))
  have ka_2 := cell_carry a_2 (Carries.alloc (Carries.refl 0 w3) (.cells #[.slice x0 n0 y0, .slice x1 m0 y1, .slice x2 l0 y2] 32))
  have kb_0 := cell_carry b_0 (Carries.alloc (Carries.refl 0 w3) (.cells #[.slice x0 n0 y0, .slice x1 m0 y1, .slice x2 l0 y2] 32))
  have kb_1 := cell_carry b_1 (Carries.alloc (Carries.refl 0 w3) (.cells #[.slice x0 n0 y0, .slice x1 m0 y1, .slice x2 l0 y2] 32))
  have kb_2 := cell_carry b_2 (Carries.alloc (Carries.refl 0 w3) (.cells #[.slice x0 n0 y0, .slice x1 m0 y1, .slice x2 l0 y2] 32))
  go_wp2_with fail
  refine (toSg_any _ s1 _ lo (HU.out.keep (Carries.of lo ?_)) HS1.out).mono ?_
  · (repeat' (first | (with_reducible exact Below.refl _ _) | (with_reducible assumption) | (with_reducible refine Below.alloc ?_ ?_ _) | (with_reducible refine Below.drew ?_) | (with_reducible refine below_drewN ?_ _) | (with_reducible refine Below.setCell ?_ ?_ _) | go_size))
  rintro e w4 ⟨v4, rfl, hn4, hb⟩
  obtain ⟨z0, u0, z1, u1, z2, u2, rfl, hn_, hsg_, hl_⟩ := hn4.form
  clear hn_ hsg_ hl_
  rw [← HP1.out.1, ← HP1.out.2.1, ← HP1.out.2.2] at hn4 ⊢
  have hw4 : Below w.heap.size w w4 := by
    refine Below.trans ?_ (hb.mono ?_)
    · (repeat' (first | (with_reducible exact Below.refl _ _) | (with_reducible assumption) | (with_reducible refine Below.alloc ?_ ?_ _) | (with_reducible refine Below.drew ?_) | (with_reducible refine below_drewN ?_ _) | (with_reducible refine Below.setCell ?_ ?_ _) | go_size))
    · simp; omega
  have z4 : w3.heap.size < w4.heap.size := by have := hb.size; simp at this; omega
  have a_0 := cell_carry ka_0 (Carries.of 0 hb)
  have a_1 := cell_carry ka_1 (Carries.of 0 hb)
  have a_2 := cell_carry ka_2 (Carries.of 0 hb)
  have b_0 := cell_carry kb_0 (Carries.of 0 hb)
  have b_1 := cell_carry kb_1 (Carries.of 0 hb)
  have b_2 := cell_carry kb_2 (Carries.of 0 hb)
  have x_0 : w4.cell? ⟨w3.heap.size, 0, none⟩ = some (.slice x0 n0 y0) := cell_carry (by simp) (Carries.of 0 hb)
  have x_1 : w4.cell? ⟨w3.heap.size, 1, none⟩ = some (.slice x1 m0 y1) := cell_carry (by simp) (Carries.of 0 hb)
  have x_2 : w4.cell? ⟨w3.heap.size, 2, none⟩ = some (.slice x2 l0 y2) := cell_carry (by simp) (Carries.of 0 hb)
  have HX4 := Lib.hid (HX.out.keep (w' := w4) (Carries.trans (by (repeat' (first | (with_reducible exact Carries.refl _ _) | (with_reducible assumption) | (with_reducible refine Carries.alloc ?_ _) | (with_reducible refine Carries.drew ?_) | (with_reducible refine Carries.drewN ?_ _) | (with_reducible refine Carries.set ?_ ?_ _) | go_size))) (Carries.of _ hb)))
  have HY := Lib.hid hn4
  clear hb hw3 hn4 ka_0 ka_1 ka_2 kb_0 kb_1 kb_2
  have ka_0 := cell_carry a_0 (Carries.alloc (Carries.refl 0 w4) (.cells #[.slice z0 n1 u0, .slice z1 m1 u1, .slice z2 l1 u2] 32))
  have ka_1 := cell_carry a_1 (Carries.alloc (Carries.refl 0 w4) (.cells #[.slice z0 n1 u0, .slice z1 m1 u1, .slice z2 l1 u2] 32))
  have ka_2 := cell_carry a_2 (Carries.alloc (Carries.refl 0 w4) (.cells #[.slice z0 n1 u0, .slice z1 m1 u1, .slice z2 l1 u2] 32))
  have kb_0 := cell_carry b_0 (Carries.alloc (Carries.refl 0 w4) (.cells #[.slice z0 n1 u0, .slice z1 m1 u1, .slice z2 l1 u2] 32))
  have kb_1 := cell_carry b_1 (Carries.alloc (Carries.refl 0 w4) (.cells #[.slice z0 n1 u0, .slice z1 m1 u1, .slice z2 l1 u2] 32))
  have kb_2 := cell_carry b_2 (Carries.alloc (Carries.refl 0 w4) (.cells #[.slice z0 n1 u0, .slice z1 m1 u1, .slice z2 l1 u2] 32))
  have kx_0 := cell_carry x_0 (Carries.alloc (Carries.refl 0 w4) (.cells #[.slice z0 n1 u0, .slice z1 m1 u1, .slice z2 l1 u2] 32))
  have kx_1 := cell_carry x_1 (Carries.alloc (Carries.refl 0 w4) (.cells #[.slice z0 n1 u0, .slice z1 m1 u1, .slice z2 l1 u2] 32))
  have kx_2 := cell_carry x_2 (Carries.alloc (Carries.refl 0 w4) (.cells #[.slice z0 n1 u0, .slice z1 m1 u1, .slice z2 l1 u2] 32))
  go_wp2_with fail
  refine (EqualStateGraph_any _ _ s0 s1 _ _ _ (HX4.out.keep ?_) (HY.out.keep ?_) HS.out HS1.out).mono ?_
  · (repeat' (first | (with_reducible exact Carries.refl _ _) | (with_reducible assumption) | (with_reducible refine Carries.alloc ?_ _) | (with_reducible refine Carries.drew ?_) | (with_reducible refine Carries.drewN ?_ _) | (with_reducible refine Carries.set ?_ ?_ _) | go_size))
  · (repeat' (first | (with_reducible exact Carries.refl _ _) | (with_reducible assumption) | (with_reducible refine Carries.alloc ?_ _) | (with_reducible refine Carries.drew ?_) | (with_reducible refine Carries.drewN ?_ _) | (with_reducible refine Carries.set ?_ ?_ _) | go_size))
  rintro e w5 ⟨rfl, hb⟩
  rw [HG0.out]
  have hw5 : Below w.heap.size w w5 := by
    refine Below.trans ?_ (hb.mono ?_)
    · (repeat' (first | (with_reducible exact Below.refl _ _) | (with_reducible assumption) | (with_reducible refine Below.alloc ?_ ?_ _) | (with_reducible refine Below.drew ?_) | (with_reducible refine below_drewN ?_ _) | (with_reducible refine Below.setCell ?_ ?_ _) | go_size))
    · simp; omega
  have z5 : w4.heap.size < w5.heap.size := by have := hb.size; simp at this; omega
  have a_0 := cell_carry ka_0 (Carries.of 0 hb)
  have a_1 := cell_carry ka_1 (Carries.of 0 hb)
  have a_2 := cell_carry ka_2 (Carries.of 0 hb)
  have b_0 := cell_carry kb_0 (Carries.of 0 hb)
  have b_1 := cell_carry kb_1 (Carries.of 0 hb)
  have b_2 := cell_carry kb_2 (Carries.of 0 hb)
  have x_0 := cell_carry kx_0 (Carries.of 0 hb)
  have x_1 := cell_carry kx_1 (Carries.of 0 hb)
  have x_2 := cell_carry kx_2 (Carries.of 0 hb)
  have y_0 : w5.cell? ⟨w4.heap.size, 0, none⟩ = some (.slice z0 n1 u0) := cell_carry (by simp) (Carries.of 0 hb)
  have y_1 : w5.cell? ⟨w4.heap.size, 1, none⟩ = some (.slice z1 m1 u1) := cell_carry (by simp) (Carries.of 0 hb)
  have y_2 : w5.cell? ⟨w4.heap.size, 2, none⟩ = some (.slice z2 l1 u2) := cell_carry (by simp) (Carries.of 0 hb)
  have HX5 := Lib.hid (HX4.out.keep (w' := w5) (Carries.trans (by (repeat' (first | (with_reducible exact Carries.refl _ _) | (with_reducible assumption) | (with_reducible refine Carries.alloc ?_ _) | (with_reducible refine Carries.drew ?_) | (with_reducible refine Carries.drewN ?_ _) | (with_reducible refine Carries.set ?_ ?_ _) | go_size))) (Carries.of _ hb)))
  have HY5 := Lib.hid (HY.out.keep (w' := w5) (Carries.trans (by (repeat' (first | (with_reducible exact Carries.refl _ _) | (with_reducible assumption) | (with_reducible refine Carries.alloc ?_ _) | (with_reducible refine Carries.drew ?_) | (with_reducible refine Carries.drewN ?_ _) | (with_reducible refine Carries.set ?_ ?_ _) | go_size))) (Carries.of _ hb)))
  clear hb hw4 HX HX4 HY ka_0 ka_1 ka_2 kb_0 kb_1 kb_2 kx_0 kx_1 kx_2
  have hne0 : (r0_ != r0_) = false := by simp
  have zz5 := hw5.size
  go_wp2_with fail
  go_region_held3 (fun w' => w'.cell? ⟨w.heap.size, 0, none⟩ = some (.slice a0 n0 c0) ∧ w'.cell? ⟨w.heap.size, 1, none⟩ = some (.slice a1 m0 c1) ∧ w'.cell? ⟨w.heap.size, 2, none⟩ = some (.slice a2 l0 c2) ∧ w'.cell? ⟨w3.heap.size, 0, none⟩ = some (.slice x0 n0 y0) ∧ w'.cell? ⟨w3.heap.size, 1, none⟩ = some (.slice x1 m0 y1) ∧ w'.cell? ⟨w3.heap.size, 2, none⟩ = some (.slice x2 l0 y2))
    (first
      | exact ⟨a_0, a_1, a_2, x_0, x_1, x_2⟩
      | exact ⟨cell_carry (w := w5.drew) a_0 (Carries.of 0 hb6), cell_carry (w := w5.drew) a_1 (Carries.of 0 hb6), cell_carry (w := w5.drew) a_2 (Carries.of 0 hb6), cell_carry (w := w5.drew) x_0 (Carries.of 0 hb6), cell_carry (w := w5.drew) x_1 (Carries.of 0 hb6), cell_carry (w := w5.drew) x_2 (Carries.of 0 hb6)⟩
      | exact ⟨cell_carry (cell_carry (w := w5.drew) a_0 (Carries.of 0 hb6)) (Carries.of 0 hb7), cell_carry (cell_carry (w := w5.drew) a_1 (Carries.of 0 hb6)) (Carries.of 0 hb7), cell_carry (cell_carry (w := w5.drew) a_2 (Carries.of 0 hb6)) (Carries.of 0 hb7), cell_carry (cell_carry (w := w5.drew) x_0 (Carries.of 0 hb6)) (Carries.of 0 hb7), cell_carry (cell_carry (w := w5.drew) x_1 (Carries.of 0 hb6)) (Carries.of 0 hb7), cell_carry (cell_carry (w := w5.drew) x_2 (Carries.of 0 hb6)) (Carries.of 0 hb7)⟩)
    (first
      | (go_at_call 14; refine (toSg_any _ s0 w5.drew lo (HV.out.keep (Carries.of lo hw5.drew)) HS.out).mono ?_; rintro e w6 ⟨v6, rfl, hn6, hb6⟩)
      | (go_at_call 16; refine (eqSg_any _ _ s0 s0 _ _ _ (HX5.out.keep (Carries.of (w := w5.drew) _ hb6)) hn6 HS.out HS.out).mono ?_; rintro e w7 ⟨rfl, hb7⟩; rw [eqSgB_self]))
  have hw6 : Below w.heap.size w w6 := hw5.trans (Below.trans (b := w5.drew) (Below.refl _ _).drew (hb6.mono (by simp; omega)))
  have hw7 : Below w.heap.size w w7 := hw6.trans (hb7.mono hw6.size)
  have a_0 := cell_carry (cell_carry (w := w5.drew) a_0 (Carries.of 0 hb6)) (Carries.of 0 hb7)
  have a_1 := cell_carry (cell_carry (w := w5.drew) a_1 (Carries.of 0 hb6)) (Carries.of 0 hb7)
  have a_2 := cell_carry (cell_carry (w := w5.drew) a_2 (Carries.of 0 hb6)) (Carries.of 0 hb7)
  have b_0 := cell_carry (cell_carry (w := w5.drew) b_0 (Carries.of 0 hb6)) (Carries.of 0 hb7)
  have b_1 := cell_carry (cell_carry (w := w5.drew) b_1 (Carries.of 0 hb6)) (Carries.of 0 hb7)
  have b_2 := cell_carry (cell_carry (w := w5.drew) b_2 (Carries.of 0 hb6)) (Carries.of 0 hb7)
  have x_0 := cell_carry (cell_carry (w := w5.drew) x_0 (Carries.of 0 hb6)) (Carries.of 0 hb7)
  have x_1 := cell_carry (cell_carry (w := w5.drew) x_1 (Carries.of 0 hb6)) (Carries.of 0 hb7)
  have x_2 := cell_carry (cell_carry (w := w5.drew) x_2 (Carries.of 0 hb6)) (Carries.of 0 hb7)
  have y_0 := cell_carry (cell_carry (w := w5.drew) y_0 (Carries.of 0 hb6)) (Carries.of 0 hb7)
  have y_1 := cell_carry (cell_carry (w := w5.drew) y_1 (Carries.of 0 hb6)) (Carries.of 0 hb7)
  have y_2 := cell_carry (cell_carry (w := w5.drew) y_2 (Carries.of 0 hb6)) (Carries.of 0 hb7)
  have HY7 := Lib.hid ((HY5.out.keep (Carries.of (w := w5.drew) _ hb6)).keep (Carries.of _ hb7))
  have w7size := hw7.size
  clear hw6 hb6 hb7 hn6
  obtain ⟨w9, rfl⟩ : ∃ w9, w9 = w7 := ⟨_, rfl⟩
  go_wp2_with fail
  go_region_held3 (fun w' => w'.cell? ⟨w.heap.size + 1, 0, none⟩ = some (.slice b0 n1 d0) ∧ w'.cell? ⟨w.heap.size + 1, 1, none⟩ = some (.slice b1 m1 d1) ∧ w'.cell? ⟨w.heap.size + 1, 2, none⟩ = some (.slice b2 l1 d2) ∧ w'.cell? ⟨w4.heap.size, 0, none⟩ = some (.slice z0 n1 u0) ∧ w'.cell? ⟨w4.heap.size, 1, none⟩ = some (.slice z1 m1 u1) ∧ w'.cell? ⟨w4.heap.size, 2, none⟩ = some (.slice z2 l1 u2))
    (first
      | exact ⟨b_0, b_1, b_2, y_0, y_1, y_2⟩
      | exact ⟨cell_carry (w := w9.drew) b_0 (Carries.of 0 hb6), cell_carry (w := w9.drew) b_1 (Carries.of 0 hb6), cell_carry (w := w9.drew) b_2 (Carries.of 0 hb6), cell_carry (w := w9.drew) y_0 (Carries.of 0 hb6), cell_carry (w := w9.drew) y_1 (Carries.of 0 hb6), cell_carry (w := w9.drew) y_2 (Carries.of 0 hb6)⟩
      | exact ⟨cell_carry (cell_carry (w := w9.drew) b_0 (Carries.of 0 hb6)) (Carries.of 0 hb7), cell_carry (cell_carry (w := w9.drew) b_1 (Carries.of 0 hb6)) (Carries.of 0 hb7), cell_carry (cell_carry (w := w9.drew) b_2 (Carries.of 0 hb6)) (Carries.of 0 hb7), cell_carry (cell_carry (w := w9.drew) y_0 (Carries.of 0 hb6)) (Carries.of 0 hb7), cell_carry (cell_carry (w := w9.drew) y_1 (Carries.of 0 hb6)) (Carries.of 0 hb7), cell_carry (cell_carry (w := w9.drew) y_2 (Carries.of 0 hb6)) (Carries.of 0 hb7)⟩)
    (first
      | (go_at_call 14; refine (toSg_any _ s1 w9.drew lo (HU.out.keep (Carries.of lo hw7.drew)) HS1.out).mono ?_; rintro e wq ⟨v6, rfl, hn6, hb6⟩)
      | (go_at_call 16; refine (eqSg_any _ _ s1 s1 _ _ _ (HY7.out.keep (Carries.of (w := w9.drew) _ hb6)) hn6 HS1.out HS1.out).mono ?_; rintro e wr ⟨rfl, hb7⟩; rw [eqSgB_self]))
  have hwq : Below w.heap.size w wq := hw7.trans (Below.trans (b := w9.drew) (Below.refl _ _).drew (hb6.mono (by simp; omega)))
  have hwr : Below w.heap.size w wr := hwq.trans (hb7.mono hwq.size)
  go_wp2_with fail
  go_ret
  exact ⟨rfl, hwr⟩

end Go.Proofs.Ytfipnlehaklepaa
