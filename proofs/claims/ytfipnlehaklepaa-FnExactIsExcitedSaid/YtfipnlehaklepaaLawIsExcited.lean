/-
  WALK of the law FnExactIsExcited.
-/
import Derived.Test.YtfipnlehaklepaaSgx
import Derived.Test.YtfipnlehaklepaaSgw
import Derived.Deep.RegionHeld3
namespace Go.Proofs.Ytfipnlehaklepaa
open Go.RowKit

set_option maxRecDepth 100000 in
set_option maxHeartbeats 2000000 in
theorem lawIsExcited_any (v : Value) (s : SgD) (k : Int) (sg : Int) (w : World) (lo : Nat) (hv : SgAt lo w v s) (hok : OkSg s) (hk_a : -9223372036854775808 ≤ k) (hk_b : k ≤ 9223372036854775807) (hsg_a : -9223372036854775808 ≤ sg) (hsg_b : sg ≤ 9223372036854775807) :
    Calls Try.prog 5 #[v, .int .i64 k, .int .i64 sg] w (RetB w true) := by
  obtain ⟨a0, c0, a1, c1, a2, c2, rfl, h_0, h_1, h_2⟩ := hv.form
  clear h_0 h_1 h_2
  have HV := Lib.hid hv; clear hv
  have HO := Lib.hid hok; clear hok
  obtain ⟨ng, hng⟩ : ∃ x, x = s.sigs.length := ⟨_, rfl⟩
  obtain ⟨nc, hnc⟩ : ∃ x, x = s.codes.length := ⟨_, rfl⟩
  obtain ⟨na, hna⟩ : ∃ x, x = s.arcs.length := ⟨_, rfl⟩
  rw [← hng, ← hnc, ← hna] at HV ⊢
  have HDng := Lib.hid hng; clear hng
  have HDnc := Lib.hid hnc; clear hnc
  have HDna := Lib.hid hna; clear hna
  go_enter Try.func5, Try.ntmps5
  go_wp2_with fail
  refine (szSg_any _ s _ _ lo (HV.out.keep ?_) (by omega) (by omega) HO.out).mono ?_
  · (repeat' (first | (with_reducible exact Carries.refl _ _) | (with_reducible assumption) | (with_reducible refine Carries.alloc ?_ _) | (with_reducible refine Carries.drew ?_) | (with_reducible refine Carries.drewN ?_ _) | (with_reducible refine Carries.set ?_ ?_ _) | go_size))
  rintro e w1 ⟨r, rfl, hr, hb1⟩
  have hw1 : Below w.heap.size w w1 := by
    refine Below.trans ?_ (hb1.mono ?_)
    · (repeat' (first | (with_reducible exact Below.refl _ _) | (with_reducible assumption) | (with_reducible refine Below.alloc ?_ ?_ _) | (with_reducible refine Below.drew ?_) | (with_reducible refine below_drewN ?_ _) | (with_reducible refine Below.setCell ?_ ?_ _) | go_size))
    · simp
  have a_0 : w1.cell? ⟨w.heap.size, 0, none⟩ = some (.slice a0 ng c0) := cell_carry (by simp) (Carries.of 0 hb1)
  have a_1 : w1.cell? ⟨w.heap.size, 1, none⟩ = some (.slice a1 nc c1) := cell_carry (by simp) (Carries.of 0 hb1)
  have a_2 : w1.cell? ⟨w.heap.size, 2, none⟩ = some (.slice a2 na c2) := cell_carry (by simp) (Carries.of 0 hb1)
  have z1 : w.heap.size < w1.heap.size := by have := hb1.size; simp at this; omega
  clear hb1
  rcases hr with rfl | ⟨hr0, _, hsm⟩
  · go_wp2_with fail
    go_ret
    exact ⟨rfl, hw1⟩
  have HS := Lib.hid hsm; clear hsm
  go_wp2_with fail
  refine (toSg_any _ s _ lo (HV.out.keep (Carries.of lo hw1)) HS.out).mono ?_
  rintro e w2 ⟨v2, rfl, hn2, hb2⟩
  have hw2 : Below w.heap.size w w2 := hw1.trans (hb2.mono (by omega))
  have b_0 := cell_carry a_0 (Carries.of 0 hb2)
  have b_1 := cell_carry a_1 (Carries.of 0 hb2)
  have b_2 := cell_carry a_2 (Carries.of 0 hb2)
  have z2 : w.heap.size < w2.heap.size := by have := hb2.size; omega
  clear a_0 a_1 a_2 hb2
  have H2 := Lib.hid hn2; clear hn2
  go_wp2_with fail
  refine (IsExcitedSpec_any _ s k sg _ _ H2.out HS.out).mono ?_
  rintro e w3 ⟨rfl, hb3⟩
  generalize hG0 : (exA s k sg) = r0_
  have HG0 := Lib.hid hG0; clear hG0
  generalize hG1 : (exOk s k sg) = r1_
  have HG1 := Lib.hid hG1; clear hG1
  have hw3 : Below w.heap.size w w3 := hw2.trans (hb3.mono (by omega))
  have c_0 := cell_carry b_0 (Carries.of 0 hb3)
  have c_1 := cell_carry b_1 (Carries.of 0 hb3)
  have c_2 := cell_carry b_2 (Carries.of 0 hb3)
  have z3 : w.heap.size < w3.heap.size := by have := hb3.size; omega
  clear b_0 b_1 b_2 hb3
  go_wp2_with fail
  refine (toSg_any _ s _ lo (HV.out.keep (Carries.of lo hw3)) HS.out).mono ?_
  rintro e w4 ⟨v4, rfl, hn4, hb4⟩
  obtain ⟨b0, d0, b1, d1, b2, d2, rfl, h_0, h_1, h_2⟩ := hn4.form
  clear h_0 h_1 h_2
  rw [← HDng.out, ← HDnc.out, ← HDna.out] at hn4 ⊢
  have hw4 : Below w.heap.size w w4 := hw3.trans (hb4.mono (by omega))
  have d_0 := cell_carry c_0 (Carries.of 0 hb4)
  have d_1 := cell_carry c_1 (Carries.of 0 hb4)
  have d_2 := cell_carry c_2 (Carries.of 0 hb4)
  have z4 : w.heap.size < w4.heap.size := by have := hb4.size; omega
  clear c_0 c_1 c_2 hb4
  have H4 := Lib.hid hn4; clear hn4
  go_wp2_with fail
  refine (IsExcited_any _ s k sg _ _ (H4.out.keep ?_) HS.out).mono ?_
  · (repeat' (first | (with_reducible exact Carries.refl _ _) | (with_reducible assumption) | (with_reducible refine Carries.alloc ?_ _) | (with_reducible refine Carries.drew ?_) | (with_reducible refine Carries.drewN ?_ _) | (with_reducible refine Carries.set ?_ ?_ _) | go_size))
  rintro e w5 ⟨rfl, hb5⟩
  rw [HG0.out]
  rw [HG1.out]
  have hw5 : Below w.heap.size w w5 := by
    refine Below.trans ?_ (hb5.mono ?_)
    · (repeat' (first | (with_reducible exact Below.refl _ _) | (with_reducible assumption) | (with_reducible refine Below.alloc ?_ ?_ _) | (with_reducible refine Below.drew ?_) | (with_reducible refine below_drewN ?_ _) | (with_reducible refine Below.setCell ?_ ?_ _) | go_size))
    · simp; omega
  have e_0 : w5.cell? ⟨w.heap.size, 0, none⟩ = some (.slice a0 ng c0) := cell_carry (cell_carry d_0 (by (repeat' (first | (with_reducible exact Carries.refl _ _) | (with_reducible assumption) | (with_reducible refine Carries.alloc ?_ _) | (with_reducible refine Carries.drew ?_) | (with_reducible refine Carries.drewN ?_ _) | (with_reducible refine Carries.set ?_ ?_ _) | go_size)))) (Carries.of 0 hb5)
  have e_1 : w5.cell? ⟨w.heap.size, 1, none⟩ = some (.slice a1 nc c1) := cell_carry (cell_carry d_1 (by (repeat' (first | (with_reducible exact Carries.refl _ _) | (with_reducible assumption) | (with_reducible refine Carries.alloc ?_ _) | (with_reducible refine Carries.drew ?_) | (with_reducible refine Carries.drewN ?_ _) | (with_reducible refine Carries.set ?_ ?_ _) | go_size)))) (Carries.of 0 hb5)
  have e_2 : w5.cell? ⟨w.heap.size, 2, none⟩ = some (.slice a2 na c2) := cell_carry (cell_carry d_2 (by (repeat' (first | (with_reducible exact Carries.refl _ _) | (with_reducible assumption) | (with_reducible refine Carries.alloc ?_ _) | (with_reducible refine Carries.drew ?_) | (with_reducible refine Carries.drewN ?_ _) | (with_reducible refine Carries.set ?_ ?_ _) | go_size)))) (Carries.of 0 hb5)
  have g_0 : w5.cell? ⟨w4.heap.size, 0, none⟩ = some (.slice b0 ng d0) := cell_carry (by simp) (Carries.of 0 hb5)
  have g_1 : w5.cell? ⟨w4.heap.size, 1, none⟩ = some (.slice b1 nc d1) := cell_carry (by simp) (Carries.of 0 hb5)
  have g_2 : w5.cell? ⟨w4.heap.size, 2, none⟩ = some (.slice b2 na d2) := cell_carry (by simp) (Carries.of 0 hb5)
  have H5 := Lib.hid (H4.out.keep (w' := w5) (Carries.trans (by (repeat' (first | (with_reducible exact Carries.refl _ _) | (with_reducible assumption) | (with_reducible refine Carries.alloc ?_ _) | (with_reducible refine Carries.drew ?_) | (with_reducible refine Carries.drewN ?_ _) | (with_reducible refine Carries.set ?_ ?_ _) | go_size))) (Carries.of _ hb5)))
  have z5 : w.heap.size < w5.heap.size := by have := hb5.size; simp at this; omega
  have z6 : w4.heap.size < w5.heap.size := by have := hb5.size; simp at this; omega
  clear d_0 d_1 d_2 hb5
  have hne0 : (r0_ != r0_) = false := by simp
  have hne1 : (r1_ != r1_) = false := by simp
  go_wp2_with fail
  go_region_held3 (fun w' => w'.cell? ⟨w.heap.size, 0, none⟩ = some (.slice a0 ng c0) ∧ w'.cell? ⟨w.heap.size, 1, none⟩ = some (.slice a1 nc c1) ∧ w'.cell? ⟨w.heap.size, 2, none⟩ = some (.slice a2 na c2) ∧ w'.cell? ⟨w4.heap.size, 0, none⟩ = some (.slice b0 ng d0) ∧ w'.cell? ⟨w4.heap.size, 1, none⟩ = some (.slice b1 nc d1) ∧ w'.cell? ⟨w4.heap.size, 2, none⟩ = some (.slice b2 na d2))
    (first
      | exact ⟨e_0, e_1, e_2, g_0, g_1, g_2⟩
      | exact ⟨cell_carry (w := w5.drew) e_0 (Carries.of 0 hb6), cell_carry (w := w5.drew) e_1 (Carries.of 0 hb6), cell_carry (w := w5.drew) e_2 (Carries.of 0 hb6), cell_carry (w := w5.drew) g_0 (Carries.of 0 hb6), cell_carry (w := w5.drew) g_1 (Carries.of 0 hb6), cell_carry (w := w5.drew) g_2 (Carries.of 0 hb6)⟩
      | exact ⟨cell_carry (cell_carry (w := w5.drew) e_0 (Carries.of 0 hb6)) (Carries.of 0 hb7), cell_carry (cell_carry (w := w5.drew) e_1 (Carries.of 0 hb6)) (Carries.of 0 hb7), cell_carry (cell_carry (w := w5.drew) e_2 (Carries.of 0 hb6)) (Carries.of 0 hb7), cell_carry (cell_carry (w := w5.drew) g_0 (Carries.of 0 hb6)) (Carries.of 0 hb7), cell_carry (cell_carry (w := w5.drew) g_1 (Carries.of 0 hb6)) (Carries.of 0 hb7), cell_carry (cell_carry (w := w5.drew) g_2 (Carries.of 0 hb6)) (Carries.of 0 hb7)⟩)
    (first
      | (go_at_call 14; refine (toSg_any _ s w5.drew lo (HV.out.keep (Carries.of lo hw5.drew)) HS.out).mono ?_; rintro e w6 ⟨v6, rfl, hn6, hb6⟩)
      | (go_at_call 16; refine (eqSg_any _ _ s s _ _ _ (H5.out.keep (Carries.of (w := w5.drew) _ hb6)) hn6 HS.out HS.out).mono ?_; rintro e w7 ⟨rfl, hb7⟩; rw [eqSgB_self]))
  have hw6 : Below w.heap.size w w6 := hw5.trans (Below.trans (b := w5.drew) (Below.refl _ _).drew (hb6.mono (by simp; omega)))
  have hw7 : Below w.heap.size w w7 := hw6.trans (hb7.mono hw6.size)
  go_wp2_with fail
  go_ret
  exact ⟨rfl, hw7⟩

end Go.Proofs.Ytfipnlehaklepaa
