/- WALK of the law FnExactFormatTrace. -/
import Derived.Test.YtnmoocgocnjdjaaVFts
import Derived.Deep.RegionHeld3
namespace Go.Proofs.Ytnmoocgocnjdjaa
open Go.RowKit

set_option maxRecDepth 100000 in
set_option maxHeartbeats 2000000 in
theorem lawFormatTrace_any (v : Value) (vl : Value) (s : SgD) (L : List Ar) (w : World) (lo lo' : Nat) (hv : SgAt lo w v s) (hok : OkSg s) (hvl : ArcsAt lo' w vl L) (hlk : L.length ≤ 9223372036854775807) :
    Calls Try.prog 7 #[v, vl] w (RetB w true) := by
  obtain ⟨a0, c0, a1, c1, a2, c2, rfl, h_0, h_1, h_2⟩ := hv.form
  clear h_0 h_1 h_2
  have HV := Lib.hid hv; clear hv
  obtain ⟨al, cl, rfl⟩ := hvl.form
  have HL := Lib.hid hvl; clear hvl
  obtain ⟨nl, hnl⟩ : ∃ x, x = L.length := ⟨_, rfl⟩
  rw [← hnl] at HL hlk ⊢
  have HDnl := Lib.hid hnl; clear hnl
  have HO := Lib.hid hok; clear hok
  obtain ⟨ng, hng⟩ : ∃ x, x = s.sigs.length := ⟨_, rfl⟩
  obtain ⟨nc, hnc⟩ : ∃ x, x = s.codes.length := ⟨_, rfl⟩
  obtain ⟨na, hna⟩ : ∃ x, x = s.arcs.length := ⟨_, rfl⟩
  rw [← hng, ← hnc, ← hna] at HV ⊢
  have HDng := Lib.hid hng; clear hng
  have HDnc := Lib.hid hnc; clear hnc
  have HDna := Lib.hid hna; clear hna
  go_enter Try.func7, Try.ntmps7
  go_wp2_with fail
  refine (szSg_any _ s _ _ lo (HV.out.keep ?_) (by omega) (by omega) HO.out).mono ?_
  · (repeat' (first | (with_reducible exact Carries.refl _ _) | (with_reducible assumption) | (with_reducible refine Carries.alloc ?_ _) | (with_reducible refine Carries.drew ?_) | (with_reducible refine Carries.drewN ?_ _) | (with_reducible refine Carries.set ?_ ?_ _) | go_size))
  rintro e w1 ⟨r, rfl, hr, hb1⟩
  have hw1 : Below w.heap.size w w1 := by
    refine Below.trans ?_ (hb1.mono ?_)
    · (repeat' (first | (with_reducible exact Below.refl _ _) | (with_reducible assumption) | (with_reducible refine Below.alloc ?_ ?_ _) | (with_reducible refine Below.drew ?_) | (with_reducible refine below_drewN ?_ _) | (with_reducible refine Below.setCell ?_ ?_ _) | go_size))
    · simp
  have a_0 : w1.cell? ⟨w.heap.size, 0, none⟩ = some (.slice a0 ng c0) := cell_carry (by simp) (Carries.of 0 hb1)
  have a_1 : w1.cell? ⟨w.heap.size, 1, none⟩ = some (.slice a1 nc c1) := cell_carry (by simp) (Carries.of 0 hb1)
  have a_2 : w1.cell? ⟨w.heap.size, 2, none⟩ = some (.slice a2 na c2) := cell_carry (by simp) (Carries.of 0 hb1)
  have z1 : w.heap.size < w1.heap.size := by have := hb1.size; simp at this; omega
  clear hb1
  rcases hr with rfl | ⟨hr0, _, hsm⟩
  · go_wp2_with fail
    go_ret
    exact ⟨rfl, hw1⟩
  have HS := Lib.hid hsm; clear hsm
  go_wp2_with fail
  refine (szArcS_any _ _ _ _ _ hr0 (by omega) hlk).mono ?_
  rintro e w1b ⟨rfl, hb1⟩
  have a_0 := cell_carry a_0 (Carries.of 0 hb1)
  have a_1 := cell_carry a_1 (Carries.of 0 hb1)
  have a_2 := cell_carry a_2 (Carries.of 0 hb1)
  have hw1 := hw1.trans (hb1.mono hw1.size)
  have z1 : w.heap.size < w1b.heap.size := by have := hb1.size; omega
  clear hb1
  by_cases hq : r < nl
  · have e : szI r nl = -1 := by unfold szI; rw [if_pos hq]
    rw [e]; clear e
    go_wp2_with fail
    go_ret
    exact ⟨rfl, hw1⟩
  have e : szI r nl = r - nl := by unfold szI; rw [if_neg hq]
  rw [e]; clear e
  have hnl2 : nl ≤ 1048576 := by omega
  have hq2 : decide (r - (nl : Int) < 0) = false := by rw [decide_eq_false_iff_not]; omega
  have hnlL : L.length ≤ 1048576 := by rw [← HDnl.out]; exact hnl2
  have HLL := Lib.hid hnlL; clear hnlL
  go_wp2_with fail
  refine (toSg_any _ s _ lo (HV.out.keep (Carries.of lo hw1)) HS.out).mono ?_
  rintro e w2 ⟨v2, rfl, hn2, hb2⟩
  have hw2 : Below w.heap.size w w2 := hw1.trans (hb2.mono (by omega))
  have b_0 := cell_carry a_0 (Carries.of 0 hb2)
  have b_1 := cell_carry a_1 (Carries.of 0 hb2)
  have b_2 := cell_carry a_2 (Carries.of 0 hb2)
  have z2 : w.heap.size < w2.heap.size := by have := hb2.size; omega
  clear a_0 a_1 a_2 hb2
  have H2 := Lib.hid hn2; clear hn2
  go_wp2_with fail
  refine (toArcS_any _ L _ lo' (HL.out.keep (Carries.of lo' hw2)) HLL.out).mono ?_
  rintro e w2b ⟨vA, rfl, hA, hb2⟩
  have b_0 := cell_carry b_0 (Carries.of 0 hb2)
  have b_1 := cell_carry b_1 (Carries.of 0 hb2)
  have b_2 := cell_carry b_2 (Carries.of 0 hb2)
  have H2 := Lib.hid (H2.out.keep (Carries.of _ hb2))
  have hw2 := hw2.trans (hb2.mono hw2.size)
  have z2 : w.heap.size < w2b.heap.size := by have := hb2.size; omega
  have HA := Lib.hid hA; clear hA hb2
  go_wp2_with fail
  refine (specFormatTrace_any _ _ s L _ _ _ H2.out HA.out HS.out HLL.out).mono ?_
  rintro e w3 ⟨rfl, hb3⟩
  generalize hG0 : (ftS s L) = r0_
  have HG0 := Lib.hid hG0; clear hG0
  generalize hG1 : (ftB s L) = r1_
  have HG1 := Lib.hid hG1; clear hG1
  have hw3 : Below w.heap.size w w3 := hw2.trans (hb3.mono (by omega))
  have c_0 := cell_carry b_0 (Carries.of 0 hb3)
  have c_1 := cell_carry b_1 (Carries.of 0 hb3)
  have c_2 := cell_carry b_2 (Carries.of 0 hb3)
  have z3 : w.heap.size < w3.heap.size := by have := hb3.size; omega
  clear b_0 b_1 b_2 hb3
  go_wp2_with fail
  refine (toSg_any _ s _ lo (HV.out.keep (Carries.of lo hw3)) HS.out).mono ?_
  rintro e w4 ⟨v4, rfl, hn4, hb4⟩
  obtain ⟨b0, d0, b1, d1, b2, d2, rfl, h_0, h_1, h_2⟩ := hn4.form
  clear h_0 h_1 h_2
  rw [← HDng.out, ← HDnc.out, ← HDna.out] at hn4 ⊢
  have hw4 : Below w.heap.size w w4 := hw3.trans (hb4.mono (by omega))
  have d_0 := cell_carry c_0 (Carries.of 0 hb4)
  have d_1 := cell_carry c_1 (Carries.of 0 hb4)
  have d_2 := cell_carry c_2 (Carries.of 0 hb4)
  have z4 : w.heap.size < w4.heap.size := by have := hb4.size; omega
  clear c_0 c_1 c_2 hb4
  have H4 := Lib.hid hn4; clear hn4
  obtain ⟨W4, hW4⟩ : ∃ x, x = w4.alloc (.cells #[.slice b0 ng d0, .slice b1 nc d1, .slice b2 na d2] 64) := ⟨_, rfl⟩
  have HA4 : Below w4.heap.size w4 W4 := by rw [hW4]; exact (Below.refl _ _).alloc (Nat.le_refl _) _
  have g_0 : W4.cell? ⟨w4.heap.size, 0, none⟩ = some (.slice b0 ng d0) := by rw [hW4]; simp
  have g_1 : W4.cell? ⟨w4.heap.size, 1, none⟩ = some (.slice b1 nc d1) := by rw [hW4]; simp
  have g_2 : W4.cell? ⟨w4.heap.size, 2, none⟩ = some (.slice b2 na d2) := by rw [hW4]; simp
  have zW4 : w4.heap.size < W4.heap.size := by rw [hW4]; simp
  have hw4b := hw4.trans (HA4.mono hw4.size)
  have d_0 := cell_carry d_0 (Carries.of 0 HA4)
  have d_1 := cell_carry d_1 (Carries.of 0 HA4)
  have d_2 := cell_carry d_2 (Carries.of 0 HA4)
  have H4b := Lib.hid (H4.out.keep (Carries.of _ HA4))
  clear HA4
  go_wp2_with (go_at_call 29; rw [← hW4]; clear hW4; refine (toArcS_any _ L _ lo' (HL.out.keep (Carries.of lo' hw4b)) HLL.out).mono ?_)
  rintro e w4b ⟨vX, rfl, hX, hb4⟩
  obtain ⟨ax, cx, rfl⟩ := hX.form
  rw [← HDnl.out] at hX ⊢
  have d_0 := cell_carry d_0 (Carries.of 0 hb4)
  have d_1 := cell_carry d_1 (Carries.of 0 hb4)
  have d_2 := cell_carry d_2 (Carries.of 0 hb4)
  have g_0 := cell_carry g_0 (Carries.of 0 hb4)
  have g_1 := cell_carry g_1 (Carries.of 0 hb4)
  have g_2 := cell_carry g_2 (Carries.of 0 hb4)
  have H4c := Lib.hid (H4b.out.keep (Carries.of _ hb4))
  have HX := Lib.hid hX
  have hw4c := hw4b.trans (hb4.mono hw4b.size)
  have z4c : w4.heap.size < w4b.heap.size := by have := hb4.size; omega
  clear hb4 hX
  go_wp2_with fail
  refine (FormatTrace_any _ _ s L _ _ _ H4c.out HX.out HS.out (by rw [← HDnl.out]; exact hnl2)).mono ?_
  rintro e w5 ⟨rfl, hb5⟩
  rw [HG0.out]
  rw [HG1.out]
  have hw5 : Below w.heap.size w w5 := hw4c.trans (hb5.mono hw4c.size)
  have e_0 := cell_carry d_0 (Carries.of 0 hb5)
  have e_1 := cell_carry d_1 (Carries.of 0 hb5)
  have e_2 := cell_carry d_2 (Carries.of 0 hb5)
  have g_0 := cell_carry g_0 (Carries.of 0 hb5)
  have g_1 := cell_carry g_1 (Carries.of 0 hb5)
  have g_2 := cell_carry g_2 (Carries.of 0 hb5)
  have H5 := Lib.hid (H4c.out.keep (Carries.of _ hb5))
  have HX5 := Lib.hid (HX.out.keep (Carries.of _ hb5))
  have z5 : w.heap.size < w5.heap.size := by have := hb5.size; omega
  have z6 : w4.heap.size < w5.heap.size := by have := hb5.size; omega
  clear d_0 d_1 d_2 hb5
  have hne0 : (r0_.toList == r0_.toList) = true := by simp
  have hne0' : (r0_.toList != r0_.toList) = false := by simp
  have hne1 : (r1_ != r1_) = false := by simp
  go_wp2_with fail
  go_region_held3 (fun w' => w'.cell? ⟨w.heap.size, 0, none⟩ = some (.slice a0 ng c0) ∧ w'.cell? ⟨w.heap.size, 1, none⟩ = some (.slice a1 nc c1) ∧ w'.cell? ⟨w.heap.size, 2, none⟩ = some (.slice a2 na c2) ∧ w'.cell? ⟨w4.heap.size, 0, none⟩ = some (.slice b0 ng d0) ∧ w'.cell? ⟨w4.heap.size, 1, none⟩ = some (.slice b1 nc d1) ∧ w'.cell? ⟨w4.heap.size, 2, none⟩ = some (.slice b2 na d2))
    (first
      | exact ⟨e_0, e_1, e_2, g_0, g_1, g_2⟩
      | exact ⟨cell_carry (w := w5.drew) e_0 (Carries.of 0 hb6), cell_carry (w := w5.drew) e_1 (Carries.of 0 hb6), cell_carry (w := w5.drew) e_2 (Carries.of 0 hb6), cell_carry (w := w5.drew) g_0 (Carries.of 0 hb6), cell_carry (w := w5.drew) g_1 (Carries.of 0 hb6), cell_carry (w := w5.drew) g_2 (Carries.of 0 hb6)⟩
      | exact ⟨cell_carry (cell_carry (w := w5.drew) e_0 (Carries.of 0 hb6)) (Carries.of 0 hb7), cell_carry (cell_carry (w := w5.drew) e_1 (Carries.of 0 hb6)) (Carries.of 0 hb7), cell_carry (cell_carry (w := w5.drew) e_2 (Carries.of 0 hb6)) (Carries.of 0 hb7), cell_carry (cell_carry (w := w5.drew) g_0 (Carries.of 0 hb6)) (Carries.of 0 hb7), cell_carry (cell_carry (w := w5.drew) g_1 (Carries.of 0 hb6)) (Carries.of 0 hb7), cell_carry (cell_carry (w := w5.drew) g_2 (Carries.of 0 hb6)) (Carries.of 0 hb7)⟩)
    (first
      | (go_at_call 28; refine (toSg_any _ s w5.drew lo (HV.out.keep (Carries.of lo hw5.drew)) HS.out).mono ?_; rintro e w6 ⟨v6, rfl, hn6, hb6⟩)
      | (go_at_call 31; refine (eqSg_any _ _ s s _ _ _ (H5.out.keep (Carries.of (w := w5.drew) _ hb6)) hn6 HS.out HS.out).mono ?_; rintro e w7 ⟨rfl, hb7⟩; rw [eqSgB_self]))
  have hw6 : Below w.heap.size w w6 := hw5.trans (Below.trans (b := w5.drew) (Below.refl _ _).drew (hb6.mono (by simp; omega)))
  have hw7 : Below w.heap.size w w7 := hw6.trans (hb7.mono hw6.size)
  have b57 : Below w5.heap.size w5 w7 := Below.trans (b := w5.drew) (Below.refl _ _).drew (Below.trans hb6 (hb7.mono hb6.size))
  have HX7 := Lib.hid (HX5.out.keep (Carries.of _ b57))
  clear b57 hb6 hb7
  go_wp2_with fail
  refine (toArcS_any _ L _ lo' (HL.out.keep (Carries.of lo' hw7)) HLL.out).mono ?_
  rintro e w8 ⟨vY, rfl, hY, hb⟩
  have hw8 := hw7.trans (hb.mono hw7.size)
  have HX8 := Lib.hid (HX7.out.keep (Carries.of _ hb))
  have HY := Lib.hid hY
  clear hb hY
  go_wp2_with fail
  refine (eqArcS_any _ _ L L _ _ _ HX8.out HY.out HLL.out HLL.out).mono ?_
  rintro e w9 ⟨rfl, hb⟩
  have hw9 := hw8.trans (hb.mono hw8.size)
  have hd : decide (L = L) = true := decide_eq_true rfl
  rw [hd]; clear hd hb
  go_wp2_with fail
  go_ret
  exact ⟨rfl, hw9⟩

end Go.Proofs.Ytnmoocgocnjdjaa
