/-
  WALK of the law FnExactTransitionByName.
-/
import Derived.Test.YtjelnlhalpoinaaDoorTbn
import Derived.Deep.RegionHeld3
namespace Go.Proofs.YtjelnlhalpoinaaDoor
open Go.RowKit

set_option maxRecDepth 100000 in
set_option maxHeartbeats 2000000 in
theorem lawTransitionByName_any (v : Value) (s : StgD) (text : ByteArray) (w : World) (lo : Nat) (hv : StgAt lo w v s) (hok : OkStg s) (htext : text.size ≤ 9223372036854775807) :
    Calls Tryd.prog 4 #[v, .string text] w (RetB w true) := by
  obtain ⟨a0, c0, a1, c1, a2, c2, rfl, hn_, hsg_, hl_⟩ := hv.form
  clear hn_ hsg_ hl_
  have HV := Lib.hid hv; clear hv
  have HO := Lib.hid hok; clear hok
  obtain ⟨p, hp⟩ : ∃ p, p = s.net.places := ⟨_, rfl⟩
  obtain ⟨m, hm⟩ : ∃ m, m = s.net.ts.length := ⟨_, rfl⟩
  obtain ⟨ns, hns⟩ : ∃ ns, ns = s.sigs.length := ⟨_, rfl⟩
  obtain ⟨nl, hnl⟩ : ∃ nl, nl = s.labs.length := ⟨_, rfl⟩
  obtain ⟨st, hst⟩ : ∃ st, st = s.start := ⟨_, rfl⟩
  rw [← hp, ← hm, ← hns, ← hnl, ← hst] at HV ⊢
  have HP := Lib.hid (And.intro hp (And.intro hm (And.intro hns (And.intro hnl hst)))); clear hp hm hns hnl hst
  by_cases hz_text : text.size ≤ 1048576
  case neg =>
    go_enter Tryd.func4, Tryd.ntmps4
    go_wp2_with fail
    go_ret
    exact ⟨rfl, by (repeat' (first | (with_reducible exact Below.refl _ _) | (with_reducible assumption) | (with_reducible refine Below.alloc ?_ ?_ _) | (with_reducible refine Below.drew ?_) | (with_reducible refine below_drewN ?_ _) | (with_reducible refine Below.setCell ?_ ?_ _) | go_size))⟩
  go_enter Tryd.func4, Tryd.ntmps4
  go_wp2_with fail
  refine (szSTG_any _ s _ _ lo (HV.out.keep ?_) (by omega) (by omega) HO.out).mono ?_
  · (repeat' (first | (with_reducible exact Carries.refl _ _) | (with_reducible assumption) | (with_reducible refine Carries.alloc ?_ _) | (with_reducible refine Carries.drew ?_) | (with_reducible refine Carries.drewN ?_ _) | (with_reducible refine Carries.set ?_ ?_ _) | go_size))
  rintro e w1 ⟨r, rfl, hr, hb1⟩
  have hw1 : Below w.heap.size w w1 := by
    refine Below.trans ?_ (hb1.mono ?_)
    · (repeat' (first | (with_reducible exact Below.refl _ _) | (with_reducible assumption) | (with_reducible refine Below.alloc ?_ ?_ _) | (with_reducible refine Below.drew ?_) | (with_reducible refine below_drewN ?_ _) | (with_reducible refine Below.setCell ?_ ?_ _) | go_size))
    · simp
  have a_0 : w1.cell? ⟨w.heap.size, 0, none⟩ = some (.int .i64 p) := cell_carry (by simp) (Carries.of 0 hb1)
  have a_1 : w1.cell? ⟨w.heap.size, 1, none⟩ = some (.slice a0 m c0) := cell_carry (by simp) (Carries.of 0 hb1)
  have a_2 : w1.cell? ⟨w.heap.size, 2, none⟩ = some (.slice a1 ns c1) := cell_carry (by simp) (Carries.of 0 hb1)
  have a_3 : w1.cell? ⟨w.heap.size, 3, none⟩ = some (.slice a2 nl c2) := cell_carry (by simp) (Carries.of 0 hb1)
  have a_4 : w1.cell? ⟨w.heap.size, 4, none⟩ = some (.string st) := cell_carry (by simp) (Carries.of 0 hb1)
  have z1 : w.heap.size < w1.heap.size := by have := hb1.size; simp at this; omega
  clear hb1
  rcases hr with rfl | ⟨hr0, _, hsm⟩
  · go_wp2_with fail
    go_ret
    exact ⟨rfl, hw1⟩
  have HS := Lib.hid hsm; clear hsm
  go_wp2_with fail
  refine (toSTG_any _ s _ lo (HV.out.keep (Carries.of lo hw1)) HS.out).mono ?_
  rintro e w2 ⟨v2, rfl, hn2, hb2⟩
  have hw2 : Below w.heap.size w w2 := hw1.trans (hb2.mono (by omega))
  have b_0 := cell_carry a_0 (Carries.of 0 hb2)
  have b_1 := cell_carry a_1 (Carries.of 0 hb2)
  have b_2 := cell_carry a_2 (Carries.of 0 hb2)
  have b_3 := cell_carry a_3 (Carries.of 0 hb2)
  have b_4 := cell_carry a_4 (Carries.of 0 hb2)
  have z2 : w.heap.size < w2.heap.size := by have := hb2.size; omega
  clear a_0 a_1 a_2 a_3 a_4 hb2
  have H2 := Lib.hid hn2; clear hn2
  go_wp2_with fail
  refine (specTransitionByName_any _ s text _ _ H2.out HS.out).mono ?_
  rintro e w3 ⟨rfl, hb3⟩
  generalize hG0 : (idxI (byO s text)) = r0_
  have HG0 := Lib.hid hG0; clear hG0
  generalize hG1 : (idxB (byO s text)) = r1_
  have HG1 := Lib.hid hG1; clear hG1
  have hw3 : Below w.heap.size w w3 := hw2.trans (hb3.mono (by omega))
  have c_0 := cell_carry b_0 (Carries.of 0 hb3)
  have c_1 := cell_carry b_1 (Carries.of 0 hb3)
  have c_2 := cell_carry b_2 (Carries.of 0 hb3)
  have c_3 := cell_carry b_3 (Carries.of 0 hb3)
  have c_4 := cell_carry b_4 (Carries.of 0 hb3)
  have z3 : w.heap.size < w3.heap.size := by have := hb3.size; omega
  clear b_0 b_1 b_2 b_3 b_4 hb3
  go_wp2_with fail
  refine (toSTG_any _ s _ lo (HV.out.keep (Carries.of lo hw3)) HS.out).mono ?_
  rintro e w4 ⟨v4, rfl, hn4, hb4⟩
  obtain ⟨b0, d0, b1, d1, b2, d2, rfl, hn_, hsg_, hl_⟩ := hn4.form
  clear hn_ hsg_ hl_
  rw [← HP.out.1, ← HP.out.2.1, ← HP.out.2.2.1, ← HP.out.2.2.2.1, ← HP.out.2.2.2.2] at hn4 ⊢
  have hw4 : Below w.heap.size w w4 := hw3.trans (hb4.mono (by omega))
  have d_0 := cell_carry c_0 (Carries.of 0 hb4)
  have d_1 := cell_carry c_1 (Carries.of 0 hb4)
  have d_2 := cell_carry c_2 (Carries.of 0 hb4)
  have d_3 := cell_carry c_3 (Carries.of 0 hb4)
  have d_4 := cell_carry c_4 (Carries.of 0 hb4)
  have z4 : w.heap.size < w4.heap.size := by have := hb4.size; omega
  clear c_0 c_1 c_2 c_3 c_4 hb4
  have H4 := Lib.hid hn4; clear hn4
  go_wp2_with fail
  refine (TransitionByName_any _ s text _ _ (H4.out.keep ?_) HS.out).mono ?_
  · (repeat' (first | (with_reducible exact Carries.refl _ _) | (with_reducible assumption) | (with_reducible refine Carries.alloc ?_ _) | (with_reducible refine Carries.drew ?_) | (with_reducible refine Carries.drewN ?_ _) | (with_reducible refine Carries.set ?_ ?_ _) | go_size))
  rintro e w5 ⟨rfl, hb5⟩
  rw [HG0.out]
  rw [HG1.out]
  have hw5 : Below w.heap.size w w5 := by
    refine Below.trans ?_ (hb5.mono ?_)
    · (repeat' (first | (with_reducible exact Below.refl _ _) | (with_reducible assumption) | (with_reducible refine Below.alloc ?_ ?_ _) | (with_reducible refine Below.drew ?_) | (with_reducible refine below_drewN ?_ _) | (with_reducible refine Below.setCell ?_ ?_ _) | go_size))
    · simp; omega
  have e_0 : w5.cell? ⟨w.heap.size, 0, none⟩ = some (.int .i64 p) := cell_carry (cell_carry d_0 (by (repeat' (first | (with_reducible exact Carries.refl _ _) | (with_reducible assumption) | (with_reducible refine Carries.alloc ?_ _) | (with_reducible refine Carries.drew ?_) | (with_reducible refine Carries.drewN ?_ _) | (with_reducible refine Carries.set ?_ ?_ _) | go_size)))) (Carries.of 0 hb5)
  have e_1 : w5.cell? ⟨w.heap.size, 1, none⟩ = some (.slice a0 m c0) := cell_carry (cell_carry d_1 (by (repeat' (first | (with_reducible exact Carries.refl _ _) | (with_reducible assumption) | (with_reducible refine Carries.alloc ?_ _) | (with_reducible refine Carries.drew ?_) | (with_reducible refine Carries.drewN ?_ _) | (with_reducible refine Carries.set ?_ ?_ _) | go_size)))) (Carries.of 0 hb5)
  have e_2 : w5.cell? ⟨w.heap.size, 2, none⟩ = some (.slice a1 ns c1) := cell_carry (cell_carry d_2 (by (repeat' (first | (with_reducible exact Carries.refl _ _) | (with_reducible assumption) | (with_reducible refine Carries.alloc ?_ _) | (with_reducible refine Carries.drew ?_) | (with_reducible refine Carries.drewN ?_ _) | (with_reducible refine Carries.set ?_ ?_ _) | go_size)))) (Carries.of 0 hb5)
  have e_3 : w5.cell? ⟨w.heap.size, 3, none⟩ = some (.slice a2 nl c2) := cell_carry (cell_carry d_3 (by (repeat' (first | (with_reducible exact Carries.refl _ _) | (with_reducible assumption) | (with_reducible refine Carries.alloc ?_ _) | (with_reducible refine Carries.drew ?_) | (with_reducible refine Carries.drewN ?_ _) | (with_reducible refine Carries.set ?_ ?_ _) | go_size)))) (Carries.of 0 hb5)
  have e_4 : w5.cell? ⟨w.heap.size, 4, none⟩ = some (.string st) := cell_carry (cell_carry d_4 (by (repeat' (first | (with_reducible exact Carries.refl _ _) | (with_reducible assumption) | (with_reducible refine Carries.alloc ?_ _) | (with_reducible refine Carries.drew ?_) | (with_reducible refine Carries.drewN ?_ _) | (with_reducible refine Carries.set ?_ ?_ _) | go_size)))) (Carries.of 0 hb5)
  have g_0 : w5.cell? ⟨w4.heap.size, 0, none⟩ = some (.int .i64 p) := cell_carry (by simp) (Carries.of 0 hb5)
  have g_1 : w5.cell? ⟨w4.heap.size, 1, none⟩ = some (.slice b0 m d0) := cell_carry (by simp) (Carries.of 0 hb5)
  have g_2 : w5.cell? ⟨w4.heap.size, 2, none⟩ = some (.slice b1 ns d1) := cell_carry (by simp) (Carries.of 0 hb5)
  have g_3 : w5.cell? ⟨w4.heap.size, 3, none⟩ = some (.slice b2 nl d2) := cell_carry (by simp) (Carries.of 0 hb5)
  have g_4 : w5.cell? ⟨w4.heap.size, 4, none⟩ = some (.string st) := cell_carry (by simp) (Carries.of 0 hb5)
  have H5 := Lib.hid (H4.out.keep (w' := w5) (Carries.trans (by (repeat' (first | (with_reducible exact Carries.refl _ _) | (with_reducible assumption) | (with_reducible refine Carries.alloc ?_ _) | (with_reducible refine Carries.drew ?_) | (with_reducible refine Carries.drewN ?_ _) | (with_reducible refine Carries.set ?_ ?_ _) | go_size))) (Carries.of _ hb5)))
  have z5 : w.heap.size < w5.heap.size := by have := hb5.size; simp at this; omega
  have z6 : w4.heap.size < w5.heap.size := by have := hb5.size; simp at this; omega
  clear d_0 d_1 d_2 d_3 d_4 hb5
  have hne0 : (r0_ != r0_) = false := by simp
  have hne1 : (r1_ != r1_) = false := by simp
  go_wp2_with fail
  go_region_held3 (fun w' => w'.cell? ⟨w.heap.size, 0, none⟩ = some (.int .i64 p) ∧ w'.cell? ⟨w.heap.size, 1, none⟩ = some (.slice a0 m c0) ∧ w'.cell? ⟨w.heap.size, 2, none⟩ = some (.slice a1 ns c1) ∧ w'.cell? ⟨w.heap.size, 3, none⟩ = some (.slice a2 nl c2) ∧ w'.cell? ⟨w.heap.size, 4, none⟩ = some (.string st) ∧ w'.cell? ⟨w4.heap.size, 0, none⟩ = some (.int .i64 p) ∧ w'.cell? ⟨w4.heap.size, 1, none⟩ = some (.slice b0 m d0) ∧ w'.cell? ⟨w4.heap.size, 2, none⟩ = some (.slice b1 ns d1) ∧ w'.cell? ⟨w4.heap.size, 3, none⟩ = some (.slice b2 nl d2) ∧ w'.cell? ⟨w4.heap.size, 4, none⟩ = some (.string st))
    (first
      | exact ⟨e_0, e_1, e_2, e_3, e_4, g_0, g_1, g_2, g_3, g_4⟩
      | exact ⟨cell_carry (w := w5.drew) e_0 (Carries.of 0 hb6), cell_carry (w := w5.drew) e_1 (Carries.of 0 hb6), cell_carry (w := w5.drew) e_2 (Carries.of 0 hb6), cell_carry (w := w5.drew) e_3 (Carries.of 0 hb6), cell_carry (w := w5.drew) e_4 (Carries.of 0 hb6), cell_carry (w := w5.drew) g_0 (Carries.of 0 hb6), cell_carry (w := w5.drew) g_1 (Carries.of 0 hb6), cell_carry (w := w5.drew) g_2 (Carries.of 0 hb6), cell_carry (w := w5.drew) g_3 (Carries.of 0 hb6), cell_carry (w := w5.drew) g_4 (Carries.of 0 hb6)⟩
      | exact ⟨cell_carry (cell_carry (w := w5.drew) e_0 (Carries.of 0 hb6)) (Carries.of 0 hb7), cell_carry (cell_carry (w := w5.drew) e_1 (Carries.of 0 hb6)) (Carries.of 0 hb7), cell_carry (cell_carry (w := w5.drew) e_2 (Carries.of 0 hb6)) (Carries.of 0 hb7), cell_carry (cell_carry (w := w5.drew) e_3 (Carries.of 0 hb6)) (Carries.of 0 hb7), cell_carry (cell_carry (w := w5.drew) e_4 (Carries.of 0 hb6)) (Carries.of 0 hb7), cell_carry (cell_carry (w := w5.drew) g_0 (Carries.of 0 hb6)) (Carries.of 0 hb7), cell_carry (cell_carry (w := w5.drew) g_1 (Carries.of 0 hb6)) (Carries.of 0 hb7), cell_carry (cell_carry (w := w5.drew) g_2 (Carries.of 0 hb6)) (Carries.of 0 hb7), cell_carry (cell_carry (w := w5.drew) g_3 (Carries.of 0 hb6)) (Carries.of 0 hb7), cell_carry (cell_carry (w := w5.drew) g_4 (Carries.of 0 hb6)) (Carries.of 0 hb7)⟩)
    (first
      | (go_at_call 10; refine (toSTG_any _ s w5.drew lo (HV.out.keep (Carries.of lo hw5.drew)) HS.out).mono ?_; rintro e w6 ⟨v6, rfl, hn6, hb6⟩)
      | (go_at_call 12; refine (eqSTG_any _ _ s s _ _ _ (H5.out.keep (Carries.of (w := w5.drew) _ hb6)) hn6 HS.out HS.out).mono ?_; rintro e w7 ⟨rfl, hb7⟩; rw [eqStgB_self]))
  have hw6 : Below w.heap.size w w6 := hw5.trans (Below.trans (b := w5.drew) (Below.refl _ _).drew (hb6.mono (by simp; omega)))
  have hw7 : Below w.heap.size w w7 := hw6.trans (hb7.mono hw6.size)
  go_wp2_with fail
  go_ret
  exact ⟨rfl, hw7⟩

end Go.Proofs.YtjelnlhalpoinaaDoor
