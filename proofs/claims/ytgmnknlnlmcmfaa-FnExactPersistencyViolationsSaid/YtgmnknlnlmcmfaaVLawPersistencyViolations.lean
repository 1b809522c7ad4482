/- WALK of the law FnExactPersistencyViolations. -/
import Derived.Test.YtgmnknlnlmcmfaaVStgm
import Derived.Test.YtgmnknlnlmcmfaaVSgm
import Derived.Test.YtgmnknlnlmcmfaaVPvd
import Derived.Deep.RegionHeld3
namespace Go.Proofs.Ytgmnknlnlmcmfaa
open Go.RowKit

set_option maxRecDepth 100000 in
set_option maxHeartbeats 4000000 in
theorem lawPersistencyViolations_any (v : Value) (s : SgD) (w : World) (lo : Nat) (hv : SgAt lo w v s) (hok : OkSg s) :
    Calls Try.prog 7 #[v] w (RetB w true) := by
  obtain ⟨a0, c0, a1, c1, a2, c2, rfl, h_0, h_1, h_2⟩ := hv.form
  clear h_0 h_1 h_2
  have HV := Lib.hid hv; clear hv
  have HO := Lib.hid hok; clear hok
  obtain ⟨ng, hng⟩ : ∃ x, x = s.sigs.length := ⟨_, rfl⟩
  obtain ⟨nc, hnc⟩ : ∃ x, x = s.codes.length := ⟨_, rfl⟩
  obtain ⟨na, hna⟩ : ∃ x, x = s.arcs.length := ⟨_, rfl⟩
  rw [← hng, ← hnc, ← hna] at HV ⊢
  have HDng := Lib.hid hng; clear hng
  have HDnc := Lib.hid hnc; clear hnc
  have HDna := Lib.hid hna; clear hna
  go_enter Try.func7, Try.ntmps7
  go_wp2_with fail
  refine (szSg_any _ s _ _ lo (HV.out.keep ?_) (by omega) (by omega) HO.out).mono ?_
  · (repeat' (first | (with_reducible exact Carries.refl _ _) | (with_reducible assumption) | (with_reducible refine Carries.alloc ?_ _) | (with_reducible refine Carries.drew ?_) | (with_reducible refine Carries.drewN ?_ _) | (with_reducible refine Carries.set ?_ ?_ _) | go_size))
  rintro e w1 ⟨r, rfl, hr, hb⟩
  have hw1 : Below w.heap.size w w1 := by
    refine Below.trans ?_ (hb.mono ?_)
    · (repeat' (first | (with_reducible exact Below.refl _ _) | (with_reducible assumption) | (with_reducible refine Below.alloc ?_ ?_ _) | (with_reducible refine Below.drew ?_) | (with_reducible refine below_drewN ?_ _) | (with_reducible refine Below.setCell ?_ ?_ _) | go_size))
    · simp
  have a_0 : w1.cell? ⟨w.heap.size, 0, none⟩ = some (.slice a0 ng c0) := cell_carry (by simp) (Carries.of 0 hb)
  have a_1 : w1.cell? ⟨w.heap.size, 1, none⟩ = some (.slice a1 nc c1) := cell_carry (by simp) (Carries.of 0 hb)
  have a_2 : w1.cell? ⟨w.heap.size, 2, none⟩ = some (.slice a2 na c2) := cell_carry (by simp) (Carries.of 0 hb)
  have z1 : w.heap.size < w1.heap.size := by have := hb.size; simp at this; omega
  clear hb
  rcases hr with rfl | ⟨hr0, _, hsm⟩
  · go_wp2_with fail
    go_ret
    exact ⟨rfl, hw1⟩
  have HS := Lib.hid hsm; clear hsm
  go_wp2_with fail
  refine (toSg_any _ s _ lo (HV.out.keep (Carries.of lo hw1)) HS.out).mono ?_
  rintro e w2 ⟨v2, rfl, hn2, hb⟩
  have hw2 : Below w.heap.size w w2 := hw1.trans (hb.mono (by omega))
  have a_0 := cell_carry a_0 (Carries.of 0 hb)
  have a_1 := cell_carry a_1 (Carries.of 0 hb)
  have a_2 := cell_carry a_2 (Carries.of 0 hb)
  have z2 : w.heap.size < w2.heap.size := by have := hb.size; omega
  clear hb
  have H2 := Lib.hid hn2; clear hn2
  go_wp2_with fail
  refine (PersistencyViolationsSpec_any _ s  _ _ H2.out HS.out).mono ?_
  rintro e w3 ⟨vw, rfl, hiw, hb⟩
  have hLL0 : (pvL s).length ≤ 1048576 := pvL_small s
  generalize hG0 : pvL s = L at hiw hLL0
  have hLL : L.length ≤ 1048576 := hLL0
  clear hLL0
  have HG0 := Lib.hid hG0; clear hG0
  generalize hG1 : goodG s = r1_
  have HG1 := Lib.hid hG1; clear hG1
  obtain ⟨aw, kw, rfl, hkw⟩ := hiw.cap
  have HW3 := Lib.hid hiw.at; clear hiw
  have HWB := Lib.hid (PVsAt_bound HW3.out)
  have hw3 : Below w.heap.size w w3 := hw2.trans (hb.mono hw2.size)
  have a_0 := cell_carry a_0 (Carries.of 0 hb)
  have a_1 := cell_carry a_1 (Carries.of 0 hb)
  have a_2 := cell_carry a_2 (Carries.of 0 hb)
  have z3 : w.heap.size < w3.heap.size := by have := hb.size; omega
  clear hb H2
  go_wp2_with fail
  refine (toSg_ow _ s _ lo (HV.out.keep (Carries.of lo hw3)) HS.out).mono ?_
  rintro e w4 ⟨v4, rfl, how, hb⟩
  have hat4 : SgAt w3.heap.size w4 v4 s := how.at
  obtain ⟨b0, d0, b1, d1, b2, d2, rfl, h_0, h_1, h_2⟩ := hat4.form
  clear h_0 h_1 h_2
  rw [← HDng.out, ← HDnc.out, ← HDna.out] at how hat4 ⊢
  have hw4 : Below w.heap.size w w4 := hw3.trans (hb.mono hw3.size)
  have a_0 := cell_carry a_0 (Carries.of 0 hb)
  have a_1 := cell_carry a_1 (Carries.of 0 hb)
  have a_2 := cell_carry a_2 (Carries.of 0 hb)
  have z4 : w3.heap.size ≤ w4.heap.size := hb.size
  have HW4 := Lib.hid (HW3.out.keep (Carries.of _ hb))
  clear hb HW3
  have HOW := Lib.hid how; clear how
  have HA4 := Lib.hid hat4; clear hat4
  have hal : Below w4.heap.size w4 (w4.alloc (.cells #[.slice b0 ng d0, .slice b1 nc d1, .slice b2 na d2] 34)) := (Below.refl _ _).alloc (Nat.le_refl _) _
  have a_0' := cell_carry a_0 (Carries.of 0 hal)
  have a_1' := cell_carry a_1 (Carries.of 0 hal)
  have a_2' := cell_carry a_2 (Carries.of 0 hal)
  go_wp2_with fail
  have x_0 : (w4.alloc (.cells #[.slice b0 ng d0, .slice b1 nc d1, .slice b2 na d2] 34)).cell? ⟨w4.heap.size, 0, none⟩ = some (.slice b0 ng d0) := by simp
  have x_1 : (w4.alloc (.cells #[.slice b0 ng d0, .slice b1 nc d1, .slice b2 na d2] 34)).cell? ⟨w4.heap.size, 1, none⟩ = some (.slice b1 nc d1) := by simp
  have x_2 : (w4.alloc (.cells #[.slice b0 ng d0, .slice b1 nc d1, .slice b2 na d2] 34)).cell? ⟨w4.heap.size, 2, none⟩ = some (.slice b2 na d2) := by simp
  have zB : w4.heap.size < (w4.alloc (.cells #[.slice b0 ng d0, .slice b1 nc d1, .slice b2 na d2] 34)).heap.size := by simp
  clear a_0 a_1 a_2
  generalize w4.alloc (.cells #[.slice b0 ng d0, .slice b1 nc d1, .slice b2 na d2] 34) = wB at hal a_0' a_1' a_2' x_0 x_1 x_2 zB ⊢
  have a_0 := a_0'
  have a_1 := a_1'
  have a_2 := a_2'
  clear a_0' a_1' a_2'
  have hwB : Below w.heap.size w wB := hw4.trans (hal.mono hw4.size)
  have HWBB := Lib.hid (HW4.out.keep (Carries.of _ hal)); clear HW4
  have S45 := Lib.hid (Same.of w3.heap.size hal)
  have HA5 := Lib.hid (HA4.out.keep (Carries.of _ hal)); clear hal HA4
  refine (PersistencyViolations_any _ s  _ _ HA5.out HS.out).mono ?_
  rintro e w5 ⟨vg, rfl, hig, hb⟩
  rw [HG1.out]
  rw [HG0.out] at hig
  obtain ⟨ag, kg, rfl, hkg⟩ := hig.cap
  have hw5 : Below w.heap.size w w5 := hwB.trans (hb.mono hwB.size)
  have a_0 := cell_carry a_0 (Carries.of 0 hb)
  have a_1 := cell_carry a_1 (Carries.of 0 hb)
  have a_2 := cell_carry a_2 (Carries.of 0 hb)
  have x_0 := cell_carry x_0 (Carries.of 0 hb)
  have x_1 := cell_carry x_1 (Carries.of 0 hb)
  have x_2 := cell_carry x_2 (Carries.of 0 hb)
  have z5 : wB.heap.size ≤ w5.heap.size := hb.size
  have HW5 := Lib.hid (HWBB.out.keep (Carries.of _ hb)); clear HWBB
  have S46 := Lib.hid (S45.out.trans (Same.of _ hb)); clear S45
  have HA6 := Lib.hid (HA5.out.keep (Carries.of _ hb)); clear HA5 hb
  have HIG := Lib.hid hig; clear hig
  go_wp2_with fail
  refine (eqPVS_any _ _ L L _ _ _ HIG.out.at HW5.out (by omega) (by omega)).mono ?_
  rintro e w6 ⟨rfl, hb⟩
  rw [selfPVs]
  have hne1 : (r1_ != r1_) = false := by simp
  have hw6 : Below w.heap.size w w6 := hw5.trans (hb.mono hw5.size)
  have a_0 := cell_carry a_0 (Carries.of 0 hb)
  have a_1 := cell_carry a_1 (Carries.of 0 hb)
  have a_2 := cell_carry a_2 (Carries.of 0 hb)
  have x_0 := cell_carry x_0 (Carries.of 0 hb)
  have x_1 := cell_carry x_1 (Carries.of 0 hb)
  have x_2 := cell_carry x_2 (Carries.of 0 hb)
  have z6 : w5.heap.size ≤ w6.heap.size := hb.size
  have HW6 := Lib.hid (HW5.out.keep (Carries.of _ hb)); clear HW5
  have S47 := Lib.hid (S46.out.trans (Same.of _ hb)); clear S46
  have HA7 := Lib.hid (HA6.out.keep (Carries.of _ hb)); clear HA6
  have HIG6 := Lib.hid (owns_after HIG.out hb); clear HIG hb
  go_wp2_with fail
  go_region_held3 (fun w' => w'.cell? ⟨w.heap.size, 0, none⟩ = some (.slice a0 ng c0) ∧ w'.cell? ⟨w.heap.size, 1, none⟩ = some (.slice a1 nc c1) ∧ w'.cell? ⟨w.heap.size, 2, none⟩ = some (.slice a2 na c2) ∧ w'.cell? ⟨w4.heap.size, 0, none⟩ = some (.slice b0 ng d0) ∧ w'.cell? ⟨w4.heap.size, 1, none⟩ = some (.slice b1 nc d1) ∧ w'.cell? ⟨w4.heap.size, 2, none⟩ = some (.slice b2 na d2))
    (first
      | exact ⟨a_0, a_1, a_2, x_0, x_1, x_2⟩
      | exact ⟨cell_carry (w := w6.drew) a_0 (Carries.of 0 hb7), cell_carry (w := w6.drew) a_1 (Carries.of 0 hb7), cell_carry (w := w6.drew) a_2 (Carries.of 0 hb7), cell_carry (w := w6.drew) x_0 (Carries.of 0 hb7), cell_carry (w := w6.drew) x_1 (Carries.of 0 hb7), cell_carry (w := w6.drew) x_2 (Carries.of 0 hb7)⟩
      | exact ⟨cell_carry (cell_carry (w := w6.drew) a_0 (Carries.of 0 hb7)) (Carries.of 0 hb8), cell_carry (cell_carry (w := w6.drew) a_1 (Carries.of 0 hb7)) (Carries.of 0 hb8), cell_carry (cell_carry (w := w6.drew) a_2 (Carries.of 0 hb7)) (Carries.of 0 hb8), cell_carry (cell_carry (w := w6.drew) x_0 (Carries.of 0 hb7)) (Carries.of 0 hb8), cell_carry (cell_carry (w := w6.drew) x_1 (Carries.of 0 hb7)) (Carries.of 0 hb8), cell_carry (cell_carry (w := w6.drew) x_2 (Carries.of 0 hb7)) (Carries.of 0 hb8)⟩)
    (first
      | (go_at_call 14; refine (toSg_any _ s w6.drew lo (HV.out.keep (Carries.of lo hw6.drew)) HS.out).mono ?_; rintro e w7 ⟨v7, rfl, hn7, hb7⟩)
      | (go_at_call 17; refine (eqSg_any _ _ s s _ _ _ (HA7.out.keep (Carries.of (w := w6.drew) _ hb7)) hn7 HS.out HS.out).mono ?_; rintro e w8 ⟨rfl, hb8⟩; rw [eqSgB_self]))
  have hb78 : Below w6.heap.size w6 w8 := (Below.trans (b := w6.drew) (Below.refl _ _).drew (Below.trans (hb7.mono (by simp)) (hb8.mono (by have := hb7.size; simp at this; omega))))
  clear hb7 hb8 hn7
  have hw8 : Below w.heap.size w w8 := hw6.trans (hb78.mono hw6.size)
  have a_0 := cell_carry a_0 (Carries.of 0 hb78)
  have a_1 := cell_carry a_1 (Carries.of 0 hb78)
  have a_2 := cell_carry a_2 (Carries.of 0 hb78)
  have x_0 := cell_carry x_0 (Carries.of 0 hb78)
  have x_1 := cell_carry x_1 (Carries.of 0 hb78)
  have x_2 := cell_carry x_2 (Carries.of 0 hb78)
  have z8 : w6.heap.size ≤ w8.heap.size := hb78.size
  have HW8 := Lib.hid (HW6.out.keep (Carries.of _ hb78)); clear HW6
  have S48 := Lib.hid (S47.out.trans (Same.of _ hb78)); clear S47
  have HIG8 := Lib.hid (owns_after HIG6.out hb78); clear HIG6 hb78 HA7
  go_wp2_with fail
  refine (markSg_any _ s w4 w8 w3.heap.size HOW.out S48.out HS.out).mono ?_
  rintro e w9 ⟨T, rfl, hT0, hst⟩
  have hw9 : Below w.heap.size w w9 := hst.below hw8 (Nat.le_of_lt z3) (by omega)
  have z9 : w8.heap.size ≤ w9.heap.size := hst.size
  have a_0 := hst.cell (Or.inl z3) a_0
  have a_1 := hst.cell (Or.inl z3) a_1
  have a_2 := hst.cell (Or.inl z3) a_2
  have HW9 := Lib.hid (PVsAt_stir HW8.out HWB.out hst (Nat.le_refl _)); clear HW8
  have HIG9 := Lib.hid (PRow.stir HIG8.out hst (by omega)); clear HIG8 hst x_0 x_1 x_2
  have hT : decide ((T : Int) < 0) = false := by rw [decide_eq_false_iff_not]; omega
  go_wp2_with fail
  refine (eqPVS_any _ _ L L _ _ _ HIG9.out.at HW9.out (by omega) (by omega)).mono ?_
  rintro e w10 ⟨rfl, hb⟩
  rw [selfPVs]
  have hw10 : Below w.heap.size w w10 := hw9.trans (hb.mono hw9.size)
  have a_0 := cell_carry a_0 (Carries.of 0 hb)
  have a_1 := cell_carry a_1 (Carries.of 0 hb)
  have a_2 := cell_carry a_2 (Carries.of 0 hb)
  have zA : w9.heap.size ≤ w10.heap.size := hb.size
  have HW10 := Lib.hid (HW9.out.keep (Carries.of _ hb)); clear HW9
  have HIG10 := Lib.hid (owns_after HIG9.out hb); clear HIG9 hb
  go_wp2_with fail
  refine (markPVs_row _ L 1 w10 _ HIG10.out hLL (by omega) (by omega)).mono ?_
  rintro e w11 ⟨rfl, hmk, hex⟩
  have hw11 : Below w.heap.size w w11 := hmk.below hw10 (by omega) (by omega)
  have zC : w10.heap.size ≤ w11.heap.size := hmk.size
  have a_0 := hmk.cell (Or.inl (by simp; omega)) a_0
  have a_1 := hmk.cell (Or.inl (by simp; omega)) a_1
  have a_2 := hmk.cell (Or.inl (by simp; omega)) a_2
  have HW11 := Lib.hid (PVsAt_stir HW10.out HWB.out hmk (by omega)); clear HW10
  have HU11 := Lib.hid hex
  clear hmk hex HIG10
  obtain ⟨TQ, hTQ⟩ : ∃ x : Int, x = 1 + 3 * (L.length : Int) := ⟨_, rfl⟩
  rw [← hTQ]
  have hTQ0 : 0 ≤ TQ := by omega
  have HTQ := Lib.hid hTQ; clear hTQ
  go_wp2_with fail
  refine (heldPVS_any _ L.length 1 w11 _ HU11.out hLL (by omega) (by omega)).mono ?_
  rintro e w12 ⟨rfl, hb⟩
  rw [← HTQ.out]
  have hw12 : Below w.heap.size w w12 := hw11.trans (hb.mono hw11.size)
  have a_0 := cell_carry a_0 (Carries.of 0 hb)
  have a_1 := cell_carry a_1 (Carries.of 0 hb)
  have a_2 := cell_carry a_2 (Carries.of 0 hb)
  have HW12 := Lib.hid (HW11.out.keep (Carries.of _ hb)); clear HW11
  have HU12 := Lib.hid (HU11.out.keep (Carries.of _ hb)); clear HU11 hb
  have hq : (TQ != TQ) = false := by simp
  have hq2 : decide (TQ < 0) = false := by rw [decide_eq_false_iff_not]; omega
  go_wp2_with fail
  refine (toSg_any _ s _ lo (HV.out.keep (Carries.of lo hw12)) HS.out).mono ?_
  rintro e w13 ⟨v13, rfl, hn13, hb⟩
  have hw13 : Below w.heap.size w w13 := hw12.trans (hb.mono hw12.size)
  have HW13 := Lib.hid (HW12.out.keep (Carries.of _ hb)); clear HW12
  have HU13 := Lib.hid (HU12.out.keep (Carries.of _ hb)); clear HU12
  have H13 := Lib.hid hn13
  clear hb hn13 a_0 a_1 a_2
  go_wp2_with fail
  refine (PersistencyViolations_any _ s  _ _ H13.out HS.out).mono ?_
  rintro e w14 ⟨vh, rfl, hih, hb⟩
  rw [HG1.out]
  rw [HG0.out] at hih
  obtain ⟨ah, kh, rfl, hkh⟩ := hih.cap
  have hw14 : Below w.heap.size w w14 := hw13.trans (hb.mono hw13.size)
  have HW14 := Lib.hid (HW13.out.keep (Carries.of _ hb)); clear HW13
  have HU14 := Lib.hid (HU13.out.keep (Carries.of _ hb)); clear HU13
  have HH14 := Lib.hid hih.at
  clear hb hih H13
  go_wp2_with fail
  refine (eqPVS_any _ _ L L _ _ _ HH14.out HW14.out (by omega) (by omega)).mono ?_
  rintro e w15 ⟨rfl, hb⟩
  rw [selfPVs]
  have hw15 : Below w.heap.size w w15 := hw14.trans (hb.mono hw14.size)
  have HU15 := Lib.hid (HU14.out.keep (Carries.of _ hb))
  clear hb
  go_wp2_with fail
  refine (heldPVS_any _ L.length 1 w15 _ HU15.out hLL (by omega) (by omega)).mono ?_
  rintro e w16 ⟨rfl, hb⟩
  rw [← HTQ.out]
  have hw16 : Below w.heap.size w w16 := hw15.trans (hb.mono hw15.size)
  clear hb
  go_wp2_with fail
  go_ret
  exact ⟨rfl, hw16⟩

end Go.Proofs.Ytgmnknlnlmcmfaa
