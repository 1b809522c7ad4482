/-
  WALK of the law FnExactReverseNet.
-/
import Derived.Test.YtlakcjcmbhkcdaaSrev
import Derived.Test.YtlakcjcmbhkcdaaNetin
import Derived.Deep.RegionHeld3
namespace Go.Proofs.Ytlakcjcmbhkcdaa
open Go.RowKit

theorem revR_small {n : NetD} (h : SmallTrs n.ts) : SmallTrs (revR n).ts := by
  unfold revR
  by_cases hb : revB n = true
  · rw [if_pos hb]; exact revTs_small h
  · rw [if_neg hb]; exact ⟨Nat.zero_le _, fun i hi => absurd hi (Nat.not_lt_zero _)⟩
theorem selfNet (RN : NetD) : decide (RN.places = RN.places ∧ RN.ts = RN.ts) = true := decide_eq_true ⟨rfl, rfl⟩
theorem revR_places {n : NetD} (h0 : -9223372036854775808 ≤ n.places) (h1 : n.places ≤ 9223372036854775807) : -9223372036854775808 ≤ (revR n).places ∧ (revR n).places ≤ 9223372036854775807 := by
  unfold revR
  by_cases hb : revB n = true
  · rw [if_pos hb]; exact ⟨h0, h1⟩
  · rw [if_neg hb]; decide

set_option maxRecDepth 100000 in
set_option maxHeartbeats 4000000 in
theorem lawReverseNet_any (v : Value) (n : NetD) (w : World) (lo : Nat) (hv : NetAt lo w v n) (hok : OkTrs n.ts) :
    Calls Try.prog 8 #[v] w (RetB w true) := by
  have hv' := hv
  obtain ⟨hp0, hp1, u, rfl, ht⟩ := hv'
  obtain ⟨ao, cap, rfl, _, hz⟩ := ht
  have HV := Lib.hid hv; clear hv hz
  have HO := Lib.hid hok; clear hok
  have hpl := revR_places hp0 hp1
  have hsmR : SmallTrs n.ts → SmallTrs (revR n).ts := revR_small
  obtain ⟨RN, hRN⟩ : ∃ RN, RN = revR n := ⟨_, rfl⟩
  obtain ⟨BB, hBB⟩ : ∃ BB, BB = revB n := ⟨_, rfl⟩
  rw [← hRN] at hpl hsmR
  have HR := Lib.hid (And.intro hRN hBB); clear hRN hBB
  have HPL := Lib.hid hpl; clear hpl
  have HSM := Lib.hid hsmR; clear hsmR
  obtain ⟨m, hm⟩ : ∃ m, m = n.ts.length := ⟨_, rfl⟩
  obtain ⟨p, hp⟩ : ∃ p, p = n.places := ⟨_, rfl⟩
  rw [← hm, ← hp] at HV ⊢
  rw [← hp] at hp0 hp1
  have HM := Lib.hid hm; clear hm
  have HP := Lib.hid hp; clear hp
  obtain ⟨rm, hrm⟩ : ∃ rm, rm = RN.ts.length := ⟨_, rfl⟩
  obtain ⟨rp, hrp⟩ : ∃ rp, rp = RN.places := ⟨_, rfl⟩
  have HRM := Lib.hid hrm; clear hrm
  have HRP := Lib.hid hrp; clear hrp
  -- a net's value with these parts reads so
  have hnet : ∀ (l : Nat) (W : World) (a : Option Addr) (c : Nat), TrsAt l W (.slice a rm c) RN.ts → NetAt l W (.agg #[.int .i64 rp, .slice a rm c]) RN := fun l W a c h => ⟨HPL.out.1, HPL.out.2, _, by rw [HRP.out], h⟩
  have HNET := Lib.hid hnet; clear hnet
  go_enter Try.func8, Try.ntmps8
  go_wp2_with fail
  refine (szNet_any _ n _ _ lo (HV.out.keep ?_) (by omega) (by omega) HO.out).mono ?_
  · (repeat' (first | (with_reducible exact Carries.refl _ _) | (with_reducible assumption) | (with_reducible refine Carries.alloc ?_ _) | (with_reducible refine Carries.drew ?_) | (with_reducible refine Carries.drewN ?_ _) | (with_reducible refine Carries.set ?_ ?_ _) | go_size))
  rintro e w1 ⟨r, rfl, hr, hb1⟩
  have hw1 : Below w.heap.size w w1 := by
    refine Below.trans ?_ (hb1.mono ?_)
    · (repeat' (first | (with_reducible exact Below.refl _ _) | (with_reducible assumption) | (with_reducible refine Below.alloc ?_ ?_ _) | (with_reducible refine Below.drew ?_) | (with_reducible refine below_drewN ?_ _) | (with_reducible refine Below.setCell ?_ ?_ _) | go_size))
    · simp
  have a0 : w1.cell? ⟨w.heap.size, 0, none⟩ = some (.int .i64 p) := cell_carry (by simp) (Carries.of 0 hb1)
  have a1 : w1.cell? ⟨w.heap.size, 1, none⟩ = some (.slice ao m cap) := cell_carry (by simp) (Carries.of 0 hb1)
  have z1 : w.heap.size < w1.heap.size := by have := hb1.size; simp at this; omega
  clear hb1
  rcases hr with rfl | ⟨hr0, _, hsm⟩
  · go_wp2_with fail
    go_ret
    exact ⟨rfl, hw1⟩
  have HS := Lib.hid hsm
  have HSR := Lib.hid (HSM.out hsm); clear hsm HSM
  go_wp2_with fail
  refine (toNet_any _ n _ lo (HV.out.keep (Carries.of lo hw1)) HS.out).mono ?_
  rintro e w2 ⟨v2, rfl, hn2, hb2⟩
  have hw2 : Below w.heap.size w w2 := hw1.trans (hb2.mono (by omega))
  have a0 := cell_carry a0 (Carries.of 0 hb2)
  have a1 := cell_carry a1 (Carries.of 0 hb2)
  have z2 : w.heap.size < w2.heap.size := by have := hb2.size; omega
  clear hb2
  have H2 := Lib.hid hn2; clear hn2
  go_wp2_with fail
  refine (specReverseNet_any _ n _ _ H2.out HS.out).mono ?_
  rintro e w3 ⟨uw, rfl, hiw, hb⟩
  rw [← HR.out.1] at hiw ⊢
  rw [← HR.out.2, ← HRP.out]
  obtain ⟨aw, kw, rfl, _, _⟩ := id hiw
  rw [← HRM.out] at hiw ⊢
  have hw3 : Below w.heap.size w w3 := hw2.trans (hb.mono hw2.size)
  have a0 := cell_carry a0 (Carries.of 0 hb)
  have a1 := cell_carry a1 (Carries.of 0 hb)
  have z3 : w.heap.size < w3.heap.size := by have := hb.size; omega
  have HW3 := Lib.hid hiw; clear hiw hb H2
  have hal : Below w3.heap.size w3 (w3.alloc (.cells #[.int .i64 rp, .slice aw rm kw] 29)) := (Below.refl _ _).alloc (Nat.le_refl _) _
  have a0' := cell_carry a0 (Carries.of 0 hal)
  have a1' := cell_carry a1 (Carries.of 0 hal)
  go_wp2_with fail
  have b0 : (w3.alloc (.cells #[.int .i64 rp, .slice aw rm kw] 29)).cell? ⟨w3.heap.size, 0, none⟩ = some (.int .i64 rp) := by simp
  have b1 : (w3.alloc (.cells #[.int .i64 rp, .slice aw rm kw] 29)).cell? ⟨w3.heap.size, 1, none⟩ = some (.slice aw rm kw) := by simp
  have zA : w3.heap.size < (w3.alloc (.cells #[.int .i64 rp, .slice aw rm kw] 29)).heap.size := by simp
  clear a0 a1
  generalize w3.alloc (.cells #[.int .i64 rp, .slice aw rm kw] 29) = wA at hal a0' a1' b0 b1 zA ⊢
  have a0 := a0'
  have a1 := a1'
  clear a0' a1'
  have hwA : Below w.heap.size w wA := hw3.trans (hal.mono hw3.size)
  have zWA : w.heap.size < wA.heap.size := by omega
  have HWA := Lib.hid ((HW3.out.keep (Carries.of _ hal)).in); clear HW3 hal
  refine (toNet_ow _ n _ lo (HV.out.keep (Carries.of lo hwA)) HS.out).mono ?_
  rintro e w4 ⟨v4, rfl, hn4, hb⟩
  obtain ⟨a4, k4, rfl⟩ : ∃ a k, v4 = .agg #[.int .i64 p, .slice a m k] := by
    obtain ⟨_, _, u4, rfl, ⟨a4, k4, rfl, _, _⟩⟩ := hn4
    rw [← HM.out, ← HP.out]; exact ⟨_, _, rfl⟩
  have hw4 : Below w.heap.size w w4 := hwA.trans (hb.mono hwA.size)
  have a0 := cell_carry a0 (Carries.of 0 hb)
  have a1 := cell_carry a1 (Carries.of 0 hb)
  have b0 := cell_carry b0 (Carries.of 0 hb)
  have b1 := cell_carry b1 (Carries.of 0 hb)
  have z4 : wA.heap.size ≤ w4.heap.size := hb.size
  have HW4 := Lib.hid (HWA.out.keep (Carries.of _ hb)); clear hb HWA
  have H4 := Lib.hid hn4; clear hn4
  have hal : Below w4.heap.size w4 (w4.alloc (.cells #[.int .i64 p, .slice a4 m k4] 29)) := (Below.refl _ _).alloc (Nat.le_refl _) _
  have a0' := cell_carry a0 (Carries.of 0 hal)
  have a1' := cell_carry a1 (Carries.of 0 hal)
  have b0' := cell_carry b0 (Carries.of 0 hal)
  have b1' := cell_carry b1 (Carries.of 0 hal)
  go_wp2_with fail
  have x0 : (w4.alloc (.cells #[.int .i64 p, .slice a4 m k4] 29)).cell? ⟨w4.heap.size, 0, none⟩ = some (.int .i64 p) := by simp
  have x1 : (w4.alloc (.cells #[.int .i64 p, .slice a4 m k4] 29)).cell? ⟨w4.heap.size, 1, none⟩ = some (.slice a4 m k4) := by simp
  have zB : w4.heap.size < (w4.alloc (.cells #[.int .i64 p, .slice a4 m k4] 29)).heap.size := by simp
  clear a0 a1 b0 b1
  generalize w4.alloc (.cells #[.int .i64 p, .slice a4 m k4] 29) = wB at hal a0' a1' b0' b1' x0 x1 zB ⊢
  have a0 := a0'
  have a1 := a1'
  have b0 := b0'
  have b1 := b1'
  clear a0' a1' b0' b1'
  have hwB : Below w.heap.size w wB := hw4.trans (hal.mono hw4.size)
  have HWB := Lib.hid (HW4.out.keep (Carries.of _ hal)); clear HW4
  have S45 := Lib.hid (Same.of wA.heap.size hal); clear hal
  refine (ReverseNet_any _ n _ _ (H4.out.at.keep (by rintro a v ha hc; rw [World.cell?_of_block (S45.out.2 a.block ha (cell_old hc))]; exact hc)) HS.out).mono ?_
  rintro e w5 ⟨ug, rfl, ⟨c, hc0, hc1, hsep⟩, hb⟩
  rw [← HR.out.1] at hsep hc1 ⊢
  rw [← HR.out.2, ← HRP.out]
  obtain ⟨ag, kg, rfl⟩ := hsep.form
  rw [← HRM.out] at hsep hc1 ⊢
  have hw5 : Below w.heap.size w w5 := hwB.trans (hb.mono hwB.size)
  have a0 := cell_carry a0 (Carries.of 0 hb)
  have a1 := cell_carry a1 (Carries.of 0 hb)
  have b0 := cell_carry b0 (Carries.of 0 hb)
  have b1 := cell_carry b1 (Carries.of 0 hb)
  have x0 := cell_carry x0 (Carries.of 0 hb)
  have x1 := cell_carry x1 (Carries.of 0 hb)
  have z5 : wB.heap.size ≤ w5.heap.size := hb.size
  have HW5 := Lib.hid (HWB.out.keep (Carries.of _ hb)); clear HWB
  have S46 := Lib.hid (S45.out.trans (Same.of _ hb)); clear S45 hb
  have HG := Lib.hid hsep; clear hsep
  have hal : Below w5.heap.size w5 (w5.alloc (.cells #[.int .i64 rp, .slice ag rm kg] 29)) := (Below.refl _ _).alloc (Nat.le_refl _) _
  have a0' := cell_carry a0 (Carries.of 0 hal)
  have a1' := cell_carry a1 (Carries.of 0 hal)
  have b0' := cell_carry b0 (Carries.of 0 hal)
  have b1' := cell_carry b1 (Carries.of 0 hal)
  have x0' := cell_carry x0 (Carries.of 0 hal)
  have x1' := cell_carry x1 (Carries.of 0 hal)
  go_wp2_with fail
  have g0 : (w5.alloc (.cells #[.int .i64 rp, .slice ag rm kg] 29)).cell? ⟨w5.heap.size, 0, none⟩ = some (.int .i64 rp) := by simp
  have g1 : (w5.alloc (.cells #[.int .i64 rp, .slice ag rm kg] 29)).cell? ⟨w5.heap.size, 1, none⟩ = some (.slice ag rm kg) := by simp
  have zC : w5.heap.size < (w5.alloc (.cells #[.int .i64 rp, .slice ag rm kg] 29)).heap.size := by simp
  clear a0 a1 b0 b1 x0 x1
  generalize w5.alloc (.cells #[.int .i64 rp, .slice ag rm kg] 29) = wC at hal a0' a1' b0' b1' x0' x1' g0 g1 zC ⊢
  have a0 := a0'
  have a1 := a1'
  have b0 := b0'
  have b1 := b1'
  have x0 := x0'
  have x1 := x1'
  clear a0' a1' b0' b1' x0' x1'
  have hwC : Below w.heap.size w wC := hw5.trans (hal.mono hw5.size)
  have HWC := Lib.hid (HW5.out.keep (Carries.of _ hal)); clear HW5
  have HGC := Lib.hid (HG.out.keep hal); clear HG
  have S47 := Lib.hid (S46.out.trans (Same.of _ hal)); clear S46 hal
  refine (eqNet_any _ _ RN RN _ _ _ (HNET.out _ _ _ _ HGC.out.at) (HNET.out _ _ _ _ HWC.out.at) HSR.out HSR.out).mono ?_
  rintro e w6 ⟨rfl, hb⟩
  rw [selfNet]
  have hw6 : Below w.heap.size w w6 := hwC.trans (hb.mono hwC.size)
  have a0 := cell_carry a0 (Carries.of 0 hb)
  have a1 := cell_carry a1 (Carries.of 0 hb)
  have b0 := cell_carry b0 (Carries.of 0 hb)
  have b1 := cell_carry b1 (Carries.of 0 hb)
  have x0 := cell_carry x0 (Carries.of 0 hb)
  have x1 := cell_carry x1 (Carries.of 0 hb)
  have g0 := cell_carry g0 (Carries.of 0 hb)
  have g1 := cell_carry g1 (Carries.of 0 hb)
  have z6 := hb.size
  have HW6 := Lib.hid (HWC.out.keep (Carries.of _ hb))
  have HG6 := Lib.hid (HGC.out.keep hb)
  have S48 := Lib.hid (S47.out.trans (Same.of _ hb))
  clear hb hwC HWC HGC S47
  have hbb : (BB != BB) = false := by simp
  go_wp2_with fail
  go_region_held3 (fun w' => w'.cell? ⟨w.heap.size, 0, none⟩ = some (.int .i64 p) ∧ w'.cell? ⟨w.heap.size, 1, none⟩ = some (.slice ao m cap) ∧ w'.cell? ⟨w4.heap.size, 0, none⟩ = some (.int .i64 p) ∧ w'.cell? ⟨w4.heap.size, 1, none⟩ = some (.slice a4 m k4))
    (first
      | exact ⟨a0, a1, x0, x1⟩
      | exact ⟨cell_carry (w := w6.drew) a0 (Carries.of 0 hb7), cell_carry (w := w6.drew) a1 (Carries.of 0 hb7), cell_carry (w := w6.drew) x0 (Carries.of 0 hb7), cell_carry (w := w6.drew) x1 (Carries.of 0 hb7)⟩
      | exact ⟨cell_carry (cell_carry (w := w6.drew) a0 (Carries.of 0 hb7)) (Carries.of 0 hb8), cell_carry (cell_carry (w := w6.drew) a1 (Carries.of 0 hb7)) (Carries.of 0 hb8), cell_carry (cell_carry (w := w6.drew) x0 (Carries.of 0 hb7)) (Carries.of 0 hb8), cell_carry (cell_carry (w := w6.drew) x1 (Carries.of 0 hb7)) (Carries.of 0 hb8)⟩)
    (first
      | (go_at_call 17; refine (toNet_any _ n w6.drew lo (HV.out.keep (Carries.of lo hw6.drew)) HS.out).mono ?_; rintro e w7 ⟨v7, rfl, hn7, hb7⟩)
      | (go_at_call 19; refine (eqNet_any _ _ n n _ _ _ ((H4.out.keep S48.out).at.keep (Carries.of (w := w6.drew) _ hb7)) hn7 HS.out HS.out).mono ?_; rintro e w8 ⟨rfl, hb8⟩))
  have hb78 : Below w6.heap.size w6 w8 := (Below.trans (b := w6.drew) (Below.refl _ _).drew (Below.trans (hb7.mono (by simp)) (hb8.mono (by have := hb7.size; simp at this; omega))))
  clear hb7 hb8 hn7
  have hw8 : Below w.heap.size w w8 := hw6.trans (hb78.mono hw6.size)
  have a0 := cell_carry a0 (Carries.of 0 hb78)
  have a1 := cell_carry a1 (Carries.of 0 hb78)
  have b0 := cell_carry b0 (Carries.of 0 hb78)
  have b1 := cell_carry b1 (Carries.of 0 hb78)
  have x0 := cell_carry x0 (Carries.of 0 hb78)
  have x1 := cell_carry x1 (Carries.of 0 hb78)
  have g0 := cell_carry g0 (Carries.of 0 hb78)
  have g1 := cell_carry g1 (Carries.of 0 hb78)
  have z8 := hb78.size
  have HW8 := Lib.hid (HW6.out.keep (Carries.of _ hb78))
  have HG8 := Lib.hid (HG6.out.keep hb78)
  have S49 := Lib.hid (S48.out.trans (Same.of _ hb78))
  clear hb78 hw6 HW6 HG6 S48
  go_wp2_with fail
  refine (markNet_any _ n 1 w4 w8 wA.heap.size H4.out S49.out HS.out (by omega) (by omega)).mono ?_
  rintro e w9 ⟨wa, rfl, hba, hmk⟩
  generalize (totTo n.ts n.ts.length) = T
  have ha := hw8.trans (hba.mono hw8.size)
  have hw9 : Below w.heap.size w w9 := hmk.below ha (Nat.le_of_lt zWA)
  have z9 : w8.heap.size ≤ w9.heap.size := by have := hba.size; have := hmk.size; omega
  have a0 := hmk.cell (Or.inl zWA) (cell_carry a0 (Carries.of 0 hba))
  have a1 := hmk.cell (Or.inl zWA) (cell_carry a1 (Carries.of 0 hba))
  have b0 := hmk.cell (Or.inl zA) (cell_carry b0 (Carries.of 0 hba))
  have b1 := hmk.cell (Or.inl zA) (cell_carry b1 (Carries.of 0 hba))
  have g0 := hmk.cell (Or.inr (by simp; omega)) (cell_carry g0 (Carries.of 0 hba))
  have g1 := hmk.cell (Or.inr (by simp; omega)) (cell_carry g1 (Carries.of 0 hba))
  have HW9 := Lib.hid ((HW8.out.keep (Carries.of _ hba)).marks hmk (Nat.le_refl _))
  have HG9 := Lib.hid ((HG8.out.keep hba).above hmk (by omega))
  clear hba hmk ha hw8 HW8 HG8 S49 x0 x1
  have hT : decide ((1 : Int) + (T : Int) < 0) = false := by rw [decide_eq_false_iff_not]; omega
  go_wp2_with fail
  refine (eqNet_any _ _ RN RN _ _ _ (HNET.out _ _ _ _ HG9.out.at) (HNET.out _ _ _ _ HW9.out.at) HSR.out HSR.out).mono ?_
  rintro e wD ⟨rfl, hb⟩
  rw [selfNet]
  have hwD : Below w.heap.size w wD := hw9.trans (hb.mono hw9.size)
  have a0 := cell_carry a0 (Carries.of 0 hb)
  have a1 := cell_carry a1 (Carries.of 0 hb)
  have b0 := cell_carry b0 (Carries.of 0 hb)
  have b1 := cell_carry b1 (Carries.of 0 hb)
  have g0 := cell_carry g0 (Carries.of 0 hb)
  have g1 := cell_carry g1 (Carries.of 0 hb)
  have zD := hb.size
  have HWD := Lib.hid (HW9.out.keep (Carries.of _ hb))
  have HGD := Lib.hid (HG9.out.keep hb)
  clear hb hw9 HW9 HG9
  go_wp2_with fail
  refine (markNet_sep rp c _ RN.ts 1 _ HGD.out HSR.out (by omega) (by omega)).mono ?_
  rintro e wE ⟨wa, rfl, hba, hmk, hheld⟩
  have ha := hwD.trans (hba.mono hwD.size)
  have hwE : Below w.heap.size w wE := hmk.below ha (by omega)
  have zE : wD.heap.size ≤ wE.heap.size := by have := hba.size; have := hmk.size; omega
  rw [← HRM.out] at hmk
  have a0 := hmk.cell (Or.inl (by simp; omega)) (cell_carry a0 (Carries.of 0 hba))
  have a1 := hmk.cell (Or.inl (by simp; omega)) (cell_carry a1 (Carries.of 0 hba))
  have b0 := hmk.cell (Or.inl (by simp; omega)) (cell_carry b0 (Carries.of 0 hba))
  have b1 := hmk.cell (Or.inl (by simp; omega)) (cell_carry b1 (Carries.of 0 hba))
  have g0 := hmk.cell (Or.inr (by simp; omega)) (cell_carry g0 (Carries.of 0 hba))
  have g1 := hmk.cell (Or.inr (by simp; omega)) (cell_carry g1 (Carries.of 0 hba))
  have HWE := Lib.hid ((HWD.out.keep (Carries.of _ hba)).marks hmk (by omega))
  have HHE := Lib.hid hheld
  clear hba hmk ha hwD HWD HGD hheld
  have hTr := totTo_le HSR.out RN.ts.length (Nat.le_refl _)
  generalize hTT : totTo RN.ts RN.ts.length = TT at hTr
  have HTT := Lib.hid hTT; clear hTT
  go_wp2_with fail
  refine (heldNet_any rp _ RN.ts 1 _ 0 HHE.out HSR.out (by omega) (by omega)).mono ?_
  rintro e wF ⟨rfl, hb⟩
  rw [HTT.out]
  have hwF : Below w.heap.size w wF := hwE.trans (hb.mono hwE.size)
  have a0 := cell_carry a0 (Carries.of 0 hb)
  have a1 := cell_carry a1 (Carries.of 0 hb)
  have b0 := cell_carry b0 (Carries.of 0 hb)
  have b1 := cell_carry b1 (Carries.of 0 hb)
  have g0 := cell_carry g0 (Carries.of 0 hb)
  have g1 := cell_carry g1 (Carries.of 0 hb)
  have zF := hb.size
  have HWF := Lib.hid (HWE.out.keep (Carries.of _ hb))
  have HHF := Lib.hid (HHE.out.keep (Carries.of _ hb))
  clear hb hwE HWE HHE
  have hq : ((1 : Int) + (TT : Int) != 1 + (TT : Int)) = false := by simp
  have hq2 : decide ((1 : Int) + (TT : Int) < 0) = false := by rw [decide_eq_false_iff_not]; omega
  go_wp2_with fail
  refine (toNet_any _ n _ lo (HV.out.keep (Carries.of lo hwF)) HS.out).mono ?_
  rintro e wG ⟨vG, rfl, hnG, hb⟩
  have hwG : Below w.heap.size w wG := hwF.trans (hb.mono hwF.size)
  have a0 := cell_carry a0 (Carries.of 0 hb)
  have a1 := cell_carry a1 (Carries.of 0 hb)
  have b0 := cell_carry b0 (Carries.of 0 hb)
  have b1 := cell_carry b1 (Carries.of 0 hb)
  have g0 := cell_carry g0 (Carries.of 0 hb)
  have g1 := cell_carry g1 (Carries.of 0 hb)
  have zG := hb.size
  have HWG := Lib.hid (HWF.out.keep (Carries.of _ hb))
  have HHG := Lib.hid (HHF.out.keep (Carries.of _ hb))
  have HN := Lib.hid hnG
  clear hb hwF HWF HHF hnG
  go_wp2_with fail
  refine (ReverseNet_any _ n _ _ HN.out HS.out).mono ?_
  rintro e wH ⟨uh, rfl, ⟨ch, hch0, hch1, hseph⟩, hb⟩
  rw [← HR.out.1] at hseph ⊢
  rw [← HR.out.2, ← HRP.out]
  obtain ⟨ah, kh, rfl⟩ := hseph.form
  rw [← HRM.out] at hseph ⊢
  have hwH : Below w.heap.size w wH := hwG.trans (hb.mono hwG.size)
  have a0 := cell_carry a0 (Carries.of 0 hb)
  have a1 := cell_carry a1 (Carries.of 0 hb)
  have b0 := cell_carry b0 (Carries.of 0 hb)
  have b1 := cell_carry b1 (Carries.of 0 hb)
  have g0 := cell_carry g0 (Carries.of 0 hb)
  have g1 := cell_carry g1 (Carries.of 0 hb)
  have zH := hb.size
  have HWH := Lib.hid (HWG.out.keep (Carries.of _ hb))
  have HHH := Lib.hid (HHG.out.keep (Carries.of _ hb))
  have HSH := Lib.hid hseph.at
  clear hb hwG HWG HHG hseph hch0 hch1 HN
  have hal : Below wH.heap.size wH (wH.alloc (.cells #[.int .i64 rp, .slice ah rm kh] 29)) := (Below.refl _ _).alloc (Nat.le_refl _) _
  have b0' := cell_carry b0 (Carries.of 0 hal)
  have b1' := cell_carry b1 (Carries.of 0 hal)
  have g0' := cell_carry g0 (Carries.of 0 hal)
  have g1' := cell_carry g1 (Carries.of 0 hal)
  go_wp2_with fail
  have y0 : (wH.alloc (.cells #[.int .i64 rp, .slice ah rm kh] 29)).cell? ⟨wH.heap.size, 0, none⟩ = some (.int .i64 rp) := by simp
  clear b0 b1 g0 g1 a0 a1 y0
  generalize wH.alloc (.cells #[.int .i64 rp, .slice ah rm kh] 29) = wI at hal b0' b1' g0' g1' ⊢
  have b0 := b0'
  have b1 := b1'
  have g0 := g0'
  have g1 := g1'
  clear b0' b1' g0' g1'
  have hwI : Below w.heap.size w wI := hwH.trans (hal.mono hwH.size)
  have HWI := Lib.hid (HWH.out.keep (Carries.of _ hal))
  have HHI := Lib.hid (HHH.out.keep (Carries.of _ hal))
  have HSI := Lib.hid (HSH.out.keep (Carries.of _ hal))
  clear hal hwH HWH HHH HSH
  refine (eqNet_any _ _ RN RN _ _ _ (HNET.out _ _ _ _ HSI.out) (HNET.out _ _ _ _ HWI.out.at) HSR.out HSR.out).mono ?_
  rintro e wJ ⟨rfl, hb⟩
  rw [selfNet]
  have hwJ : Below w.heap.size w wJ := hwI.trans (hb.mono hwI.size)
  have g0 := cell_carry g0 (Carries.of 0 hb)
  have g1 := cell_carry g1 (Carries.of 0 hb)
  have HHJ := Lib.hid (HHI.out.keep (Carries.of _ hb))
  clear hb hwI b0 b1
  go_wp2_with fail
  refine (heldNet_any rp _ RN.ts 1 _ 0 HHJ.out HSR.out (by omega) (by omega)).mono ?_
  rintro e wK ⟨rfl, hb⟩
  rw [HTT.out]
  have hwK : Below w.heap.size w wK := hwJ.trans (hb.mono hwJ.size)
  go_wp2_with fail
  go_ret
  exact ⟨rfl, hwK⟩

end Go.Proofs.Ytlakcjcmbhkcdaa
