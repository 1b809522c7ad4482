/-
  WALK of the law FnExactRemovePlace.
-/
import Derived.Test.YtkkfglolameogaaRem
import Derived.Test.YtkkfglolameogaaRems
import Derived.Test.YtkkfglolameogaaStgn
import Derived.Deep.RegionHeld3
namespace Go.Proofs.Ytkkfglolameogaa
open Go.RowKit


set_option maxRecDepth 100000 in
set_option maxHeartbeats 8000000 in
theorem lawRemovePlace_any (v : Value) (s : StgD) (pl : Int) (w : World) (lo : Nat) (hv : StgAt lo w v s) (hok : OkStg s) (hpl_a : -9223372036854775808 ≤ pl) (hpl_b : pl ≤ 9223372036854775807) :
    Calls Try.prog 7 #[v, .int .i64 pl] w (RetB w true) := by
  obtain ⟨a0, c0, a1, c1, a2, c2, rfl, hn_, hsg_, hl_⟩ := hv.form
  clear hn_ hsg_ hl_
  have HV := Lib.hid hv; clear hv
  have HO := Lib.hid hok; clear hok
  have hsmR : SmallStg s → SmallStg (remR s pl) := remR_small
  obtain ⟨RN, hRN⟩ : ∃ RN, RN = (remR s pl) := ⟨_, rfl⟩
  obtain ⟨BB, hBB⟩ : ∃ BB, BB = (remB s pl) := ⟨_, rfl⟩
  rw [← hRN] at hsmR
  have HR := Lib.hid (And.intro hRN hBB); clear hRN hBB
  have HSM := Lib.hid hsmR; clear hsmR
  obtain ⟨p, hp⟩ : ∃ x, x = s.net.places := ⟨_, rfl⟩
  obtain ⟨m, hm⟩ : ∃ x, x = s.net.ts.length := ⟨_, rfl⟩
  obtain ⟨ns, hns⟩ : ∃ x, x = s.sigs.length := ⟨_, rfl⟩
  obtain ⟨nl, hnl⟩ : ∃ x, x = s.labs.length := ⟨_, rfl⟩
  obtain ⟨st, hst⟩ : ∃ x, x = s.start := ⟨_, rfl⟩
  rw [← hp, ← hm, ← hns, ← hnl, ← hst] at HV ⊢
  have HP := Lib.hid (And.intro hp (And.intro hm (And.intro hns (And.intro hnl hst)))); clear hp hm hns hnl hst
  obtain ⟨rp, hrp⟩ : ∃ x, x = RN.net.places := ⟨_, rfl⟩
  obtain ⟨rm, hrm⟩ : ∃ x, x = RN.net.ts.length := ⟨_, rfl⟩
  obtain ⟨rns, hrns⟩ : ∃ x, x = RN.sigs.length := ⟨_, rfl⟩
  obtain ⟨rnl, hrnl⟩ : ∃ x, x = RN.labs.length := ⟨_, rfl⟩
  obtain ⟨rst, hrst⟩ : ∃ x, x = RN.start := ⟨_, rfl⟩
  have HQ := Lib.hid (And.intro hrp (And.intro hrm (And.intro hrns (And.intro hrnl hrst)))); clear hrp hrm hrns hrnl hrst
  go_enter Try.func7, Try.ntmps7
  go_wp2_with fail
  refine (szSTG_any _ s _ _ lo (HV.out.keep ?_) (by omega) (by omega) HO.out).mono ?_
  · (repeat' (first | (with_reducible exact Carries.refl _ _) | (with_reducible assumption) | (with_reducible refine Carries.alloc ?_ _) | (with_reducible refine Carries.drew ?_) | (with_reducible refine Carries.drewN ?_ _) | (with_reducible refine Carries.set ?_ ?_ _) | go_size))
  rintro e w1 ⟨r, rfl, hr, hb⟩
  have hw1 : Below w.heap.size w w1 := by
    refine Below.trans ?_ (hb.mono ?_)
    · (repeat' (first | (with_reducible exact Below.refl _ _) | (with_reducible assumption) | (with_reducible refine Below.alloc ?_ ?_ _) | (with_reducible refine Below.drew ?_) | (with_reducible refine below_drewN ?_ _) | (with_reducible refine Below.setCell ?_ ?_ _) | go_size))
    · simp
  have a_0 : w1.cell? ⟨w.heap.size, 0, none⟩ = some (.int .i64 p) := cell_carry (by simp) (Carries.of 0 hb)
  have a_1 : w1.cell? ⟨w.heap.size, 1, none⟩ = some (.slice a0 m c0) := cell_carry (by simp) (Carries.of 0 hb)
  have a_2 : w1.cell? ⟨w.heap.size, 2, none⟩ = some (.slice a1 ns c1) := cell_carry (by simp) (Carries.of 0 hb)
  have a_3 : w1.cell? ⟨w.heap.size, 3, none⟩ = some (.slice a2 nl c2) := cell_carry (by simp) (Carries.of 0 hb)
  have a_4 : w1.cell? ⟨w.heap.size, 4, none⟩ = some (.string st) := cell_carry (by simp) (Carries.of 0 hb)
  have z1 : w.heap.size < w1.heap.size := by have := hb.size; simp at this; omega
  clear hb
  rcases hr with rfl | ⟨hr0, _, hsm⟩
  · go_wp2_with fail
    go_ret
    exact ⟨rfl, hw1⟩
  have HSR := Lib.hid (HSM.out hsm); clear HSM
  have HS := Lib.hid hsm; clear hsm
  go_wp2_with fail
  refine (toSTG_any _ s _ lo (HV.out.keep (Carries.of lo hw1)) HS.out).mono ?_
  rintro e w2 ⟨v2, rfl, hn2, hb⟩
  have hw2 : Below w.heap.size w w2 := hw1.trans (hb.mono (by omega))
  have a_0 := cell_carry a_0 (Carries.of 0 hb)
  have a_1 := cell_carry a_1 (Carries.of 0 hb)
  have a_2 := cell_carry a_2 (Carries.of 0 hb)
  have a_3 := cell_carry a_3 (Carries.of 0 hb)
  have a_4 := cell_carry a_4 (Carries.of 0 hb)
  have z2 : w.heap.size < w2.heap.size := by have := hb.size; omega
  clear hb
  have H2 := Lib.hid hn2; clear hn2
  go_wp2_with fail
  refine (specRemovePlace_any _ s pl _ _ H2.out HS.out).mono ?_
  rintro e w3 ⟨vw, rfl, hiw, hb⟩
  rw [← HR.out.1] at hiw
  rw [← HR.out.2]
  obtain ⟨wa0, wc0, wa1, wc1, wa2, wc2, rfl, q1_, q2_, q3_⟩ := hiw.form
  clear q1_ q2_ q3_
  rw [← HQ.out.1, ← HQ.out.2.1, ← HQ.out.2.2.1, ← HQ.out.2.2.2.1, ← HQ.out.2.2.2.2] at hiw ⊢
  have hw3 : Below w.heap.size w w3 := hw2.trans (hb.mono hw2.size)
  have a_0 := cell_carry a_0 (Carries.of 0 hb)
  have a_1 := cell_carry a_1 (Carries.of 0 hb)
  have a_2 := cell_carry a_2 (Carries.of 0 hb)
  have a_3 := cell_carry a_3 (Carries.of 0 hb)
  have a_4 := cell_carry a_4 (Carries.of 0 hb)
  have z3 : w.heap.size < w3.heap.size := by have := hb.size; omega
  have HW3 := Lib.hid (hiw.low (Nat.zero_le _)); clear hiw hb H2
  have hal : Below w3.heap.size w3 (w3.alloc (.cells #[.int .i64 rp, .slice wa0 rm wc0, .slice wa1 rns wc1, .slice wa2 rnl wc2, .string rst] 36)) := (Below.refl _ _).alloc (Nat.le_refl _) _
  have a_0' := cell_carry a_0 (Carries.of 0 hal)
  have a_1' := cell_carry a_1 (Carries.of 0 hal)
  have a_2' := cell_carry a_2 (Carries.of 0 hal)
  have a_3' := cell_carry a_3 (Carries.of 0 hal)
  have a_4' := cell_carry a_4 (Carries.of 0 hal)
  go_wp2_with fail
  have b_0 : (w3.alloc (.cells #[.int .i64 rp, .slice wa0 rm wc0, .slice wa1 rns wc1, .slice wa2 rnl wc2, .string rst] 36)).cell? ⟨w3.heap.size, 0, none⟩ = some (.int .i64 rp) := by simp
  have b_1 : (w3.alloc (.cells #[.int .i64 rp, .slice wa0 rm wc0, .slice wa1 rns wc1, .slice wa2 rnl wc2, .string rst] 36)).cell? ⟨w3.heap.size, 1, none⟩ = some (.slice wa0 rm wc0) := by simp
  have b_2 : (w3.alloc (.cells #[.int .i64 rp, .slice wa0 rm wc0, .slice wa1 rns wc1, .slice wa2 rnl wc2, .string rst] 36)).cell? ⟨w3.heap.size, 2, none⟩ = some (.slice wa1 rns wc1) := by simp
  have b_3 : (w3.alloc (.cells #[.int .i64 rp, .slice wa0 rm wc0, .slice wa1 rns wc1, .slice wa2 rnl wc2, .string rst] 36)).cell? ⟨w3.heap.size, 3, none⟩ = some (.slice wa2 rnl wc2) := by simp
  have b_4 : (w3.alloc (.cells #[.int .i64 rp, .slice wa0 rm wc0, .slice wa1 rns wc1, .slice wa2 rnl wc2, .string rst] 36)).cell? ⟨w3.heap.size, 4, none⟩ = some (.string rst) := by simp
  have zwA : w3.heap.size < (w3.alloc (.cells #[.int .i64 rp, .slice wa0 rm wc0, .slice wa1 rns wc1, .slice wa2 rnl wc2, .string rst] 36)).heap.size := by simp
  clear a_0 a_1 a_2 a_3 a_4
  generalize w3.alloc (.cells #[.int .i64 rp, .slice wa0 rm wc0, .slice wa1 rns wc1, .slice wa2 rnl wc2, .string rst] 36) = wA at hal a_0' a_1' a_2' a_3' a_4' b_0 b_1 b_2 b_3 b_4 zwA ⊢
  have a_0 := a_0'
  have a_1 := a_1'
  have a_2 := a_2'
  have a_3 := a_3'
  have a_4 := a_4'
  clear a_0' a_1' a_2' a_3' a_4'
  have hwA : Below w.heap.size w wA := hw3.trans (hal.mono hw3.size)
  have HW := Lib.hid (HW3.out.keep (Carries.of _ hal)); clear HW3 hal
  have zA0 : w.heap.size ≤ wA.heap.size := hwA.size
  refine (toSTG_ow _ s _ lo (HV.out.keep (Carries.of lo hwA)) HS.out).mono ?_
  rintro e w4 ⟨v4, rfl, how, hb⟩
  have hat4 : StgAt wA.heap.size w4 v4 s := by obtain ⟨_, _, _, _, _, _, _, _, _, _, _, _, _, _, _, h⟩ := how; exact h
  obtain ⟨x0, d0, x1, d1, x2, d2, rfl, hn_, hsg_, hl_⟩ := hat4.form
  clear hn_ hsg_ hl_
  rw [← HP.out.1, ← HP.out.2.1, ← HP.out.2.2.1, ← HP.out.2.2.2.1, ← HP.out.2.2.2.2] at how hat4 ⊢
  have hw4 : Below w.heap.size w w4 := hwA.trans (hb.mono hwA.size)
  have hk4 : Below wA.heap.size wA w4 := hb
  have a_0 := cell_carry a_0 (Carries.of 0 hb)
  have a_1 := cell_carry a_1 (Carries.of 0 hb)
  have a_2 := cell_carry a_2 (Carries.of 0 hb)
  have a_3 := cell_carry a_3 (Carries.of 0 hb)
  have a_4 := cell_carry a_4 (Carries.of 0 hb)
  have b_0 := cell_carry b_0 (Carries.of 0 hb)
  have b_1 := cell_carry b_1 (Carries.of 0 hb)
  have b_2 := cell_carry b_2 (Carries.of 0 hb)
  have b_3 := cell_carry b_3 (Carries.of 0 hb)
  have b_4 := cell_carry b_4 (Carries.of 0 hb)
  have z4 : wA.heap.size ≤ w4.heap.size := hb.size
  clear hb
  have HOW := Lib.hid how; clear how
  have HA4 := Lib.hid hat4; clear hat4
  have hal : Below w4.heap.size w4 (w4.alloc (.cells #[.int .i64 p, .slice x0 m d0, .slice x1 ns d1, .slice x2 nl d2, .string st] 36)) := (Below.refl _ _).alloc (Nat.le_refl _) _
  have a_0' := cell_carry a_0 (Carries.of 0 hal)
  have a_1' := cell_carry a_1 (Carries.of 0 hal)
  have a_2' := cell_carry a_2 (Carries.of 0 hal)
  have a_3' := cell_carry a_3 (Carries.of 0 hal)
  have a_4' := cell_carry a_4 (Carries.of 0 hal)
  have b_0' := cell_carry b_0 (Carries.of 0 hal)
  have b_1' := cell_carry b_1 (Carries.of 0 hal)
  have b_2' := cell_carry b_2 (Carries.of 0 hal)
  have b_3' := cell_carry b_3 (Carries.of 0 hal)
  have b_4' := cell_carry b_4 (Carries.of 0 hal)
  go_wp2_with fail
  have x_0 : (w4.alloc (.cells #[.int .i64 p, .slice x0 m d0, .slice x1 ns d1, .slice x2 nl d2, .string st] 36)).cell? ⟨w4.heap.size, 0, none⟩ = some (.int .i64 p) := by simp
  have x_1 : (w4.alloc (.cells #[.int .i64 p, .slice x0 m d0, .slice x1 ns d1, .slice x2 nl d2, .string st] 36)).cell? ⟨w4.heap.size, 1, none⟩ = some (.slice x0 m d0) := by simp
  have x_2 : (w4.alloc (.cells #[.int .i64 p, .slice x0 m d0, .slice x1 ns d1, .slice x2 nl d2, .string st] 36)).cell? ⟨w4.heap.size, 2, none⟩ = some (.slice x1 ns d1) := by simp
  have x_3 : (w4.alloc (.cells #[.int .i64 p, .slice x0 m d0, .slice x1 ns d1, .slice x2 nl d2, .string st] 36)).cell? ⟨w4.heap.size, 3, none⟩ = some (.slice x2 nl d2) := by simp
  have x_4 : (w4.alloc (.cells #[.int .i64 p, .slice x0 m d0, .slice x1 ns d1, .slice x2 nl d2, .string st] 36)).cell? ⟨w4.heap.size, 4, none⟩ = some (.string st) := by simp
  have zwB : w4.heap.size < (w4.alloc (.cells #[.int .i64 p, .slice x0 m d0, .slice x1 ns d1, .slice x2 nl d2, .string st] 36)).heap.size := by simp
  clear a_0 a_1 a_2 a_3 a_4 b_0 b_1 b_2 b_3 b_4
  generalize w4.alloc (.cells #[.int .i64 p, .slice x0 m d0, .slice x1 ns d1, .slice x2 nl d2, .string st] 36) = wB at hal a_0' a_1' a_2' a_3' a_4' b_0' b_1' b_2' b_3' b_4' x_0 x_1 x_2 x_3 x_4 zwB ⊢
  have a_0 := a_0'
  have a_1 := a_1'
  have a_2 := a_2'
  have a_3 := a_3'
  have a_4 := a_4'
  have b_0 := b_0'
  have b_1 := b_1'
  have b_2 := b_2'
  have b_3 := b_3'
  have b_4 := b_4'
  clear a_0' a_1' a_2' a_3' a_4' b_0' b_1' b_2' b_3' b_4'
  have hwB : Below w.heap.size w wB := hw4.trans (hal.mono hw4.size)
  have hkB : Below wA.heap.size wA wB := hk4.trans (hal.mono hk4.size)
  have S4 := Lib.hid (Same.of wA.heap.size hal)
  have HA5 := Lib.hid (HA4.out.keep (Carries.of _ hal)); clear hal HA4
  refine (RemovePlace_any _ s pl _ _ HA5.out HS.out).mono ?_
  rintro e w5 ⟨vg, rfl, hig, hb⟩
  rw [← HR.out.1] at hig
  rw [← HR.out.2]
  obtain ⟨ga0, gc0, ga1, gc1, ga2, gc2, rfl, q1_, q2_, q3_⟩ := hig.at.form
  clear q1_ q2_ q3_
  rw [← HQ.out.1, ← HQ.out.2.1, ← HQ.out.2.2.1, ← HQ.out.2.2.2.1, ← HQ.out.2.2.2.2] at hig ⊢
  have hw5 : Below w.heap.size w w5 := hwB.trans (hb.mono hwB.size)
  have hk5 : Below wA.heap.size wA w5 := hkB.trans (hb.mono hkB.size)
  have a_0 := cell_carry a_0 (Carries.of 0 hb)
  have a_1 := cell_carry a_1 (Carries.of 0 hb)
  have a_2 := cell_carry a_2 (Carries.of 0 hb)
  have a_3 := cell_carry a_3 (Carries.of 0 hb)
  have a_4 := cell_carry a_4 (Carries.of 0 hb)
  have b_0 := cell_carry b_0 (Carries.of 0 hb)
  have b_1 := cell_carry b_1 (Carries.of 0 hb)
  have b_2 := cell_carry b_2 (Carries.of 0 hb)
  have b_3 := cell_carry b_3 (Carries.of 0 hb)
  have b_4 := cell_carry b_4 (Carries.of 0 hb)
  have x_0 := cell_carry x_0 (Carries.of 0 hb)
  have x_1 := cell_carry x_1 (Carries.of 0 hb)
  have x_2 := cell_carry x_2 (Carries.of 0 hb)
  have x_3 := cell_carry x_3 (Carries.of 0 hb)
  have x_4 := cell_carry x_4 (Carries.of 0 hb)
  have z5 : wB.heap.size ≤ w5.heap.size := hb.size
  have S5 := Lib.hid (S4.out.trans (Same.of _ hb)); clear S4
  have HA6 := Lib.hid (HA5.out.keep (Carries.of _ hb)); clear HA5 hb
  have HG5 := Lib.hid hig; clear hig
  have hal : Below w5.heap.size w5 (w5.alloc (.cells #[.int .i64 rp, .slice ga0 rm gc0, .slice ga1 rns gc1, .slice ga2 rnl gc2, .string rst] 36)) := (Below.refl _ _).alloc (Nat.le_refl _) _
  have a_0' := cell_carry a_0 (Carries.of 0 hal)
  have a_1' := cell_carry a_1 (Carries.of 0 hal)
  have a_2' := cell_carry a_2 (Carries.of 0 hal)
  have a_3' := cell_carry a_3 (Carries.of 0 hal)
  have a_4' := cell_carry a_4 (Carries.of 0 hal)
  have b_0' := cell_carry b_0 (Carries.of 0 hal)
  have b_1' := cell_carry b_1 (Carries.of 0 hal)
  have b_2' := cell_carry b_2 (Carries.of 0 hal)
  have b_3' := cell_carry b_3 (Carries.of 0 hal)
  have b_4' := cell_carry b_4 (Carries.of 0 hal)
  have x_0' := cell_carry x_0 (Carries.of 0 hal)
  have x_1' := cell_carry x_1 (Carries.of 0 hal)
  have x_2' := cell_carry x_2 (Carries.of 0 hal)
  have x_3' := cell_carry x_3 (Carries.of 0 hal)
  have x_4' := cell_carry x_4 (Carries.of 0 hal)
  go_wp2_with fail
  have g_0 : (w5.alloc (.cells #[.int .i64 rp, .slice ga0 rm gc0, .slice ga1 rns gc1, .slice ga2 rnl gc2, .string rst] 36)).cell? ⟨w5.heap.size, 0, none⟩ = some (.int .i64 rp) := by simp
  have g_1 : (w5.alloc (.cells #[.int .i64 rp, .slice ga0 rm gc0, .slice ga1 rns gc1, .slice ga2 rnl gc2, .string rst] 36)).cell? ⟨w5.heap.size, 1, none⟩ = some (.slice ga0 rm gc0) := by simp
  have g_2 : (w5.alloc (.cells #[.int .i64 rp, .slice ga0 rm gc0, .slice ga1 rns gc1, .slice ga2 rnl gc2, .string rst] 36)).cell? ⟨w5.heap.size, 2, none⟩ = some (.slice ga1 rns gc1) := by simp
  have g_3 : (w5.alloc (.cells #[.int .i64 rp, .slice ga0 rm gc0, .slice ga1 rns gc1, .slice ga2 rnl gc2, .string rst] 36)).cell? ⟨w5.heap.size, 3, none⟩ = some (.slice ga2 rnl gc2) := by simp
  have g_4 : (w5.alloc (.cells #[.int .i64 rp, .slice ga0 rm gc0, .slice ga1 rns gc1, .slice ga2 rnl gc2, .string rst] 36)).cell? ⟨w5.heap.size, 4, none⟩ = some (.string rst) := by simp
  have zwC : w5.heap.size < (w5.alloc (.cells #[.int .i64 rp, .slice ga0 rm gc0, .slice ga1 rns gc1, .slice ga2 rnl gc2, .string rst] 36)).heap.size := by simp
  clear a_0 a_1 a_2 a_3 a_4 b_0 b_1 b_2 b_3 b_4 x_0 x_1 x_2 x_3 x_4
  generalize w5.alloc (.cells #[.int .i64 rp, .slice ga0 rm gc0, .slice ga1 rns gc1, .slice ga2 rnl gc2, .string rst] 36) = wC at hal a_0' a_1' a_2' a_3' a_4' b_0' b_1' b_2' b_3' b_4' x_0' x_1' x_2' x_3' x_4' g_0 g_1 g_2 g_3 g_4 zwC ⊢
  have a_0 := a_0'
  have a_1 := a_1'
  have a_2 := a_2'
  have a_3 := a_3'
  have a_4 := a_4'
  have b_0 := b_0'
  have b_1 := b_1'
  have b_2 := b_2'
  have b_3 := b_3'
  have b_4 := b_4'
  have x_0 := x_0'
  have x_1 := x_1'
  have x_2 := x_2'
  have x_3 := x_3'
  have x_4 := x_4'
  clear a_0' a_1' a_2' a_3' a_4' b_0' b_1' b_2' b_3' b_4' x_0' x_1' x_2' x_3' x_4'
  have hwC : Below w.heap.size w wC := hw5.trans (hal.mono hw5.size)
  have hkC : Below wA.heap.size wA wC := hk5.trans (hal.mono hk5.size)
  have S6 := Lib.hid (S5.out.trans (Same.of _ hal)); clear S5
  have HA7 := Lib.hid (HA6.out.keep (Carries.of _ hal)); clear HA6
  have HG6 := Lib.hid (HG5.out.keep (Same.of _ hal)); clear HG5 hal
  refine (eqSTG_any _ _ RN RN _ _ _ HG6.out.at (HW.out.keep (Carries.of _ hkC)) HSR.out HSR.out).mono ?_
  rintro e w6 ⟨rfl, hb⟩
  rw [eqStgB_self]
  have hbb : (BB != BB) = false := by simp
  have hw6 : Below w.heap.size w w6 := hwC.trans (hb.mono hwC.size)
  have hk6 : Below wA.heap.size wA w6 := hkC.trans (hb.mono hkC.size)
  have a_0 := cell_carry a_0 (Carries.of 0 hb)
  have a_1 := cell_carry a_1 (Carries.of 0 hb)
  have a_2 := cell_carry a_2 (Carries.of 0 hb)
  have a_3 := cell_carry a_3 (Carries.of 0 hb)
  have a_4 := cell_carry a_4 (Carries.of 0 hb)
  have b_0 := cell_carry b_0 (Carries.of 0 hb)
  have b_1 := cell_carry b_1 (Carries.of 0 hb)
  have b_2 := cell_carry b_2 (Carries.of 0 hb)
  have b_3 := cell_carry b_3 (Carries.of 0 hb)
  have b_4 := cell_carry b_4 (Carries.of 0 hb)
  have x_0 := cell_carry x_0 (Carries.of 0 hb)
  have x_1 := cell_carry x_1 (Carries.of 0 hb)
  have x_2 := cell_carry x_2 (Carries.of 0 hb)
  have x_3 := cell_carry x_3 (Carries.of 0 hb)
  have x_4 := cell_carry x_4 (Carries.of 0 hb)
  have g_0 := cell_carry g_0 (Carries.of 0 hb)
  have g_1 := cell_carry g_1 (Carries.of 0 hb)
  have g_2 := cell_carry g_2 (Carries.of 0 hb)
  have g_3 := cell_carry g_3 (Carries.of 0 hb)
  have g_4 := cell_carry g_4 (Carries.of 0 hb)
  have z6 : wC.heap.size ≤ w6.heap.size := hb.size
  have S7 := Lib.hid (S6.out.trans (Same.of _ hb)); clear S6
  have HA8 := Lib.hid (HA7.out.keep (Carries.of _ hb)); clear HA7
  have HG7 := Lib.hid (HG6.out.keep (Same.of _ hb)); clear HG6 hb
  go_wp2_with fail
  go_region_held3 (fun w' => w'.cell? ⟨w.heap.size, 0, none⟩ = some (.int .i64 p) ∧ w'.cell? ⟨w.heap.size, 1, none⟩ = some (.slice a0 m c0) ∧ w'.cell? ⟨w.heap.size, 2, none⟩ = some (.slice a1 ns c1) ∧ w'.cell? ⟨w.heap.size, 3, none⟩ = some (.slice a2 nl c2) ∧ w'.cell? ⟨w.heap.size, 4, none⟩ = some (.string st) ∧ w'.cell? ⟨w4.heap.size, 0, none⟩ = some (.int .i64 p) ∧ w'.cell? ⟨w4.heap.size, 1, none⟩ = some (.slice x0 m d0) ∧ w'.cell? ⟨w4.heap.size, 2, none⟩ = some (.slice x1 ns d1) ∧ w'.cell? ⟨w4.heap.size, 3, none⟩ = some (.slice x2 nl d2) ∧ w'.cell? ⟨w4.heap.size, 4, none⟩ = some (.string st))
    (first
      | exact ⟨a_0, a_1, a_2, a_3, a_4, x_0, x_1, x_2, x_3, x_4⟩
      | exact ⟨cell_carry (w := w6.drew) a_0 (Carries.of 0 hb7), cell_carry (w := w6.drew) a_1 (Carries.of 0 hb7), cell_carry (w := w6.drew) a_2 (Carries.of 0 hb7), cell_carry (w := w6.drew) a_3 (Carries.of 0 hb7), cell_carry (w := w6.drew) a_4 (Carries.of 0 hb7), cell_carry (w := w6.drew) x_0 (Carries.of 0 hb7), cell_carry (w := w6.drew) x_1 (Carries.of 0 hb7), cell_carry (w := w6.drew) x_2 (Carries.of 0 hb7), cell_carry (w := w6.drew) x_3 (Carries.of 0 hb7), cell_carry (w := w6.drew) x_4 (Carries.of 0 hb7)⟩
      | exact ⟨cell_carry (cell_carry (w := w6.drew) a_0 (Carries.of 0 hb7)) (Carries.of 0 hb8), cell_carry (cell_carry (w := w6.drew) a_1 (Carries.of 0 hb7)) (Carries.of 0 hb8), cell_carry (cell_carry (w := w6.drew) a_2 (Carries.of 0 hb7)) (Carries.of 0 hb8), cell_carry (cell_carry (w := w6.drew) a_3 (Carries.of 0 hb7)) (Carries.of 0 hb8), cell_carry (cell_carry (w := w6.drew) a_4 (Carries.of 0 hb7)) (Carries.of 0 hb8), cell_carry (cell_carry (w := w6.drew) x_0 (Carries.of 0 hb7)) (Carries.of 0 hb8), cell_carry (cell_carry (w := w6.drew) x_1 (Carries.of 0 hb7)) (Carries.of 0 hb8), cell_carry (cell_carry (w := w6.drew) x_2 (Carries.of 0 hb7)) (Carries.of 0 hb8), cell_carry (cell_carry (w := w6.drew) x_3 (Carries.of 0 hb7)) (Carries.of 0 hb8), cell_carry (cell_carry (w := w6.drew) x_4 (Carries.of 0 hb7)) (Carries.of 0 hb8)⟩)
    (first
      | (go_at_call 13; refine (toSTG_any _ s w6.drew lo (HV.out.keep (Carries.of lo hw6.drew)) HS.out).mono ?_; rintro e w7 ⟨v7, rfl, hn7, hb7⟩)
      | (go_at_call 15; refine (eqSTG_any _ _ s s _ _ _ (HA8.out.keep (Carries.of (w := w6.drew) _ hb7)) hn7 HS.out HS.out).mono ?_; rintro e w8 ⟨rfl, hb8⟩; rw [eqStgB_self]))
  have hb78 : Below w6.heap.size w6 w8 := (Below.trans (b := w6.drew) (Below.refl _ _).drew (Below.trans (hb7.mono (by simp)) (hb8.mono (by have := hb7.size; simp at this; omega))))
  clear hb7 hb8 hn7
  have hw8 : Below w.heap.size w w8 := hw6.trans (hb78.mono hw6.size)
  have hk8 : Below wA.heap.size wA w8 := hk6.trans (hb78.mono hk6.size)
  have a_0 := cell_carry a_0 (Carries.of 0 hb78)
  have a_1 := cell_carry a_1 (Carries.of 0 hb78)
  have a_2 := cell_carry a_2 (Carries.of 0 hb78)
  have a_3 := cell_carry a_3 (Carries.of 0 hb78)
  have a_4 := cell_carry a_4 (Carries.of 0 hb78)
  have b_0 := cell_carry b_0 (Carries.of 0 hb78)
  have b_1 := cell_carry b_1 (Carries.of 0 hb78)
  have b_2 := cell_carry b_2 (Carries.of 0 hb78)
  have b_3 := cell_carry b_3 (Carries.of 0 hb78)
  have b_4 := cell_carry b_4 (Carries.of 0 hb78)
  have x_0 := cell_carry x_0 (Carries.of 0 hb78)
  have x_1 := cell_carry x_1 (Carries.of 0 hb78)
  have x_2 := cell_carry x_2 (Carries.of 0 hb78)
  have x_3 := cell_carry x_3 (Carries.of 0 hb78)
  have x_4 := cell_carry x_4 (Carries.of 0 hb78)
  have g_0 := cell_carry g_0 (Carries.of 0 hb78)
  have g_1 := cell_carry g_1 (Carries.of 0 hb78)
  have g_2 := cell_carry g_2 (Carries.of 0 hb78)
  have g_3 := cell_carry g_3 (Carries.of 0 hb78)
  have g_4 := cell_carry g_4 (Carries.of 0 hb78)
  have z8 : w6.heap.size ≤ w8.heap.size := hb78.size
  have S8 := Lib.hid (S7.out.trans (Same.of _ hb78)); clear S7
  have HG8 := Lib.hid (HG7.out.keep (Same.of _ hb78)); clear HG7 hb78 HA8
  go_wp2_with fail
  refine (markSTG_any _ s w4 w8 wA.heap.size HOW.out S8.out HS.out).mono ?_
  rintro e w9 ⟨T, rfl, hT0, hst⟩
  have hw9 : Below w.heap.size w w9 := hst.below hw8 zA0 (by omega)
  have hk9 : Below wA.heap.size wA w9 := hst.below hk8 (Nat.le_refl _) (by omega)
  have z9 : w8.heap.size ≤ w9.heap.size := hst.size
  have a_0 := hst.cell (Or.inl (by show w.heap.size < wA.heap.size; omega)) a_0
  have a_1 := hst.cell (Or.inl (by show w.heap.size < wA.heap.size; omega)) a_1
  have a_2 := hst.cell (Or.inl (by show w.heap.size < wA.heap.size; omega)) a_2
  have a_3 := hst.cell (Or.inl (by show w.heap.size < wA.heap.size; omega)) a_3
  have a_4 := hst.cell (Or.inl (by show w.heap.size < wA.heap.size; omega)) a_4
  have b_0 := hst.cell (Or.inl (by show w3.heap.size < wA.heap.size; omega)) b_0
  have b_1 := hst.cell (Or.inl (by show w3.heap.size < wA.heap.size; omega)) b_1
  have b_2 := hst.cell (Or.inl (by show w3.heap.size < wA.heap.size; omega)) b_2
  have b_3 := hst.cell (Or.inl (by show w3.heap.size < wA.heap.size; omega)) b_3
  have b_4 := hst.cell (Or.inl (by show w3.heap.size < wA.heap.size; omega)) b_4
  have g_0 := hst.cell (Or.inr (by show w4.heap.size ≤ w5.heap.size; omega)) g_0
  have g_1 := hst.cell (Or.inr (by show w4.heap.size ≤ w5.heap.size; omega)) g_1
  have g_2 := hst.cell (Or.inr (by show w4.heap.size ≤ w5.heap.size; omega)) g_2
  have g_3 := hst.cell (Or.inr (by show w4.heap.size ≤ w5.heap.size; omega)) g_3
  have g_4 := hst.cell (Or.inr (by show w4.heap.size ≤ w5.heap.size; omega)) g_4
  have HG9 := Lib.hid (HG8.out.keep (hst.sameOf (by omega))); clear HG8 hst S8 HOW x_0 x_1 x_2 x_3 x_4
  have hT : decide ((T : Int) < 0) = false := by rw [decide_eq_false_iff_not]; omega
  go_wp2_with fail
  refine (eqSTG_any _ _ RN RN _ _ _ HG9.out.at (HW.out.keep (Carries.of _ hk9)) HSR.out HSR.out).mono ?_
  rintro e wD ⟨rfl, hb⟩
  rw [eqStgB_self]
  have hwD : Below w.heap.size w wD := hw9.trans (hb.mono hw9.size)
  have hkD : Below wA.heap.size wA wD := hk9.trans (hb.mono hk9.size)
  have a_0 := cell_carry a_0 (Carries.of 0 hb)
  have a_1 := cell_carry a_1 (Carries.of 0 hb)
  have a_2 := cell_carry a_2 (Carries.of 0 hb)
  have a_3 := cell_carry a_3 (Carries.of 0 hb)
  have a_4 := cell_carry a_4 (Carries.of 0 hb)
  have b_0 := cell_carry b_0 (Carries.of 0 hb)
  have b_1 := cell_carry b_1 (Carries.of 0 hb)
  have b_2 := cell_carry b_2 (Carries.of 0 hb)
  have b_3 := cell_carry b_3 (Carries.of 0 hb)
  have b_4 := cell_carry b_4 (Carries.of 0 hb)
  have g_0 := cell_carry g_0 (Carries.of 0 hb)
  have g_1 := cell_carry g_1 (Carries.of 0 hb)
  have g_2 := cell_carry g_2 (Carries.of 0 hb)
  have g_3 := cell_carry g_3 (Carries.of 0 hb)
  have g_4 := cell_carry g_4 (Carries.of 0 hb)
  have zD : w9.heap.size ≤ wD.heap.size := hb.size
  have HGD := Lib.hid (HG9.out.keep (Same.of _ hb)); clear HG9 hb
  go_wp2_with fail
  refine (markSTG_sep _ RN _ _ _ HGD.out HSR.out).mono ?_
  rintro e wE ⟨rfl, hst, hheld⟩
  have hmk := markK_bounds HSR.out
  have hwE : Below w.heap.size w wE := hst.below hwD (by omega) (by omega)
  have hkE : Below wA.heap.size wA wE := hst.below hkD (by omega) (by omega)
  have zE : wD.heap.size ≤ wE.heap.size := hst.size
  have a_0 := hst.cell (Or.inl (by show w.heap.size < wB.heap.size; omega)) a_0
  have a_1 := hst.cell (Or.inl (by show w.heap.size < wB.heap.size; omega)) a_1
  have a_2 := hst.cell (Or.inl (by show w.heap.size < wB.heap.size; omega)) a_2
  have a_3 := hst.cell (Or.inl (by show w.heap.size < wB.heap.size; omega)) a_3
  have a_4 := hst.cell (Or.inl (by show w.heap.size < wB.heap.size; omega)) a_4
  have b_0 := hst.cell (Or.inl (by show w3.heap.size < wB.heap.size; omega)) b_0
  have b_1 := hst.cell (Or.inl (by show w3.heap.size < wB.heap.size; omega)) b_1
  have b_2 := hst.cell (Or.inl (by show w3.heap.size < wB.heap.size; omega)) b_2
  have b_3 := hst.cell (Or.inl (by show w3.heap.size < wB.heap.size; omega)) b_3
  have b_4 := hst.cell (Or.inl (by show w3.heap.size < wB.heap.size; omega)) b_4
  have g_0 := hst.cell (Or.inr (Nat.le_refl _)) g_0
  have g_1 := hst.cell (Or.inr (Nat.le_refl _)) g_1
  have g_2 := hst.cell (Or.inr (Nat.le_refl _)) g_2
  have g_3 := hst.cell (Or.inr (Nat.le_refl _)) g_3
  have g_4 := hst.cell (Or.inr (Nat.le_refl _)) g_4
  have HHE := Lib.hid hheld; clear hheld hst HGD
  obtain ⟨M, hM⟩ : ∃ M, M = markK3 RN := ⟨_, rfl⟩
  rw [← hM] at hmk ⊢
  have HM := Lib.hid hM; clear hM
  have hq : (M != M) = false := by simp
  have hq2 : decide (M < 0) = false := by rw [decide_eq_false_iff_not]; omega
  go_wp2_with fail
  refine (heldSTG_any _ RN _ HHE.out HSR.out).mono ?_
  rintro e wF ⟨rfl, hb⟩
  rw [← HM.out]
  have hwF : Below w.heap.size w wF := hwE.trans (hb.mono hwE.size)
  have hkF : Below wA.heap.size wA wF := hkE.trans (hb.mono hkE.size)
  have a_0 := cell_carry a_0 (Carries.of 0 hb)
  have a_1 := cell_carry a_1 (Carries.of 0 hb)
  have a_2 := cell_carry a_2 (Carries.of 0 hb)
  have a_3 := cell_carry a_3 (Carries.of 0 hb)
  have a_4 := cell_carry a_4 (Carries.of 0 hb)
  have b_0 := cell_carry b_0 (Carries.of 0 hb)
  have b_1 := cell_carry b_1 (Carries.of 0 hb)
  have b_2 := cell_carry b_2 (Carries.of 0 hb)
  have b_3 := cell_carry b_3 (Carries.of 0 hb)
  have b_4 := cell_carry b_4 (Carries.of 0 hb)
  have g_0 := cell_carry g_0 (Carries.of 0 hb)
  have g_1 := cell_carry g_1 (Carries.of 0 hb)
  have g_2 := cell_carry g_2 (Carries.of 0 hb)
  have g_3 := cell_carry g_3 (Carries.of 0 hb)
  have g_4 := cell_carry g_4 (Carries.of 0 hb)
  have zF : wE.heap.size ≤ wF.heap.size := hb.size
  have HHF := Lib.hid (HHE.out.keep (Carries.of 0 hb)); clear HHE hb
  go_wp2_with fail
  refine (toSTG_any _ s _ lo (HV.out.keep (Carries.of lo hwF)) HS.out).mono ?_
  rintro e wG ⟨vG, rfl, hnG, hb⟩
  have hwG : Below w.heap.size w wG := hwF.trans (hb.mono hwF.size)
  have hkG : Below wA.heap.size wA wG := hkF.trans (hb.mono hkF.size)
  have b_0 := cell_carry b_0 (Carries.of 0 hb)
  have b_1 := cell_carry b_1 (Carries.of 0 hb)
  have b_2 := cell_carry b_2 (Carries.of 0 hb)
  have b_3 := cell_carry b_3 (Carries.of 0 hb)
  have b_4 := cell_carry b_4 (Carries.of 0 hb)
  have g_0 := cell_carry g_0 (Carries.of 0 hb)
  have g_1 := cell_carry g_1 (Carries.of 0 hb)
  have g_2 := cell_carry g_2 (Carries.of 0 hb)
  have g_3 := cell_carry g_3 (Carries.of 0 hb)
  have g_4 := cell_carry g_4 (Carries.of 0 hb)
  have zG : wF.heap.size ≤ wG.heap.size := hb.size
  have HHG := Lib.hid (HHF.out.keep (Carries.of 0 hb)); clear HHF hb
  have HN := Lib.hid hnG; clear hnG a_0 a_1 a_2 a_3 a_4
  go_wp2_with fail
  refine (RemovePlace_any _ s pl _ _ HN.out HS.out).mono ?_
  rintro e wH ⟨vh, rfl, hih, hb⟩
  rw [← HR.out.1] at hih
  rw [← HR.out.2]
  obtain ⟨ha0, hc0, ha1, hc1, ha2, hc2, rfl, q1_, q2_, q3_⟩ := hih.at.form
  clear q1_ q2_ q3_
  rw [← HQ.out.1, ← HQ.out.2.1, ← HQ.out.2.2.1, ← HQ.out.2.2.2.1, ← HQ.out.2.2.2.2] at hih ⊢
  have hwH : Below w.heap.size w wH := hwG.trans (hb.mono hwG.size)
  have hkH : Below wA.heap.size wA wH := hkG.trans (hb.mono hkG.size)
  have b_0 := cell_carry b_0 (Carries.of 0 hb)
  have b_1 := cell_carry b_1 (Carries.of 0 hb)
  have b_2 := cell_carry b_2 (Carries.of 0 hb)
  have b_3 := cell_carry b_3 (Carries.of 0 hb)
  have b_4 := cell_carry b_4 (Carries.of 0 hb)
  have g_0 := cell_carry g_0 (Carries.of 0 hb)
  have g_1 := cell_carry g_1 (Carries.of 0 hb)
  have g_2 := cell_carry g_2 (Carries.of 0 hb)
  have g_3 := cell_carry g_3 (Carries.of 0 hb)
  have g_4 := cell_carry g_4 (Carries.of 0 hb)
  have zH : wG.heap.size ≤ wH.heap.size := hb.size
  have HHH := Lib.hid (HHG.out.keep (Carries.of 0 hb)); clear HHG hb HN
  have HI := Lib.hid (hih.at.low (Nat.zero_le _)); clear hih
  have hal : Below wH.heap.size wH (wH.alloc (.cells #[.int .i64 rp, .slice ha0 rm hc0, .slice ha1 rns hc1, .slice ha2 rnl hc2, .string rst] 36)) := (Below.refl _ _).alloc (Nat.le_refl _) _
  have b_0' := cell_carry b_0 (Carries.of 0 hal)
  have b_1' := cell_carry b_1 (Carries.of 0 hal)
  have b_2' := cell_carry b_2 (Carries.of 0 hal)
  have b_3' := cell_carry b_3 (Carries.of 0 hal)
  have b_4' := cell_carry b_4 (Carries.of 0 hal)
  have g_0' := cell_carry g_0 (Carries.of 0 hal)
  have g_1' := cell_carry g_1 (Carries.of 0 hal)
  have g_2' := cell_carry g_2 (Carries.of 0 hal)
  have g_3' := cell_carry g_3 (Carries.of 0 hal)
  have g_4' := cell_carry g_4 (Carries.of 0 hal)
  go_wp2_with fail
  have h_0 : (wH.alloc (.cells #[.int .i64 rp, .slice ha0 rm hc0, .slice ha1 rns hc1, .slice ha2 rnl hc2, .string rst] 36)).cell? ⟨wH.heap.size, 0, none⟩ = some (.int .i64 rp) := by simp
  have h_1 : (wH.alloc (.cells #[.int .i64 rp, .slice ha0 rm hc0, .slice ha1 rns hc1, .slice ha2 rnl hc2, .string rst] 36)).cell? ⟨wH.heap.size, 1, none⟩ = some (.slice ha0 rm hc0) := by simp
  have h_2 : (wH.alloc (.cells #[.int .i64 rp, .slice ha0 rm hc0, .slice ha1 rns hc1, .slice ha2 rnl hc2, .string rst] 36)).cell? ⟨wH.heap.size, 2, none⟩ = some (.slice ha1 rns hc1) := by simp
  have h_3 : (wH.alloc (.cells #[.int .i64 rp, .slice ha0 rm hc0, .slice ha1 rns hc1, .slice ha2 rnl hc2, .string rst] 36)).cell? ⟨wH.heap.size, 3, none⟩ = some (.slice ha2 rnl hc2) := by simp
  have h_4 : (wH.alloc (.cells #[.int .i64 rp, .slice ha0 rm hc0, .slice ha1 rns hc1, .slice ha2 rnl hc2, .string rst] 36)).cell? ⟨wH.heap.size, 4, none⟩ = some (.string rst) := by simp
  have zwI : wH.heap.size < (wH.alloc (.cells #[.int .i64 rp, .slice ha0 rm hc0, .slice ha1 rns hc1, .slice ha2 rnl hc2, .string rst] 36)).heap.size := by simp
  clear b_0 b_1 b_2 b_3 b_4 g_0 g_1 g_2 g_3 g_4
  generalize wH.alloc (.cells #[.int .i64 rp, .slice ha0 rm hc0, .slice ha1 rns hc1, .slice ha2 rnl hc2, .string rst] 36) = wI at hal b_0' b_1' b_2' b_3' b_4' g_0' g_1' g_2' g_3' g_4' h_0 h_1 h_2 h_3 h_4 zwI ⊢
  have b_0 := b_0'
  have b_1 := b_1'
  have b_2 := b_2'
  have b_3 := b_3'
  have b_4 := b_4'
  have g_0 := g_0'
  have g_1 := g_1'
  have g_2 := g_2'
  have g_3 := g_3'
  have g_4 := g_4'
  clear b_0' b_1' b_2' b_3' b_4' g_0' g_1' g_2' g_3' g_4'
  have hwI : Below w.heap.size w wI := hwH.trans (hal.mono hwH.size)
  have hkI : Below wA.heap.size wA wI := hkH.trans (hal.mono hkH.size)
  have HHI := Lib.hid (HHH.out.keep (Carries.of 0 hal)); clear HHH
  have HI2 := Lib.hid (HI.out.keep (Carries.of 0 hal)); clear HI hal
  refine (eqSTG_any _ _ RN RN _ _ _ HI2.out (HW.out.keep (Carries.of _ hkI)) HSR.out HSR.out).mono ?_
  rintro e wJ ⟨rfl, hb⟩
  rw [eqStgB_self]
  have hwJ : Below w.heap.size w wJ := hwI.trans (hb.mono hwI.size)
  have g_0 := cell_carry g_0 (Carries.of 0 hb)
  have g_1 := cell_carry g_1 (Carries.of 0 hb)
  have g_2 := cell_carry g_2 (Carries.of 0 hb)
  have g_3 := cell_carry g_3 (Carries.of 0 hb)
  have g_4 := cell_carry g_4 (Carries.of 0 hb)
  have HHJ := Lib.hid (HHI.out.keep (Carries.of 0 hb)); clear HHI hb b_0 b_1 b_2 b_3 b_4 h_0 h_1 h_2 h_3 h_4
  go_wp2_with fail
  refine (heldSTG_any _ RN _ HHJ.out HSR.out).mono ?_
  rintro e wK ⟨rfl, hb⟩
  rw [← HM.out]
  have hwK : Below w.heap.size w wK := hwJ.trans (hb.mono hwJ.size)
  go_wp2_with fail
  go_ret
  exact ⟨rfl, hwK⟩

end Go.Proofs.Ytkkfglolameogaa
