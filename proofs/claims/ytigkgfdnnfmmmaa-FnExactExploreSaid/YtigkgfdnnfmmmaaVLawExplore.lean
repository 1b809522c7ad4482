/- WALK of the law FnExactExplore. -/
import Derived.Test.YtigkgfdnnfmmmaaVExp
import Derived.Test.YtigkgfdnnfmmmaaVLrx
import Derived.Test.YtigkgfdnnfmmmaaVRgk
import Derived.Test.YtigkgfdnnfmmmaaVRgs
import Derived.Test.YtigkgfdnnfmmmaaVStgn
import Derived.Deep.RegionHeld3
namespace Go.Proofs.Ytigkgfdnnfmmmaa
open Go.RowKit

theorem Stir.same {lo hi l : Nat} {w w' : World} (h : Stir lo hi w w') (hl : hi ≤ l) : Same l w w' := ⟨h.size, fun b h1 h2 => h.block b h2 (Or.inr (by omega))⟩
theorem ex_done_on {n : NetD} {ea : Bool} {mx : Nat} {m0 : ByteArray} : ∀ i s, exTo n ea mx m0 i = .done s → ∃ j k t, exTo n ea mx m0 j = .on k t s
  | 0, s, h => by rw [exTo] at h; cases h
  | i + 1, s, h => by
    cases hc : exTo n ea mx m0 i with
    | done s' =>
      rw [exTo, hc] at h
      simp only [exStep] at h
      injection h with h1
      subst h1
      exact ex_done_on i s' hc
    | bad k t s' => rw [exTo, hc] at h; cases h
    | full => rw [exTo, hc] at h; cases h
    | on k t s' =>
      rw [exTo, hc] at h
      simp only [exStep] at h
      repeat' split at h
      all_goals first
        | (injection h with h1; subst h1; exact ⟨i, k, t, hc⟩)
        | cases h
theorem xp_small (s : StgD) : SmallRg (xpV s) := by
  have hz : SmallRg ⟨[], []⟩ := ⟨⟨by simp, fun i hi => absurd hi (by simp)⟩, by simp⟩
  unfold xpV
  by_cases hq : goodS s = true
  case neg => rw [if_neg hq]; exact hz
  rw [if_pos hq]
  obtain ⟨hg, hm⟩ := good_parts hq
  cases hf : exF s.net true 300 s.start with
  | on k t x => exact hz
  | bad k t x => exact hz
  | full => exact hz
  | done x =>
    obtain ⟨j, k, t, hj⟩ := ex_done_on _ _ hf
    have ho := (ex_ok hg (by omega : 1 ≤ 300) hm j k t x hj).1
    obtain ⟨h1, h2, h3, h4⟩ := ho.small hg (by omega)
    refine ⟨⟨by show x.ms.length ≤ _; omega, fun i hi => ?_⟩, by show x.mv.length ≤ _; omega⟩
    have hs := mark_size (ho.mks i hi)
    have := (goodN_parts hg).2.1
    show (stN x.ms i).size ≤ _
    omega

set_option maxRecDepth 100000 in
set_option maxHeartbeats 4000000 in
theorem lawExplore_any (v : Value) (s : StgD) (w : World) (lo : Nat) (hv : StgAt lo w v s) (hok : OkStg s) :
    Calls Try.prog 3 #[v] w (RetB w true) := by
  obtain ⟨a0, c0, a1, c1, a2, c2, rfl, hn_, hsg_, hl_⟩ := hv.form
  clear hn_ hsg_ hl_
  have HV := Lib.hid hv; clear hv
  have HO := Lib.hid hok; clear hok
  obtain ⟨p, hp⟩ : ∃ p, p = s.net.places := ⟨_, rfl⟩
  obtain ⟨m, hm⟩ : ∃ m, m = s.net.ts.length := ⟨_, rfl⟩
  obtain ⟨ns, hns⟩ : ∃ ns, ns = s.sigs.length := ⟨_, rfl⟩
  obtain ⟨nl, hnl⟩ : ∃ nl, nl = s.labs.length := ⟨_, rfl⟩
  obtain ⟨st, hst⟩ : ∃ st, st = s.start := ⟨_, rfl⟩
  rw [← hp, ← hm, ← hns, ← hnl, ← hst] at HV ⊢
  have HP := Lib.hid (And.intro hp (And.intro hm (And.intro hns (And.intro hnl hst)))); clear hp hm hns hnl hst
  go_enter Try.func3, Try.ntmps3
  go_wp2_with fail
  refine (szSTG_any _ s _ _ lo (HV.out.keep ?_) (by omega) (by omega) HO.out).mono ?_
  · (repeat' (first | (with_reducible exact Carries.refl _ _) | (with_reducible assumption) | (with_reducible refine Carries.alloc ?_ _) | (with_reducible refine Carries.drew ?_) | (with_reducible refine Carries.drewN ?_ _) | (with_reducible refine Carries.set ?_ ?_ _) | go_size))
  rintro e w1 ⟨r, rfl, hr, hb⟩
  have hw1 : Below w.heap.size w w1 := by
    refine Below.trans ?_ (hb.mono ?_)
    · (repeat' (first | (with_reducible exact Below.refl _ _) | (with_reducible assumption) | (with_reducible refine Below.alloc ?_ ?_ _) | (with_reducible refine Below.drew ?_) | (with_reducible refine below_drewN ?_ _) | (with_reducible refine Below.setCell ?_ ?_ _) | go_size))
    · simp
  have a_0 : w1.cell? ⟨w.heap.size, 0, none⟩ = some (.int .i64 p) := cell_carry (by simp) (Carries.of 0 hb)
  have a_1 : w1.cell? ⟨w.heap.size, 1, none⟩ = some (.slice a0 m c0) := cell_carry (by simp) (Carries.of 0 hb)
  have a_2 : w1.cell? ⟨w.heap.size, 2, none⟩ = some (.slice a1 ns c1) := cell_carry (by simp) (Carries.of 0 hb)
  have a_3 : w1.cell? ⟨w.heap.size, 3, none⟩ = some (.slice a2 nl c2) := cell_carry (by simp) (Carries.of 0 hb)
  have a_4 : w1.cell? ⟨w.heap.size, 4, none⟩ = some (.string st) := cell_carry (by simp) (Carries.of 0 hb)
  have z1 : w.heap.size < w1.heap.size := by have := hb.size; simp at this; omega
  clear hb
  rcases hr with rfl | ⟨hr0, _, hsm⟩
  · go_wp2_with fail
    go_ret
    exact ⟨rfl, hw1⟩
  have HS := Lib.hid hsm; clear hsm
  go_wp2_with fail
  refine (toSTG_any _ s _ lo (HV.out.keep (Carries.of lo hw1)) HS.out).mono ?_
  rintro e w2 ⟨v2, rfl, hn2, hb⟩
  have hw2 : Below w.heap.size w w2 := hw1.trans (hb.mono (by omega))
  have a_0 := cell_carry a_0 (Carries.of 0 hb)
  have a_1 := cell_carry a_1 (Carries.of 0 hb)
  have a_2 := cell_carry a_2 (Carries.of 0 hb)
  have a_3 := cell_carry a_3 (Carries.of 0 hb)
  have a_4 := cell_carry a_4 (Carries.of 0 hb)
  have z2 : w.heap.size < w2.heap.size := by have := hb.size; omega
  clear hb
  have H2 := Lib.hid hn2; clear hn2
  go_wp2_with fail
  refine (specExplore_any _ s _ _ H2.out HS.out).mono ?_
  rintro e w3 ⟨u0, u1, rfl, hu0, hu1, hb⟩
  have hSV := xp_small s
  generalize hG0 : xpV s = V at hu0 hu1 hSV
  have HG0 := Lib.hid hG0; clear hG0
  generalize hG1 : xpB s = r1_
  have HG1 := Lib.hid hG1; clear hG1
  have HSV := Lib.hid hSV
  obtain ⟨q, hq⟩ : ∃ q, q = V.marks.length := ⟨_, rfl⟩
  obtain ⟨qm, hqm⟩ : ∃ q, q = V.moves.length := ⟨_, rfl⟩
  have hq1 : q ≤ 1048576 := by rw [hq]; exact hSV.1.1
  have hqm1 : qm ≤ 1048576 := by rw [hqm]; exact hSV.2
  have HQ := Lib.hid hq; have HQM := Lib.hid hqm
  clear hq hqm hSV
  obtain ⟨aw, kw, rfl⟩ := hu0.form
  obtain ⟨bw, lw, rfl⟩ : ∃ a c, u1 = .slice a V.moves.length c := MRow.form hu1
  have HW := Lib.hid (RgIn.of hu0 hu1)
  rw [← HQ.out, ← HQM.out] at HW ⊢
  clear hu0 hu1
  have hw3 : Below w.heap.size w w3 := hw2.trans (hb.mono hw2.size)
  have a_0 := cell_carry a_0 (Carries.of 0 hb)
  have a_1 := cell_carry a_1 (Carries.of 0 hb)
  have a_2 := cell_carry a_2 (Carries.of 0 hb)
  have a_3 := cell_carry a_3 (Carries.of 0 hb)
  have a_4 := cell_carry a_4 (Carries.of 0 hb)
  have z3 : w.heap.size < w3.heap.size := by have := hb.size; omega
  clear hb H2
  -- the model's answer in its box
  obtain ⟨W3, hW3⟩ : ∃ x, x = w3.alloc (.cells #[.slice aw q kw, .slice bw qm lw] 33) := ⟨_, rfl⟩
  have HA3 : Below w3.heap.size w3 W3 := by rw [hW3]; exact (Below.refl _ _).alloc (Nat.le_refl _) _
  have m0 : W3.cell? ⟨w3.heap.size, 0, none⟩ = some (.slice aw q kw) := by rw [hW3]; simp [go_sem]
  have m1 : W3.cell? ⟨w3.heap.size, 1, none⟩ = some (.slice bw qm lw) := by rw [hW3]; simp [go_sem]
  have zW3 : W3.heap.size = w3.heap.size + 1 := by rw [hW3]; simp
  have hw3b : Below w.heap.size w W3 := hw3.trans (HA3.mono (by omega))
  have HW := Lib.hid (HW.out.after HA3)
  have a_0 := cell_carry a_0 (Carries.of 0 HA3)
  have a_1 := cell_carry a_1 (Carries.of 0 HA3)
  have a_2 := cell_carry a_2 (Carries.of 0 HA3)
  have a_3 := cell_carry a_3 (Carries.of 0 HA3)
  have a_4 := cell_carry a_4 (Carries.of 0 HA3)
  clear HA3
  go_wp2_with (go_at_call 12; rw [← hW3]; clear hW3; refine (toSTG_ow _ s _ lo (HV.out.keep (Carries.of lo hw3b)) HS.out).mono ?_)
  rintro e w4 ⟨v4, rfl, how, hb⟩
  have hat4 : StgAt W3.heap.size w4 v4 s := by obtain ⟨_, _, _, _, _, _, _, _, _, _, _, _, _, _, _, h⟩ := how; exact h
  obtain ⟨b0, d0, b1, d1, b2, d2, rfl, hn_, hsg_, hl_⟩ := hat4.form
  clear hn_ hsg_ hl_
  rw [← HP.out.1, ← HP.out.2.1, ← HP.out.2.2.1, ← HP.out.2.2.2.1, ← HP.out.2.2.2.2] at how hat4 ⊢
  have hw4 : Below w.heap.size w w4 := hw3b.trans (hb.mono hw3b.size)
  have a_0 := cell_carry a_0 (Carries.of 0 hb)
  have a_1 := cell_carry a_1 (Carries.of 0 hb)
  have a_2 := cell_carry a_2 (Carries.of 0 hb)
  have a_3 := cell_carry a_3 (Carries.of 0 hb)
  have a_4 := cell_carry a_4 (Carries.of 0 hb)
  have m0 := cell_carry m0 (Carries.of 0 hb)
  have m1 := cell_carry m1 (Carries.of 0 hb)
  have z4 : W3.heap.size ≤ w4.heap.size := hb.size
  have HW := Lib.hid (HW.out.after hb)
  clear hb
  have HOW := Lib.hid how; clear how
  have HA4 := Lib.hid hat4; clear hat4
  have hal : Below w4.heap.size w4 (w4.alloc (.cells #[.int .i64 p, .slice b0 m d0, .slice b1 ns d1, .slice b2 nl d2, .string st] 42)) := (Below.refl _ _).alloc (Nat.le_refl _) _
  have a_0' := cell_carry a_0 (Carries.of 0 hal)
  have a_1' := cell_carry a_1 (Carries.of 0 hal)
  have a_2' := cell_carry a_2 (Carries.of 0 hal)
  have a_3' := cell_carry a_3 (Carries.of 0 hal)
  have a_4' := cell_carry a_4 (Carries.of 0 hal)
  have m0' := cell_carry m0 (Carries.of 0 hal)
  have m1' := cell_carry m1 (Carries.of 0 hal)
  go_wp2_with fail
  have x_0 : (w4.alloc (.cells #[.int .i64 p, .slice b0 m d0, .slice b1 ns d1, .slice b2 nl d2, .string st] 42)).cell? ⟨w4.heap.size, 0, none⟩ = some (.int .i64 p) := by simp
  have x_1 : (w4.alloc (.cells #[.int .i64 p, .slice b0 m d0, .slice b1 ns d1, .slice b2 nl d2, .string st] 42)).cell? ⟨w4.heap.size, 1, none⟩ = some (.slice b0 m d0) := by simp
  have x_2 : (w4.alloc (.cells #[.int .i64 p, .slice b0 m d0, .slice b1 ns d1, .slice b2 nl d2, .string st] 42)).cell? ⟨w4.heap.size, 2, none⟩ = some (.slice b1 ns d1) := by simp
  have x_3 : (w4.alloc (.cells #[.int .i64 p, .slice b0 m d0, .slice b1 ns d1, .slice b2 nl d2, .string st] 42)).cell? ⟨w4.heap.size, 3, none⟩ = some (.slice b2 nl d2) := by simp
  have x_4 : (w4.alloc (.cells #[.int .i64 p, .slice b0 m d0, .slice b1 ns d1, .slice b2 nl d2, .string st] 42)).cell? ⟨w4.heap.size, 4, none⟩ = some (.string st) := by simp
  have zB : w4.heap.size < (w4.alloc (.cells #[.int .i64 p, .slice b0 m d0, .slice b1 ns d1, .slice b2 nl d2, .string st] 42)).heap.size := by simp
  clear a_0 a_1 a_2 a_3 a_4 m0 m1
  generalize w4.alloc (.cells #[.int .i64 p, .slice b0 m d0, .slice b1 ns d1, .slice b2 nl d2, .string st] 42) = wB at hal a_0' a_1' a_2' a_3' a_4' m0' m1' x_0 x_1 x_2 x_3 x_4 zB ⊢
  have a_0 := a_0'
  have a_1 := a_1'
  have a_2 := a_2'
  have a_3 := a_3'
  have a_4 := a_4'
  have m0 := m0'
  have m1 := m1'
  clear a_0' a_1' a_2' a_3' a_4' m0' m1'
  have hwB : Below w.heap.size w wB := hw4.trans (hal.mono hw4.size)
  have HW := Lib.hid (HW.out.after hal)
  have S := Lib.hid (Same.of W3.heap.size hal)
  have HX := Lib.hid (HA4.out.keep (Carries.of _ hal)); clear hal HA4
  refine (Explore_any _ s _ _ HX.out HS.out).mono ?_
  rintro e w5 ⟨t0, t1, rfl, ht0, ht1, hb⟩
  rw [HG1.out]
  rw [HG0.out] at ht0 ht1
  obtain ⟨ag, kg, rfl⟩ := ht0.form
  obtain ⟨bg, lg, rfl⟩ : ∃ a c, t1 = .slice a V.moves.length c := MRow.form ht1
  have HI := Lib.hid (RgIn.of ht0 ht1)
  rw [← HQ.out, ← HQM.out] at HI ⊢
  clear ht0 ht1
  have hw5 : Below w.heap.size w w5 := hwB.trans (hb.mono hwB.size)
  have a_0 := cell_carry a_0 (Carries.of 0 hb)
  have a_1 := cell_carry a_1 (Carries.of 0 hb)
  have a_2 := cell_carry a_2 (Carries.of 0 hb)
  have a_3 := cell_carry a_3 (Carries.of 0 hb)
  have a_4 := cell_carry a_4 (Carries.of 0 hb)
  have x_0 := cell_carry x_0 (Carries.of 0 hb)
  have x_1 := cell_carry x_1 (Carries.of 0 hb)
  have x_2 := cell_carry x_2 (Carries.of 0 hb)
  have x_3 := cell_carry x_3 (Carries.of 0 hb)
  have x_4 := cell_carry x_4 (Carries.of 0 hb)
  have m0 := cell_carry m0 (Carries.of 0 hb)
  have m1 := cell_carry m1 (Carries.of 0 hb)
  have z5 : wB.heap.size ≤ w5.heap.size := hb.size
  have HW := Lib.hid (HW.out.after hb)
  have S := Lib.hid (S.out.trans (Same.of _ hb))
  have HX := Lib.hid (HX.out.keep (Carries.of _ hb)); clear hb
  -- the program's answer in its box
  obtain ⟨W5, hW5⟩ : ∃ x, x = w5.alloc (.cells #[.slice ag q kg, .slice bg qm lg] 33) := ⟨_, rfl⟩
  have HA5 : Below w5.heap.size w5 W5 := by rw [hW5]; exact (Below.refl _ _).alloc (Nat.le_refl _) _
  have g0 : W5.cell? ⟨w5.heap.size, 0, none⟩ = some (.slice ag q kg) := by rw [hW5]; simp [go_sem]
  have g1 : W5.cell? ⟨w5.heap.size, 1, none⟩ = some (.slice bg qm lg) := by rw [hW5]; simp [go_sem]
  have hw5b : Below w.heap.size w W5 := hw5.trans (HA5.mono (by omega))
  have zW5 : W5.heap.size = w5.heap.size + 1 := by rw [hW5]; simp
  have a_0 := cell_carry a_0 (Carries.of 0 HA5)
  have a_1 := cell_carry a_1 (Carries.of 0 HA5)
  have a_2 := cell_carry a_2 (Carries.of 0 HA5)
  have a_3 := cell_carry a_3 (Carries.of 0 HA5)
  have a_4 := cell_carry a_4 (Carries.of 0 HA5)
  have x_0 := cell_carry x_0 (Carries.of 0 HA5)
  have x_1 := cell_carry x_1 (Carries.of 0 HA5)
  have x_2 := cell_carry x_2 (Carries.of 0 HA5)
  have x_3 := cell_carry x_3 (Carries.of 0 HA5)
  have x_4 := cell_carry x_4 (Carries.of 0 HA5)
  have m0 := cell_carry m0 (Carries.of 0 HA5)
  have m1 := cell_carry m1 (Carries.of 0 HA5)
  have HW := Lib.hid (HW.out.after HA5)
  have HI := Lib.hid (HI.out.after HA5)
  have S := Lib.hid (S.out.trans (Same.of _ HA5))
  have HX := Lib.hid (HX.out.keep (Carries.of _ HA5))
  have hne1 : (r1_ != r1_) = false := by simp
  have m0c := m0
  have m1c := m1
  rw [hW5] at m0c m1c
  go_wp2_with (go_at_call 14; rw [← hW5]; clear m0c m1c hW5; refine (eqRg_any _ _ V V _ _ _ HI.out.at HW.out.at HSV.out HSV.out).mono ?_)
  rintro e w6 ⟨rfl, hb⟩
  rw [eqRgB_self]
  have hw6 : Below w.heap.size w w6 := hw5b.trans (hb.mono hw5b.size)
  have a_0 := cell_carry a_0 (Carries.of 0 hb)
  have a_1 := cell_carry a_1 (Carries.of 0 hb)
  have a_2 := cell_carry a_2 (Carries.of 0 hb)
  have a_3 := cell_carry a_3 (Carries.of 0 hb)
  have a_4 := cell_carry a_4 (Carries.of 0 hb)
  have x_0 := cell_carry x_0 (Carries.of 0 hb)
  have x_1 := cell_carry x_1 (Carries.of 0 hb)
  have x_2 := cell_carry x_2 (Carries.of 0 hb)
  have x_3 := cell_carry x_3 (Carries.of 0 hb)
  have x_4 := cell_carry x_4 (Carries.of 0 hb)
  have m0 := cell_carry m0 (Carries.of 0 hb)
  have m1 := cell_carry m1 (Carries.of 0 hb)
  have g0 := cell_carry g0 (Carries.of 0 hb)
  have g1 := cell_carry g1 (Carries.of 0 hb)
  have HW := Lib.hid (HW.out.after hb)
  have HI := Lib.hid (HI.out.after hb)
  have S := Lib.hid (S.out.trans (Same.of _ hb))
  have HX := Lib.hid (HX.out.keep (Carries.of _ hb))
  have z6 : w5.heap.size < w6.heap.size := by have := hb.size; omega
  clear hb HA5
  go_wp2_with fail
  go_region_held3 (fun w' => w'.cell? ⟨w.heap.size, 0, none⟩ = some (.int .i64 p) ∧ w'.cell? ⟨w.heap.size, 1, none⟩ = some (.slice a0 m c0) ∧ w'.cell? ⟨w.heap.size, 2, none⟩ = some (.slice a1 ns c1) ∧ w'.cell? ⟨w.heap.size, 3, none⟩ = some (.slice a2 nl c2) ∧ w'.cell? ⟨w.heap.size, 4, none⟩ = some (.string st) ∧ w'.cell? ⟨w4.heap.size, 0, none⟩ = some (.int .i64 p) ∧ w'.cell? ⟨w4.heap.size, 1, none⟩ = some (.slice b0 m d0) ∧ w'.cell? ⟨w4.heap.size, 2, none⟩ = some (.slice b1 ns d1) ∧ w'.cell? ⟨w4.heap.size, 3, none⟩ = some (.slice b2 nl d2) ∧ w'.cell? ⟨w4.heap.size, 4, none⟩ = some (.string st))
    (first
      | exact ⟨a_0, a_1, a_2, a_3, a_4, x_0, x_1, x_2, x_3, x_4⟩
      | exact ⟨cell_carry (w := w6.drew) a_0 (Carries.of 0 hb7), cell_carry (w := w6.drew) a_1 (Carries.of 0 hb7), cell_carry (w := w6.drew) a_2 (Carries.of 0 hb7), cell_carry (w := w6.drew) a_3 (Carries.of 0 hb7), cell_carry (w := w6.drew) a_4 (Carries.of 0 hb7), cell_carry (w := w6.drew) x_0 (Carries.of 0 hb7), cell_carry (w := w6.drew) x_1 (Carries.of 0 hb7), cell_carry (w := w6.drew) x_2 (Carries.of 0 hb7), cell_carry (w := w6.drew) x_3 (Carries.of 0 hb7), cell_carry (w := w6.drew) x_4 (Carries.of 0 hb7)⟩
      | exact ⟨cell_carry (cell_carry (w := w6.drew) a_0 (Carries.of 0 hb7)) (Carries.of 0 hb8), cell_carry (cell_carry (w := w6.drew) a_1 (Carries.of 0 hb7)) (Carries.of 0 hb8), cell_carry (cell_carry (w := w6.drew) a_2 (Carries.of 0 hb7)) (Carries.of 0 hb8), cell_carry (cell_carry (w := w6.drew) a_3 (Carries.of 0 hb7)) (Carries.of 0 hb8), cell_carry (cell_carry (w := w6.drew) a_4 (Carries.of 0 hb7)) (Carries.of 0 hb8), cell_carry (cell_carry (w := w6.drew) x_0 (Carries.of 0 hb7)) (Carries.of 0 hb8), cell_carry (cell_carry (w := w6.drew) x_1 (Carries.of 0 hb7)) (Carries.of 0 hb8), cell_carry (cell_carry (w := w6.drew) x_2 (Carries.of 0 hb7)) (Carries.of 0 hb8), cell_carry (cell_carry (w := w6.drew) x_3 (Carries.of 0 hb7)) (Carries.of 0 hb8), cell_carry (cell_carry (w := w6.drew) x_4 (Carries.of 0 hb7)) (Carries.of 0 hb8)⟩)
    (first
      | (go_at_call 12; refine (toSTG_any _ s w6.drew lo (HV.out.keep (Carries.of lo hw6.drew)) HS.out).mono ?_; rintro e w7 ⟨v7, rfl, hn7, hb7⟩)
      | (go_at_call 15; refine (eqSTG_any _ _ s s _ _ _ (HX.out.keep (Carries.of (w := w6.drew) _ hb7)) hn7 HS.out HS.out).mono ?_; rintro e w8 ⟨rfl, hb8⟩; rw [eqStgB_self]))
  have hb78 : Below w6.heap.size w6 w8 := (Below.trans (b := w6.drew) (Below.refl _ _).drew (Below.trans (hb7.mono (by simp)) (hb8.mono (by have := hb7.size; simp at this; omega))))
  clear hb7 hb8 hn7
  have hw8 : Below w.heap.size w w8 := hw6.trans (hb78.mono hw6.size)
  have a_0 := cell_carry a_0 (Carries.of 0 hb78)
  have a_1 := cell_carry a_1 (Carries.of 0 hb78)
  have a_2 := cell_carry a_2 (Carries.of 0 hb78)
  have a_3 := cell_carry a_3 (Carries.of 0 hb78)
  have a_4 := cell_carry a_4 (Carries.of 0 hb78)
  have x_0 := cell_carry x_0 (Carries.of 0 hb78)
  have x_1 := cell_carry x_1 (Carries.of 0 hb78)
  have x_2 := cell_carry x_2 (Carries.of 0 hb78)
  have x_3 := cell_carry x_3 (Carries.of 0 hb78)
  have x_4 := cell_carry x_4 (Carries.of 0 hb78)
  have m0 := cell_carry m0 (Carries.of 0 hb78)
  have m1 := cell_carry m1 (Carries.of 0 hb78)
  have g0 := cell_carry g0 (Carries.of 0 hb78)
  have g1 := cell_carry g1 (Carries.of 0 hb78)
  have HW := Lib.hid (HW.out.after hb78)
  have HI := Lib.hid (HI.out.after hb78)
  have S := Lib.hid (S.out.trans (Same.of _ hb78))
  have z8 : w5.heap.size < w8.heap.size := by have := hb78.size; omega
  clear hb78 HX
  go_wp2_with fail
  refine (markSTG_any _ s w4 w8 W3.heap.size HOW.out S.out HS.out).mono ?_
  rintro e w9 ⟨T, rfl, hT0, hst⟩
  have hw9 : Below w.heap.size w w9 := hst.below hw8 (by omega) (by omega)
  have z9 : w5.heap.size < w9.heap.size := by have := hst.size; omega
  have a_0 := hst.cell (Or.inl (by simp; omega)) a_0
  have a_1 := hst.cell (Or.inl (by simp; omega)) a_1
  have a_2 := hst.cell (Or.inl (by simp; omega)) a_2
  have a_3 := hst.cell (Or.inl (by simp; omega)) a_3
  have a_4 := hst.cell (Or.inl (by simp; omega)) a_4
  have m0 := hst.cell (Or.inl (by simp; omega)) m0
  have m1 := hst.cell (Or.inl (by simp; omega)) m1
  have g0 := hst.cell (Or.inr (by simp; omega)) g0
  have g1 := hst.cell (Or.inr (by simp; omega)) g1
  have HW := Lib.hid (HW.out.stir hst (Or.inl (by omega)))
  have HI := Lib.hid (HI.out.stir hst (Or.inr (by omega)))
  clear hst x_0 x_1 x_2 x_3 x_4 S HOW
  have hT : decide ((T : Int) < 0) = false := by rw [decide_eq_false_iff_not]; omega
  go_wp2_with fail
  refine (eqRg_any _ _ V V _ _ _ HI.out.at HW.out.at HSV.out HSV.out).mono ?_
  rintro e w10 ⟨rfl, hb⟩
  rw [eqRgB_self]
  have hw10 : Below w.heap.size w w10 := hw9.trans (hb.mono hw9.size)
  have a_0 := cell_carry a_0 (Carries.of 0 hb)
  have a_1 := cell_carry a_1 (Carries.of 0 hb)
  have a_2 := cell_carry a_2 (Carries.of 0 hb)
  have a_3 := cell_carry a_3 (Carries.of 0 hb)
  have a_4 := cell_carry a_4 (Carries.of 0 hb)
  have m0 := cell_carry m0 (Carries.of 0 hb)
  have m1 := cell_carry m1 (Carries.of 0 hb)
  have g0 := cell_carry g0 (Carries.of 0 hb)
  have g1 := cell_carry g1 (Carries.of 0 hb)
  have HW := Lib.hid (HW.out.after hb)
  have HI := Lib.hid (HI.out.after hb)
  have zA : w5.heap.size < w10.heap.size := by have := hb.size; omega
  clear hb
  go_wp2_with fail
  refine (markRg_val _ _ V.marks V.moves w10 _ HI.out.m HI.out.v w5.heap.size z5 (by omega) HI.out.hm HI.out.hv (by rw [← HQ.out]; exact hq1) (by rw [← HQM.out]; exact hqm1)).mono ?_
  rintro e w11 ⟨rfl, hst, hx0, hx1⟩
  rw [← HQ.out] at hx0
  rw [← HQ.out, ← HQM.out] at hx1 ⊢
  have hw11 : Below w.heap.size w w11 := hst.below hw10 (by omega) (by omega)
  have zC : w5.heap.size < w11.heap.size := by have := hst.size; omega
  have a_0 := hst.cell (Or.inl (by simp; omega)) a_0
  have a_1 := hst.cell (Or.inl (by simp; omega)) a_1
  have a_2 := hst.cell (Or.inl (by simp; omega)) a_2
  have a_3 := hst.cell (Or.inl (by simp; omega)) a_3
  have a_4 := hst.cell (Or.inl (by simp; omega)) a_4
  have m0 := hst.cell (Or.inl (by simp; omega)) m0
  have m1 := hst.cell (Or.inl (by simp; omega)) m1
  have g0 := hst.cell (Or.inr (by simp)) g0
  have g1 := hst.cell (Or.inr (by simp)) g1
  have HW := Lib.hid (HW.out.stir hst (Or.inl (by omega)))
  have HT0 := Lib.hid hx0; have HT1 := Lib.hid hx1
  clear hst hx0 hx1 HI
  go_wp2_with fail
  refine (heldRg_any _ _ q qm w11 _ HT0.out HT1.out hq1 hqm1).mono ?_
  rintro e w12 ⟨rfl, hb⟩
  have hw12 : Below w.heap.size w w12 := hw11.trans (hb.mono hw11.size)
  have a_0 := cell_carry a_0 (Carries.of 0 hb)
  have a_1 := cell_carry a_1 (Carries.of 0 hb)
  have a_2 := cell_carry a_2 (Carries.of 0 hb)
  have a_3 := cell_carry a_3 (Carries.of 0 hb)
  have a_4 := cell_carry a_4 (Carries.of 0 hb)
  have m0 := cell_carry m0 (Carries.of 0 hb)
  have m1 := cell_carry m1 (Carries.of 0 hb)
  have g0 := cell_carry g0 (Carries.of 0 hb)
  have g1 := cell_carry g1 (Carries.of 0 hb)
  have HW := Lib.hid (HW.out.after hb)
  have HT0 := Lib.hid (HT0.out.keep (Carries.of _ hb))
  have HT1 := Lib.hid (TripsAt.keep HT1.out (Carries.of _ hb))
  clear hb
  have hqq : ((1 : Int) + (q : Int) + 3 * (qm : Int) != 1 + (q : Int) + 3 * (qm : Int)) = false := by simp
  have hqn : decide ((1 : Int) + (q : Int) + 3 * (qm : Int) < 0) = false := by rw [decide_eq_false_iff_not]; omega
  go_wp2_with fail
  refine (toSTG_any _ s _ lo (HV.out.keep (Carries.of lo hw12)) HS.out).mono ?_
  rintro e w13 ⟨v13, rfl, hn13, hb⟩
  have hw13 : Below w.heap.size w w13 := hw12.trans (hb.mono hw12.size)
  have m0 := cell_carry m0 (Carries.of 0 hb)
  have m1 := cell_carry m1 (Carries.of 0 hb)
  have g0 := cell_carry g0 (Carries.of 0 hb)
  have g1 := cell_carry g1 (Carries.of 0 hb)
  have HW := Lib.hid (HW.out.after hb)
  have HT0 := Lib.hid (HT0.out.keep (Carries.of _ hb))
  have HT1 := Lib.hid (TripsAt.keep HT1.out (Carries.of _ hb))
  have H13 := Lib.hid hn13
  clear hb hn13 a_0 a_1 a_2 a_3 a_4
  go_wp2_with fail
  refine (Explore_any _ s _ _ H13.out HS.out).mono ?_
  rintro e w14 ⟨y0, y1, rfl, hy0, hy1, hb⟩
  rw [HG1.out]
  rw [HG0.out] at hy0 hy1
  obtain ⟨ah, kh, rfl⟩ := hy0.form
  obtain ⟨bh, lh, rfl⟩ : ∃ a c, y1 = .slice a V.moves.length c := MRow.form hy1
  have HY := Lib.hid (RgIn.of hy0 hy1)
  rw [← HQ.out, ← HQM.out] at HY ⊢
  clear hy0 hy1
  have hw14 : Below w.heap.size w w14 := hw13.trans (hb.mono hw13.size)
  have m0 := cell_carry m0 (Carries.of 0 hb)
  have m1 := cell_carry m1 (Carries.of 0 hb)
  have g0 := cell_carry g0 (Carries.of 0 hb)
  have g1 := cell_carry g1 (Carries.of 0 hb)
  have HW := Lib.hid (HW.out.after hb)
  have HT0 := Lib.hid (HT0.out.keep (Carries.of _ hb))
  have HT1 := Lib.hid (TripsAt.keep HT1.out (Carries.of _ hb))
  clear hb H13
  obtain ⟨W14, hW14⟩ : ∃ x, x = w14.alloc (.cells #[.slice ah q kh, .slice bh qm lh] 33) := ⟨_, rfl⟩
  have HA14 : Below w14.heap.size w14 W14 := by rw [hW14]; exact (Below.refl _ _).alloc (Nat.le_refl _) _
  have hw14b : Below w.heap.size w W14 := hw14.trans (HA14.mono hw14.size)
  have m0 := cell_carry m0 (Carries.of 0 HA14)
  have m1 := cell_carry m1 (Carries.of 0 HA14)
  have g0 := cell_carry g0 (Carries.of 0 HA14)
  have g1 := cell_carry g1 (Carries.of 0 HA14)
  have HW := Lib.hid (HW.out.after HA14)
  have HT0 := Lib.hid (HT0.out.keep (Carries.of _ HA14))
  have HT1 := Lib.hid (TripsAt.keep HT1.out (Carries.of _ HA14))
  have HY := Lib.hid (HY.out.after HA14)
  clear HA14
  have m0c := m0
  have m1c := m1
  rw [hW14] at m0c m1c
  go_wp2_with (go_at_call 14; rw [← hW14]; clear m0c m1c hW14; refine (eqRg_any _ _ V V _ _ _ HY.out.at HW.out.at HSV.out HSV.out).mono ?_)
  rintro e w15 ⟨rfl, hb⟩
  rw [eqRgB_self]
  have hw15 : Below w.heap.size w w15 := hw14b.trans (hb.mono hw14b.size)
  have g0 := cell_carry g0 (Carries.of 0 hb)
  have g1 := cell_carry g1 (Carries.of 0 hb)
  have HT0 := Lib.hid (HT0.out.keep (Carries.of _ hb))
  have HT1 := Lib.hid (TripsAt.keep HT1.out (Carries.of _ hb))
  clear hb m0 m1
  go_wp2_with fail
  refine (heldRg_any _ _ q qm w15 _ HT0.out HT1.out hq1 hqm1).mono ?_
  rintro e w16 ⟨rfl, hb⟩
  have hw16 : Below w.heap.size w w16 := hw15.trans (hb.mono hw15.size)
  clear hb
  go_wp2_with fail
  go_ret
  exact ⟨rfl, hw16⟩

end Go.Proofs.Ytigkgfdnnfmmmaa
