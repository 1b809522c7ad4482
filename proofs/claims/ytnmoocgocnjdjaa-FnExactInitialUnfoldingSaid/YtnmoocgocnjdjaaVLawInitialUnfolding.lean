/- WALK of the law FnExactInitialUnfolding. -/
import Derived.Test.YtnmoocgocnjdjaaVUfl
import Derived.Deep.RegionHeld3
namespace Go.Proofs.Ytnmoocgocnjdjaa
open Go.RowKit

set_option maxRecDepth 100000 in
set_option maxHeartbeats 2000000 in
theorem lawInitialUnfolding_any (v : Value) (n : NetD) (s : ByteArray) (w : World) (lo : Nat) (hv : NetAt lo w v n) (hok : OkTrs n.ts) (hs : s.size ≤ 9223372036854775807) :
    Calls Try.prog 4 #[v, .string s] w (RetB w true) := by
  have hv' := hv
  obtain ⟨hp0, hp1, u, rfl, ht⟩ := hv'
  obtain ⟨ao, cap, rfl, _, hz⟩ := ht
  have HV := Lib.hid hv; clear hv hz
  have HO := Lib.hid hok; clear hok
  obtain ⟨m, hm⟩ : ∃ m, m = n.ts.length := ⟨_, rfl⟩
  obtain ⟨p, hp⟩ : ∃ p, p = n.places := ⟨_, rfl⟩
  rw [← hm, ← hp] at HV ⊢
  rw [← hp] at hp0 hp1
  have HM := Lib.hid hm; clear hm
  have HP := Lib.hid hp; clear hp
  by_cases hz_s : s.size ≤ 1048576
  case neg =>
    go_enter Try.func4, Try.ntmps4
    go_wp2_with fail
    go_ret
    exact ⟨rfl, by (repeat' (first | (with_reducible exact Below.refl _ _) | (with_reducible assumption) | (with_reducible refine Below.alloc ?_ ?_ _) | (with_reducible refine Below.drew ?_) | (with_reducible refine below_drewN ?_ _) | (with_reducible refine Below.setCell ?_ ?_ _) | go_size))⟩
  go_enter Try.func4, Try.ntmps4
  go_wp2_with fail
  refine (szNet_any _ n _ _ lo (HV.out.keep ?_) (by omega) (by omega) HO.out).mono ?_
  · (repeat' (first | (with_reducible exact Carries.refl _ _) | (with_reducible assumption) | (with_reducible refine Carries.alloc ?_ _) | (with_reducible refine Carries.drew ?_) | (with_reducible refine Carries.drewN ?_ _) | (with_reducible refine Carries.set ?_ ?_ _) | go_size))
  rintro e w1 ⟨r, rfl, hr, hb1⟩
  have hw1 : Below w.heap.size w w1 := by
    refine Below.trans ?_ (hb1.mono ?_)
    · (repeat' (first | (with_reducible exact Below.refl _ _) | (with_reducible assumption) | (with_reducible refine Below.alloc ?_ ?_ _) | (with_reducible refine Below.drew ?_) | (with_reducible refine below_drewN ?_ _) | (with_reducible refine Below.setCell ?_ ?_ _) | go_size))
    · simp
  have a0 : w1.cell? ⟨w.heap.size, 0, none⟩ = some (.int .i64 p) := cell_carry (by simp) (Carries.of 0 hb1)
  have a1 : w1.cell? ⟨w.heap.size, 1, none⟩ = some (.slice ao m cap) := cell_carry (by simp) (Carries.of 0 hb1)
  have z1 : w.heap.size < w1.heap.size := by have := hb1.size; simp at this; omega
  clear hb1
  rcases hr with rfl | ⟨hr0, _, hsm⟩
  · go_wp2_with fail
    go_ret
    exact ⟨rfl, hw1⟩
  have HS := Lib.hid hsm; clear hsm
  go_wp2_with fail
  refine (toNet_any _ n _ lo (HV.out.keep (Carries.of lo hw1)) HS.out).mono ?_
  rintro e w2 ⟨v2, rfl, hn2, hb2⟩
  have hw2 : Below w.heap.size w w2 := hw1.trans (hb2.mono (by omega))
  have b0 := cell_carry a0 (Carries.of 0 hb2)
  have b1 := cell_carry a1 (Carries.of 0 hb2)
  have z2 : w.heap.size < w2.heap.size := by have := hb2.size; omega
  clear a0 a1 hb2
  have H2 := Lib.hid hn2; clear hn2
  go_wp2_with fail
  refine (specInitialUnfolding_any _ n s _ _ H2.out HS.out hz_s).mono ?_
  rintro e w3 ⟨vw, rfl, hiw, hb3⟩
  have hLL : (iuL n s).length ≤ 1048576 := iuL_length hz_s
  generalize hG0 : iuL n s = L at hiw hLL
  have HG0 := Lib.hid hG0; clear hG0
  generalize hG1 : iuB n s = r1_
  have HG1 := Lib.hid hG1; clear hG1
  obtain ⟨aw, kw, rfl⟩ := hiw.form
  have HW3 := Lib.hid (show CndsIn w2.heap.size w3.heap.size w3 _ L from ⟨hiw.at, hiw.at.bound⟩)
  obtain ⟨q, hq⟩ : ∃ q, q = L.length := ⟨_, rfl⟩
  rw [← hq] at HW3 ⊢
  rw [← hq] at hLL
  have HQ := Lib.hid hq; clear hq hiw
  have hw3 : Below w.heap.size w w3 := hw2.trans (hb3.mono (by omega))
  have c0 := cell_carry b0 (Carries.of 0 hb3)
  have c1 := cell_carry b1 (Carries.of 0 hb3)
  have z3 : w.heap.size < w3.heap.size := by have := hb3.size; omega
  clear b0 b1 hb3
  -- the model's answer in its box
  obtain ⟨W3, hW3⟩ : ∃ x, x = w3.alloc (.cells #[.slice aw q kw, .slice none 0 0] 39) := ⟨_, rfl⟩
  have HA3 : Below w3.heap.size w3 W3 := by rw [hW3]; exact (Below.refl _ _).alloc (Nat.le_refl _) _
  have m0 : W3.cell? ⟨w3.heap.size, 0, none⟩ = some (.slice aw q kw) := by rw [hW3]; exact (cell_new2 rfl).1
  have m1 : W3.cell? ⟨w3.heap.size, 1, none⟩ = some (.slice none 0 0) := by rw [hW3]; exact (cell_new2 rfl).2
  have zW3 : W3.heap.size = w3.heap.size + 1 := by rw [hW3]; simp
  have HZ3 := Lib.hid zW3; clear zW3
  have HW3b := Lib.hid (HW3.out.after HA3)
  have hw3b : Below w.heap.size w W3 := hw3.trans (HA3.mono (by omega))
  have c0 := cell_carry c0 (Carries.of 0 HA3)
  have c1 := cell_carry c1 (Carries.of 0 HA3)
  go_wp2_with (go_at_call 11; rw [← hW3]; clear hW3; refine (toNet_ow _ n _ lo (HV.out.keep (Carries.of lo hw3b)) HS.out).mono ?_)
  rintro e w4 ⟨v4, rfl, hn4, hb4⟩
  have hn4' := hn4
  obtain ⟨_, _, u4, rfl, ⟨a4, k4, rfl, _, _⟩⟩ := hn4'
  rw [← HM.out, ← HP.out] at hn4 ⊢
  have hw4 : Below w.heap.size w w4 := hw3b.trans (hb4.mono hw3b.size)
  have d0 := cell_carry c0 (Carries.of 0 hb4)
  have d1 := cell_carry c1 (Carries.of 0 hb4)
  have m0 := cell_carry m0 (Carries.of 0 hb4)
  have m1 := cell_carry m1 (Carries.of 0 hb4)
  have z4 : w3.heap.size < w4.heap.size := by have := hb4.size; have := HZ3.out; omega
  have z4b : W3.heap.size ≤ w4.heap.size := hb4.size
  have HW4 := Lib.hid (HW3b.out.after hb4)
  clear c0 c1 hb4 HA3
  have H4 := Lib.hid hn4; clear hn4
  go_wp2_with fail
  refine (InitialUnfolding_any _ n s _ _ (H4.out.at.keep ?_) HS.out hz_s).mono ?_
  · (repeat' (first | (with_reducible exact Carries.refl _ _) | (with_reducible assumption) | (with_reducible refine Carries.alloc ?_ _) | (with_reducible refine Carries.drew ?_) | (with_reducible refine Carries.drewN ?_ _) | (with_reducible refine Carries.set ?_ ?_ _) | go_size))
  rintro e w5 ⟨vg, rfl, hig, hb5⟩
  rw [HG1.out]
  rw [HG0.out] at hig
  obtain ⟨ag, kg, rfl⟩ := hig.form
  have HIG5 := Lib.hid (hig.ow.low (lo' := w4.heap.size) (by simp))
  rw [← HQ.out] at HIG5 ⊢
  clear hig
  have hw5 : Below w.heap.size w w5 := by
    refine Below.trans ?_ (hb5.mono ?_)
    · (repeat' (first | (with_reducible exact Below.refl _ _) | (with_reducible assumption) | (with_reducible refine Below.alloc ?_ ?_ _) | (with_reducible refine Below.drew ?_) | (with_reducible refine below_drewN ?_ _) | (with_reducible refine Below.setCell ?_ ?_ _) | go_size))
    · simp; omega
  have e0 : w5.cell? ⟨w.heap.size, 0, none⟩ = some (.int .i64 p) := cell_carry (cell_carry d0 (by (repeat' (first | (with_reducible exact Carries.refl _ _) | (with_reducible assumption) | (with_reducible refine Carries.alloc ?_ _) | (with_reducible refine Carries.drew ?_) | (with_reducible refine Carries.drewN ?_ _) | (with_reducible refine Carries.set ?_ ?_ _) | go_size)))) (Carries.of 0 hb5)
  have e1 : w5.cell? ⟨w.heap.size, 1, none⟩ = some (.slice ao m cap) := cell_carry (cell_carry d1 (by (repeat' (first | (with_reducible exact Carries.refl _ _) | (with_reducible assumption) | (with_reducible refine Carries.alloc ?_ _) | (with_reducible refine Carries.drew ?_) | (with_reducible refine Carries.drewN ?_ _) | (with_reducible refine Carries.set ?_ ?_ _) | go_size)))) (Carries.of 0 hb5)
  have m0 : w5.cell? ⟨w3.heap.size, 0, none⟩ = some (.slice aw q kw) := cell_carry (cell_carry m0 (by (repeat' (first | (with_reducible exact Carries.refl _ _) | (with_reducible assumption) | (with_reducible refine Carries.alloc ?_ _) | (with_reducible refine Carries.drew ?_) | (with_reducible refine Carries.drewN ?_ _) | (with_reducible refine Carries.set ?_ ?_ _) | go_size)))) (Carries.of 0 hb5)
  have m1 : w5.cell? ⟨w3.heap.size, 1, none⟩ = some (.slice none 0 0) := cell_carry (cell_carry m1 (by (repeat' (first | (with_reducible exact Carries.refl _ _) | (with_reducible assumption) | (with_reducible refine Carries.alloc ?_ _) | (with_reducible refine Carries.drew ?_) | (with_reducible refine Carries.drewN ?_ _) | (with_reducible refine Carries.set ?_ ?_ _) | go_size)))) (Carries.of 0 hb5)
  have e2 : w5.cell? ⟨w4.heap.size, 0, none⟩ = some (.int .i64 p) := cell_carry (by simp) (Carries.of 0 hb5)
  have e3 : w5.cell? ⟨w4.heap.size, 1, none⟩ = some (.slice a4 m k4) := cell_carry (by simp) (Carries.of 0 hb5)
  have hs45 : Same w3.heap.size w4 w5 := Same.trans (by (repeat' (first | (with_reducible exact Same.refl _ _) | (with_reducible assumption) | (with_reducible refine Same.alloc ?_ _) | (with_reducible refine Same.drew ?_) | (with_reducible refine Same.drewN ?_ _) | (with_reducible refine Same.set ?_ ?_ _) | go_size))) (Same.of _ hb5)
  have S45 := Lib.hid hs45
  have z54 : w4.heap.size + 1 ≤ w5.heap.size := by have := hb5.size; simpa using this
  have HW5 := Lib.hid ((HW4.out.after ((Below.refl _ _).alloc (Nat.le_refl _) (.cells #[.int .i64 p, .slice a4 m k4] 34))).after hb5)
  clear d0 d1 hb5 hs45
  -- the program's answer in its box
  obtain ⟨W5, hW5⟩ : ∃ x, x = w5.alloc (.cells #[.slice ag q kg, .slice none 0 0] 39) := ⟨_, rfl⟩
  have HA5 : Below w5.heap.size w5 W5 := by rw [hW5]; exact (Below.refl _ _).alloc (Nat.le_refl _) _
  have g0 : W5.cell? ⟨w5.heap.size, 0, none⟩ = some (.slice ag q kg) := by rw [hW5]; exact (cell_new2 rfl).1
  have g1 : W5.cell? ⟨w5.heap.size, 1, none⟩ = some (.slice none 0 0) := by rw [hW5]; exact (cell_new2 rfl).2
  have hw5b : Below w.heap.size w W5 := hw5.trans (HA5.mono (by omega))
  have zW5 : W5.heap.size = w5.heap.size + 1 := by rw [hW5]; simp
  have HZ5 := Lib.hid zW5; clear zW5
  have e0 := cell_carry e0 (Carries.of 0 HA5)
  have e1 := cell_carry e1 (Carries.of 0 HA5)
  have e2 := cell_carry e2 (Carries.of 0 HA5)
  have e3 := cell_carry e3 (Carries.of 0 HA5)
  have m0 := cell_carry m0 (Carries.of 0 HA5)
  have m1 := cell_carry m1 (Carries.of 0 HA5)
  have HW5b := Lib.hid (HW5.out.after HA5)
  have HIG5b := Lib.hid (HIG5.out.after HA5)
  have S45b := Lib.hid (S45.out.trans (Same.of _ HA5))
  have hne1 : (r1_ != r1_) = false := by simp
  have m0c := m0
  have m1c := m1
  rw [hW5] at m0c m1c
  go_wp2_with (go_at_call 15; rw [← hW5]; clear m0c m1c hW5; refine (eqUnf_two _ _ _ _ q L _ _ _ HQ.out HIG5b.out.1 HW5b.out.1 hLL).mono ?_)
  rintro e w6 ⟨rfl, hb⟩
  have hw6 : Below w.heap.size w w6 := hw5b.trans (hb.mono hw5b.size)
  have e0 := cell_carry e0 (Carries.of 0 hb)
  have e1 := cell_carry e1 (Carries.of 0 hb)
  have e2 := cell_carry e2 (Carries.of 0 hb)
  have e3 := cell_carry e3 (Carries.of 0 hb)
  have m0 := cell_carry m0 (Carries.of 0 hb)
  have m1 := cell_carry m1 (Carries.of 0 hb)
  have g0 := cell_carry g0 (Carries.of 0 hb)
  have g1 := cell_carry g1 (Carries.of 0 hb)
  have S46 := Lib.hid (S45b.out.trans (Same.of _ hb))
  have HW6 := Lib.hid (HW5b.out.after hb)
  have HIG6 := Lib.hid (HIG5b.out.after hb)
  have H6 := Lib.hid (H4.out.keep ⟨S46.out.1, fun b h1 h2 => S46.out.2 b (by have := HZ3.out; omega) h2⟩)
  have z65 : w5.heap.size < w6.heap.size := by have := hb.size; have := HZ5.out; omega
  clear hb HA5
  go_wp2_with fail
  go_region_held3 (fun w' => w'.cell? ⟨w.heap.size, 0, none⟩ = some (.int .i64 p) ∧ w'.cell? ⟨w.heap.size, 1, none⟩ = some (.slice ao m cap) ∧ w'.cell? ⟨w4.heap.size, 0, none⟩ = some (.int .i64 p) ∧ w'.cell? ⟨w4.heap.size, 1, none⟩ = some (.slice a4 m k4))
    (first
      | exact ⟨e0, e1, e2, e3⟩
      | exact ⟨cell_carry (w := w6.drew) e0 (Carries.of 0 hb7), cell_carry (w := w6.drew) e1 (Carries.of 0 hb7), cell_carry (w := w6.drew) e2 (Carries.of 0 hb7), cell_carry (w := w6.drew) e3 (Carries.of 0 hb7)⟩
      | exact ⟨cell_carry (cell_carry (w := w6.drew) e0 (Carries.of 0 hb7)) (Carries.of 0 hb8), cell_carry (cell_carry (w := w6.drew) e1 (Carries.of 0 hb7)) (Carries.of 0 hb8), cell_carry (cell_carry (w := w6.drew) e2 (Carries.of 0 hb7)) (Carries.of 0 hb8), cell_carry (cell_carry (w := w6.drew) e3 (Carries.of 0 hb7)) (Carries.of 0 hb8)⟩
      | fail)
    (first
      | (go_at_call 11; refine (toNet_any _ n w6.drew lo (HV.out.keep (Carries.of lo hw6.drew)) HS.out).mono ?_; rintro e w7 ⟨v7, rfl, hn7, hb7⟩)
      | (go_at_call 14; refine (eqNet_any _ _ n n _ _ _ (H6.out.at.keep (Carries.of (w := w6.drew) _ hb7)) hn7 HS.out HS.out).mono ?_; rintro e w8 ⟨rfl, hb8⟩))
  have b68 : Below w6.heap.size w6 w8 := Below.trans (b := w6.drew) (Below.refl _ _).drew (Below.trans hb7 (hb8.mono hb7.size))
  have hw8 : Below w.heap.size w w8 := hw6.trans (b68.mono hw6.size)
  have e0 := cell_carry e0 (Carries.of 0 b68)
  have e1 := cell_carry e1 (Carries.of 0 b68)
  have e2 := cell_carry e2 (Carries.of 0 b68)
  have e3 := cell_carry e3 (Carries.of 0 b68)
  have m0 := cell_carry m0 (Carries.of 0 b68)
  have m1 := cell_carry m1 (Carries.of 0 b68)
  have g0 := cell_carry g0 (Carries.of 0 b68)
  have g1 := cell_carry g1 (Carries.of 0 b68)
  have S48 := Lib.hid (S46.out.trans (Same.of _ b68))
  have HW8 := Lib.hid (HW6.out.after b68)
  have HIG8 := Lib.hid (HIG6.out.after b68)
  have z85 : w5.heap.size < w8.heap.size := by have := b68.size; omega
  clear hb7 hb8 b68
  go_wp2_with fail
  refine (markNet_any _ n 1 w4 w8 W3.heap.size H4.out ⟨S48.out.1, fun b h1 h2 => S48.out.2 b (by have := HZ3.out; omega) h2⟩ HS.out (by omega) (by omega)).mono ?_
  rintro e w9 ⟨wa, rfl, hba, hmk⟩
  generalize (totTo n.ts n.ts.length) = T
  have ha := hw8.trans (hba.mono hw8.size)
  have hz3 := HZ3.out
  have hlo3 : w.heap.size ≤ W3.heap.size := by omega
  have hw9 : Below w.heap.size w w9 := hmk.below ha hlo3
  have e0 : w9.cell? ⟨w.heap.size, 0, none⟩ = some (.int .i64 p) := hmk.cell' (Or.inl (by simp; omega)) (cell_carry e0 (Carries.of 0 hba))
  have e1 : w9.cell? ⟨w.heap.size, 1, none⟩ = some (.slice ao m cap) := hmk.cell' (Or.inl (by simp; omega)) (cell_carry e1 (Carries.of 0 hba))
  have m0 : w9.cell? ⟨w3.heap.size, 0, none⟩ = some (.slice aw q kw) := hmk.cell' (Or.inl (by simp; omega)) (cell_carry m0 (Carries.of 0 hba))
  have m1 : w9.cell? ⟨w3.heap.size, 1, none⟩ = some (.slice none 0 0) := hmk.cell' (Or.inl (by simp; omega)) (cell_carry m1 (Carries.of 0 hba))
  have g0 : w9.cell? ⟨w5.heap.size, 0, none⟩ = some (.slice ag q kg) := hmk.cell' (Or.inr (by simp; omega)) (cell_carry g0 (Carries.of 0 hba))
  have g1 : w9.cell? ⟨w5.heap.size, 1, none⟩ = some (.slice none 0 0) := hmk.cell' (Or.inr (by simp; omega)) (cell_carry g1 (Carries.of 0 hba))
  have HW9 := Lib.hid ((HW8.out.after hba).stir (Marks.stir' hmk) (by omega))
  have HIG9 := Lib.hid ((HIG8.out.after hba).stir (Marks.stir' hmk) (Nat.le_refl _))
  have z95 : w5.heap.size < w9.heap.size := by have := hba.size; have := hmk.size; omega
  clear hba hmk ha e2 e3 hz3 hlo3
  have hT : decide ((1 : Int) + (T : Int) < 0) = false := by rw [decide_eq_false_iff_not]; omega
  go_wp2_with fail
  refine (eqUnf_two _ _ _ _ q L _ _ _ HQ.out HIG9.out.1 HW9.out.1 hLL).mono ?_
  rintro e w10 ⟨rfl, hb⟩
  have hw10 : Below w.heap.size w w10 := hw9.trans (hb.mono hw9.size)
  have e0 := cell_carry e0 (Carries.of 0 hb)
  have e1 := cell_carry e1 (Carries.of 0 hb)
  have m0 := cell_carry m0 (Carries.of 0 hb)
  have m1 := cell_carry m1 (Carries.of 0 hb)
  have g0 := cell_carry g0 (Carries.of 0 hb)
  have g1 := cell_carry g1 (Carries.of 0 hb)
  have HWA := Lib.hid (HW9.out.after hb)
  have HIGA := Lib.hid (HIG9.out.after hb)
  have zA : w5.heap.size < w10.heap.size := by have := hb.size; omega
  clear hb
  go_wp2_with fail
  refine (markUnf_any _ _ q L w10 _ _ HQ.out HIGA.out hLL (by omega)).mono ?_
  rintro e w11 ⟨rfl, hst, hat⟩
  have hw11 : Below w.heap.size w w11 := hst.below hw10 (by omega) (by omega)
  have e0 := hst.cell (Or.inl (by simp; omega)) e0
  have e1 := hst.cell (Or.inl (by simp; omega)) e1
  have m0 := hst.cell (Or.inl (by simp; omega)) m0
  have m1 := hst.cell (Or.inl (by simp; omega)) m1
  have g0 := hst.cell (Or.inr (by simp)) g0
  have g1 := hst.cell (Or.inr (by simp)) g1
  have HWB := Lib.hid (HWA.out.stir hst (by omega))
  have HUB := Lib.hid hat
  have zB : w5.heap.size < w11.heap.size := by have := hst.size; omega
  clear hst hat
  go_wp2_with fail
  refine (heldUnf_any _ _ q w11 _ HUB.out hLL).mono ?_
  rintro e w12 ⟨rfl, hb⟩
  have hw12 : Below w.heap.size w w12 := hw11.trans (hb.mono hw11.size)
  have e0 := cell_carry e0 (Carries.of 0 hb)
  have e1 := cell_carry e1 (Carries.of 0 hb)
  have m0 := cell_carry m0 (Carries.of 0 hb)
  have m1 := cell_carry m1 (Carries.of 0 hb)
  have g0 := cell_carry g0 (Carries.of 0 hb)
  have g1 := cell_carry g1 (Carries.of 0 hb)
  have HWC := Lib.hid (HWB.out.after hb)
  have HUC := Lib.hid (HUB.out.keep (Carries.of _ hb))
  clear hb
  have hq1 : ((1 : Int) + 2 * (q : Int) != 1 + 2 * (q : Int)) = false := by simp
  have hq2 : decide ((1 : Int) + 2 * (q : Int) < 0) = false := by rw [decide_eq_false_iff_not]; omega
  go_wp2_with fail
  refine (toNet_any _ n _ lo (HV.out.keep (Carries.of lo hw12)) HS.out).mono ?_
  rintro e w13 ⟨v13, rfl, hn13, hb⟩
  have hw13 : Below w.heap.size w w13 := hw12.trans (hb.mono hw12.size)
  have m0 := cell_carry m0 (Carries.of 0 hb)
  have m1 := cell_carry m1 (Carries.of 0 hb)
  have g0 := cell_carry g0 (Carries.of 0 hb)
  have g1 := cell_carry g1 (Carries.of 0 hb)
  have HWD := Lib.hid (HWC.out.after hb)
  have HUD := Lib.hid (HUC.out.keep (Carries.of _ hb))
  have H13 := Lib.hid hn13
  clear hb hn13 e0 e1
  go_wp2_with fail
  refine (InitialUnfolding_any _ n s _ _ H13.out HS.out hz_s).mono ?_
  rintro e w14 ⟨vh, rfl, hih, hb⟩
  rw [HG1.out]
  rw [HG0.out] at hih
  obtain ⟨ah, kh, rfl⟩ := hih.form
  have HIH := Lib.hid hih.at
  rw [← HQ.out] at HIH ⊢
  clear hih
  have hw14 : Below w.heap.size w w14 := hw13.trans (hb.mono hw13.size)
  have m0 := cell_carry m0 (Carries.of 0 hb)
  have m1 := cell_carry m1 (Carries.of 0 hb)
  have g0 := cell_carry g0 (Carries.of 0 hb)
  have g1 := cell_carry g1 (Carries.of 0 hb)
  have HWE := Lib.hid (HWD.out.after hb)
  have HUE := Lib.hid (HUD.out.keep (Carries.of _ hb))
  clear hb
  obtain ⟨W14, hW14⟩ : ∃ x, x = w14.alloc (.cells #[.slice ah q kh, .slice none 0 0] 39) := ⟨_, rfl⟩
  have HA14 : Below w14.heap.size w14 W14 := by rw [hW14]; exact (Below.refl _ _).alloc (Nat.le_refl _) _
  have hw14b : Below w.heap.size w W14 := hw14.trans (HA14.mono hw14.size)
  have m0 := cell_carry m0 (Carries.of 0 HA14)
  have m1 := cell_carry m1 (Carries.of 0 HA14)
  have g0 := cell_carry g0 (Carries.of 0 HA14)
  have g1 := cell_carry g1 (Carries.of 0 HA14)
  have HWF := Lib.hid (HWE.out.after HA14)
  have HUF := Lib.hid (HUE.out.keep (Carries.of _ HA14))
  have HIF := Lib.hid (HIH.out.keep (Carries.of _ HA14))
  clear HA14
  have m0c := m0
  have m1c := m1
  rw [hW14] at m0c m1c
  go_wp2_with (go_at_call 15; rw [← hW14]; clear m0c m1c hW14; refine (eqUnf_two _ _ _ _ q L _ _ _ HQ.out HIF.out HWF.out.1 hLL).mono ?_)
  rintro e w15 ⟨rfl, hb⟩
  have hw15 : Below w.heap.size w w15 := hw14b.trans (hb.mono hw14b.size)
  have g0 := cell_carry g0 (Carries.of 0 hb)
  have g1 := cell_carry g1 (Carries.of 0 hb)
  have HUG := Lib.hid (HUF.out.keep (Carries.of _ hb))
  clear hb m0 m1
  go_wp2_with fail
  refine (heldUnf_any _ _ q w15 _ HUG.out hLL).mono ?_
  rintro e w16 ⟨rfl, hb⟩
  have hw16 : Below w.heap.size w w16 := hw15.trans (hb.mono hw15.size)
  clear hb
  go_wp2_with fail
  go_ret
  exact ⟨rfl, hw16⟩

end Go.Proofs.Ytnmoocgocnjdjaa
