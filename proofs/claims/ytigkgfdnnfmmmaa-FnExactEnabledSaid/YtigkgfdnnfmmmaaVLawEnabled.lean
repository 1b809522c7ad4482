/- WALK of the law FnExactEnabled. -/
import Derived.Test.YtigkgfdnnfmmmaaVEna
import Derived.Test.YtigkgfdnnfmmmaaVMk
import Derived.Deep.RegionHeld3
namespace Go.Proofs.Ytigkgfdnnfmmmaa
open Go.RowKit

theorem Marks.cell {lo hi : Nat} {w w' : World} {a : Addr} {v : Value} (h : Marks lo hi w w') (ha : a.block < lo ∨ hi ≤ a.block) (hc : w.cell? a = some v) : w'.cell? a = some v :=
  (World.cell?_of_block (h.block a.block ha)).trans hc

/-- the blocks of a slice's ints lie before hi -/
def Bound (hi : Nat) (v : Value) : Prop := ∀ b off len cap, v = .slice (some ⟨b, off, none⟩) len cap → 0 < len → b < hi
theorem IntsAt.bound {lo : Nat} {w : World} {v : Value} {zs : List Int} (h : IntsAt lo w v zs) : Bound w.heap.size v := by
  intro b off len cap hv hl
  obtain ⟨ao, cp, rfl, _, hz⟩ := h
  injection hv with h1 h2 h3
  rcases hz with rfl | ⟨b', off', ha, hlo, hcell⟩
  · simp at h2; omega
  · rw [ha] at h1
    injection h1 with h1
    injection h1 with h1 h4 h5
    have := cell_old (hcell 0 (by omega))
    simp at this
    omega
def IntsIn (lo hi : Nat) (w : World) (v : Value) (zs : List Int) : Prop := IntsAt lo w v zs ∧ Bound hi v
theorem IntsIn.keep {lo hi : Nat} {w w' : World} {v : Value} {zs : List Int} (h : IntsIn lo hi w v zs) (hc : Carries lo w w') : IntsIn lo hi w' v zs := ⟨h.1.keep hc, h.2⟩
theorem IntsIn.marks {lo hi l k : Nat} {w w' : World} {v : Value} {zs : List Int} (h : IntsIn lo hi w v zs) (hm : Marks l k w w') (hl : hi ≤ l) : IntsIn lo hi w' v zs := by
  obtain ⟨⟨ao, cap, rfl, hc, hz⟩, hB⟩ := h
  refine ⟨⟨ao, cap, rfl, hc, ?_⟩, hB⟩
  rcases hz with hz | ⟨b, off, rfl, hlo, hcell⟩
  · exact Or.inl hz
  · exact Or.inr ⟨b, off, rfl, hlo, fun i hi => hm.cell (Or.inl (by have := hB b off _ _ rfl (by omega); simp; omega)) (hcell i hi)⟩
theorem IntsOw.above {lo l k : Nat} {w w' : World} {v : Value} {zs : List Int} (h : IntsOw lo w v zs) (hm : Marks l k w w') (hl : k ≤ lo) : IntsOw lo w' v zs :=
  h.keep ⟨by rw [hm.size]; exact Nat.le_refl _, fun b hb _ => hm.block b (Or.inr (by omega))⟩
theorem IntsOw.marked {lo : Nat} {w w' : World} {v : Value} {zs : List Int} {k : Int} (h : IntsOw lo w v zs) (hex : ∀ b off c, v = .slice (some ⟨b, off, none⟩) zs.length c → ∀ i, i < zs.length → w'.cell? ⟨b, off + i, none⟩ = some (.int .i64 (k + i))) : IntsAt lo w' v (upFrom k zs.length) := by
  obtain ⟨ao, cap, rfl, hc, hz⟩ := h
  refine ⟨ao, cap, by rw [upFrom_length], by rw [upFrom_length]; exact hc, ?_⟩
  rcases hz with rfl | ⟨b, off, rfl, hlo, hcell⟩
  · exact Or.inl rfl
  · refine Or.inr ⟨b, off, rfl, hlo, fun i hi => ?_⟩
    rw [upFrom_length] at hi
    rw [hex b off cap rfl i hi, upFrom_get hi]

set_option maxRecDepth 100000 in
set_option maxHeartbeats 1000000 in
theorem lawEnabled_any (v : Value) (n : NetD) (s : ByteArray) (w : World) (lo : Nat) (hv : NetAt lo w v n) (hok : OkTrs n.ts) (hs : s.size ≤ 9223372036854775807) :
    Calls Try.prog 9 #[v, .string s] w (RetB w true) := by
  have hv' := hv
  obtain ⟨hp0, hp1, u, rfl, ht⟩ := hv'
  obtain ⟨ao, cap, rfl, _, hz⟩ := ht
  have HV := Lib.hid hv; clear hv hz
  have HO := Lib.hid hok; clear hok
  obtain ⟨m, hm⟩ : ∃ m, m = n.ts.length := ⟨_, rfl⟩
  obtain ⟨p, hp⟩ : ∃ p, p = n.places := ⟨_, rfl⟩
  rw [← hm, ← hp] at HV ⊢
  rw [← hp] at hp0 hp1
  have HM := Lib.hid hm; clear hm
  have HP := Lib.hid hp; clear hp
  by_cases hz_s : s.size ≤ 1048576
  case neg =>
    go_enter Try.func9, Try.ntmps9
    go_wp2_with fail
    go_ret
    exact ⟨rfl, by (repeat' (first | (with_reducible exact Below.refl _ _) | (with_reducible assumption) | (with_reducible refine Below.alloc ?_ ?_ _) | (with_reducible refine Below.drew ?_) | (with_reducible refine below_drewN ?_ _) | (with_reducible refine Below.setCell ?_ ?_ _) | go_size))⟩
  go_enter Try.func9, Try.ntmps9
  go_wp2_with fail
  refine (szNet_any _ n _ _ lo (HV.out.keep ?_) (by omega) (by omega) HO.out).mono ?_
  · (repeat' (first | (with_reducible exact Carries.refl _ _) | (with_reducible assumption) | (with_reducible refine Carries.alloc ?_ _) | (with_reducible refine Carries.drew ?_) | (with_reducible refine Carries.drewN ?_ _) | (with_reducible refine Carries.set ?_ ?_ _) | go_size))
  rintro e w1 ⟨r, rfl, hr, hb1⟩
  have hw1 : Below w.heap.size w w1 := by
    refine Below.trans ?_ (hb1.mono ?_)
    · (repeat' (first | (with_reducible exact Below.refl _ _) | (with_reducible assumption) | (with_reducible refine Below.alloc ?_ ?_ _) | (with_reducible refine Below.drew ?_) | (with_reducible refine below_drewN ?_ _) | (with_reducible refine Below.setCell ?_ ?_ _) | go_size))
    · simp
  have a0 : w1.cell? ⟨w.heap.size, 0, none⟩ = some (.int .i64 p) := cell_carry (by simp) (Carries.of 0 hb1)
  have a1 : w1.cell? ⟨w.heap.size, 1, none⟩ = some (.slice ao m cap) := cell_carry (by simp) (Carries.of 0 hb1)
  have z1 : w.heap.size < w1.heap.size := by have := hb1.size; simp at this; omega
  clear hb1
  rcases hr with rfl | ⟨hr0, _, hsm⟩
  · go_wp2_with fail
    go_ret
    exact ⟨rfl, hw1⟩
  have HS := Lib.hid hsm; clear hsm
  go_wp2_with fail
  refine (toNet_any _ n _ lo (HV.out.keep (Carries.of lo hw1)) HS.out).mono ?_
  rintro e w2 ⟨v2, rfl, hn2, hb2⟩
  have hw2 : Below w.heap.size w w2 := hw1.trans (hb2.mono (by omega))
  have b0 := cell_carry a0 (Carries.of 0 hb2)
  have b1 := cell_carry a1 (Carries.of 0 hb2)
  have z2 : w.heap.size < w2.heap.size := by have := hb2.size; omega
  clear a0 a1 hb2
  have H2 := Lib.hid hn2; clear hn2
  go_wp2_with fail
  refine (specEnabled_any _ n s _ _ H2.out HS.out hz_s).mono ?_
  rintro e w3 ⟨vw, rfl, hiw, hb3⟩
  generalize hG0 : enL n s = L at hiw
  have HG0 := Lib.hid hG0; clear hG0
  generalize hG1 : enB n s = r1_
  have HG1 := Lib.hid hG1; clear hG1
  obtain ⟨aw, kw, rfl, _, _⟩ := id hiw
  have HW3 := Lib.hid hiw; clear hiw
  have HWB := Lib.hid (IntsAt.bound HW3.out)
  have hLL : L.length ≤ 1048576 := by rw [← HG0.out]; exact enL_small HS.out
  have hw3 : Below w.heap.size w w3 := hw2.trans (hb3.mono (by omega))
  have c0 := cell_carry b0 (Carries.of 0 hb3)
  have c1 := cell_carry b1 (Carries.of 0 hb3)
  have z3 : w.heap.size < w3.heap.size := by have := hb3.size; omega
  clear b0 b1 hb3
  go_wp2_with fail
  refine (toNet_ow _ n _ lo (HV.out.keep (Carries.of lo hw3)) HS.out).mono ?_
  rintro e w4 ⟨v4, rfl, hn4, hb4⟩
  have hn4' := hn4
  obtain ⟨_, _, u4, rfl, ⟨a4, k4, rfl, _, _⟩⟩ := hn4'
  rw [← HM.out, ← HP.out] at hn4 ⊢
  have hw4 : Below w.heap.size w w4 := hw3.trans (hb4.mono (by omega))
  have d0 := cell_carry c0 (Carries.of 0 hb4)
  have d1 := cell_carry c1 (Carries.of 0 hb4)
  have z4 : w.heap.size < w4.heap.size := by have := hb4.size; omega
  have z43 : w3.heap.size ≤ w4.heap.size := hb4.size
  have HW4 := Lib.hid (HW3.out.keep (Carries.of _ hb4))
  clear c0 c1 hb4
  have H4 := Lib.hid hn4; clear hn4
  go_wp2_with fail
  refine (Enabled_any _ n s _ _ (H4.out.at.keep ?_) HS.out hz_s).mono ?_
  · (repeat' (first | (with_reducible exact Carries.refl _ _) | (with_reducible assumption) | (with_reducible refine Carries.alloc ?_ _) | (with_reducible refine Carries.drew ?_) | (with_reducible refine Carries.drewN ?_ _) | (with_reducible refine Carries.set ?_ ?_ _) | go_size))
  rintro e w5 ⟨vg, rfl, hig, hb5⟩
  obtain ⟨ag, kg, rfl, _, _⟩ := id hig
  rw [HG1.out]
  rw [HG0.out] at hig ⊢
  have hw5 : Below w.heap.size w w5 := by
    refine Below.trans ?_ (hb5.mono ?_)
    · (repeat' (first | (with_reducible exact Below.refl _ _) | (with_reducible assumption) | (with_reducible refine Below.alloc ?_ ?_ _) | (with_reducible refine Below.drew ?_) | (with_reducible refine below_drewN ?_ _) | (with_reducible refine Below.setCell ?_ ?_ _) | go_size))
    · simp; omega
  have e0 : w5.cell? ⟨w.heap.size, 0, none⟩ = some (.int .i64 p) := cell_carry (cell_carry d0 (by (repeat' (first | (with_reducible exact Carries.refl _ _) | (with_reducible assumption) | (with_reducible refine Carries.alloc ?_ _) | (with_reducible refine Carries.drew ?_) | (with_reducible refine Carries.drewN ?_ _) | (with_reducible refine Carries.set ?_ ?_ _) | go_size)))) (Carries.of 0 hb5)
  have e1 : w5.cell? ⟨w.heap.size, 1, none⟩ = some (.slice ao m cap) := cell_carry (cell_carry d1 (by (repeat' (first | (with_reducible exact Carries.refl _ _) | (with_reducible assumption) | (with_reducible refine Carries.alloc ?_ _) | (with_reducible refine Carries.drew ?_) | (with_reducible refine Carries.drewN ?_ _) | (with_reducible refine Carries.set ?_ ?_ _) | go_size)))) (Carries.of 0 hb5)
  have e2 : w5.cell? ⟨w4.heap.size, 0, none⟩ = some (.int .i64 p) := cell_carry (by simp) (Carries.of 0 hb5)
  have e3 : w5.cell? ⟨w4.heap.size, 1, none⟩ = some (.slice a4 m k4) := cell_carry (by simp) (Carries.of 0 hb5)
  have hs45 : Same w3.heap.size w4 w5 := Same.trans (by (repeat' (first | (with_reducible exact Same.refl _ _) | (with_reducible assumption) | (with_reducible refine Same.alloc ?_ _) | (with_reducible refine Same.drew ?_) | (with_reducible refine Same.drewN ?_ _) | (with_reducible refine Same.set ?_ ?_ _) | go_size))) (Same.of _ hb5)
  have S45 := Lib.hid hs45
  have HW5 := Lib.hid (HW4.out.keep (Carries.trans (by (repeat' (first | (with_reducible exact Carries.refl _ _) | (with_reducible assumption) | (with_reducible refine Carries.alloc ?_ _) | (with_reducible refine Carries.drew ?_) | (with_reducible refine Carries.drewN ?_ _) | (with_reducible refine Carries.set ?_ ?_ _) | go_size))) (Carries.of _ hb5)))
  have H5 := Lib.hid (H4.out.keep hs45)
  have zg : w4.heap.size + 1 ≤ w5.heap.size := by have := hb5.size; simpa using this
  have HIG := Lib.hid (hig.low (lo' := w4.heap.size + 1) (by simp)); clear hig
  have z5 : w.heap.size < w5.heap.size := by omega
  clear d0 d1 hb5 hs45
  go_wp2_with fail
  refine (eqIntS_any _ _ L L _ _ _ HIG.out.at HW5.out (by omega) (by omega)).mono ?_
  rintro e w6 ⟨rfl, hb⟩
  have hne1 : (r1_ != r1_) = false := by simp
  have hdd : decide (L = L) = true := by simp
  have hw6 : Below w.heap.size w w6 := hw5.trans (hb.mono (by omega))
  have e0 := cell_carry e0 (Carries.of 0 hb)
  have e1 := cell_carry e1 (Carries.of 0 hb)
  have e2 := cell_carry e2 (Carries.of 0 hb)
  have e3 := cell_carry e3 (Carries.of 0 hb)
  have S46 := Lib.hid (S45.out.trans (Same.of _ hb))
  have HW6 := Lib.hid (HW5.out.keep (Carries.of _ hb))
  have H6 := Lib.hid (H5.out.keep (Same.of _ hb))
  have HIG6 := Lib.hid (HIG.out.keep (Same.of _ hb))
  have z6 : w.heap.size < w6.heap.size := by have := hb.size; omega
  have z64 : w4.heap.size < w6.heap.size := by have := hb.size; omega
  clear hb
  go_wp2_with fail
  go_region_held3 (fun w' => w'.cell? ⟨w.heap.size, 0, none⟩ = some (.int .i64 p) ∧ w'.cell? ⟨w.heap.size, 1, none⟩ = some (.slice ao m cap) ∧ w'.cell? ⟨w4.heap.size, 0, none⟩ = some (.int .i64 p) ∧ w'.cell? ⟨w4.heap.size, 1, none⟩ = some (.slice a4 m k4))
    (first
      | exact ⟨e0, e1, e2, e3⟩
      | exact ⟨cell_carry (w := w6.drew) e0 (Carries.of 0 hb7), cell_carry (w := w6.drew) e1 (Carries.of 0 hb7), cell_carry (w := w6.drew) e2 (Carries.of 0 hb7), cell_carry (w := w6.drew) e3 (Carries.of 0 hb7)⟩
      | exact ⟨cell_carry (cell_carry (w := w6.drew) e0 (Carries.of 0 hb7)) (Carries.of 0 hb8), cell_carry (cell_carry (w := w6.drew) e1 (Carries.of 0 hb7)) (Carries.of 0 hb8), cell_carry (cell_carry (w := w6.drew) e2 (Carries.of 0 hb7)) (Carries.of 0 hb8), cell_carry (cell_carry (w := w6.drew) e3 (Carries.of 0 hb7)) (Carries.of 0 hb8)⟩)
    (first
      | (go_at_call 26; refine (toNet_any _ n w6.drew lo (HV.out.keep (Carries.of lo hw6.drew)) HS.out).mono ?_; rintro e w7 ⟨v7, rfl, hn7, hb7⟩)
      | (go_at_call 28; refine (eqNet_any _ _ n n _ _ _ (H6.out.at.keep (Carries.of (w := w6.drew) _ hb7)) hn7 HS.out HS.out).mono ?_; rintro e w8 ⟨rfl, hb8⟩))
  have hw7 : Below w.heap.size w w7 := hw6.trans (Below.trans (b := w6.drew) (Below.refl _ _).drew (hb7.mono (by simp; omega)))
  have hw8 : Below w.heap.size w w8 := hw7.trans (hb8.mono hw7.size)
  have s68 : Same 0 w6 w8 := Same.trans (b := w6.drew) ((Same.refl 0 w6).drew) (Same.trans (Same.of 0 hb7) (Same.of 0 hb8))
  have lows : ∀ l, Same l w6 w8 := fun l => ⟨s68.1, fun b _ hb => s68.2 b (Nat.zero_le _) hb⟩
  have car8 : ∀ l, Carries l w6 w8 := fun l a v _ hc => by
    rw [World.cell?_of_block (s68.2 a.block (Nat.zero_le _) (cell_old hc))]; exact hc
  have f0 := car8 0 _ _ (Nat.zero_le _) e0
  have f1 := car8 0 _ _ (Nat.zero_le _) e1
  have f2 := car8 0 _ _ (Nat.zero_le _) e2
  have f3 := car8 0 _ _ (Nat.zero_le _) e3
  have S48 := Lib.hid (S46.out.trans (lows _))
  have HW8 := Lib.hid (HW6.out.keep (car8 _))
  have HIG8 := Lib.hid (HIG6.out.keep (lows _))
  have z84 : w4.heap.size < w8.heap.size := by have := s68.1; omega
  clear lows car8 s68 hb7 hb8 e0 e1 e2 e3
  go_wp2_with fail
  refine (markNet_any _ n 1 w4 w8 w3.heap.size H4.out S48.out HS.out (by omega) (by omega)).mono ?_
  rintro e w9 ⟨wa, rfl, hba, hmk⟩
  generalize (totTo n.ts n.ts.length) = T
  have ha := hw8.trans (hba.mono hw8.size)
  have z3' := Nat.le_of_lt z3
  have hw9 : Below w.heap.size w w9 := hmk.below ha z3'
  have g0 : w9.cell? ⟨w.heap.size, 0, none⟩ = some (.int .i64 p) := hmk.cell (Or.inl z3) (cell_carry f0 (Carries.of 0 hba))
  have g1 : w9.cell? ⟨w.heap.size, 1, none⟩ = some (.slice ao m cap) := hmk.cell (Or.inl z3) (cell_carry f1 (Carries.of 0 hba))
  have HW9 := Lib.hid (IntsIn.marks ⟨HW8.out.keep (Carries.of _ hba), HWB.out⟩ hmk (Nat.le_refl _))
  have HIG9 := Lib.hid ((HIG8.out.keep (Same.of _ hba)).above hmk (Nat.le_succ _))
  have z94 : w4.heap.size < w9.heap.size := by have := hba.size; have := hmk.size; omega
  clear hba hmk ha f0 f1 f2 f3
  have hT : decide ((1 : Int) + (T : Int) < 0) = false := by rw [decide_eq_false_iff_not]; omega
  go_wp2_with fail
  refine (eqIntS_any _ _ L L _ _ _ HIG9.out.at HW9.out.1 (by omega) (by omega)).mono ?_
  rintro e w10 ⟨rfl, hb⟩
  have hw10 : Below w.heap.size w w10 := hw9.trans (hb.mono hw9.size)
  have h0 := cell_carry g0 (Carries.of 0 hb)
  have h1 := cell_carry g1 (Carries.of 0 hb)
  have HW10 := Lib.hid (HW9.out.keep (Carries.of _ hb))
  have HIG10 := Lib.hid (HIG9.out.keep (Same.of _ hb))
  have zA : w4.heap.size < w10.heap.size := by have := hb.size; omega
  clear hb g0 g1
  go_wp2_with fail
  refine (markIntS_any _ L.length 1 w10 (w4.heap.size + 1) w10.heap.size HIG10.out.box hLL (by omega) (by omega)).mono ?_
  rintro e w11 ⟨rfl, hmk, hex⟩
  have hw11 : Below w.heap.size w w11 := hmk.below hw10 (by omega)
  have g0 : w11.cell? ⟨w.heap.size, 0, none⟩ = some (.int .i64 p) := hmk.cell (Or.inl (by simp; omega)) h0
  have g1 : w11.cell? ⟨w.heap.size, 1, none⟩ = some (.slice ao m cap) := hmk.cell (Or.inl (by simp; omega)) h1
  have HW11 := Lib.hid (HW10.out.marks hmk (by omega))
  have HU11 := Lib.hid (IntsOw.marked HIG10.out hex)
  have zB : w4.heap.size < w11.heap.size := by have := hmk.size; omega
  clear hmk hex h0 h1
  go_wp2_with fail
  refine (heldIntS_any _ L.length 1 w11 _ HU11.out hLL (by omega) (by omega)).mono ?_
  rintro e w12 ⟨rfl, hb⟩
  have hw12 : Below w.heap.size w w12 := hw11.trans (hb.mono hw11.size)
  have h0 := cell_carry g0 (Carries.of 0 hb)
  have h1 := cell_carry g1 (Carries.of 0 hb)
  have HW12 := Lib.hid (HW11.out.keep (Carries.of _ hb))
  have HU12 := Lib.hid (HU11.out.keep (Carries.of _ hb))
  have zC : w.heap.size < w12.heap.size := by have := hb.size; omega
  clear hb g0 g1
  have hq : ((1 : Int) + (L.length : Int) != 1 + (L.length : Int)) = false := by simp
  have hq2 : decide ((1 : Int) + (L.length : Int) < 0) = false := by rw [decide_eq_false_iff_not]; omega
  go_wp2_with fail
  refine (toNet_any _ n _ lo (HV.out.keep (Carries.of lo hw12)) HS.out).mono ?_
  rintro e w13 ⟨v13, rfl, hn13, hb⟩
  have hw13 : Below w.heap.size w w13 := hw12.trans (hb.mono hw12.size)
  have HW13 := Lib.hid (HW12.out.keep (Carries.of _ hb))
  have HU13 := Lib.hid (HU12.out.keep (Carries.of _ hb))
  have H13 := Lib.hid hn13
  clear hb hn13 h0 h1
  go_wp2_with fail
  refine (Enabled_any _ n s _ _ H13.out HS.out hz_s).mono ?_
  rintro e w14 ⟨vh, rfl, hih, hb⟩
  rw [HG1.out]
  rw [HG0.out] at hih
  obtain ⟨ah, kh, rfl, _, _⟩ := id hih
  have hw14 : Below w.heap.size w w14 := hw13.trans (hb.mono hw13.size)
  have HW14 := Lib.hid (HW13.out.keep (Carries.of _ hb))
  have HU14 := Lib.hid (HU13.out.keep (Carries.of _ hb))
  have HH14 := Lib.hid hih.at
  clear hb hih
  go_wp2_with fail
  refine (eqIntS_any _ _ L L _ _ _ HH14.out HW14.out.1 (by omega) (by omega)).mono ?_
  rintro e w15 ⟨rfl, hb⟩
  have hw15 : Below w.heap.size w w15 := hw14.trans (hb.mono hw14.size)
  have HU15 := Lib.hid (HU14.out.keep (Carries.of _ hb))
  clear hb
  go_wp2_with fail
  refine (heldIntS_any _ L.length 1 w15 _ HU15.out hLL (by omega) (by omega)).mono ?_
  rintro e w16 ⟨rfl, hb⟩
  have hw16 : Below w.heap.size w w16 := hw15.trans (hb.mono hw15.size)
  clear hb
  go_wp2_with fail
  go_ret
  exact ⟨rfl, hw16⟩

end Go.Proofs.Ytigkgfdnnfmmmaa
