/- WALK of the law FnExactReachableMarkings.
   THE READING OF AN ARGUMENT: a slice of ints, a slice of transitions, a net, as data. -/
import Derived.Test.YtigkgfdnnfmmmaaVRmp
import Derived.Test.YtigkgfdnnfmmmaaVRgbt
import Derived.Test.YtigkgfdnnfmmmaaVL1in
import Derived.Test.YtigkgfdnnfmmmaaVMk
import Derived.Deep.RegionHeld3
import Derived.Test.YtigkgfdnnfmmmaaRows
import Derived.ProofKit
import Derived.Lib.SmallJoins
namespace Go.Proofs.Ytigkgfdnnfmmmaa
open Go.RowKit

theorem exr_done_on {n : NetD} {ea : Bool} {mx : Nat} {m0 : ByteArray} : ∀ i s, exTo n ea mx m0 i = .done s → ∃ j k t, exTo n ea mx m0 j = .on k t s
  | 0, s, h => by rw [exTo] at h; cases h
  | i + 1, s, h => by
    cases hc : exTo n ea mx m0 i with
    | done s' =>
      rw [exTo, hc] at h
      simp only [exStep] at h
      injection h with h1
      subst h1
      exact exr_done_on i s' hc
    | bad k t s' => rw [exTo, hc] at h; cases h
    | full => rw [exTo, hc] at h; cases h
    | on k t s' =>
      rw [exTo, hc] at h
      simp only [exStep] at h
      repeat' split at h
      all_goals first
        | (injection h with h1; subst h1; exact ⟨i, k, t, hc⟩)
        | cases h
theorem rm_small (n : NetD) (s : ByteArray) : (rmL n s).length ≤ 1048576 := by
  unfold rmL
  by_cases hq : askB n s = true
  case neg => rw [if_neg hq]; simp
  rw [if_pos hq]
  unfold askB at hq
  simp only [Bool.and_eq_true] at hq
  cases hf : exF n false 600 s with
  | on k t x => simp
  | bad k t x => simp
  | full => simp
  | done x =>
    obtain ⟨j, k, t, hj⟩ := exr_done_on _ _ hf
    have ho := (ex_ok hq.1 (by omega : 1 ≤ 600) hq.2 j k t x hj).1
    have h1 := ho.bound
    have h2 := ho.tle
    have h3 := (goodN_parts hq.1).2.2.1
    have h4 := putTo_length x.ms x.ms.length
    show (putTo x.ms x.ms.length).length ≤ _
    omega

/-! a row of texts from block lo on, before hi -/
structure TxIn (lo hi : Nat) (w : World) (v : Value) (l : List ByteArray) : Prop where
  m : SRow lo w v l
  hm : ∀ b, v.ownBlock = some b → b < hi
theorem TxIn.at {lo hi : Nat} {w : World} {v : Value} {l : List ByteArray} (h : TxIn lo hi w v l) : TextsAt lo w v l := h.m.at
theorem TxIn.after {lo hi : Nat} {w w' : World} {v : Value} {l : List ByteArray} (h : TxIn lo hi w v l) (hb : Below w.heap.size w w') : TxIn lo hi w' v l := ⟨owns_after h.m hb, h.hm⟩
theorem TxIn.stir {lo hi l k : Nat} {w w' : World} {v : Value} {ss : List ByteArray} (h : TxIn lo hi w v ss) (hs : Stir l k w w') (hd : hi ≤ l ∨ k ≤ lo) : TxIn lo hi w' v ss := by
  have hm2 : ∀ b, v.ownBlock = some b → b < l ∨ k ≤ b := fun b hb => by
    have := h.hm b hb
    rcases h.m.2 with ⟨rfl, _⟩ | ⟨g, cap, cur, rfl, hg, _⟩
    · cases hb
    · simp only [Value.ownBlock, Option.some.injEq] at hb; omega
  exact ⟨rows_stir h.m hs hm2, h.hm⟩
theorem TxIn.of {lo : Nat} {w : World} {v : Value} {l : List ByteArray} (h0 : SRow lo w v l) : TxIn lo w.heap.size w v l := by
  refine ⟨h0, fun b hb => ?_⟩
  rcases h0.2 with ⟨rfl, _⟩ | ⟨g, cap, cur, rfl, _, hg, _⟩
  · cases hb
  · simp only [Value.ownBlock, Option.some.injEq] at hb
    subst hb
    exact (Array.getElem?_eq_some_iff.1 hg).1
theorem markTx_any (v : Value) (L : List ByteArray) (w : World) (lo hi : Nat) (h : TxIn lo hi w v L) (hlh : lo ≤ hi) (hh : hi ≤ w.heap.size) (hL : L.length ≤ 1048576) :
    Calls Try.prog 33 #[v, .int .i64 1] w (fun e w' => e = .returned (.int .i64 (1 + (L.length : Int))) ∧ Stir lo hi w w' ∧ TextsAt lo w' v (markedTxs 1 L.length)) := by
  obtain ⟨l1, u1, g1, g2, g3, hb1, hx1⟩ := h.m.box (Nat.le_trans hlh hh)
  have hu : u1 ≤ hi := by
    rcases hx1 with ⟨_, rfl⟩ | ⟨e1, rfl⟩
    · exact hlh
    · exact h.hm _ e1
  refine (markStringS_val v L.length 1 w l1 u1 hb1 hL (by omega) (by omega)).mono ?_
  rintro e w' ⟨rfl, hst, hct⟩
  exact ⟨rfl, hst.wide g1 hu, texts_marked h.m hct⟩

set_option maxRecDepth 100000 in
set_option maxHeartbeats 2000000 in
theorem lawReachableMarkings_any (v : Value) (n : NetD) (s : ByteArray) (w : World) (lo : Nat) (hv : NetAt lo w v n) (hok : OkTrs n.ts) (hs : s.size ≤ 9223372036854775807) :
    Calls Try.prog 6 #[v, .string s] w (RetB w true) := by
  have hv' := hv
  obtain ⟨hp0, hp1, u, rfl, ht⟩ := hv'
  obtain ⟨ao, cap, rfl, _, hz⟩ := ht
  have HV := Lib.hid hv; clear hv hz
  have HO := Lib.hid hok; clear hok
  obtain ⟨m, hm⟩ : ∃ m, m = n.ts.length := ⟨_, rfl⟩
  obtain ⟨p, hp⟩ : ∃ p, p = n.places := ⟨_, rfl⟩
  rw [← hm, ← hp] at HV ⊢
  rw [← hp] at hp0 hp1
  have HM := Lib.hid hm; clear hm
  have HP := Lib.hid hp; clear hp
  by_cases hz_s : s.size ≤ 1048576
  case neg =>
    go_enter Try.func6, Try.ntmps6
    go_wp2_with fail
    go_ret
    exact ⟨rfl, by (repeat' (first | (with_reducible exact Below.refl _ _) | (with_reducible assumption) | (with_reducible refine Below.alloc ?_ ?_ _) | (with_reducible refine Below.drew ?_) | (with_reducible refine below_drewN ?_ _) | (with_reducible refine Below.setCell ?_ ?_ _) | go_size))⟩
  go_enter Try.func6, Try.ntmps6
  go_wp2_with fail
  refine (szNet_any _ n _ _ lo (HV.out.keep ?_) (by omega) (by omega) HO.out).mono ?_
  · (repeat' (first | (with_reducible exact Carries.refl _ _) | (with_reducible assumption) | (with_reducible refine Carries.alloc ?_ _) | (with_reducible refine Carries.drew ?_) | (with_reducible refine Carries.drewN ?_ _) | (with_reducible refine Carries.set ?_ ?_ _) | go_size))
  rintro e w1 ⟨r, rfl, hr, hb1⟩
  have hw1 : Below w.heap.size w w1 := by
    refine Below.trans ?_ (hb1.mono ?_)
    · (repeat' (first | (with_reducible exact Below.refl _ _) | (with_reducible assumption) | (with_reducible refine Below.alloc ?_ ?_ _) | (with_reducible refine Below.drew ?_) | (with_reducible refine below_drewN ?_ _) | (with_reducible refine Below.setCell ?_ ?_ _) | go_size))
    · simp
  have a0 : w1.cell? ⟨w.heap.size, 0, none⟩ = some (.int .i64 p) := cell_carry (by simp) (Carries.of 0 hb1)
  have a1 : w1.cell? ⟨w.heap.size, 1, none⟩ = some (.slice ao m cap) := cell_carry (by simp) (Carries.of 0 hb1)
  have z1 : w.heap.size < w1.heap.size := by have := hb1.size; simp at this; omega
  clear hb1
  rcases hr with rfl | ⟨hr0, _, hsm⟩
  · go_wp2_with fail
    go_ret
    exact ⟨rfl, hw1⟩
  have HS := Lib.hid hsm; clear hsm
  go_wp2_with fail
  refine (toNet_any _ n _ lo (HV.out.keep (Carries.of lo hw1)) HS.out).mono ?_
  rintro e w2 ⟨v2, rfl, hn2, hb2⟩
  have hw2 : Below w.heap.size w w2 := hw1.trans (hb2.mono (by omega))
  have b0 := cell_carry a0 (Carries.of 0 hb2)
  have b1 := cell_carry a1 (Carries.of 0 hb2)
  have z2 : w.heap.size < w2.heap.size := by have := hb2.size; omega
  clear a0 a1 hb2
  have H2 := Lib.hid hn2; clear hn2
  go_wp2_with fail
  refine (specReachableMarkings_any _ n s _ _ H2.out HS.out hz_s).mono ?_
  rintro e w3 ⟨vw, rfl, hiw, hb3⟩
  generalize hG0 : rmL n s = L at hiw
  have HG0 := Lib.hid hG0; clear hG0
  generalize hG1 : sfV n s = r1_
  have HG1 := Lib.hid hG1; clear hG1
  obtain ⟨aw, kw, rfl⟩ := hiw.form
  have HW3 := Lib.hid (TxIn.of hiw); clear hiw
  have hLL : L.length ≤ 1048576 := by rw [← HG0.out]; exact rm_small n s
  have hw3 : Below w.heap.size w w3 := hw2.trans (hb3.mono (by omega))
  have c0 := cell_carry b0 (Carries.of 0 hb3)
  have c1 := cell_carry b1 (Carries.of 0 hb3)
  have z3 : w.heap.size < w3.heap.size := by have := hb3.size; omega
  clear b0 b1 hb3
  go_wp2_with fail
  refine (toNet_ow _ n _ lo (HV.out.keep (Carries.of lo hw3)) HS.out).mono ?_
  rintro e w4 ⟨v4, rfl, hn4, hb4⟩
  have hn4' := hn4
  obtain ⟨_, _, u4, rfl, ⟨a4, k4, rfl, _, _⟩⟩ := hn4'
  rw [← HM.out, ← HP.out] at hn4 ⊢
  have hw4 : Below w.heap.size w w4 := hw3.trans (hb4.mono (by omega))
  have d0 := cell_carry c0 (Carries.of 0 hb4)
  have d1 := cell_carry c1 (Carries.of 0 hb4)
  have z4 : w.heap.size < w4.heap.size := by have := hb4.size; omega
  have z43 : w3.heap.size ≤ w4.heap.size := hb4.size
  have HW4 := Lib.hid (HW3.out.after hb4)
  clear c0 c1 hb4
  have H4 := Lib.hid hn4; clear hn4
  go_wp2_with fail
  refine (ReachableMarkings_any _ n s _ _ (H4.out.at.keep ?_) HS.out hz_s).mono ?_
  · (repeat' (first | (with_reducible exact Carries.refl _ _) | (with_reducible assumption) | (with_reducible refine Carries.alloc ?_ _) | (with_reducible refine Carries.drew ?_) | (with_reducible refine Carries.drewN ?_ _) | (with_reducible refine Carries.set ?_ ?_ _) | go_size))
  rintro e w5 ⟨vg, rfl, hig, hb5⟩
  obtain ⟨ag, kg, rfl⟩ := hig.form
  rw [HG1.out]
  rw [HG0.out] at hig ⊢
  have hw5 : Below w.heap.size w w5 := by
    refine Below.trans ?_ (hb5.mono ?_)
    · (repeat' (first | (with_reducible exact Below.refl _ _) | (with_reducible assumption) | (with_reducible refine Below.alloc ?_ ?_ _) | (with_reducible refine Below.drew ?_) | (with_reducible refine below_drewN ?_ _) | (with_reducible refine Below.setCell ?_ ?_ _) | go_size))
    · simp; omega
  have e0 : w5.cell? ⟨w.heap.size, 0, none⟩ = some (.int .i64 p) := cell_carry (cell_carry d0 (by (repeat' (first | (with_reducible exact Carries.refl _ _) | (with_reducible assumption) | (with_reducible refine Carries.alloc ?_ _) | (with_reducible refine Carries.drew ?_) | (with_reducible refine Carries.drewN ?_ _) | (with_reducible refine Carries.set ?_ ?_ _) | go_size)))) (Carries.of 0 hb5)
  have e1 : w5.cell? ⟨w.heap.size, 1, none⟩ = some (.slice ao m cap) := cell_carry (cell_carry d1 (by (repeat' (first | (with_reducible exact Carries.refl _ _) | (with_reducible assumption) | (with_reducible refine Carries.alloc ?_ _) | (with_reducible refine Carries.drew ?_) | (with_reducible refine Carries.drewN ?_ _) | (with_reducible refine Carries.set ?_ ?_ _) | go_size)))) (Carries.of 0 hb5)
  have e2 : w5.cell? ⟨w4.heap.size, 0, none⟩ = some (.int .i64 p) := cell_carry (by simp) (Carries.of 0 hb5)
  have e3 : w5.cell? ⟨w4.heap.size, 1, none⟩ = some (.slice a4 m k4) := cell_carry (by simp) (Carries.of 0 hb5)
  have hs45 : Same w3.heap.size w4 w5 := Same.trans (by (repeat' (first | (with_reducible exact Same.refl _ _) | (with_reducible assumption) | (with_reducible refine Same.alloc ?_ _) | (with_reducible refine Same.drew ?_) | (with_reducible refine Same.drewN ?_ _) | (with_reducible refine Same.set ?_ ?_ _) | go_size))) (Same.of _ hb5)
  have S45 := Lib.hid hs45
  have HW5 := Lib.hid ((HW4.out.after ((Below.refl _ _).alloc (Nat.le_refl _) (.cells #[.int .i64 p, .slice a4 m k4] 38))).after hb5)
  have H5 := Lib.hid (H4.out.keep hs45)
  have zg : w4.heap.size + 1 ≤ w5.heap.size := by have := hb5.size; simpa using this
  have HIG := Lib.hid (TxIn.of (Go.Joins.ownsRow_le hig (show w4.heap.size + 1 ≤ _ by simp))); clear hig
  have z5 : w.heap.size < w5.heap.size := by omega
  clear d0 d1 hb5 hs45
  go_wp2_with fail
  refine (eqStringS_any _ _ L L _ _ _ HIG.out.at HW5.out.at (by omega) (by omega)).mono ?_
  rintro e w6 ⟨rfl, hb⟩
  have hne1 : (r1_ != r1_) = false := by simp
  have hdd : decide (L = L) = true := by simp
  have hw6 : Below w.heap.size w w6 := hw5.trans (hb.mono (by omega))
  have e0 := cell_carry e0 (Carries.of 0 hb)
  have e1 := cell_carry e1 (Carries.of 0 hb)
  have e2 := cell_carry e2 (Carries.of 0 hb)
  have e3 := cell_carry e3 (Carries.of 0 hb)
  have S46 := Lib.hid (S45.out.trans (Same.of _ hb))
  have HW6 := Lib.hid (HW5.out.after hb)
  have H6 := Lib.hid (H5.out.keep (Same.of _ hb))
  have HIG6 := Lib.hid (HIG.out.after hb)
  have z6 : w.heap.size < w6.heap.size := by have := hb.size; omega
  have z56 : w5.heap.size ≤ w6.heap.size := hb.size
  have z64 : w4.heap.size < w6.heap.size := by have := hb.size; omega
  clear hb
  go_wp2_with fail
  go_region_held3 (fun w' => w'.cell? ⟨w.heap.size, 0, none⟩ = some (.int .i64 p) ∧ w'.cell? ⟨w.heap.size, 1, none⟩ = some (.slice ao m cap) ∧ w'.cell? ⟨w4.heap.size, 0, none⟩ = some (.int .i64 p) ∧ w'.cell? ⟨w4.heap.size, 1, none⟩ = some (.slice a4 m k4))
    (first
      | exact ⟨e0, e1, e2, e3⟩
      | exact ⟨cell_carry (w := w6.drew) e0 (Carries.of 0 hb7), cell_carry (w := w6.drew) e1 (Carries.of 0 hb7), cell_carry (w := w6.drew) e2 (Carries.of 0 hb7), cell_carry (w := w6.drew) e3 (Carries.of 0 hb7)⟩
      | exact ⟨cell_carry (cell_carry (w := w6.drew) e0 (Carries.of 0 hb7)) (Carries.of 0 hb8), cell_carry (cell_carry (w := w6.drew) e1 (Carries.of 0 hb7)) (Carries.of 0 hb8), cell_carry (cell_carry (w := w6.drew) e2 (Carries.of 0 hb7)) (Carries.of 0 hb8), cell_carry (cell_carry (w := w6.drew) e3 (Carries.of 0 hb7)) (Carries.of 0 hb8)⟩)
    (first
      | (go_at_call 26; refine (toNet_any _ n w6.drew lo (HV.out.keep (Carries.of lo hw6.drew)) HS.out).mono ?_; rintro e w7 ⟨v7, rfl, hn7, hb7⟩)
      | (go_at_call 28; refine (eqNet_any _ _ n n _ _ _ (H6.out.at.keep (Carries.of (w := w6.drew) _ hb7)) hn7 HS.out HS.out).mono ?_; rintro e w8 ⟨rfl, hb8⟩))
  have hb78 : Below w6.heap.size w6 w8 := (Below.trans (b := w6.drew) (Below.refl _ _).drew (Below.trans (hb7.mono (by simp)) (hb8.mono (by have := hb7.size; simp at this; omega))))
  have hw8 : Below w.heap.size w w8 := hw6.trans (hb78.mono hw6.size)
  have f0 := cell_carry e0 (Carries.of 0 hb78)
  have f1 := cell_carry e1 (Carries.of 0 hb78)
  have f2 := cell_carry e2 (Carries.of 0 hb78)
  have f3 := cell_carry e3 (Carries.of 0 hb78)
  have S48 := Lib.hid (S46.out.trans (Same.of _ hb78))
  have HW8 := Lib.hid (HW6.out.after hb78)
  have HIG8 := Lib.hid (HIG6.out.after hb78)
  have z58 : w5.heap.size ≤ w8.heap.size := Nat.le_trans z56 hb78.size
  have z84 : w4.heap.size < w8.heap.size := by have := hb78.size; omega
  clear hb78 hb7 hb8 e0 e1 e2 e3
  go_wp2_with fail
  refine (markNet_any _ n 1 w4 w8 w3.heap.size H4.out S48.out HS.out (by omega) (by omega)).mono ?_
  rintro e w9 ⟨wa, rfl, hba, hmk⟩
  generalize (totTo n.ts n.ts.length) = T
  have ha := hw8.trans (hba.mono hw8.size)
  have z3' := Nat.le_of_lt z3
  have hw9 : Below w.heap.size w w9 := hmk.below ha z3'
  have g0 : w9.cell? ⟨w.heap.size, 0, none⟩ = some (.int .i64 p) := hmk.cell (Or.inl z3) (cell_carry f0 (Carries.of 0 hba))
  have g1 : w9.cell? ⟨w.heap.size, 1, none⟩ = some (.slice ao m cap) := hmk.cell (Or.inl z3) (cell_carry f1 (Carries.of 0 hba))
  have HW9 := Lib.hid ((HW8.out.after hba).stir (Marks.stir hmk) (Or.inl (Nat.le_refl _)))
  have HIG9 := Lib.hid ((HIG8.out.after hba).stir (Marks.stir hmk) (Or.inr (Nat.le_succ _)))
  have z59 : w5.heap.size ≤ w9.heap.size := by have := hba.size; have := hmk.size; omega
  have z94 : w4.heap.size < w9.heap.size := by have := hba.size; have := hmk.size; omega
  clear hba hmk ha f0 f1 f2 f3
  have hT : decide ((1 : Int) + (T : Int) < 0) = false := by rw [decide_eq_false_iff_not]; omega
  go_wp2_with fail
  refine (eqStringS_any _ _ L L _ _ _ HIG9.out.at HW9.out.at (by omega) (by omega)).mono ?_
  rintro e w10 ⟨rfl, hb⟩
  have hw10 : Below w.heap.size w w10 := hw9.trans (hb.mono hw9.size)
  have h0 := cell_carry g0 (Carries.of 0 hb)
  have h1 := cell_carry g1 (Carries.of 0 hb)
  have HW10 := Lib.hid (HW9.out.after hb)
  have HIG10 := Lib.hid (HIG9.out.after hb)
  have zA : w4.heap.size < w10.heap.size := by have := hb.size; omega
  have z5A : w5.heap.size ≤ w10.heap.size := Nat.le_trans z59 hb.size
  clear hb g0 g1
  go_wp2_with fail
  refine (markTx_any _ L w10 (w4.heap.size + 1) w5.heap.size HIG10.out zg (by have := z5A; omega) hLL).mono ?_
  rintro e w11 ⟨rfl, hmk, hex⟩
  have hw11 : Below w.heap.size w w11 := hmk.below hw10 (by omega) (by have := z5A; omega)
  have g0 : w11.cell? ⟨w.heap.size, 0, none⟩ = some (.int .i64 p) := hmk.cell (Or.inl (by simp; omega)) h0
  have g1 : w11.cell? ⟨w.heap.size, 1, none⟩ = some (.slice ao m cap) := hmk.cell (Or.inl (by simp; omega)) h1
  have HW11 := Lib.hid (HW10.out.stir hmk (Or.inl (by omega)))
  have HU11 := Lib.hid (hex)
  have zB : w4.heap.size < w11.heap.size := by have := hmk.size; omega
  clear hmk hex h0 h1
  go_wp2_with fail
  refine (heldStringS_any _ L.length 1 w11 _ HU11.out hLL (by omega) (by omega)).mono ?_
  rintro e w12 ⟨rfl, hb⟩
  have hw12 : Below w.heap.size w w12 := hw11.trans (hb.mono hw11.size)
  have h0 := cell_carry g0 (Carries.of 0 hb)
  have h1 := cell_carry g1 (Carries.of 0 hb)
  have HW12 := Lib.hid (HW11.out.after hb)
  have HU12 := Lib.hid (HU11.out.keep (Carries.of _ hb))
  have zC : w.heap.size < w12.heap.size := by have := hb.size; omega
  clear hb g0 g1
  have hq : ((1 : Int) + (L.length : Int) != 1 + (L.length : Int)) = false := by simp
  have hq2 : decide ((1 : Int) + (L.length : Int) < 0) = false := by rw [decide_eq_false_iff_not]; omega
  go_wp2_with fail
  refine (toNet_any _ n _ lo (HV.out.keep (Carries.of lo hw12)) HS.out).mono ?_
  rintro e w13 ⟨v13, rfl, hn13, hb⟩
  have hw13 : Below w.heap.size w w13 := hw12.trans (hb.mono hw12.size)
  have HW13 := Lib.hid (HW12.out.after hb)
  have HU13 := Lib.hid (HU12.out.keep (Carries.of _ hb))
  have H13 := Lib.hid hn13
  clear hb hn13 h0 h1
  go_wp2_with fail
  refine (ReachableMarkings_any _ n s _ _ H13.out HS.out hz_s).mono ?_
  rintro e w14 ⟨vh, rfl, hih, hb⟩
  rw [HG1.out]
  rw [HG0.out] at hih
  obtain ⟨ah, kh, rfl⟩ := hih.form
  have hw14 : Below w.heap.size w w14 := hw13.trans (hb.mono hw13.size)
  have HW14 := Lib.hid (HW13.out.after hb)
  have HU14 := Lib.hid (HU13.out.keep (Carries.of _ hb))
  have HH14 := Lib.hid hih.at
  clear hb hih
  go_wp2_with fail
  refine (eqStringS_any _ _ L L _ _ _ HH14.out HW14.out.at (by omega) (by omega)).mono ?_
  rintro e w15 ⟨rfl, hb⟩
  have hw15 : Below w.heap.size w w15 := hw14.trans (hb.mono hw14.size)
  have HU15 := Lib.hid (HU14.out.keep (Carries.of _ hb))
  clear hb
  go_wp2_with fail
  refine (heldStringS_any _ L.length 1 w15 _ HU15.out hLL (by omega) (by omega)).mono ?_
  rintro e w16 ⟨rfl, hb⟩
  have hw16 : Below w.heap.size w w16 := hw15.trans (hb.mono hw15.size)
  clear hb
  go_wp2_with fail
  go_ret
  exact ⟨rfl, hw16⟩

end Go.Proofs.Ytigkgfdnnfmmmaa

namespace Go.Proofs.Ytigkgfdnnfmmmaa
open Go.ChangeShapes Go.WideShapes Go.ChangeAt Go.RowKit Go.Joins Go.Deep

theorem Try.own : ownKnob Try.prog.godebug = none := by kernel_rfl
theorem Try.laidOut : laidOutB Try.prog = true := by kernel_rfl
theorem Try.cellsInt : Try.prog.cellsOf 3 = 1 := by kernel_rfl
theorem Try.cellsInts : Try.prog.cellsOf 49 = 1 := by kernel_rfl
theorem Try.cellsLTr : Try.prog.cellsOf 146 = 2 := by kernel_rfl
theorem Try.cellsLTrs : Try.prog.cellsOf 22 = 1 := by kernel_rfl
theorem Try.cellsLNet : Try.prog.cellsOf 24 = 2 := by kernel_rfl

section
variable {H : Type} {enc : TypeId × Value → H} {W : World}

theorem ints_open {fuel : Nat} {v : Value} {x : DataW H × List MemPlace} {held : Bool} (h : DataW.trod enc Try.prog W 0 (fun _ => true) held fuel 49 [v] = some x) : ∃ zs, IntsAt 0 W v zs ∧ zs.length ≤ 9223372036854775807 := by
  rcases open_ints Try.underlying49 Try.underlying3 Try.cellsInt h with ⟨hcs, _⟩ | ⟨a, len, cap, zs, hcs, _, hl, hm, hz, _, hcell, _⟩
  · simp only [List.cons.injEq, and_true] at hcs
    subst hcs
    exact ⟨[], ⟨none, 0, rfl, Nat.le_refl _, Or.inl rfl⟩, Nat.zero_le _⟩
  · simp only [List.cons.injEq, and_true] at hcs
    subst hcs
    simp only [if_true] at hz
    have hlen : (zs.take len).length = len := by simp; omega
    unfold maxLen at hm
    refine ⟨zs.take len, ⟨some a, cap, by rw [hlen], by omega, ?_⟩, by omega⟩
    by_cases h0 : len = 0
    · left; subst h0; simp
    · right
      obtain ⟨b, off, spot⟩ := a
      have hspot : spot = none := by simpa [Addr.add] using World.cell?_spot (hcell 0 (by omega))
      subst hspot
      refine ⟨b, off, rfl, Nat.zero_le _, fun i hi => ?_⟩
      rw [hlen] at hi
      have := hcell i (by omega)
      rw [add_plain] at this
      rw [this]
      simp [List.getD, hi]

theorem trs_open {fuel : Nat} {v : Value} {x : DataW H × List MemPlace} {held : Bool} (h : DataW.trod enc Try.prog W 0 (fun _ => true) held fuel 22 [v] = some x) : ∃ ts, TrsAt 0 W v ts ∧ OkTrs ts := by
  rcases open_slice_pairs Try.underlying22 Try.underlying146 Try.cellsLTr rfl rfl Try.cellsInts Try.cellsInts h with ⟨hcs, _⟩ | ⟨a, len, cap, m, n, V0, V1, D0, D1, P0, P1, hcs, _, hl, hm, hmm, _, hx⟩
  · simp only [List.cons.injEq, and_true] at hcs
    subst hcs
    exact ⟨[], ⟨none, 0, rfl, Nat.le_refl _, Or.inl rfl⟩, Nat.zero_le _, fun i hi => absurd hi (Nat.not_lt_zero _)⟩
  · simp only [List.cons.injEq, and_true] at hcs
    subst hcs
    simp only [if_true] at hmm
    subst hmm
    unfold maxLen at hm
    have each : ∀ i, i < len → ∃ t : Tr, TrAt 0 W (V0 i) (V1 i) t ∧ t.1.length ≤ 9223372036854775807 ∧ t.2.length ≤ 9223372036854775807 := fun i hi => by
      obtain ⟨_, _, g0, g1⟩ := hx i (by omega)
      obtain ⟨z0, h0, k0⟩ := ints_open g0
      obtain ⟨z1, h1, k1⟩ := ints_open g1
      exact ⟨(z0, z1), ⟨h0, h1⟩, k0, k1⟩
    obtain ⟨f, hf⟩ := choose_lt each
    have hlen : ((List.range len).map f).length = len := by simp
    have hget : ∀ i, i < len → ((List.range len).map f).getD i ([], []) = f i := fun i hi => by simp [List.getD, hi]
    refine ⟨(List.range len).map f, ⟨some a, m, by rw [hlen], by omega, ?_⟩, by omega, fun i hi => ?_⟩
    · by_cases h0 : len = 0
      · left; subst h0; simp
      · right
        obtain ⟨b, off, spot⟩ := a
        have hspot : spot = none := by simpa [Addr.add] using World.cell?_spot (hx 0 (by omega)).1
        subst hspot
        refine ⟨b, off, rfl, Nat.zero_le _, fun i hi => ?_⟩
        rw [hlen] at hi
        obtain ⟨c0, c1, _, _⟩ := hx i (by omega)
        rw [add_plain] at c0 c1
        exact ⟨_, _, c0, by simpa [Nat.add_assoc] using c1, by rw [hget i hi]; exact (hf i hi).1⟩
    · rw [hlen] at hi
      rw [hget i hi]
      exact (hf i hi).2

theorem wf_bounds {a : Int} (h : (Lit.int .i64 a).wf = true) : -9223372036854775808 ≤ a ∧ a ≤ 9223372036854775807 := by
  have h1 : IntKind.i64.min = -9223372036854775808 := rfl
  have h2 : IntKind.i64.max = 9223372036854775807 := rfl
  simp only [Lit.wf, Bool.and_eq_true, decide_eq_true_eq] at h
  omega

set_option maxRecDepth 100000 in
theorem net_open {v : Value} {d : DataW H} {p : List MemPlace} {base : Nat} {held : Bool} (hv : Value.okWide Try.prog W .any base 24 v) (h : DataW.Trod enc Try.prog W 0 (fun _ => true) held 24 v d p) : ∃ n, NetAt 0 W v n ∧ OkTrs n.ts := by
  obtain ⟨c0, c1, y0, y1, m, rfl, _, _, hy0, hy1⟩ := open_agg2 Try.underlying24 (by kernel_rfl) Try.cellsLNet hv h
  obtain ⟨a, e0, _, wa⟩ := DataW.trod_int Try.underlying3 hy0
  simp only [List.cons.injEq, and_true] at e0
  subst e0
  obtain ⟨ts, ht, hok⟩ := trs_open hy1
  have hb : -9223372036854775808 ≤ a ∧ a ≤ 9223372036854775807 := wf_bounds wa
  exact ⟨⟨a, ts⟩, ⟨hb.1, hb.2, _, rfl, ht⟩, hok⟩

end
end Go.Proofs.Ytigkgfdnnfmmmaa
