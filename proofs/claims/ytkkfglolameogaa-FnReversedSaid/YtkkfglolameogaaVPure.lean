/- WALK: IsFreeChoice of the program.
   IsFreeChoice of the program says what the model says. -/
import Derived.Test.YtkkfglolameogaaVFreeb
namespace Go.Proofs.Ytkkfglolameogaa
open Go.RowKit

set_option maxRecDepth 100000 in
set_option maxHeartbeats 2000000 in
theorem IsFreeChoice_any (v : Value) (n : NetD) (w : World) (lo : Nat) (hv : NetAt lo w v n) (hs : SmallTrs n.ts) :
    Calls Try.prog 49 #[v] w (RetV w (.tuple #[.bool (goodN n && fcI n.ts), .bool (goodN n)])) := by
  generalize hG : goodN n = g
  generalize hM : fcI n.ts = m
  have HG := Lib.hid hG; clear hG
  have HM := Lib.hid hM; clear hM
  have hv' := hv
  obtain ⟨hp0, hp1, u, rfl, ht⟩ := hv'
  obtain ⟨ao, cap, rfl, hc, hz⟩ := ht
  obtain ⟨p, hp⟩ : ∃ p, p = n.places := ⟨_, rfl⟩
  obtain ⟨ts, hts⟩ : ∃ ts, ts = n.ts := ⟨_, rfl⟩
  rw [← hp, ← hts] at hv ⊢
  rw [← hts] at hs hz HM hc
  have HP := Lib.hid hp; clear hp hp0 hp1
  have HT := Lib.hid hts; clear hts
  have HV := Lib.hid hv; clear hv
  have hl := hs.1
  have HS := Lib.hid hs; clear hs
  have HF := Lib.hid hz; clear hz
  go_enter Try.func49, Try.ntmps49
  go_wp2_with fail
  refine (IsValidNet_any _ n _ lo (HV.out.keep ?_) (HT.out ▸ HS.out)).mono ?_
  · (repeat' (first | (with_reducible exact Carries.refl _ _) | (with_reducible assumption) | (with_reducible refine Carries.alloc ?_ _) | (with_reducible refine Carries.drew ?_) | (with_reducible refine Carries.drewN ?_ _) | (with_reducible refine Carries.set ?_ ?_ _) | go_size))
  rintro e w1 ⟨rfl, hb⟩
  have hw1 : Below w.heap.size w w1 := by
    refine Below.trans ?_ (hb.mono ?_)
    · (repeat' (first | (with_reducible exact Below.refl _ _) | (with_reducible assumption) | (with_reducible refine Below.alloc ?_ ?_ _) | (with_reducible refine Below.drew ?_) | (with_reducible refine below_drewN ?_ _) | (with_reducible refine Below.setCell ?_ ?_ _) | go_size))
    · simp
  have a1 : w1.cell? ⟨w.heap.size, 1, none⟩ = some (.slice ao ts.length cap) := cell_carry (by simp) (Carries.of 0 hb)
  have z1 : w.heap.size < w1.heap.size := by have := hb.size; simp at this; omega
  clear hb
  rw [HG.out]
  cases g with
  | false =>
    go_wp2_with fail
    go_ret2
    exact ⟨rfl, hw1⟩
  | true =>
  go_wp2_with fail
  go_loopw [14] (fun i wr => ∃ k : Nat, k ≤ ts.length ∧ i = .int .i64 k ∧ Hid (∀ i, i < k → ∀ j, j < i → freeB (ts.getD i ([], [])) (ts.getD j ([], [])) = true) ∧ Below w.heap.size w wr ∧ w.heap.size < wr.heap.size ∧ wr.cell? ⟨w.heap.size, 1, none⟩ = some (.slice ao ts.length cap)) (fun i _ => ts.length - (intOf i).toNat)
  case atStart => exact ⟨0, Nat.zero_le _, rfl, fun i hi => absurd hi (Nat.not_lt_zero _), hw1, z1, a1⟩
  case round =>
    obtain ⟨k, hk, rfl, hall, hb1, z2, a2⟩ := hrel
    clear a1 z1 hw1
    by_cases hlt : k < ts.length
    · rcases HF.out with rfl | ⟨b, off, rfl, hlo, hcell⟩
      · simp at hlt
      have HCell := Lib.hid hcell; clear hcell
      obtain ⟨x0, x1, c0, c1, hx⟩ := HCell.out k hlt
      have d0 := Carries.of lo hb1 _ _ hlo c0
      have d1 := Carries.of lo hb1 _ _ hlo c1
      obtain ⟨t, htk⟩ : ∃ t, t = ts.getD k ([], []) := ⟨_, rfl⟩
      rw [← htk] at hx
      have ht1 : t.1.length ≤ 1048576 := by rw [htk]; exact (HS.out.2 k hlt).1
      have hin1 : InArr t.1 := by rw [htk, HT.out]; exact (goodN_in HG.out (by rw [← HT.out]; exact hlt)).1
      have HI := Lib.hid hin1; clear hin1
      have HK := Lib.hid htk; clear htk
      have hx' := hx.keep (Carries.of lo hb1)
      have hx2 := hx'
      obtain ⟨⟨a0, k0, rfl, _, _⟩, ⟨a1, k1, rfl, _, _⟩⟩ := hx2
      have HX := Lib.hid hx
      clear c0 c1 hx hx'
      obtain ⟨wo, rfl⟩ : ∃ wo : World, wo = wr := ⟨_, rfl⟩
      have hkc : k ≤ cap := by omega
      go_wp2_with fail
      go_loopw [24] (fun i wr => ∃ j : Nat, j ≤ k ∧ i = .int .i64 j ∧ Hid (∀ i, i < j → freeB t (ts.getD i ([], [])) = true) ∧ Below w.heap.size w wr ∧ wo.heap.size < wr.heap.size ∧ wr.cell? ⟨w.heap.size, 1, none⟩ = some (.slice (some ⟨b, off, none⟩) ts.length cap) ∧ wr.cell? ⟨wo.heap.size, 0, none⟩ = some (.slice a0 t.1.length k0) ∧ wr.cell? ⟨wo.heap.size, 1, none⟩ = some (.slice a1 t.2.length k1)) (fun i _ => k - (intOf i).toNat)
      case atStart =>
        refine ⟨0, Nat.zero_le _, rfl, fun i hi => absurd hi (Nat.not_lt_zero _), ?_, ?_, ?_, ?_, ?_⟩
        · (repeat' (first | (with_reducible exact Below.refl _ _) | (with_reducible assumption) | (with_reducible refine Below.alloc ?_ ?_ _) | (with_reducible refine Below.drew ?_) | (with_reducible refine below_drewN ?_ _) | (with_reducible refine Below.setCell ?_ ?_ _) | go_size))
        · simp
        · exact cell_carry a2 (by (repeat' (first | (with_reducible exact Carries.refl _ _) | (with_reducible assumption) | (with_reducible refine Carries.alloc ?_ _) | (with_reducible refine Carries.drew ?_) | (with_reducible refine Carries.drewN ?_ _) | (with_reducible refine Carries.set ?_ ?_ _) | go_size)))
        · simp
        · simp
      case round =>
        obtain ⟨j, hj, rfl, hin, hb3, z3, a3, t3, t3b⟩ := hrel
        by_cases hjt : j < k
        · have hjl : j < ts.length := by omega
          obtain ⟨y0, y1, e0, e1, hy⟩ := HCell.out j hjl
          have f0 := Carries.of lo hb3 _ _ hlo e0
          have f1 := Carries.of lo hb3 _ _ hlo e1
          obtain ⟨s, hsj⟩ : ∃ s, s = ts.getD j ([], []) := ⟨_, rfl⟩
          rw [← hsj] at hy
          have hs1 : s.1.length ≤ 1048576 := by rw [hsj]; exact (HS.out.2 j hjl).1
          have hin2 : InArr s.1 := by rw [hsj, HT.out]; exact (goodN_in HG.out (by rw [← HT.out]; exact hjl)).1
          have HI2 := Lib.hid hin2; clear hin2
          have HJ := Lib.hid hsj; clear hsj
          have hy2 := hy
          obtain ⟨⟨b0, m0, rfl, _, _⟩, ⟨b1, m1, rfl, _, _⟩⟩ := hy2
          have HY := Lib.hid hy
          clear e0 e1 hy
          go_wp2_with fail
          refine (haveFreeChoice_any _ _ _ _ t s _ lo lo (HX.out.keep (Carries.of lo ?_)) (HY.out.keep (Carries.of lo ?_)) ht1 hs1 HI.out HI2.out).mono ?_
          · (repeat' (first | (with_reducible exact Below.refl _ _) | (with_reducible assumption) | (with_reducible refine Below.alloc ?_ ?_ _) | (with_reducible refine Below.drew ?_) | (with_reducible refine below_drewN ?_ _) | (with_reducible refine Below.setCell ?_ ?_ _) | go_size))
          · (repeat' (first | (with_reducible exact Below.refl _ _) | (with_reducible assumption) | (with_reducible refine Below.alloc ?_ ?_ _) | (with_reducible refine Below.drew ?_) | (with_reducible refine below_drewN ?_ _) | (with_reducible refine Below.setCell ?_ ?_ _) | go_size))
          rintro e w4 ⟨rfl, hb4⟩
          have hw4 : Below w.heap.size w w4 := by
            refine Below.trans ?_ (hb4.mono ?_)
            · (repeat' (first | (with_reducible exact Below.refl _ _) | (with_reducible assumption) | (with_reducible refine Below.alloc ?_ ?_ _) | (with_reducible refine Below.drew ?_) | (with_reducible refine below_drewN ?_ _) | (with_reducible refine Below.setCell ?_ ?_ _) | go_size))
            · simp; omega
          have a4 := cell_carry (cell_carry a3 (Carries.alloc (Carries.refl 0 _) _)) (Carries.of 0 hb4)
          have t4 := cell_carry (cell_carry t3 (Carries.alloc (Carries.refl 0 _) _)) (Carries.of 0 hb4)
          have t4b := cell_carry (cell_carry t3b (Carries.alloc (Carries.refl 0 _) _)) (Carries.of 0 hb4)
          have z4 : wo.heap.size < w4.heap.size := by have := hb4.size; simp at this; omega
          clear hb4 a3 t3 t3b
          cases hd : freeB t s with
          | true =>
            have H2 : Hid (∀ i, i < j + 1 → freeB t (ts.getD i ([], [])) = true) := by
              intro i hi
              by_cases e : i = j
              · subst e; rw [← HJ.out]; exact hd
              · exact hin.out i (by omega)
            clear hd
            go_wp2_with fail
            go_roundw
            case rel => exact ⟨j + 1, by omega, by go_num, H2, hw4, z4, a4, t4, t4b⟩
            case measure => simp [intOf]; omega
          | false =>
            have hfin : fcI ts = false := fcI_false hlt hjt (by rw [← HK.out, ← HJ.out]; exact hd)
            rw [HM.out] at hfin
            subst hfin
            clear hd
            go_wp2_with fail
            go_ret2
            exact ⟨rfl, hw4⟩
        · have hjj : j = k := by omega
          subst hjj
          have H2 : Hid (∀ i, i < j + 1 → ∀ l, l < i → freeB (ts.getD i ([], [])) (ts.getD l ([], [])) = true) := by
            intro i hi
            by_cases e : i = j
            · subst e; rw [← HK.out]; exact hin.out
            · exact hall.out i (by omega)
          go_wp2_with fail
          go_roundw
          case rel => exact ⟨j + 1, by omega, by go_num, H2, hb3, by omega, a3⟩
          case measure => simp [intOf]; omega
    · have hkk : k = ts.length := by omega
      subst hkk
      have hfin : fcI ts = true := decide_eq_true hall.out
      rw [HM.out] at hfin
      subst hfin
      go_wp2_with fail
      go_ret2
      exact ⟨rfl, hb1⟩

end Go.Proofs.Ytkkfglolameogaa

namespace Go.Proofs.Ytkkfglolameogaa
open Go.RowKit

theorem free_choice_same {n : NetD} (h : goodN n = true) : fcI n.ts = fcB n.ts := by
  obtain ⟨_, h2, _, h4⟩ := goodN_parts h
  have key : ∀ i, i < n.ts.length → ∀ j, j < n.ts.length → freeB (n.ts.getD i ([], [])) (n.ts.getD j ([], [])) = okPair (n.ts.getD i ([], [])) (n.ts.getD j ([], [])) := fun i hi j hj => by
    unfold freeB okPair
    have ii := (goodN_in h hi).1
    have jj := (goodN_in h hj).1
    rw [marked_eq ii jj (riseB_sorted (h4 i hi).2.1) (riseB_sorted (h4 j hj).2.1), disjoint_eq ii jj]
  have symm : ∀ a b : Tr, okPair a b = okPair b a := fun a b => by
    unfold okPair
    rw [meetB_comm]
    congr 1
    exact decide_eq_decide.2 ⟨Eq.symm, Eq.symm⟩
  unfold fcI fcB
  refine decide_eq_decide.2 ⟨fun hh i hi j hj => ?_, fun hh i hi j hj => ?_⟩
  · rcases Nat.lt_trichotomy j i with c | c | c
    · rw [← key i hi j hj]; exact hh i hi j c
    · subst c; unfold okPair; simp
    · rw [symm, ← key j hj i hi]; exact hh j hj i c
  · rw [key i hi j (by omega)]; exact hh i hi j (by omega)

theorem IsFreeChoice_same (v : Value) (n : NetD) (w : World) (lo : Nat) (hv : NetAt lo w v n) (hs : SmallTrs n.ts) :
    Calls Try.prog 49 #[v] w (RetV w (.tuple #[.bool (goodN n && fcB n.ts), .bool (goodN n)])) := by
  have e : (goodN n && fcB n.ts) = (goodN n && fcI n.ts) := by
    cases h : goodN n with
    | false => rfl
    | true => rw [free_choice_same h]
  rw [e]
  exact IsFreeChoice_any v n w lo hv hs

end Go.Proofs.Ytkkfglolameogaa
