/- WALKS: IsFreeChoice of the model and of the program. -/
import Derived.Test.YtkkfglolameogaaVFree
import Derived.Test.YtkkfglolameogaaVIndd
namespace Go.Proofs.Ytkkfglolameogaa
open Go.RowKit

def okPair (t s : Tr) : Bool := decide (t.1 = s.1) || !meetB t.1 s.1
/-- any two transitions -/
def fcB (ts : List Tr) : Bool := decide (∀ i, i < ts.length → ∀ j, j < ts.length → okPair (ts.getD i ([], [])) (ts.getD j ([], [])) = true)
/-- each transition and those ahead of it -/
def fcI (ts : List Tr) : Bool := decide (∀ i, i < ts.length → ∀ j, j < i → freeB (ts.getD i ([], [])) (ts.getD j ([], [])) = true)

theorem fcB_false {ts : List Tr} {i j : Nat} (hi : i < ts.length) (hj : j < ts.length) (h : okPair (ts.getD i ([], [])) (ts.getD j ([], [])) = false) : fcB ts = false :=
  decide_eq_false fun hh => by have := hh i hi j hj; rw [h] at this; cases this
theorem fcI_false {ts : List Tr} {i j : Nat} (hi : i < ts.length) (hj : j < i) (h : freeB (ts.getD i ([], [])) (ts.getD j ([], [])) = false) : fcI ts = false :=
  decide_eq_false fun hh => by have := hh i hi j hj; rw [h] at this; cases this

set_option maxRecDepth 100000 in
set_option maxHeartbeats 2000000 in
theorem specIsFreeChoice_any (v : Value) (n : NetD) (w : World) (lo : Nat) (hv : NetAt lo w v n) (hs : SmallTrs n.ts) :
    Calls Try.prog 50 #[v] w (RetV w (.tuple #[.bool (goodN n && fcB n.ts), .bool (goodN n)])) := by
  generalize hG : goodN n = g
  generalize hM : fcB n.ts = m
  have HG := Lib.hid hG; clear hG
  have HM := Lib.hid hM; clear hM
  have hv' := hv
  obtain ⟨hp0, hp1, u, rfl, ht⟩ := hv'
  obtain ⟨ao, cap, rfl, hc, hz⟩ := ht
  obtain ⟨p, hp⟩ : ∃ p, p = n.places := ⟨_, rfl⟩
  obtain ⟨ts, hts⟩ : ∃ ts, ts = n.ts := ⟨_, rfl⟩
  rw [← hp, ← hts] at hv ⊢
  rw [← hts] at hs hz HM hc
  have HP := Lib.hid hp; clear hp hp0 hp1
  have HT := Lib.hid hts; clear hts
  have HV := Lib.hid hv; clear hv
  have hl := hs.1
  have HS := Lib.hid hs; clear hs
  have HF := Lib.hid hz; clear hz
  go_enter Try.func50, Try.ntmps50
  go_wp2_with fail
  refine (l1Good_any _ n _ lo (HV.out.keep ?_) (HT.out ▸ HS.out)).mono ?_
  · (repeat' (first | (with_reducible exact Carries.refl _ _) | (with_reducible assumption) | (with_reducible refine Carries.alloc ?_ _) | (with_reducible refine Carries.drew ?_) | (with_reducible refine Carries.drewN ?_ _) | (with_reducible refine Carries.set ?_ ?_ _) | go_size))
  rintro e w1 ⟨rfl, hb⟩
  have hw1 : Below w.heap.size w w1 := by
    refine Below.trans ?_ (hb.mono ?_)
    · (repeat' (first | (with_reducible exact Below.refl _ _) | (with_reducible assumption) | (with_reducible refine Below.alloc ?_ ?_ _) | (with_reducible refine Below.drew ?_) | (with_reducible refine below_drewN ?_ _) | (with_reducible refine Below.setCell ?_ ?_ _) | go_size))
    · simp
  have a1 : w1.cell? ⟨w.heap.size, 1, none⟩ = some (.slice ao ts.length cap) := cell_carry (by simp) (Carries.of 0 hb)
  have z1 : w.heap.size < w1.heap.size := by have := hb.size; simp at this; omega
  clear hb
  rw [HG.out]
  cases g with
  | false =>
    go_wp2_with fail
    go_ret2
    exact ⟨rfl, hw1⟩
  | true =>
  go_wp2_with fail
  go_loopw [14] (fun i wr => ∃ k : Nat, k ≤ ts.length ∧ i = .int .i64 k ∧ Hid (∀ i, i < k → ∀ j, j < ts.length → okPair (ts.getD i ([], [])) (ts.getD j ([], [])) = true) ∧ Below w.heap.size w wr ∧ w.heap.size < wr.heap.size ∧ wr.cell? ⟨w.heap.size, 1, none⟩ = some (.slice ao ts.length cap)) (fun i _ => ts.length - (intOf i).toNat)
  case atStart => exact ⟨0, Nat.zero_le _, rfl, fun i hi => absurd hi (Nat.not_lt_zero _), hw1, z1, a1⟩
  case round =>
    obtain ⟨k, hk, rfl, hall, hb1, z2, a2⟩ := hrel
    clear a1 z1 hw1
    by_cases hlt : k < ts.length
    · rcases HF.out with rfl | ⟨b, off, rfl, hlo, hcell⟩
      · simp at hlt
      have HCell := Lib.hid hcell; clear hcell
      obtain ⟨x0, x1, c0, c1, hx⟩ := HCell.out k hlt
      have d0 := Carries.of lo hb1 _ _ hlo c0
      have d1 := Carries.of lo hb1 _ _ hlo c1
      obtain ⟨t, htk⟩ : ∃ t, t = ts.getD k ([], []) := ⟨_, rfl⟩
      rw [← htk] at hx
      have ht1 : t.1.length ≤ 1048576 := by rw [htk]; exact (HS.out.2 k hlt).1
      have HK := Lib.hid htk; clear htk
      have hx' := hx.keep (Carries.of lo hb1)
      have hx2 := hx'
      obtain ⟨⟨a0, k0, rfl, _, _⟩, ⟨a1, k1, rfl, _, _⟩⟩ := hx2
      have HX := Lib.hid hx.1
      clear c0 c1 hx hx'
      obtain ⟨wo, rfl⟩ : ∃ wo : World, wo = wr := ⟨_, rfl⟩
      go_wp2_with fail
      go_loopw [21] (fun i wr => ∃ j : Nat, j ≤ ts.length ∧ i = .int .i64 j ∧ Hid (∀ i, i < j → okPair t (ts.getD i ([], [])) = true) ∧ Below w.heap.size w wr ∧ wo.heap.size < wr.heap.size ∧ wr.cell? ⟨w.heap.size, 1, none⟩ = some (.slice (some ⟨b, off, none⟩) ts.length cap) ∧ wr.cell? ⟨wo.heap.size, 0, none⟩ = some (.slice a0 t.1.length k0)) (fun i _ => ts.length - (intOf i).toNat)
      case atStart =>
        refine ⟨0, Nat.zero_le _, rfl, fun i hi => absurd hi (Nat.not_lt_zero _), ?_, ?_, ?_, ?_⟩
        · (repeat' (first | (with_reducible exact Below.refl _ _) | (with_reducible assumption) | (with_reducible refine Below.alloc ?_ ?_ _) | (with_reducible refine Below.drew ?_) | (with_reducible refine below_drewN ?_ _) | (with_reducible refine Below.setCell ?_ ?_ _) | go_size))
        · simp
        · exact cell_carry a2 (by (repeat' (first | (with_reducible exact Carries.refl _ _) | (with_reducible assumption) | (with_reducible refine Carries.alloc ?_ _) | (with_reducible refine Carries.drew ?_) | (with_reducible refine Carries.drewN ?_ _) | (with_reducible refine Carries.set ?_ ?_ _) | go_size)))
        · simp
      case round =>
        obtain ⟨j, hj, rfl, hin, hb3, z3, a3, t3⟩ := hrel
        by_cases hjt : j < ts.length
        · obtain ⟨y0, y1, e0, e1, hy⟩ := HCell.out j hjt
          have f0 := Carries.of lo hb3 _ _ hlo e0
          have f1 := Carries.of lo hb3 _ _ hlo e1
          obtain ⟨s, hsj⟩ : ∃ s, s = ts.getD j ([], []) := ⟨_, rfl⟩
          rw [← hsj] at hy
          have hs1 : s.1.length ≤ 1048576 := by rw [hsj]; exact (HS.out.2 j hjt).1
          have HJ := Lib.hid hsj; clear hsj
          have hy2 := hy
          obtain ⟨⟨b0, m0, rfl, _, _⟩, ⟨b1, m1, rfl, _, _⟩⟩ := hy2
          have HY := Lib.hid hy.1
          clear e0 e1 hy
          go_wp2_with fail
          refine (l1Same_any _ _ t.1 s.1 _ lo lo (HX.out.keep (Carries.of lo ?_)) (HY.out.keep (Carries.of lo ?_)) (by omega) (by omega)).mono ?_
          · (repeat' (first | (with_reducible exact Below.refl _ _) | (with_reducible assumption) | (with_reducible refine Below.alloc ?_ ?_ _) | (with_reducible refine Below.drew ?_) | (with_reducible refine below_drewN ?_ _) | (with_reducible refine Below.setCell ?_ ?_ _) | go_size))
          · (repeat' (first | (with_reducible exact Below.refl _ _) | (with_reducible assumption) | (with_reducible refine Below.alloc ?_ ?_ _) | (with_reducible refine Below.drew ?_) | (with_reducible refine below_drewN ?_ _) | (with_reducible refine Below.setCell ?_ ?_ _) | go_size))
          rintro e w4 ⟨rfl, hb4⟩
          have hw4 : Below w.heap.size w w4 := by
            refine Below.trans ?_ (hb4.mono ?_)
            · (repeat' (first | (with_reducible exact Below.refl _ _) | (with_reducible assumption) | (with_reducible refine Below.alloc ?_ ?_ _) | (with_reducible refine Below.drew ?_) | (with_reducible refine below_drewN ?_ _) | (with_reducible refine Below.setCell ?_ ?_ _) | go_size))
            · simp; omega
          have a4 := cell_carry (cell_carry a3 (Carries.alloc (Carries.refl 0 _) _)) (Carries.of 0 hb4)
          have t4 := cell_carry (cell_carry t3 (Carries.alloc (Carries.refl 0 _) _)) (Carries.of 0 hb4)
          have s4 : w4.cell? ⟨wr.heap.size, 0, none⟩ = some (.slice b0 s.1.length m0) := cell_carry (by simp) (Carries.of 0 hb4)
          have z4 : wo.heap.size < w4.heap.size := by have := hb4.size; simp at this; omega
          clear hb4 a3 t3
          cases hd : decide (t.1 = s.1) with
          | true =>
            have H2 : Hid (∀ i, i < j + 1 → okPair t (ts.getD i ([], [])) = true) := by
              intro i hi
              by_cases e : i = j
              · subst e; rw [← HJ.out]; unfold okPair; rw [hd]; rfl
              · exact hin.out i (by omega)
            clear hd
            go_wp2_with fail
            go_roundw
            case rel => exact ⟨j + 1, by omega, by go_num, H2, hw4, z4, a4, t4⟩
            case measure => simp [intOf]; omega
          | false =>
            have HD := Lib.hid hd; clear hd
            go_wp2_with fail
            refine (l1Meet_any _ _ t.1 s.1 _ lo lo (HX.out.keep (Carries.of lo hw4)) (HY.out.keep (Carries.of lo hw4)) (by omega) (by omega)).mono ?_
            rintro e w5 ⟨rfl, hb5⟩
            have hw5 : Below w.heap.size w w5 := hw4.trans (hb5.mono hw4.size)
            have a5 := cell_carry a4 (Carries.of 0 hb5)
            have t5 := cell_carry t4 (Carries.of 0 hb5)
            have z5 : wo.heap.size < w5.heap.size := by have := hb5.size; omega
            clear hb5 a4 t4
            cases hd : meetB t.1 s.1 with
            | true =>
              have hfin : fcB ts = false := fcB_false hlt hjt (by rw [← HK.out, ← HJ.out]; unfold okPair; rw [HD.out, hd]; rfl)
              rw [HM.out] at hfin
              subst hfin
              clear hd
              go_wp2_with fail
              go_ret2
              exact ⟨rfl, hw5⟩
            | false =>
              have H2 : Hid (∀ i, i < j + 1 → okPair t (ts.getD i ([], [])) = true) := by
                intro i hi
                by_cases e : i = j
                · subst e; rw [← HJ.out]; unfold okPair; rw [hd]; simp
                · exact hin.out i (by omega)
              clear hd
              go_wp2_with fail
              go_roundw
              case rel => exact ⟨j + 1, by omega, by go_num, H2, hw5, z5, a5, t5⟩
              case measure => simp [intOf]; omega
        · have hjj : j = ts.length := by omega
          subst hjj
          have H2 : Hid (∀ i, i < k + 1 → ∀ j, j < ts.length → okPair (ts.getD i ([], [])) (ts.getD j ([], [])) = true) := by
            intro i hi
            by_cases e : i = k
            · subst e; rw [← HK.out]; exact hin.out
            · exact hall.out i (by omega)
          go_wp2_with fail
          go_roundw
          case rel => exact ⟨k + 1, by omega, by go_num, H2, hb3, by omega, a3⟩
          case measure => simp [intOf]; omega
    · have hkk : k = ts.length := by omega
      subst hkk
      have hfin : fcB ts = true := decide_eq_true hall.out
      rw [HM.out] at hfin
      subst hfin
      go_wp2_with fail
      go_ret2
      exact ⟨rfl, hb1⟩

end Go.Proofs.Ytkkfglolameogaa
