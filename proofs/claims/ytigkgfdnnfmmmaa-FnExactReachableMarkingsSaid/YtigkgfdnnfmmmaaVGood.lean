/- WALKS: l1In, l1Rising, l1Set2, l1Good, isPlaceList, IsValidNet of both. -/
import Derived.Test.YtigkgfdnnfmmmaaVL1in
namespace Go.Proofs.Ytigkgfdnnfmmmaa
open Go.RowKit

/-- rising, within bounds, up to the first k -/
def RiseTo (lo hi : Int) (l : List Int) (k : Nat) : Prop := ∀ i, i < k → lo ≤ l.getD i 0 ∧ l.getD i 0 ≤ hi ∧ (0 < i → l.getD (i - 1) 0 < l.getD i 0)
instance (lo hi : Int) (l : List Int) (k : Nat) : Decidable (RiseTo lo hi l k) := by unfold RiseTo; infer_instance
def riseB (lo hi : Int) (l : List Int) : Bool := decide (RiseTo lo hi l l.length)

theorem RiseTo.zero (lo hi : Int) (l : List Int) : RiseTo lo hi l 0 := fun _i hi => absurd hi (Nat.not_lt_zero _)
theorem RiseTo.succ {lo hi : Int} {l : List Int} {k : Nat} (h : RiseTo lo hi l k) (h1 : lo ≤ l.getD k 0) (h2 : l.getD k 0 ≤ hi) (h3 : 0 < k → l.getD (k - 1) 0 < l.getD k 0) : RiseTo lo hi l (k + 1) := by
  intro i hi
  by_cases e : i = k
  · subst e; exact ⟨h1, h2, h3⟩
  · exact h i (by omega)
theorem riseB_false {lo hi : Int} {l : List Int} {k : Nat} (hk : k < l.length) (h : ¬ (lo ≤ l.getD k 0 ∧ l.getD k 0 ≤ hi ∧ (0 < k → l.getD (k - 1) 0 < l.getD k 0))) : riseB lo hi l = false :=
  decide_eq_false fun hh => h (hh k hk)
theorem riseB_true {lo hi : Int} {l : List Int} (h : RiseTo lo hi l l.length) : riseB lo hi l = true := decide_eq_true h

set_option maxRecDepth 100000 in
set_option maxHeartbeats 400000 in
theorem l1Rising_any (v : Value) (zs : List Int) (lo hi : Int) (w : World) (B : Nat) (hv : IntsAt B w v zs) (hn : zs.length ≤ 1048576) :
    Calls Try.prog 130 #[v, .int .i64 lo, .int .i64 hi] w (RetB w (riseB lo hi zs)) := by
  obtain ⟨ao, cap, rfl, hc, hz⟩ := hv
  have HF := Lib.hid hz; clear hz
  go_enter Try.func130, Try.ntmps130
  go_wp2_with fail
  go_loopw [11] (fun i wr => ∃ k : Nat, k ≤ zs.length ∧ i = .int .i64 k ∧ Hid (RiseTo lo hi zs k) ∧ Below w.heap.size w wr) (fun i _ => zs.length - (intOf i).toNat)
  case atStart => exact ⟨0, Nat.zero_le _, rfl, RiseTo.zero _ _ _, Below.refl _ _⟩
  case round =>
    obtain ⟨k, hk, rfl, hrt, hb1⟩ := hrel
    by_cases hlt : k < zs.length
    · rcases HF.out with rfl | ⟨b, off, rfl, hlo, hcell⟩
      · simp at hlt
      obtain ⟨x, hx⟩ : ∃ x, x = zs.getD k 0 := ⟨_, rfl⟩
      obtain ⟨y, hy⟩ : ∃ y, y = zs.getD (k - 1) 0 := ⟨_, rfl⟩
      have c1 := hcell k hlt
      have c2 := hcell (k - 1) (by omega)
      rw [← hx] at c1
      rw [← hy] at c2
      have d1 := Carries.of B hb1 _ _ hlo c1
      have d2 := Carries.of B hb1 _ _ hlo c2
      have HX := Lib.hid hx; clear hx
      have HY := Lib.hid hy; clear hy
      clear hcell c1 c2
      go_wp2_with fail
      refine (l1In_any _ _ _ _).mono ?_
      rintro e w1 ⟨rfl, hb2⟩
      have hw1 : Below w.heap.size w w1 := hb1.trans (hb2.mono hb1.size)
      have e2 := Carries.of B hb2 _ _ hlo d2
      clear d1 d2
      by_cases hin : lo ≤ x ∧ x ≤ hi
      · rw [decide_eq_true hin]
        by_cases hk0 : 0 < k
        · by_cases hxy : y < x
          · have H2 := Lib.hid (hrt.out.succ (by rw [← HX.out]; exact hin.1) (by rw [← HX.out]; exact hin.2) (fun _ => by rw [← HX.out, ← HY.out]; exact hxy))
            go_wp2_with fail
            go_roundw
            case rel => exact ⟨k + 1, by omega, by go_num, H2, hw1⟩
            case measure => simp [intOf]; omega
          · have hfin := Lib.hid (riseB_false (lo := lo) (hi := hi) hlt (fun h => hxy (by have := h.2.2 hk0; rw [← HX.out, ← HY.out] at this; exact this)))
            go_wp2_with fail
            go_ret
            exact ⟨by rw [hfin.out]; rfl, hw1⟩
        · have hk00 : k = 0 := by omega
          subst hk00
          have H2 := Lib.hid (hrt.out.succ (by rw [← HX.out]; exact hin.1) (by rw [← HX.out]; exact hin.2) (fun h => absurd h hk0))
          go_wp2_with fail
          go_roundw
          case rel => exact ⟨0 + 1, by omega, by go_num, H2, hw1⟩
          case measure => simp [intOf]; omega
      · rw [decide_eq_false hin]
        have hfin := Lib.hid (riseB_false (lo := lo) (hi := hi) hlt (fun h => hin (by have := And.intro h.1 h.2.1; rw [← HX.out] at this; exact this)))
        go_wp2_with fail
        go_ret
        exact ⟨by rw [hfin.out]; rfl, hw1⟩
    · have hkk : k = zs.length := by omega
      subst hkk
      go_wp2_with fail
      go_ret
      exact ⟨by rw [riseB_true hrt.out]; rfl, hb1⟩

set_option maxHeartbeats 400000 in
theorem l1Set2_any (v : Value) (zs : List Int) (hi : Int) (w : World) (B : Nat) (hv : IntsAt B w v zs) (hn : zs.length ≤ 1048576) :
    Calls Try.prog 107 #[v, .int .i64 hi] w (RetB w (riseB 0 hi zs)) := by
  have hv' := hv
  obtain ⟨ao, cap, rfl, _, _⟩ := hv'
  generalize hR : riseB 0 hi zs = r
  have HR := Lib.hid hR; clear hR
  have HV := Lib.hid hv; clear hv
  go_enter Try.func107, Try.ntmps107
  go_wp2_with fail
  refine (l1Rising_any _ zs _ _ _ B HV.out hn).mono ?_
  rintro e w1 ⟨rfl, hb⟩
  rw [HR.out]
  go_wp2_with fail
  go_ret
  exact ⟨rfl, hb⟩

/-- a transition fits: some places before, both lists rising within the places -/
def trGood (hi : Int) (t : Tr) : Bool := !t.1.isEmpty && riseB 0 hi t.1 && riseB 0 hi t.2
def trsGood (hi : Int) (ts : List Tr) : Bool := ts.all (trGood hi)
/-- what a valid net is -/
def goodN (n : NetD) : Bool := decide (1 ≤ n.places ∧ n.places ≤ 30) && decide (n.ts.length ≤ 24) && trsGood (n.places - 1) n.ts

theorem trsGood_take {hi : Int} {ts : List Tr} {k : Nat} (hk : k < ts.length) (h : trsGood hi (ts.take k) = true) (ht : trGood hi (ts.getD k ([], [])) = true) : trsGood hi (ts.take (k + 1)) = true := by
  rw [List.take_succ_eq_append_getElem hk]
  unfold trsGood at h ⊢
  rw [List.all_append, h]
  rw [trs_getD_eq hk] at ht
  simp [ht]
theorem trsGood_bad {hi : Int} {ts : List Tr} {k : Nat} (hk : k < ts.length) (ht : trGood hi (ts.getD k ([], [])) = false) : trsGood hi ts = false := by
  unfold trsGood
  rw [List.all_eq_false]
  exact ⟨ts[k], List.getElem_mem _, by rw [trs_getD_eq hk] at ht; simp [ht]⟩
theorem goodN_bad {n : NetD} {k : Nat} (hk : k < n.ts.length) (ht : trGood (n.places - 1) (n.ts.getD k ([], [])) = false) : goodN n = false := by
  unfold goodN; rw [trsGood_bad hk ht]; simp
theorem goodN_out {n : NetD} (h : ¬ (1 ≤ n.places ∧ n.places ≤ 30)) : goodN n = false := by
  unfold goodN; rw [decide_eq_false h]; simp
theorem goodN_long {n : NetD} (h : ¬ n.ts.length ≤ 24) : goodN n = false := by
  unfold goodN; rw [decide_eq_false h]; simp

theorem wrap64_pred {p : Int} (h : 1 ≤ p) (h2 : p ≤ 9223372036854775807) : wrap64 (p - 1) = p - 1 := IntWalk.wrap64_in _ ⟨by omega, by omega⟩

set_option maxRecDepth 100000 in
set_option maxHeartbeats 1000000 in
theorem l1Good_any (v : Value) (n : NetD) (w : World) (lo : Nat) (hv : NetAt lo w v n) (hs : SmallTrs n.ts) :
    Calls Try.prog 70 #[v] w (RetB w (goodN n)) := by
  generalize hG : goodN n = g
  have HG := Lib.hid hG; clear hG
  obtain ⟨p, ts⟩ := n
  obtain ⟨hp0, hp1, u, rfl, ht⟩ := hv
  simp only at hp0 hp1 ht hs
  obtain ⟨ao, cap, rfl, hc, hz⟩ := ht
  obtain ⟨hn, hsm⟩ := hs
  have HF := Lib.hid hz; clear hz
  have HS := Lib.hid hsm; clear hsm
  go_enter Try.func70, Try.ntmps70
  go_wp2_with fail
  go_loopw [8] (fun i wr => ∃ k : Nat, k ≤ ts.length ∧ i = .int .i64 k ∧ Hid (1 ≤ p → trsGood (p - 1) (ts.take k) = true) ∧ Below w.heap.size w wr ∧ w.heap.size < wr.heap.size ∧ wr.cell? ⟨w.heap.size, 0, none⟩ = some (.int .i64 p) ∧ wr.cell? ⟨w.heap.size, 1, none⟩ = some (.slice ao ts.length cap)) (fun i _ => ts.length - (intOf i).toNat)
  case atStart => exact ⟨0, Nat.zero_le _, rfl, fun _ => rfl, (Below.refl _ _).alloc (Nat.le_refl _) _, by simp, by simp, by simp⟩
  case round =>
    obtain ⟨k, hk, rfl, hall, hb1, hz1, hp, hq⟩ := hrel
    by_cases hlt : k < ts.length
    · rcases HF.out with rfl | ⟨b, off, rfl, hlo, hcell⟩
      · simp at hlt
      obtain ⟨x0, x1, c0, c1, hx⟩ := hcell k hlt
      have d0 := Carries.of lo hb1 _ _ hlo c0
      have d1 := Carries.of lo hb1 _ _ hlo c1
      obtain ⟨q1, q2⟩ := HS.out k hlt
      obtain ⟨t, htk⟩ : ∃ t, t = ts.getD k ([], []) := ⟨_, rfl⟩
      rw [← htk] at q1 q2 hx
      have HK := Lib.hid htk; clear htk
      have hx' := hx.keep (Carries.of lo hb1)
      have hx2 := hx'
      obtain ⟨⟨a0, k0, rfl, _, _⟩, ⟨a1, k1, rfl, _, _⟩⟩ := hx2
      have HX := Lib.hid hx'
      clear hcell c0 c1 hx hx'
      by_cases hem : t.1.length = 0
      · have he := Lib.hid (goodN_bad (n := ⟨p, ts⟩) hlt (by rw [← HK.out]; unfold trGood; rw [List.eq_nil_of_length_eq_zero hem]; rfl))
        have hem2 : ((t.1.length : Int) == 0) = true := by simp [hem]
        clear hem
        go_wp2_with fail
        go_ret
        exact ⟨by rw [← HG.out, he.out]; rfl, by (repeat' (first | (with_reducible exact Below.refl _ _) | (with_reducible assumption) | (with_reducible refine Below.alloc ?_ ?_ _) | (with_reducible refine Below.drew ?_) | (with_reducible refine below_drewN ?_ _) | (with_reducible refine Below.setCell ?_ ?_ _) | go_size))⟩
      · have hem2 : ((t.1.length : Int) == 0) = false := by simpa using hem
        have hem3 : 0 < t.1.length := by omega
        clear hem
        go_wp2_with fail
        refine (l1Set2_any _ t.1 _ _ lo (HX.out.1.keep ?_) q1).mono ?_
        · (repeat' (first | (with_reducible exact Carries.refl _ _) | (with_reducible assumption) | (with_reducible refine Carries.alloc ?_ _) | (with_reducible refine Carries.drew ?_) | (with_reducible refine Carries.drewN ?_ _) | (with_reducible refine Carries.set ?_ ?_ _) | go_size))
        rintro e w1 ⟨rfl, hb2⟩
        have hc2 : Carries 0 wr w1 := Carries.trans (by (repeat' (first | (with_reducible exact Carries.refl _ _) | (with_reducible assumption) | (with_reducible refine Carries.alloc ?_ _) | (with_reducible refine Carries.drew ?_) | (with_reducible refine Carries.drewN ?_ _) | (with_reducible refine Carries.set ?_ ?_ _) | go_size))) (Carries.of 0 hb2)
        have hp2 := cell_carry hp hc2
        have hq2 := cell_carry hq hc2
        have hz2 : wr.heap.size < w1.heap.size := by have := hb2.size; simp at this; omega
        have hw1 : Below w.heap.size w w1 := by
          refine Below.trans ?_ (hb2.mono ?_)
          · (repeat' (first | (with_reducible exact Below.refl _ _) | (with_reducible assumption) | (with_reducible refine Below.alloc ?_ ?_ _) | (with_reducible refine Below.drew ?_) | (with_reducible refine below_drewN ?_ _) | (with_reducible refine Below.setCell ?_ ?_ _) | go_size))
          · simp; omega
        have hbox : w1.cell? ⟨wr.heap.size, 1, none⟩ = some (.slice a1 t.2.length k1) := cell_carry (by simp) (Carries.of 0 hb2)
        have HX1 := Lib.hid (HX.out.2.keep (Carries.mono hc2 (Nat.zero_le lo)))
        clear hp hq hb2
        cases hd : riseB 0 (wrap64 (p - 1)) t.1 with
        | false =>
          have hfin : goodN ⟨p, ts⟩ = false := by
            by_cases hp1 : 1 ≤ p
            · refine goodN_bad (n := ⟨p, ts⟩) hlt ?_
              rw [wrap64_pred hp1 (by omega)] at hd
              rw [← HK.out]; unfold trGood; rw [hd]; simp
            · exact goodN_out (fun h => hp1 h.1)
          rw [HG.out] at hfin
          subst hfin
          clear hd
          go_wp2_with fail
          go_ret
          exact ⟨rfl, hw1⟩
        | true =>
          have HD := Lib.hid hd; clear hd
          go_wp2_with fail
          refine (l1Set2_any _ t.2 _ _ lo HX1.out q2).mono ?_
          rintro e w2 ⟨rfl, hb3⟩
          have hc3 : Carries 0 w1 w2 := Carries.of 0 hb3
          have hp3 := cell_carry hp2 hc3
          have hq3 := cell_carry hq2 hc3
          have hz3 : wr.heap.size < w2.heap.size := by have := hb3.size; omega
          have hz4 : w.heap.size < w2.heap.size := by omega
          have hw2 : Below w.heap.size w w2 := hw1.trans (hb3.mono (by omega))
          clear hp2 hq2 hb3
          cases hd : riseB 0 (wrap64 (p - 1)) t.2 with
          | false =>
            have hfin : goodN ⟨p, ts⟩ = false := by
              by_cases hp1 : 1 ≤ p
              · refine goodN_bad (n := ⟨p, ts⟩) hlt ?_
                rw [wrap64_pred hp1 (by omega)] at hd
                rw [← HK.out]; unfold trGood; rw [hd]; simp
              · exact goodN_out (fun h => hp1 h.1)
            rw [HG.out] at hfin
            subst hfin
            clear hd
            go_wp2_with fail
            go_ret
            exact ⟨rfl, hw2⟩
          | true =>
            have H2 : Hid (1 ≤ p → trsGood (p - 1) (ts.take (k + 1)) = true) := fun hp1 => by
              have hD := HD.out
              rw [wrap64_pred hp1 (by omega)] at hd hD
              refine trsGood_take hlt (hall.out hp1) ?_
              rw [← HK.out]; unfold trGood; rw [hd, hD]
              cases h : t.1 with
              | nil => rw [h] at hem3; simp at hem3
              | cons => rfl
            clear hd
            go_wp2_with fail
            go_roundw
            case rel => exact ⟨k + 1, by omega, by go_num, H2, hw2, hz4, hp3, hq3⟩
            case measure => simp [intOf]; omega
    · have hkk : k = ts.length := by omega
      subst hkk
      rw [List.take_length] at hall
      go_wp2_with fail
      refine (l1In_any _ _ _ _).mono ?_
      rintro e w1 ⟨rfl, hb2⟩
      have hq2 := cell_carry hq (Carries.of 0 hb2)
      have hw1 : Below w.heap.size w w1 := hb1.trans (hb2.mono hb1.size)
      by_cases hin : 1 ≤ p ∧ p ≤ 30
      · rw [decide_eq_true hin]
        have hall1 := Lib.hid (hall.out hin.1)
        by_cases hl : ts.length ≤ 24
        · have hfin : goodN ⟨p, ts⟩ = true := by
            unfold goodN; rw [decide_eq_true hin, decide_eq_true hl, hall1.out]; rfl
          rw [HG.out] at hfin
          subst hfin
          have hd24 : decide ((ts.length : Int) ≤ 24) = true := by simp; omega
          go_wp2_with fail
          go_ret
          exact ⟨rfl, hw1⟩
        · have hfin : goodN ⟨p, ts⟩ = false := goodN_long hl
          rw [HG.out] at hfin
          subst hfin
          have hd24 : decide ((ts.length : Int) ≤ 24) = false := by simp; omega
          go_wp2_with fail
          go_ret
          exact ⟨rfl, hw1⟩
      · rw [decide_eq_false hin]
        have hfin : goodN ⟨p, ts⟩ = false := goodN_out hin
        rw [HG.out] at hfin
        subst hfin
        go_wp2_with fail
        go_ret
        exact ⟨rfl, hw1⟩

end Go.Proofs.Ytigkgfdnnfmmmaa
