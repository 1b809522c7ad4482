/- WALKS: l2Name, l2Signals, l2Label of the model. -/
import Derived.Test.YtigkgfdnnfmmmaaVStgv
import Derived.Test.YtigkgfdnnfmmmaaVSigb
import Derived.Test.YtigkgfdnnfmmmaaVL1in
namespace Go.Proofs.Ytigkgfdnnfmmmaa
open Go.RowKit

set_option maxHeartbeats 400000 in
theorem l2Name_any (s : ByteArray) (w : World) (hs : s.size ≤ 1048576) :
    Calls Try.prog 111 #[.string s] w (RetB w (nameB s)) := by
  generalize hG : nameB s = g
  have HG := Lib.hid hG; clear hG
  go_enter Try.func111, Try.ntmps111
  go_wp2_with fail
  go_loop [3] (fun i => ∃ k : Nat, k ≤ s.size ∧ i = .int .i64 k ∧ Hid (NameTo s k)) (fun i => s.size - (intOf i).toNat)
  case atStart => exact ⟨0, Nat.zero_le _, rfl, NameTo.zero _⟩
  case round =>
    obtain ⟨k, hk, rfl, hd⟩ := hrel
    by_cases hlt : k < s.size
    · by_cases hok : (97 ≤ s[k].toNat ∧ s[k].toNat ≤ 122) ∨ (0 < k ∧ 48 ≤ s[k].toNat ∧ s[k].toNat ≤ 57)
      · have H2 := Lib.hid (hd.out.succ hlt hok)
        rcases hok with ⟨h1, h2⟩ | ⟨h0, h1, h2⟩
        · skip
          have t97 : decide (97 ≤ (s[k].toNat : Int)) = true := decide_eq_true (by omega)
          have t122 : decide ((s[k].toNat : Int) ≤ 122) = true := decide_eq_true (by omega)
          go_wp2_with fail
          go_round
          case rel => exact ⟨k + 1, by omega, by go_num, H2⟩
          case measure => simp [intOf]; omega
        · skip
          have t97 : decide (97 ≤ (s[k].toNat : Int)) = false := decide_eq_false (by omega)
          have t48 : decide ((s[k].toNat : Int) < 48) = false := decide_eq_false (by omega)
          have t57 : decide (57 < (s[k].toNat : Int)) = false := decide_eq_false (by omega)
          have tk : ((k : Int) == 0) = false := by simp; omega
          go_wp2_with fail
          go_round
          case rel => exact ⟨k + 1, by omega, by go_num, H2⟩
          case measure => simp [intOf]; omega
      · have hfin := nameB_bad hlt hok
        rw [HG.out] at hfin
        subst hfin
        by_cases h1 : 97 ≤ s[k].toNat
        · by_cases h0 : k = 0
          · subst h0
            have t97 : decide (97 ≤ (s[0].toNat : Int)) = true := decide_eq_true (by omega)
            have t122 : decide ((s[0].toNat : Int) ≤ 122) = false := decide_eq_false (by omega)
            go_wp2_with fail
            go_ret
            exact ⟨rfl, by (repeat' (first | (with_reducible exact Below.refl _ _) | (with_reducible assumption) | (with_reducible refine Below.alloc ?_ ?_ _) | (with_reducible refine Below.drew ?_) | (with_reducible refine below_drewN ?_ _) | (with_reducible refine Below.setCell ?_ ?_ _) | go_size))⟩
          · skip
            have t97 : decide (97 ≤ (s[k].toNat : Int)) = true := decide_eq_true (by omega)
            have t122 : decide ((s[k].toNat : Int) ≤ 122) = false := decide_eq_false (by omega)
            have t48 : decide ((s[k].toNat : Int) < 48) = false := decide_eq_false (by omega)
            have t57 : decide (57 < (s[k].toNat : Int)) = true := decide_eq_true (by omega)
            have tk : ((k : Int) == 0) = false := by simp; omega
            go_wp2_with fail
            go_ret
            exact ⟨rfl, by (repeat' (first | (with_reducible exact Below.refl _ _) | (with_reducible assumption) | (with_reducible refine Below.alloc ?_ ?_ _) | (with_reducible refine Below.drew ?_) | (with_reducible refine below_drewN ?_ _) | (with_reducible refine Below.setCell ?_ ?_ _) | go_size))⟩
        · by_cases h0 : k = 0
          · subst h0
            have t97 : decide (97 ≤ (s[0].toNat : Int)) = false := decide_eq_false (by omega)
            go_wp2_with fail
            go_ret
            exact ⟨rfl, by (repeat' (first | (with_reducible exact Below.refl _ _) | (with_reducible assumption) | (with_reducible refine Below.alloc ?_ ?_ _) | (with_reducible refine Below.drew ?_) | (with_reducible refine below_drewN ?_ _) | (with_reducible refine Below.setCell ?_ ?_ _) | go_size))⟩
          · by_cases h5 : 48 ≤ s[k].toNat
            · skip
              have t97 : decide (97 ≤ (s[k].toNat : Int)) = false := decide_eq_false (by omega)
              have t48 : decide ((s[k].toNat : Int) < 48) = false := decide_eq_false (by omega)
              have t57 : decide (57 < (s[k].toNat : Int)) = true := decide_eq_true (by omega)
              have tk : ((k : Int) == 0) = false := by simp; omega
              go_wp2_with fail
              go_ret
              exact ⟨rfl, by (repeat' (first | (with_reducible exact Below.refl _ _) | (with_reducible assumption) | (with_reducible refine Below.alloc ?_ ?_ _) | (with_reducible refine Below.drew ?_) | (with_reducible refine below_drewN ?_ _) | (with_reducible refine Below.setCell ?_ ?_ _) | go_size))⟩
            · skip
              have t97 : decide (97 ≤ (s[k].toNat : Int)) = false := decide_eq_false (by omega)
              have t48 : decide ((s[k].toNat : Int) < 48) = true := decide_eq_true (by omega)
              have tk : ((k : Int) == 0) = false := by simp; omega
              go_wp2_with fail
              go_ret
              exact ⟨rfl, by (repeat' (first | (with_reducible exact Below.refl _ _) | (with_reducible assumption) | (with_reducible refine Below.alloc ?_ ?_ _) | (with_reducible refine Below.drew ?_) | (with_reducible refine below_drewN ?_ _) | (with_reducible refine Below.setCell ?_ ?_ _) | go_size))⟩
    · have hkk : k = s.size := by omega
      subst hkk
      go_wp2_with fail
      refine (l1In_any _ _ _ _).mono ?_
      rintro e w1 ⟨rfl, hb⟩
      by_cases hin : 1 ≤ s.size ∧ s.size ≤ 6
      · have hfin := nameB_good hd.out hin
        rw [HG.out] at hfin
        subst hfin
        rw [decide_eq_true (by omega)]
        go_wp2_with fail
        go_ret
        exact ⟨rfl, hb⟩
      · have hfin := nameB_size hin
        rw [HG.out] at hfin
        subst hfin
        rw [decide_eq_false (by omega)]
        go_wp2_with fail
        go_ret
        exact ⟨rfl, hb⟩

set_option maxHeartbeats 1000000 in
theorem l2Signals_any (v : Value) (ss : List Sig) (w : World) (lo : Nat) (hv : SigsAt lo w v ss) (hs : SmallSigs ss) :
    Calls Try.prog 84 #[v] w (RetB w (sigsB ss)) := by
  generalize hG : sigsB ss = g
  have HG := Lib.hid hG; clear hG
  obtain ⟨ao, cap, rfl, hc, hz⟩ := hv
  obtain ⟨hn, hsm⟩ := hs
  have HF := Lib.hid hz; clear hz
  have HS := Lib.hid hsm; clear hsm
  go_enter Try.func84, Try.ntmps84
  go_wp2_with fail
  go_loopw [9] (fun i wr => ∃ k : Nat, k ≤ ss.length ∧ i = .int .i64 k ∧ Hid (SigTo ss k) ∧ Below w.heap.size w wr) (fun i _ => ss.length - (intOf i).toNat)
  case atStart => exact ⟨0, Nat.zero_le _, rfl, fun i hi => absurd hi (Nat.not_lt_zero _), Below.refl _ _⟩
  case round =>
    obtain ⟨k, hk, rfl, hall, hb1⟩ := hrel
    have zz1 := hb1.size
    by_cases hlt : k < ss.length
    · rcases HF.out with h0 | ⟨b, off, rfl, hlo, hcell⟩
      · omega
      have HC := Lib.hid hcell
      obtain ⟨c0, c1⟩ := hcell k hlt
      have d0 := Carries.of lo hb1 _ _ hlo c0
      have d1 := Carries.of lo hb1 _ _ hlo c1
      have hk1 := HS.out k hlt
      clear hcell c0 c1
      have hbad := fun h => sigsB_bad (ss := ss) hlt h
      rw [HG.out] at hbad
      have HB := Lib.hid hbad; clear hbad
      obtain ⟨wo, rfl⟩ : ∃ wo : World, wo = wr := ⟨_, rfl⟩
      go_wp2_with fail
      refine (l2Name_any _ _ hk1).mono ?_
      rintro e w1 ⟨rfl, hb2⟩
      have hw1 : Below w.heap.size w w1 := by
        refine Below.trans ?_ (hb2.mono ?_)
        · (repeat' (first | (with_reducible exact Below.refl _ _) | (with_reducible assumption) | (with_reducible refine Below.alloc ?_ ?_ _) | (with_reducible refine Below.drew ?_) | (with_reducible refine below_drewN ?_ _) | (with_reducible refine Below.setCell ?_ ?_ _) | go_size))
        · simpa using Nat.le_succ_of_le hb1.size
      have x0 : w1.cell? ⟨wo.heap.size, 0, none⟩ = some (.string (sgN ss k)) := cell_carry (by simp) (Carries.of 0 hb2)
      have x1 : w1.cell? ⟨wo.heap.size, 1, none⟩ = some (.int .i64 (sgK ss k)) := cell_carry (by simp) (Carries.of 0 hb2)
      have z1 : wo.heap.size < w1.heap.size := by have := hb2.size; simp at this; omega
      clear hb2
      cases hnm : nameB (sgN ss k) with
      | false =>
        have hfin := HB.out (fun h => by have := h.1; rw [hnm] at this; cases this)
        subst hfin
        clear hnm
        go_wp2_with fail
        go_ret
        exact ⟨rfl, hw1⟩
      | true =>
      have HNM := Lib.hid hnm; clear hnm
      go_wp2_with fail
      refine (l1In_any _ _ _ _).mono ?_
      rintro e w2 ⟨rfl, hb3⟩
      have hw2 : Below w.heap.size w w2 := hw1.trans (hb3.mono hw1.size)
      have x0 := cell_carry x0 (Carries.of 0 hb3)
      have z2 : wo.heap.size < w2.heap.size := by have := hb3.size; omega
      clear x1 hb3 hw1
      by_cases hin : 1 ≤ sgK ss k ∧ sgK ss k ≤ 3
      case neg =>
        have hfin := HB.out (fun h => hin h.2.1)
        subst hfin
        rw [decide_eq_false hin]
        clear hin
        go_wp2_with fail
        go_ret
        exact ⟨rfl, hw2⟩
      rw [decide_eq_true hin]
      have HIN := Lib.hid hin; clear hin
      go_wp2_with fail
      go_loopw [28] (fun i wr => ∃ j : Nat, j ≤ k ∧ i = .int .i64 j ∧ Hid (∀ i, i < j → sgN ss k ≠ sgN ss i) ∧ Below w.heap.size w wr ∧ wo.heap.size < wr.heap.size ∧ wr.cell? ⟨wo.heap.size, 0, none⟩ = some (.string (sgN ss k))) (fun i _ => k - (intOf i).toNat)
      case atStart => exact ⟨0, Nat.zero_le _, rfl, fun i hi => absurd hi (Nat.not_lt_zero _), hw2, z2, x0⟩
      case round =>
        obtain ⟨j, hj, rfl, hne, hb4, z3, y0⟩ := hrel
        have zz4 := hb4.size
        clear x0 z2 hw2
        by_cases hjt : j < k
        · obtain ⟨e0, e1⟩ := HC.out j (by omega)
          have f0 := Carries.of lo hb4 _ _ hlo e0
          have f1 := Carries.of lo hb4 _ _ hlo e1
          clear e0 e1
          have y1 : ((wr.alloc (.cells #[.string (sgN ss j), .int .i64 (sgK ss j)] 128))).cell? ⟨wo.heap.size, 0, none⟩ = some (.string (sgN ss k)) := cell_carry y0 (by (repeat' (first | (with_reducible exact Carries.refl _ _) | (with_reducible assumption) | (with_reducible refine Carries.alloc ?_ _) | (with_reducible refine Carries.drew ?_) | (with_reducible refine Carries.drewN ?_ _) | (with_reducible refine Carries.set ?_ ?_ _) | go_size)))
          by_cases he : sgN ss k = sgN ss j
          · have hfin := HB.out (fun h => h.2.2 j hjt he)
            subst hfin
            have t0 : ((sgN ss k).toList == (sgN ss j).toList) = true := by rw [bytes_toList_beq]; exact decide_eq_true he
            clear he
            go_wp2_with fail
            go_ret
            exact ⟨rfl, by (repeat' (first | (with_reducible exact Below.refl _ _) | (with_reducible assumption) | (with_reducible refine Below.alloc ?_ ?_ _) | (with_reducible refine Below.drew ?_) | (with_reducible refine below_drewN ?_ _) | (with_reducible refine Below.setCell ?_ ?_ _) | go_size))⟩
          · have t0 : ((sgN ss k).toList == (sgN ss j).toList) = false := by rw [bytes_toList_beq]; exact decide_eq_false he
            have H2 : Hid (∀ i, i < j + 1 → sgN ss k ≠ sgN ss i) := by
              intro i hi
              by_cases e : i = j
              · subst e; exact he
              · exact hne.out i (by omega)
            clear he
            go_wp2_with fail
            go_roundw
            case rel =>
              refine ⟨j + 1, by omega, by go_num, H2, ?_, ?_, ?_⟩
              · (repeat' (first | (with_reducible exact Below.refl _ _) | (with_reducible assumption) | (with_reducible refine Below.alloc ?_ ?_ _) | (with_reducible refine Below.drew ?_) | (with_reducible refine below_drewN ?_ _) | (with_reducible refine Below.setCell ?_ ?_ _) | go_size))
              · simp; omega
              · exact cell_carry y0 (by (repeat' (first | (with_reducible exact Carries.refl _ _) | (with_reducible assumption) | (with_reducible refine Carries.alloc ?_ _) | (with_reducible refine Carries.drew ?_) | (with_reducible refine Carries.drewN ?_ _) | (with_reducible refine Carries.set ?_ ?_ _) | go_size)))
            case measure => simp [intOf]; omega
        · have hjj : j = k := by omega
          subst hjj
          have H2 : Hid (SigTo ss (j + 1)) := by
            intro i hi
            by_cases e : i = j
            · subst e; exact ⟨HNM.out, HIN.out, hne.out⟩
            · exact hall.out i (by omega)
          go_wp2_with fail
          go_roundw
          case rel => exact ⟨j + 1, by omega, by go_num, H2, hb4⟩
          case measure => simp [intOf]; omega
    · have hkk : k = ss.length := by omega
      subst hkk
      go_wp2_with fail
      refine (l1In_any _ _ _ _).mono ?_
      rintro e w1 ⟨rfl, hb⟩
      have hw1 : Below w.heap.size w w1 := hb1.trans (hb.mono hb1.size)
      by_cases hin : 1 ≤ ss.length ∧ ss.length ≤ 8
      · have hfin := sigsB_good hall.out hin
        rw [HG.out] at hfin
        subst hfin
        rw [decide_eq_true (by omega)]
        go_wp2_with fail
        go_ret
        exact ⟨rfl, hw1⟩
      · have hfin := sigsB_size hin
        rw [HG.out] at hfin
        subst hfin
        rw [decide_eq_false (by omega)]
        go_wp2_with fail
        go_ret
        exact ⟨rfl, hw1⟩

set_option maxHeartbeats 400000 in
theorem l2Label_any (ls : List Lab) (i m : Nat) (w : World) (hm : m ≤ 1048576) :
    Calls Try.prog 83 #[.agg #[.int .i64 (lbS ls i), .bool (lbU ls i)], .int .i64 m] w (RetB w (decide (LabOk m ls i))) := by
  rw [labV_eq]
  generalize lbS ls i = a
  generalize lbU ls i = u
  generalize hG : labV m a u = g
  have HG := Lib.hid hG; clear hG
  go_enter Try.func83, Try.ntmps83
  go_wp2_with fail
  refine (l1In_any _ _ _ _).mono ?_
  rintro e w1 ⟨rfl, hb⟩
  have hw1 : Below w.heap.size w w1 := by
    refine Below.trans ?_ (hb.mono ?_)
    · (repeat' (first | (with_reducible exact Below.refl _ _) | (with_reducible assumption) | (with_reducible refine Below.alloc ?_ ?_ _) | (with_reducible refine Below.drew ?_) | (with_reducible refine below_drewN ?_ _) | (with_reducible refine Below.setCell ?_ ?_ _) | go_size))
    · simp
  have x0 : w1.cell? ⟨w.heap.size, 0, none⟩ = some (.int .i64 a) := cell_carry (by simp) (Carries.of 0 hb)
  have x1 : w1.cell? ⟨w.heap.size, 1, none⟩ = some (.bool u) := cell_carry (by simp) (Carries.of 0 hb)
  clear hb
  by_cases hin : 0 ≤ a ∧ a < (m : Int)
  · have hfin := HG.out
    rw [labV_in hin] at hfin
    subst hfin
    rw [decide_eq_true (by omega)]
    clear hin
    go_wp2_with fail
    go_ret
    exact ⟨rfl, hw1⟩
  rw [decide_eq_false (by omega)]
  have hfin := HG.out
  rw [labV_out hin] at hfin
  clear HG
  by_cases h1 : a = -1
  · subst h1
    cases u with
    | true =>
      simp only [Bool.not_true, Bool.and_false] at hfin
      subst hfin
      go_wp2_with fail
      go_ret
      exact ⟨rfl, hw1⟩
    | false =>
      simp only [decide_true, Bool.not_false, Bool.and_true] at hfin
      subst hfin
      go_wp2_with fail
      go_ret
      exact ⟨rfl, hw1⟩
  · rw [decide_eq_false h1, Bool.false_and] at hfin
    subst hfin
    have t1 : (a == -1) = false := by simpa using h1
    clear hin h1
    go_wp2_with fail
    go_ret
    exact ⟨rfl, hw1⟩

end Go.Proofs.Ytigkgfdnnfmmmaa
