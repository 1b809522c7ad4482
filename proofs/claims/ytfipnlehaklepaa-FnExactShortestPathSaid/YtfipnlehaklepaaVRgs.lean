/- WALKS: l4Find, l4Good of the model. -/
import Derived.Test.YtfipnlehaklepaaVRgb
import Derived.Test.YtfipnlehaklepaaVHsp
import Derived.Test.YtfipnlehaklepaaVGood
namespace Go.Proofs.Ytfipnlehaklepaa
open Go.RowKit

theorem TextsAt.take {lo : Nat} {w : World} {a : Option Addr} {n c : Nat} {ss : List ByteArray} (h : TextsAt lo w (.slice a n c) ss) {k : Nat} (hk : k ≤ ss.length) : TextsAt lo w (.slice a k c) (ss.take k) := by
  obtain ⟨ao, cap, hv, hc, hz⟩ := h
  injection hv with e1 e2 e3
  subst e1; subst e2; subst e3
  have hl : (ss.take k).length = k := by simp; omega
  refine ⟨a, c, by rw [hl], by omega, ?_⟩
  by_cases h0 : k = 0
  · left; omega
  · rcases hz with hz | ⟨b, off, ha, hlo, hcell⟩
    · omega
    · exact Or.inr ⟨b, off, ha, hlo, fun i hi => by rw [stN_take (by omega)]; exact hcell i (by omega)⟩

set_option maxHeartbeats 400000 in
theorem l4Find_any (v : Value) (ss : List ByteArray) (m : ByteArray) (w : World) (lo : Nat) (hv : TextsAt lo w v ss) (hn : ss.length ≤ 1048576) :
    Calls Try.prog 133 #[v, .string m] w (RetV w (.int .i64 (findI ss m))) := by
  obtain ⟨R, hR⟩ : ∃ R, R = findI ss m := ⟨_, rfl⟩
  rw [← hR]
  have HR := Lib.hid hR; clear hR
  obtain ⟨ao, cap, rfl, hc, hz⟩ := hv
  have HF := Lib.hid hz; clear hz
  go_enter Try.func133, Try.ntmps133
  go_wp2_with fail
  go_loop [9] (fun i => ∃ k : Nat, k ≤ ss.length ∧ i = .int .i64 k ∧ Hid (∀ i, i < k → stN ss i ≠ m)) (fun i => ss.length - (intOf i).toNat)
  case atStart => exact ⟨0, Nat.zero_le _, rfl, fun i hi => absurd hi (Nat.not_lt_zero _)⟩
  case round =>
    obtain ⟨k, hk, rfl, hall⟩ := hrel
    by_cases hlt : k < ss.length
    · rcases HF.out with h0 | ⟨b, off, rfl, hlo, hcell⟩
      · omega
      have c1 := hcell k hlt
      clear hcell
      by_cases he : stN ss k = m
      · have e := HR.out
        rw [findI_at hlt hall.out he] at e
        subst e
        have te : ((stN ss k).toList == m.toList) = true := by rw [bytes_toList_beq, decide_eq_true he]
        clear he
        go_wp2_with fail
        go_ret
        exact ⟨rfl, Below.refl _ _⟩
      · have H2 : Hid (∀ i, i < k + 1 → stN ss i ≠ m) := by
          intro i hi
          by_cases e : i = k
          · subst e; exact he
          · exact hall.out i (by omega)
        have te : ((stN ss k).toList == m.toList) = false := by rw [bytes_toList_beq, decide_eq_false he]
        clear he
        go_wp2_with fail
        go_round
        case rel => exact ⟨k + 1, by omega, by go_num, H2⟩
        case measure => simp [intOf]; omega
    · have hkk : k = ss.length := by omega
      subst hkk
      have e := HR.out
      rw [findI_none hall.out] at e
      subst e
      go_wp2_with fail
      go_ret
      exact ⟨rfl, Below.refl _ _⟩

theorem goodR_no {r : RgD} (h : ¬ (1 ≤ r.marks.length ∧ r.marks.length ≤ 300 ∧ r.moves.length ≤ 4000)) : goodR r = false := by
  unfold goodR; rw [decide_eq_false h]; rfl
theorem goodR_yes {r : RgD} (h : 1 ≤ r.marks.length ∧ r.marks.length ≤ 300 ∧ r.moves.length ≤ 4000) : goodR r = (distB r.marks && movesB r.marks.length r.moves) := by
  unfold goodR; rw [decide_eq_true h]; rfl

set_option maxRecDepth 100000 in
set_option maxHeartbeats 2000000 in
theorem l4Good_any (v : Value) (r : RgD) (w : World) (lo : Nat) (hv : RgAt lo w v r) (hs : SmallRg r) :
    Calls Try.prog 82 #[v] w (RetB w (goodR r)) := by
  obtain ⟨g, hg⟩ : ∃ g, g = goodR r := ⟨_, rfl⟩
  rw [← hg]
  obtain ⟨a0, c0, a1, c1, rfl, hm, hl⟩ := hv.form
  clear hv
  have g1 : ¬ (1 ≤ r.marks.length ∧ r.marks.length ≤ 300 ∧ r.moves.length ≤ 4000) → goodR r = false := goodR_no
  have g2 : (1 ≤ r.marks.length ∧ r.marks.length ≤ 300 ∧ r.moves.length ≤ 4000) → goodR r = (distB r.marks && movesB r.marks.length r.moves) := goodR_yes
  rw [← hg] at g1 g2
  obtain ⟨ss, ms⟩ := r
  obtain ⟨k1, k2⟩ := hs
  simp only at hm hl k1 k2 g1 g2 ⊢
  clear hg
  have k1 := k1.1
  have hcap : ss.length ≤ c0 := by
    obtain ⟨ao, cap, hv, hc, _⟩ := hm
    injection hv with e1 e2 e3
    omega
  have HM := Lib.hid hm; clear hm
  have HL := Lib.hid hl; clear hl
  have G1 := Lib.hid g1; clear g1
  have G2 := Lib.hid g2; clear g2
  go_enter Try.func82, Try.ntmps82
  go_wp2_with fail
  refine (l1In_any _ _ _ _).mono ?_
  rintro e w1 ⟨rfl, hb⟩
  have hw1 : Below w.heap.size w w1 := by
    refine Below.trans ?_ (hb.mono ?_)
    · (repeat' (first | (with_reducible exact Below.refl _ _) | (with_reducible assumption) | (with_reducible refine Below.alloc ?_ ?_ _) | (with_reducible refine Below.drew ?_) | (with_reducible refine below_drewN ?_ _) | (with_reducible refine Below.setCell ?_ ?_ _) | go_size))
    · simp
  have x0 : w1.cell? ⟨w.heap.size, 0, none⟩ = some (.slice a0 ss.length c0) := cell_carry (by simp) (Carries.of 0 hb)
  have x1 : w1.cell? ⟨w.heap.size, 1, none⟩ = some (.slice a1 ms.length c1) := cell_carry (by simp) (Carries.of 0 hb)
  have z1 : w.heap.size < w1.heap.size := by have := hb.size; simp at this; omega
  clear hb
  by_cases h1 : 1 ≤ ss.length ∧ ss.length ≤ 300
  case neg =>
    have hd : decide ((1 : Int) ≤ (ss.length : Int) ∧ (ss.length : Int) ≤ 300) = false := decide_eq_false (by omega)
    rw [hd]; clear hd
    have e := G1.out (by omega)
    subst e
    clear h1
    go_wp2_with fail
    go_ret
    exact ⟨rfl, hw1⟩
  have hd : decide ((1 : Int) ≤ (ss.length : Int) ∧ (ss.length : Int) ≤ 300) = true := decide_eq_true (by omega)
  rw [hd]; clear hd
  obtain ⟨h1a, h1b⟩ := h1
  by_cases h2 : ms.length ≤ 4000
  case neg =>
    have e := G1.out (by omega)
    subst e
    go_wp2_with fail
    go_ret
    exact ⟨rfl, hw1⟩
  have G := Lib.hid (G2.out ⟨h1a, h1b, h2⟩)
  clear G1 G2
  go_wp2_with fail
  go_loopw [21] (fun i wr => ∃ k : Nat, k ≤ ss.length ∧ i = .int .i64 k ∧ Hid (∀ j, j < k → freshB ss j = true) ∧ Below w1.heap.size w1 wr) (fun i _ => ss.length - (intOf i).toNat)
  case atStart => exact ⟨0, Nat.zero_le _, rfl, fun j hj => absurd hj (Nat.not_lt_zero _), Below.refl _ _⟩
  case round =>
    obtain ⟨k, hk, rfl, hall, hb1⟩ := hrel
    have zz1 := hb1.size
    have x0 := cell_keep x0 hb1 (Nat.le_refl _)
    have x1 := cell_keep x1 hb1 (Nat.le_refl _)
    have hwr := hw1.trans (hb1.mono (Nat.le_of_lt z1))
    by_cases hlt : k < ss.length
    · have hm0 := HM.out
      have ht0 := (hm0.take (k := k) (by omega)).keep (Carries.of lo hwr)
      have HT := Lib.hid ht0; clear ht0
      obtain ⟨ao, cap, hvv, hc, hz⟩ := hm0
      injection hvv with e1 e2 e3
      subst e1; subst e3; clear e2
      rcases hz with h0 | ⟨b, off, rfl, hlo, hcell⟩
      · omega
      have d0 := Carries.of lo hwr _ _ hlo (hcell k hlt)
      clear hcell
      have hff := fresh_find (ss := ss) (k := k) (by omega)
      have hbd := findI_bd (ss.take k) (stN ss k)
      have hl : ((ss.take k).length : Int) ≤ 1048576 := by have := List.length_take_le k ss; omega
      have HLL := Lib.hid (show (ss.take k).length ≤ 1048576 by omega)
      obtain ⟨q, hq⟩ : ∃ q, q = findI (ss.take k) (stN ss k) := ⟨_, rfl⟩
      rw [← hq] at hff hbd
      have q0 : -1 ≤ q := hbd.1
      have q1 : q ≤ 1048576 := by omega
      clear hbd hl
      have HQ := Lib.hid hq; clear hq
      have HFF := Lib.hid hff; clear hff
      go_wp2_with fail
      refine (l4Find_any _ (ss.take k) (stN ss k) _ lo HT.out HLL.out).mono ?_
      rintro e w2 ⟨rfl, hb⟩
      rw [← HQ.out]
      have hw2 : Below w1.heap.size w1 w2 := hb1.trans (hb.mono hb1.size)
      have x0 := cell_carry x0 (Carries.of 0 hb)
      have x1 := cell_carry x1 (Carries.of 0 hb)
      have hwr2 := hw1.trans (hw2.mono (Nat.le_of_lt z1))
      clear hb
      by_cases hq0 : q < 0
      · have e := HFF.out
        rw [decide_eq_true hq0] at e
        have H2 : Hid (∀ j, j < k + 1 → freshB ss j = true) := by
          intro j hj
          by_cases ej : j = k
          · subst ej; exact e
          · exact hall.out j (by omega)
        clear e
        go_wp2_with fail
        go_roundw
        case rel => exact ⟨k + 1, by omega, by go_num, H2, hw2⟩
        case measure => simp [intOf]; omega
      · have e := HFF.out
        rw [decide_eq_false hq0] at e
        have e2 := G.out
        rw [distB_false hlt e, Bool.false_and] at e2
        subst e2
        clear e
        go_wp2_with fail
        go_ret
        exact ⟨rfl, hwr2⟩
    · have hkk : k = ss.length := by omega
      subst hkk
      have e := G.out
      rw [distB_true hall.out, Bool.true_and] at e
      have G := Lib.hid e
      clear e hall hb1
      obtain ⟨W, hW⟩ : ∃ W, W = wr := ⟨_, rfl⟩
      subst hW
      go_wp2_with fail
      go_loopw [37] (fun i wr => ∃ k : Nat, k ≤ ms.length ∧ i = .int .i64 k ∧ Hid (∀ j, j < k → mvOk ss.length ms j = true) ∧ Below W.heap.size W wr) (fun i _ => ms.length - (intOf i).toNat)
      case atStart => exact ⟨0, Nat.zero_le _, rfl, fun j hj => absurd hj (Nat.not_lt_zero _), Below.refl _ _⟩
      case round =>
        obtain ⟨j, hj, rfl, hall, hb2⟩ := hrel
        have zz2 := hb2.size
        have x0 := cell_keep x0 hb2 (Nat.le_refl _)
        have x1 := cell_keep x1 hb2 (Nat.le_refl _)
        have hwj := hwr.trans (hb2.mono hwr.size)
        by_cases hlt2 : j < ms.length
        · have hl0 := HL.out
          obtain ⟨ao, cap, hvv, hc, hz⟩ := hl0
          injection hvv with e1 e2 e3
          subst e1; subst e3; clear e2
          rcases hz with h0 | ⟨b, off, rfl, hlo, hcell⟩
          · omega
          obtain ⟨q0, q1, q2⟩ := hcell j hlt2
          have d0 := Carries.of lo hwj _ _ hlo q0
          have d1 := Carries.of lo hwj _ _ hlo q1
          have d2 := Carries.of lo hwj _ _ hlo q2
          clear hcell q0 q1 q2
          dsimp only at d0 d1 d2
          have zr : w.heap.size < wr.heap.size := by omega
          have hok : mvOk ss.length ms j = decide ((0 ≤ mvF ms j ∧ mvF ms j < ss.length) ∧ (0 ≤ mvT ms j ∧ mvT ms j < ss.length) ∧ (0 ≤ mvB ms j ∧ mvB ms j < 24)) := rfl
          generalize mvF ms j = f at d0 hok
          generalize mvB ms j = by_ at d1 hok
          generalize mvT ms j = t at d2 hok
          have HOK := Lib.hid hok; clear hok
          have HWJ := Lib.hid hwj; clear hwj
          go_wp2_with fail
          refine (l1In_any _ _ _ _).mono ?_
          rintro e w2 ⟨rfl, hb⟩
          have hw2 : Below W.heap.size W w2 := by
            refine hb2.trans (Below.trans ?_ (hb.mono ?_))
            · (repeat' (first | (with_reducible exact Below.refl _ _) | (with_reducible assumption) | (with_reducible refine Below.alloc ?_ ?_ _) | (with_reducible refine Below.drew ?_) | (with_reducible refine below_drewN ?_ _) | (with_reducible refine Below.setCell ?_ ?_ _) | go_size))
            · simp; omega
          have y0 : w2.cell? ⟨wr.heap.size, 0, none⟩ = some (.int .i64 f) := cell_carry (by simp) (Carries.of 0 hb)
          have y1 : w2.cell? ⟨wr.heap.size, 1, none⟩ = some (.int .i64 by_) := cell_carry (by simp) (Carries.of 0 hb)
          have y2 : w2.cell? ⟨wr.heap.size, 2, none⟩ = some (.int .i64 t) := cell_carry (by simp) (Carries.of 0 hb)
          have x0 : w2.cell? ⟨w.heap.size, 0, none⟩ = some (.slice a0 ss.length c0) := cell_carry (cell_carry x0 (by (repeat' (first | (with_reducible exact Carries.refl _ _) | (with_reducible assumption) | (with_reducible refine Carries.alloc ?_ _) | (with_reducible refine Carries.drew ?_) | (with_reducible refine Carries.drewN ?_ _) | (with_reducible refine Carries.set ?_ ?_ _) | go_size)))) (Carries.of 0 hb)
          have x1 : w2.cell? ⟨w.heap.size, 1, none⟩ = some (.slice (some ⟨b, off, none⟩) ms.length c1) := cell_carry (cell_carry x1 (by (repeat' (first | (with_reducible exact Carries.refl _ _) | (with_reducible assumption) | (with_reducible refine Carries.alloc ?_ _) | (with_reducible refine Carries.drew ?_) | (with_reducible refine Carries.drewN ?_ _) | (with_reducible refine Carries.set ?_ ?_ _) | go_size)))) (Carries.of 0 hb)
          have hwr2 := hwr.trans (hw2.mono hwr.size)
          clear hb d0 d1 d2
          by_cases h3 : 0 ≤ f ∧ f < (ss.length : Int)
          case neg =>
            have hd : decide ((0 : Int) ≤ f ∧ f ≤ (ss.length : Int) - 1) = false := decide_eq_false (by omega)
            rw [hd]; clear hd
            have e := HOK.out
            rw [decide_eq_false (by omega)] at e
            have e2 := G.out
            rw [movesB_false hlt2 e] at e2
            subst e2
            clear e
            go_wp2_with fail
            go_ret
            exact ⟨rfl, hwr2⟩
          have hd : decide ((0 : Int) ≤ f ∧ f ≤ (ss.length : Int) - 1) = true := decide_eq_true (by omega)
          rw [hd]; clear hd
          go_wp2_with fail
          refine (l1In_any _ _ _ _).mono ?_
          rintro e w3 ⟨rfl, hb⟩
          have hw3 : Below W.heap.size W w3 := hw2.trans (hb.mono hw2.size)
          have x0 := cell_carry x0 (Carries.of 0 hb)
          have x1 := cell_carry x1 (Carries.of 0 hb)
          have y0 := cell_carry y0 (Carries.of 0 hb)
          have y1 := cell_carry y1 (Carries.of 0 hb)
          have y2 := cell_carry y2 (Carries.of 0 hb)
          have hwr3 := hwr.trans (hw3.mono hwr.size)
          clear hb
          by_cases h4 : 0 ≤ t ∧ t < (ss.length : Int)
          case neg =>
            have hd : decide ((0 : Int) ≤ t ∧ t ≤ (ss.length : Int) - 1) = false := decide_eq_false (by omega)
            rw [hd]; clear hd
            have e := HOK.out
            rw [decide_eq_false (by omega)] at e
            have e2 := G.out
            rw [movesB_false hlt2 e] at e2
            subst e2
            clear e
            go_wp2_with fail
            go_ret
            exact ⟨rfl, hwr3⟩
          have hd : decide ((0 : Int) ≤ t ∧ t ≤ (ss.length : Int) - 1) = true := decide_eq_true (by omega)
          rw [hd]; clear hd
          go_wp2_with fail
          refine (l1In_any _ _ _ _).mono ?_
          rintro e w4 ⟨rfl, hb⟩
          have hw4 : Below W.heap.size W w4 := hw3.trans (hb.mono hw3.size)
          have hwr4 := hwr.trans (hw4.mono hwr.size)
          clear hb
          by_cases h5 : 0 ≤ by_ ∧ by_ < 24
          case neg =>
            have hd : decide ((0 : Int) ≤ by_ ∧ by_ ≤ 23) = false := decide_eq_false (by omega)
            rw [hd]; clear hd
            have e := HOK.out
            rw [decide_eq_false (by omega)] at e
            have e2 := G.out
            rw [movesB_false hlt2 e] at e2
            subst e2
            clear e
            go_wp2_with fail
            go_ret
            exact ⟨rfl, hwr4⟩
          have hd : decide ((0 : Int) ≤ by_ ∧ by_ ≤ 23) = true := decide_eq_true (by omega)
          rw [hd]; clear hd
          have e := HOK.out
          rw [decide_eq_true ⟨h3, h4, h5⟩] at e
          have H2 : Hid (∀ i, i < j + 1 → mvOk ss.length ms i = true) := by
            intro i hi
            by_cases ej : i = j
            · subst ej; exact e
            · exact hall.out i (by omega)
          clear e
          go_wp2_with fail
          go_roundw
          case rel => exact ⟨j + 1, by omega, by go_num, H2, hw4⟩
          case measure => simp [intOf]; omega
        · have hjj : j = ms.length := by omega
          subst hjj
          have e := G.out
          rw [movesB_true hall.out] at e
          subst e
          go_wp2_with fail
          go_ret
          exact ⟨rfl, hwj⟩

end Go.Proofs.Ytfipnlehaklepaa
