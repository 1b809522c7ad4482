/- WALKS: l2Good, IsValidSTG of the model. -/
import Derived.Test.YtgmnknlnlmcmfaaVDumy
namespace Go.Proofs.Ytgmnknlnlmcmfaa
open Go.RowKit

set_option maxRecDepth 100000 in
set_option maxHeartbeats 2000000 in
theorem l2Good_any (v : Value) (s : StgD) (w : World) (lo : Nat) (hv : StgAt lo w v s) (hs : SmallStg s) :
    Calls Try.prog 81 #[v] w (RetB w (goodS s)) := by
  generalize hG : goodS s = g
  unfold goodS at hG
  obtain ⟨a0, c0, a1, c1, a2, c2, rfl, hn, hsg, hl⟩ := hv.form
  clear hv
  obtain ⟨n, ss, ls, st⟩ := s
  obtain ⟨k1, k2, k3, k4⟩ := hs
  simp only at hn hsg hl k1 k2 k3 k4 hG ⊢
  generalize hgN : goodN n = gN at hG
  generalize hgM : markB n st = gM at hG
  generalize hgS : sigsB ss = gS at hG
  generalize hgL : labsB ss.length ls = gL at hG
  generalize hgE : decide (ls.length = n.ts.length) = gE at hG
  have GN := Lib.hid hgN; clear hgN
  have GM := Lib.hid hgM; clear hgM
  have GS := Lib.hid hgS; clear hgS
  have GL := Lib.hid hgL; clear hgL
  have GE := Lib.hid hgE; clear hgE
  have HG := Lib.hid hG; clear hG
  obtain ⟨p, hp⟩ : ∃ p, p = n.places := ⟨_, rfl⟩
  obtain ⟨m, hm⟩ : ∃ m, m = n.ts.length := ⟨_, rfl⟩
  have hmm : m ≤ 1048576 := by rw [hm]; exact k1.1
  have hss : ss.length ≤ 1048576 := k2.1
  rw [← hp, ← hm] at hn ⊢
  rw [← hm] at GE
  clear hp hm
  have HN := Lib.hid hn; clear hn
  have HS := Lib.hid hsg; clear hsg
  have K1 := Lib.hid k1; clear k1
  have K2 := Lib.hid k2; clear k2
  obtain ⟨al, capl, hal, hcl, hzl⟩ := hl
  simp only [Value.slice.injEq, true_and] at hal
  obtain ⟨rfl, rfl⟩ := hal
  have HF := Lib.hid hzl; clear hzl
  go_enter Try.func81, Try.ntmps81
  go_wp2_with fail
  go_loopw [8] (fun i wr => ∃ k : Nat, k ≤ ls.length ∧ i = .int .i64 k ∧ Hid (LabTo ss.length ls k) ∧ Below w.heap.size w wr ∧ w.heap.size < wr.heap.size ∧ wr.cell? ⟨w.heap.size, 0, none⟩ = some (.int .i64 p) ∧ wr.cell? ⟨w.heap.size, 1, none⟩ = some (.slice a0 m c0) ∧ wr.cell? ⟨w.heap.size, 2, none⟩ = some (.slice a1 ss.length c1) ∧ wr.cell? ⟨w.heap.size, 3, none⟩ = some (.slice a2 ls.length c2) ∧ wr.cell? ⟨w.heap.size, 4, none⟩ = some (.string st)) (fun i _ => ls.length - (intOf i).toNat)
  case atStart =>
    refine ⟨0, Nat.zero_le _, rfl, fun i hi => absurd hi (Nat.not_lt_zero _), ?_, ?_, ?_, ?_, ?_, ?_, ?_⟩
    · (repeat' (first | (with_reducible exact Below.refl _ _) | (with_reducible assumption) | (with_reducible refine Below.alloc ?_ ?_ _) | (with_reducible refine Below.drew ?_) | (with_reducible refine below_drewN ?_ _) | (with_reducible refine Below.setCell ?_ ?_ _) | go_size))
    all_goals simp
  case round =>
    obtain ⟨k, hk, rfl, hall, hb1, z1, x0, x1, x2, x3, x4⟩ := hrel
    have zz1 := hb1.size
    by_cases hlt : k < ls.length
    · rcases HF.out with h0 | ⟨b, off, rfl, hlo, hcell⟩
      · omega
      obtain ⟨e0, e1⟩ := hcell k hlt
      have d0 := Carries.of lo hb1 _ _ hlo e0
      have d1 := Carries.of lo hb1 _ _ hlo e1
      clear hcell e0 e1
      have hbad := fun h => labsB_bad (m := ss.length) (ls := ls) hlt h
      rw [GL.out] at hbad
      have HB := Lib.hid hbad; clear hbad
      have y2 : (wr.alloc (.cells #[.int .i64 (lbS ls k), .bool (lbU ls k)] 113)).cell? ⟨w.heap.size, 2, none⟩ = some (.slice a1 ss.length c1) := cell_carry x2 (by (repeat' (first | (with_reducible exact Carries.refl _ _) | (with_reducible assumption) | (with_reducible refine Carries.alloc ?_ _) | (with_reducible refine Carries.drew ?_) | (with_reducible refine Carries.drewN ?_ _) | (with_reducible refine Carries.set ?_ ?_ _) | go_size)))
      go_wp2_with fail
      refine (l2Label_any ls k ss.length _ hss).mono ?_
      rintro e w1 ⟨rfl, hb2⟩
      have hw1 : Below w.heap.size w w1 := by
        refine Below.trans ?_ (hb2.mono ?_)
        · (repeat' (first | (with_reducible exact Below.refl _ _) | (with_reducible assumption) | (with_reducible refine Below.alloc ?_ ?_ _) | (with_reducible refine Below.drew ?_) | (with_reducible refine below_drewN ?_ _) | (with_reducible refine Below.setCell ?_ ?_ _) | go_size))
        · simpa using Nat.le_succ_of_le hb1.size
      have car : Carries 0 wr w1 := Carries.trans (by (repeat' (first | (with_reducible exact Carries.refl _ _) | (with_reducible assumption) | (with_reducible refine Carries.alloc ?_ _) | (with_reducible refine Carries.drew ?_) | (with_reducible refine Carries.drewN ?_ _) | (with_reducible refine Carries.set ?_ ?_ _) | go_size))) (Carries.of 0 hb2)
      have x0 := cell_carry x0 car
      have x1 := cell_carry x1 car
      have x2 := cell_carry x2 car
      have x3 := cell_carry x3 car
      have x4 := cell_carry x4 car
      have z2 : w.heap.size < w1.heap.size := by have := hb2.size; simp at this; omega
      clear car hb2 y2
      by_cases hok : LabOk ss.length ls k
      · rw [decide_eq_true hok]
        have H2 : Hid (LabTo ss.length ls (k + 1)) := by
          intro i hi
          by_cases e : i = k
          · subst e; exact hok
          · exact hall.out i (by omega)
        clear hok
        go_wp2_with fail
        go_roundw
        case rel => exact ⟨k + 1, by omega, by go_num, H2, hw1, z2, x0, x1, x2, x3, x4⟩
        case measure => simp [intOf]; omega
      · rw [decide_eq_false hok]
        have hfin := HB.out hok
        subst hfin
        have := HG.out
        simp only [Bool.false_and, Bool.and_false] at this
        subst this
        clear hok
        go_wp2_with fail
        go_ret
        exact ⟨rfl, hw1⟩
    · have hkk : k = ls.length := by omega
      subst hkk
      have hfin : labsB ss.length ls = true := decide_eq_true hall.out
      rw [GL.out] at hfin
      subst hfin
      go_wp2_with fail
      refine (l1Good_any _ n _ lo (HN.out.keep (Carries.of lo hb1)) K1.out).mono ?_
      rintro e w1 ⟨rfl, hb⟩
      have hw1 : Below w.heap.size w w1 := hb1.trans (hb.mono hb1.size)
      have x0 := cell_carry x0 (Carries.of 0 hb)
      have x1 := cell_carry x1 (Carries.of 0 hb)
      have x2 := cell_carry x2 (Carries.of 0 hb)
      have x3 := cell_carry x3 (Carries.of 0 hb)
      have x4 := cell_carry x4 (Carries.of 0 hb)
      clear hb hb1 z1
      rw [GN.out]
      cases gN with
      | false =>
        have := HG.out
        simp only [Bool.false_and, Bool.and_false] at this
        subst this
        go_wp2_with fail
        go_ret
        exact ⟨rfl, hw1⟩
      | true =>
      go_wp2_with fail
      refine (l2Signals_any _ ss _ lo (HS.out.keep (Carries.of lo hw1)) K2.out).mono ?_
      rintro e w2 ⟨rfl, hb⟩
      have hw2 : Below w.heap.size w w2 := hw1.trans (hb.mono hw1.size)
      have x0 := cell_carry x0 (Carries.of 0 hb)
      have x1 := cell_carry x1 (Carries.of 0 hb)
      have x3 := cell_carry x3 (Carries.of 0 hb)
      have x4 := cell_carry x4 (Carries.of 0 hb)
      clear hb hw1
      rw [GS.out]
      cases gS with
      | false =>
        have := HG.out
        simp only [Bool.false_and, Bool.and_false] at this
        subst this
        go_wp2_with fail
        go_ret
        exact ⟨rfl, hw2⟩
      | true =>
      cases gE with
      | false =>
        have := HG.out
        simp only [Bool.and_false] at this
        subst this
        have hne : ((ls.length : Int) == (m : Int)) = false := by have := of_decide_eq_false GE.out; rw [beq_eq_false_iff_ne]; omega
        go_wp2_with fail
        go_ret
        exact ⟨rfl, hw2⟩
      | true =>
      have hne : ((ls.length : Int) == (m : Int)) = true := by have := of_decide_eq_true GE.out; rw [beq_iff_eq]; omega
      go_wp2_with fail
      refine (l1Mark_any _ n st _ lo (HN.out.keep (Carries.of lo hw2)) k4).mono ?_
      rintro e w3 ⟨rfl, hb⟩
      have hw3 : Below w.heap.size w w3 := hw2.trans (hb.mono hw2.size)
      rw [GM.out]
      cases gM with
      | false =>
        have := HG.out
        simp only [Bool.and_true, Bool.and_false, Bool.true_and] at this
        subst this
        go_wp2_with fail
        go_ret
        exact ⟨rfl, hw3⟩
      | true =>
        have := HG.out
        simp only [Bool.and_true] at this
        subst this
        go_wp2_with fail
        go_ret
        exact ⟨rfl, hw3⟩

end Go.Proofs.Ytgmnknlnlmcmfaa
