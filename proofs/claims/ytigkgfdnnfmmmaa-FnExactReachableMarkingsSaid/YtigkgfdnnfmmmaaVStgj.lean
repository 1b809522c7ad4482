/- What a valid graph is.
   WALK: isDummy of the program.
   WALKS: labelledNetOf, hasSignal, isDummy, hasLabel, IsValidSTG of the program. -/
import Derived.Test.YtigkgfdnnfmmmaaVStga
import Derived.Test.YtigkgfdnnfmmmaaVArr
import Derived.Test.YtigkgfdnnfmmmaaVSigv
import Derived.Test.YtigkgfdnnfmmmaaVNeta
import Derived.Test.YtigkgfdnnfmmmaaVStgi
namespace Go.Proofs.Ytigkgfdnnfmmmaa
open Go.RowKit

/-- what a valid graph is -/
def goodS (s : StgD) : Bool := (goodN s.net && markB s.net s.start) && (sigsB s.sigs && (labsB s.sigs.length s.labs && decide (s.labs.length = s.net.ts.length)))

end Go.Proofs.Ytigkgfdnnfmmmaa

namespace Go.Proofs.Ytigkgfdnnfmmmaa
open Go.RowKit

set_option maxHeartbeats 400000 in
theorem isDummy_any (a : Int) (u : Bool) (w : World) :
    Calls Try.prog 115 #[.agg #[.int .i64 a, .bool u]] w (RetB w (decide (a = -1) && !u)) := by
  by_cases h : a = -1
  · subst h
    cases u with
    | true =>
      go_enter Try.func115, Try.ntmps115
      go_wp2_with fail
      go_ret
      exact ⟨rfl, by (repeat' (first | (with_reducible exact Below.refl _ _) | (with_reducible assumption) | (with_reducible refine Below.alloc ?_ ?_ _) | (with_reducible refine Below.drew ?_) | (with_reducible refine below_drewN ?_ _) | (with_reducible refine Below.setCell ?_ ?_ _) | go_size))⟩
    | false =>
      go_enter Try.func115, Try.ntmps115
      go_wp2_with fail
      go_ret
      exact ⟨rfl, by (repeat' (first | (with_reducible exact Below.refl _ _) | (with_reducible assumption) | (with_reducible refine Below.alloc ?_ ?_ _) | (with_reducible refine Below.drew ?_) | (with_reducible refine below_drewN ?_ _) | (with_reducible refine Below.setCell ?_ ?_ _) | go_size))⟩
  · have e : (a == -1) = false := by simpa using h
    rw [decide_eq_false h]
    go_enter Try.func115, Try.ntmps115
    go_wp2_with fail
    go_ret
    exact ⟨rfl, by (repeat' (first | (with_reducible exact Below.refl _ _) | (with_reducible assumption) | (with_reducible refine Below.alloc ?_ ?_ _) | (with_reducible refine Below.drew ?_) | (with_reducible refine below_drewN ?_ _) | (with_reducible refine Below.setCell ?_ ?_ _) | go_size))⟩

end Go.Proofs.Ytigkgfdnnfmmmaa

namespace Go.Proofs.Ytigkgfdnnfmmmaa
open Go.RowKit

set_option maxHeartbeats 400000 in
theorem labelledNetOf_any (p : Int) (a0 a1 a2 : Option Addr) (m c0 ns c1 nl c2 : Nat) (st : ByteArray) (w : World) :
    Calls Try.prog 89 #[.agg #[.int .i64 p, .slice a0 m c0, .slice a1 ns c1, .slice a2 nl c2, .string st]] w (RetV w (.agg #[.int .i64 p, .slice a0 m c0, .slice a1 ns c1, .slice a2 nl c2])) := by
  go_enter Try.func89, Try.ntmps89
  go_wp2_with fail
  refine bodyPost_ret (v := .agg #[.int .i64 p, .slice a0 m c0, .slice a1 ns c1, .slice a2 nl c2]) (by simp [results, Try.results89, go_sem]) rfl ?_
  exact ⟨rfl, by (repeat' (first | (with_reducible exact Below.refl _ _) | (with_reducible assumption) | (with_reducible refine Below.alloc ?_ ?_ _) | (with_reducible refine Below.drew ?_) | (with_reducible refine below_drewN ?_ _) | (with_reducible refine Below.setCell ?_ ?_ _) | go_size))⟩

set_option maxHeartbeats 400000 in
theorem hasSignal_any (p : Int) (a0 a1 a2 : Option Addr) (m c0 ns c1 nl c2 : Nat) (x : Int) (w : World) (hn : ns ≤ 1048576) :
    Calls Try.prog 114 #[.agg #[.int .i64 p, .slice a0 m c0, .slice a1 ns c1, .slice a2 nl c2], .int .i64 x] w (RetB w (decide (0 ≤ x ∧ x < ns))) := by
  by_cases h1 : 0 ≤ x
  · by_cases h2 : x < ns
    · rw [decide_eq_true ⟨h1, h2⟩]
      go_enter Try.func114, Try.ntmps114
      go_wp2_with fail
      go_ret
      exact ⟨rfl, by (repeat' (first | (with_reducible exact Below.refl _ _) | (with_reducible assumption) | (with_reducible refine Below.alloc ?_ ?_ _) | (with_reducible refine Below.drew ?_) | (with_reducible refine below_drewN ?_ _) | (with_reducible refine Below.setCell ?_ ?_ _) | go_size))⟩
    · rw [decide_eq_false (by omega)]
      go_enter Try.func114, Try.ntmps114
      go_wp2_with fail
      go_ret
      exact ⟨rfl, by (repeat' (first | (with_reducible exact Below.refl _ _) | (with_reducible assumption) | (with_reducible refine Below.alloc ?_ ?_ _) | (with_reducible refine Below.drew ?_) | (with_reducible refine below_drewN ?_ _) | (with_reducible refine Below.setCell ?_ ?_ _) | go_size))⟩
  · rw [decide_eq_false (by omega)]
    go_enter Try.func114, Try.ntmps114
    go_wp2_with fail
    go_ret
    exact ⟨rfl, by (repeat' (first | (with_reducible exact Below.refl _ _) | (with_reducible assumption) | (with_reducible refine Below.alloc ?_ ?_ _) | (with_reducible refine Below.drew ?_) | (with_reducible refine below_drewN ?_ _) | (with_reducible refine Below.setCell ?_ ?_ _) | go_size))⟩

set_option maxHeartbeats 400000 in
theorem hasLabel_any (p : Int) (a0 a1 a2 : Option Addr) (m c0 ns c1 nl c2 : Nat) (ls : List Lab) (i : Nat) (w : World) (hn : ns ≤ 1048576) :
    Calls Try.prog 90 #[.agg #[.int .i64 p, .slice a0 m c0, .slice a1 ns c1, .slice a2 nl c2], .agg #[.int .i64 (lbS ls i), .bool (lbU ls i)]] w (RetB w (decide (LabOk ns ls i))) := by
  rw [labV_eq]
  generalize lbS ls i = a
  generalize lbU ls i = u
  generalize hG : labV ns a u = g
  have HG := Lib.hid hG; clear hG
  go_enter Try.func90, Try.ntmps90
  go_wp2_with fail
  refine (hasSignal_any _ _ _ _ _ _ _ _ _ _ _ _ hn).mono ?_
  rintro e w1 ⟨rfl, hb⟩
  have hw1 : Below w.heap.size w w1 := by
    refine Below.trans ?_ (hb.mono ?_)
    · (repeat' (first | (with_reducible exact Below.refl _ _) | (with_reducible assumption) | (with_reducible refine Below.alloc ?_ ?_ _) | (with_reducible refine Below.drew ?_) | (with_reducible refine below_drewN ?_ _) | (with_reducible refine Below.setCell ?_ ?_ _) | go_size))
    · simp; omega
  have x0 : w1.cell? ⟨w.heap.size + 1, 0, none⟩ = some (.int .i64 a) := cell_carry (by simp) (Carries.of 0 hb)
  have x1 : w1.cell? ⟨w.heap.size + 1, 1, none⟩ = some (.bool u) := cell_carry (by simp) (Carries.of 0 hb)
  clear hb
  by_cases hin : 0 ≤ a ∧ a < (ns : Int)
  · have hfin := HG.out
    rw [labV_in hin] at hfin
    subst hfin
    rw [decide_eq_true hin]
    clear hin
    go_wp2_with fail
    go_ret
    exact ⟨rfl, hw1⟩
  rw [decide_eq_false hin]
  have hfin := HG.out
  rw [labV_out hin] at hfin
  clear HG
  go_wp2_with fail
  refine (isDummy_any a u _).mono ?_
  rintro e w2 ⟨rfl, hb⟩
  have hw2 : Below w.heap.size w w2 := hw1.trans (hb.mono hw1.size)
  rw [hfin]
  cases g with
  | false =>
    go_wp2_with fail
    go_ret
    exact ⟨rfl, hw2⟩
  | true =>
    go_wp2_with fail
    go_ret
    exact ⟨rfl, hw2⟩

set_option maxRecDepth 100000 in
set_option maxHeartbeats 2000000 in
theorem IsValidSTG_any (v : Value) (s : StgD) (w : World) (lo : Nat) (hv : StgAt lo w v s) (hs : SmallStg s) :
    Calls Try.prog 47 #[v] w (RetB w (goodS s)) := by
  generalize hG : goodS s = g
  unfold goodS at hG
  obtain ⟨a0, c0, a1, c1, a2, c2, rfl, hn, hsg, hl⟩ := hv.form
  clear hv
  obtain ⟨n, ss, ls, st⟩ := s
  obtain ⟨k1, k2, k3, k4⟩ := hs
  simp only at hn hsg hl k1 k2 k3 k4 hG ⊢
  generalize hgN : (goodN n && markB n st) = gN at hG
  generalize hgS : sigsB ss = gS at hG
  generalize hgL : labsB ss.length ls = gL at hG
  generalize hgE : decide (ls.length = n.ts.length) = gE at hG
  have GN := Lib.hid hgN; clear hgN
  have GS := Lib.hid hgS; clear hgS
  have GL := Lib.hid hgL; clear hgL
  have GE := Lib.hid hgE; clear hgE
  have HG := Lib.hid hG; clear hG
  obtain ⟨p, hp⟩ : ∃ p, p = n.places := ⟨_, rfl⟩
  obtain ⟨m, hm⟩ : ∃ m, m = n.ts.length := ⟨_, rfl⟩
  have hmm : m ≤ 1048576 := by rw [hm]; exact k1.1
  have hss : ss.length ≤ 1048576 := k2.1
  rw [← hp, ← hm] at hn ⊢
  rw [← hm] at GE
  clear hp hm
  have HN := Lib.hid hn; clear hn
  have HS := Lib.hid hsg; clear hsg
  have K1 := Lib.hid k1; clear k1
  have K2 := Lib.hid k2; clear k2
  obtain ⟨al, capl, hal, hcl, hzl⟩ := hl
  simp only [Value.slice.injEq, true_and] at hal
  obtain ⟨rfl, rfl⟩ := hal
  have HF := Lib.hid hzl; clear hzl
  go_enter Try.func47, Try.ntmps47
  go_wp2_with fail
  refine (IsValidMarking_any _ n st _ lo (HN.out.keep ?_) K1.out k4).mono ?_
  · (repeat' (first | (with_reducible exact Carries.refl _ _) | (with_reducible assumption) | (with_reducible refine Carries.alloc ?_ _) | (with_reducible refine Carries.drew ?_) | (with_reducible refine Carries.drewN ?_ _) | (with_reducible refine Carries.set ?_ ?_ _) | go_size))
  rintro e w1 ⟨rfl, hb⟩
  have hw1 : Below w.heap.size w w1 := by
    refine Below.trans ?_ (hb.mono ?_)
    · (repeat' (first | (with_reducible exact Below.refl _ _) | (with_reducible assumption) | (with_reducible refine Below.alloc ?_ ?_ _) | (with_reducible refine Below.drew ?_) | (with_reducible refine below_drewN ?_ _) | (with_reducible refine Below.setCell ?_ ?_ _) | go_size))
    · simp
  have z1 : w.heap.size < w1.heap.size := by have := hb.size; simp at this; omega
  have x0 : w1.cell? ⟨w.heap.size, 0, none⟩ = some (.int .i64 p) := cell_carry (by simp) (Carries.of 0 hb)
  have x1 : w1.cell? ⟨w.heap.size, 1, none⟩ = some (.slice a0 m c0) := cell_carry (by simp) (Carries.of 0 hb)
  have x2 : w1.cell? ⟨w.heap.size, 2, none⟩ = some (.slice a1 ss.length c1) := cell_carry (by simp) (Carries.of 0 hb)
  have x3 : w1.cell? ⟨w.heap.size, 3, none⟩ = some (.slice a2 ls.length c2) := cell_carry (by simp) (Carries.of 0 hb)
  have x4 : w1.cell? ⟨w.heap.size, 4, none⟩ = some (.string st) := cell_carry (by simp) (Carries.of 0 hb)
  clear hb
  rw [GN.out]
  cases gN with
  | false =>
    have := HG.out
    simp only [Bool.false_and, Bool.and_false] at this
    subst this
    go_wp2_with fail
    go_ret
    exact ⟨rfl, hw1⟩
  | true =>
  go_wp2_with fail
  refine (areSignals_any _ ss _ lo (HS.out.keep (Carries.of lo hw1)) K2.out).mono ?_
  rintro e w2 ⟨rfl, hb⟩
  have hw2 : Below w.heap.size w w2 := hw1.trans (hb.mono hw1.size)
  have z2 : w.heap.size < w2.heap.size := by have := hb.size; omega
  have x0 := cell_carry x0 (Carries.of 0 hb)
  have x1 := cell_carry x1 (Carries.of 0 hb)
  have x2 := cell_carry x2 (Carries.of 0 hb)
  have x3 := cell_carry x3 (Carries.of 0 hb)
  have x4 := cell_carry x4 (Carries.of 0 hb)
  clear hb hw1 z1
  rw [GS.out]
  cases gS with
  | false =>
    have := HG.out
    simp only [Bool.false_and, Bool.and_false] at this
    subst this
    go_wp2_with fail
    go_ret
    exact ⟨rfl, hw2⟩
  | true =>
  cases gE with
  | false =>
    have := HG.out
    simp only [Bool.and_false] at this
    subst this
    have hne : ((ls.length : Int) != (m : Int)) = true := by have := of_decide_eq_false GE.out; rw [bne_iff_ne]; omega
    go_wp2_with fail
    go_ret
    exact ⟨rfl, hw2⟩
  | true =>
  have hne : ((ls.length : Int) != (m : Int)) = false := by have := of_decide_eq_true GE.out; rw [bne_eq_false_iff_eq]; omega
  go_wp2_with fail
  refine (labelledNetOf_any _ _ _ _ _ _ _ _ _ _ _ _).mono ?_
  rintro e w3 ⟨rfl, hb⟩
  have hw3 : Below w.heap.size w w3 := hw2.trans (hb.mono hw2.size)
  have z3 : w.heap.size < w3.heap.size := by have := hb.size; omega
  have x3 := cell_carry x3 (Carries.of 0 hb)
  clear hb hw2 z2 x0 x1 x2 x4
  have x4 := cell_carry x3 (Carries.alloc (Carries.refl 0 w3) (.cells #[.int .i64 p, .slice a0 m c0, .slice a1 ss.length c1, .slice a2 ls.length c2] 133))
  go_wp2_with fail
  go_loopw [33] (fun i wr => ∃ k : Nat, k ≤ ls.length ∧ i = .int .i64 k ∧ Hid (LabTo ss.length ls k) ∧ Below w.heap.size w wr ∧ w3.heap.size < wr.heap.size ∧ wr.cell? ⟨w3.heap.size, 0, none⟩ = some (.int .i64 p) ∧ wr.cell? ⟨w3.heap.size, 1, none⟩ = some (.slice a0 m c0) ∧ wr.cell? ⟨w3.heap.size, 2, none⟩ = some (.slice a1 ss.length c1) ∧ wr.cell? ⟨w3.heap.size, 3, none⟩ = some (.slice a2 ls.length c2)) (fun i _ => ls.length - (intOf i).toNat)
  case atStart =>
    refine ⟨0, Nat.zero_le _, rfl, fun i hi => absurd hi (Nat.not_lt_zero _), ?_, ?_, ?_, ?_, ?_, ?_⟩
    · (repeat' (first | (with_reducible exact Below.refl _ _) | (with_reducible assumption) | (with_reducible refine Below.alloc ?_ ?_ _) | (with_reducible refine Below.drew ?_) | (with_reducible refine below_drewN ?_ _) | (with_reducible refine Below.setCell ?_ ?_ _) | go_size))
    all_goals simp
  case round =>
    obtain ⟨k, hk, rfl, hall, hb1, z4, y0, y1, y2, y3⟩ := hrel
    have zz1 := hb1.size
    by_cases hlt : k < ls.length
    · rcases HF.out with h0 | ⟨b, off, rfl, hlo, hcell⟩
      · omega
      obtain ⟨e0, e1⟩ := hcell k hlt
      have d0 := Carries.of lo hb1 _ _ hlo e0
      have d1 := Carries.of lo hb1 _ _ hlo e1
      clear hcell e0 e1
      have hbad := fun h => labsB_bad (m := ss.length) (ls := ls) hlt h
      rw [GL.out] at hbad
      have HB := Lib.hid hbad; clear hbad
      have car1 : Carries 0 wr (wr.alloc (.cells #[.int .i64 (lbS ls k), .bool (lbU ls k)] 124)) := by (repeat' (first | (with_reducible exact Carries.refl _ _) | (with_reducible assumption) | (with_reducible refine Carries.alloc ?_ _) | (with_reducible refine Carries.drew ?_) | (with_reducible refine Carries.drewN ?_ _) | (with_reducible refine Carries.set ?_ ?_ _) | go_size))
      have u0 := cell_carry y0 car1
      have u1 := cell_carry y1 car1
      have u2 := cell_carry y2 car1
      have u3 := cell_carry y3 car1
      go_wp2_with fail
      refine (hasLabel_any _ _ _ _ _ _ _ _ _ _ ls k _ hss).mono ?_
      rintro e w5 ⟨rfl, hb2⟩
      have hw5 : Below w.heap.size w w5 := by
        refine Below.trans ?_ (hb2.mono ?_)
        · (repeat' (first | (with_reducible exact Below.refl _ _) | (with_reducible assumption) | (with_reducible refine Below.alloc ?_ ?_ _) | (with_reducible refine Below.drew ?_) | (with_reducible refine below_drewN ?_ _) | (with_reducible refine Below.setCell ?_ ?_ _) | go_size))
        · simpa using Nat.le_succ_of_le hb1.size
      have car : Carries 0 wr w5 := Carries.trans (by (repeat' (first | (with_reducible exact Carries.refl _ _) | (with_reducible assumption) | (with_reducible refine Carries.alloc ?_ _) | (with_reducible refine Carries.drew ?_) | (with_reducible refine Carries.drewN ?_ _) | (with_reducible refine Carries.set ?_ ?_ _) | go_size))) (Carries.of 0 hb2)
      have u0 := cell_carry y0 car
      have u1 := cell_carry y1 car
      have u2 := cell_carry y2 car
      have u3 := cell_carry y3 car
      have z5 : w3.heap.size < w5.heap.size := by have := hb2.size; simp at this; omega
      clear car car1 hb2
      by_cases hok : LabOk ss.length ls k
      · rw [decide_eq_true hok]
        have H2 : Hid (LabTo ss.length ls (k + 1)) := by
          intro i hi
          by_cases e : i = k
          · subst e; exact hok
          · exact hall.out i (by omega)
        clear hok
        go_wp2_with fail
        go_roundw
        case rel => exact ⟨k + 1, by omega, by go_num, H2, hw5, z5, u0, u1, u2, u3⟩
        case measure => simp [intOf]; omega
      · rw [decide_eq_false hok]
        have hfin := HB.out hok
        subst hfin
        have := HG.out
        simp only [Bool.false_and, Bool.and_false] at this
        subst this
        clear hok
        go_wp2_with fail
        go_ret
        exact ⟨rfl, hw5⟩
    · have hkk : k = ls.length := by omega
      subst hkk
      have hfin : labsB ss.length ls = true := decide_eq_true hall.out
      rw [GL.out] at hfin
      subst hfin
      have := HG.out
      simp only [Bool.and_true] at this
      subst this
      go_wp2_with fail
      go_ret
      exact ⟨rfl, hb1⟩

end Go.Proofs.Ytigkgfdnnfmmmaa
