/- WALKS: toSTG, szSTG, eqSTG of the laws. -/
import Derived.Test.YtigkgfdnnfmmmaaVSigb
namespace Go.Proofs.Ytigkgfdnnfmmmaa
open Go.RowKit

def SmallStg (s : StgD) : Prop := SmallTrs s.net.ts ∧ SmallSigs s.sigs ∧ s.labs.length ≤ 1048576 ∧ s.start.size ≤ 1048576
def OkStg (s : StgD) : Prop := OkTrs s.net.ts ∧ OkSigs s.sigs ∧ s.labs.length ≤ 9223372036854775807 ∧ s.start.size ≤ 9223372036854775807

/-- the outer form of a net's value -/
theorem NetAt.form {lo : Nat} {w : World} {v : Value} {n : NetD} (h : NetAt lo w v n) : ∃ a c, v = .agg #[.int .i64 n.places, .slice a n.ts.length c] := by
  obtain ⟨_, _, u, rfl, ⟨a, c, rfl, _, _⟩⟩ := h
  exact ⟨a, c, rfl⟩
theorem SigsAt.form {lo : Nat} {w : World} {v : Value} {n : List Sig} (h : SigsAt lo w v n) : ∃ a c, v = .slice a n.length c := by
  obtain ⟨a, c, rfl, _, _⟩ := h
  exact ⟨a, c, rfl⟩
theorem LabsAt.form {lo : Nat} {w : World} {v : Value} {n : List Lab} (h : LabsAt lo w v n) : ∃ a c, v = .slice a n.length c := by
  obtain ⟨a, c, rfl, _, _⟩ := h
  exact ⟨a, c, rfl⟩
/-- a graph's value, opened -/
theorem StgAt.form {lo : Nat} {w : World} {v : Value} {s : StgD} (h : StgAt lo w v s) : ∃ a0 c0 a1 c1 a2 c2, v = .agg #[.int .i64 s.net.places, .slice a0 s.net.ts.length c0, .slice a1 s.sigs.length c1, .slice a2 s.labs.length c2, .string s.start] ∧
    NetAt lo w (.agg #[.int .i64 s.net.places, .slice a0 s.net.ts.length c0]) s.net ∧ SigsAt lo w (.slice a1 s.sigs.length c1) s.sigs ∧ LabsAt lo w (.slice a2 s.labs.length c2) s.labs := by
  obtain ⟨vt, vs, vl, rfl, hn, hs, hl⟩ := h
  obtain ⟨a0, c0, e0⟩ := hn.form
  obtain ⟨a1, c1, rfl⟩ := hs.form
  obtain ⟨a2, c2, rfl⟩ := hl.form
  obtain rfl : vt = .slice a0 s.net.ts.length c0 := by
    injection e0 with e; injection e with e; injection e with e1 e2; injection e2 with e2
  exact ⟨a0, c0, a1, c1, a2, c2, rfl, hn, hs, hl⟩

set_option maxHeartbeats 1000000 in
theorem toSTG_any (v : Value) (s : StgD) (w : World) (lo : Nat) (hv : StgAt lo w v s) (hs : SmallStg s) :
    Calls Try.prog 12 #[v] w (RetStg w s) := by
  obtain ⟨a0, c0, a1, c1, a2, c2, rfl, hn, hsg, hl⟩ := hv.form
  clear hv
  obtain ⟨n, ss, ls, st⟩ := s
  obtain ⟨k1, k2, k3, k4⟩ := hs
  simp only at hn hsg hl k1 k2 k3 k4 ⊢
  have HN := Lib.hid hn; clear hn
  have HG := Lib.hid hsg; clear hsg
  have HL := Lib.hid hl; clear hl
  have K1 := Lib.hid k1; clear k1
  have K2 := Lib.hid k2; clear k2
  go_enter Try.func12, Try.ntmps12
  go_wp2_with fail
  refine (toNet_any _ n _ lo (HN.out.keep ?_) K1.out).mono ?_
  · (repeat' (first | (with_reducible exact Carries.refl _ _) | (with_reducible assumption) | (with_reducible refine Carries.alloc ?_ _) | (with_reducible refine Carries.drew ?_) | (with_reducible refine Carries.drewN ?_ _) | (with_reducible refine Carries.set ?_ ?_ _) | go_size))
  rintro e w1 ⟨r0, rfl, hi0, hb0⟩
  obtain ⟨hc, hf⟩ := bcell hb0
  have hw1 : Below w.heap.size w w1 := by
    refine Below.trans ?_ (hb0.mono ?_)
    · go_grown
    · simp; omega
  obtain ⟨b0, m0, rfl⟩ := hi0.form
  have I0 := Lib.hid (hi0.low (lo' := w.heap.size + 3) (by simp)); clear hi0
  have hz1 : w.heap.size + 1 + 1 < w1.heap.size := by have := hb0.size; simp at this; omega
  have hz1a : w.heap.size + 1 < w1.heap.size := by omega
  have hz1b : w.heap.size < w1.heap.size := by omega
  go_wp2_with fail
  refine (toSignalS_any _ ss _ lo (HG.out.keep (Carries.of lo ?_)) K2.out.1).mono ?_
  · go_grown
  rintro e w2 ⟨r1, rfl, hi1, hb1⟩
  obtain ⟨hc2, hf2⟩ := bcell hb1
  have hw2 : Below w.heap.size w w2 := by
    refine Below.trans ?_ (hb1.mono ?_)
    · go_grown
    · simp; omega
  have hz2 : w1.heap.size ≤ w2.heap.size := by have := hb1.size; simpa using this
  have hz2a : w.heap.size + 1 + 1 < w2.heap.size := by omega
  have hz2b : w.heap.size + 1 < w2.heap.size := by omega
  have hz2c : w.heap.size < w2.heap.size := by omega
  obtain ⟨b1, m1, rfl⟩ := hi1.form
  have J0 := Lib.hid (I0.out.keep (w' := w2) (Carries.trans (by (repeat' (first | (with_reducible exact Carries.refl _ _) | (with_reducible assumption) | (with_reducible refine Carries.alloc ?_ _) | (with_reducible refine Carries.drew ?_) | (with_reducible refine Carries.drewN ?_ _) | (with_reducible refine Carries.set ?_ ?_ _) | go_size))) (Carries.of _ hb1)))
  have J1 := Lib.hid (hi1.low (lo' := w.heap.size + 3) (by simp; omega)); clear hi1
  go_wp2_with fail
  refine (toLabelS_any _ ls _ lo (HL.out.keep (Carries.of lo ?_)) k3).mono ?_
  · go_grown
  rintro e w3 ⟨r2, rfl, hi2, hb2⟩
  obtain ⟨hc3, hf3⟩ := bcell hb2
  have hw3 : Below w.heap.size w w3 := by
    refine Below.trans ?_ (hb2.mono ?_)
    · go_grown
    · simp; omega
  have hz3 : w2.heap.size ≤ w3.heap.size := by have := hb2.size; simpa using this
  obtain ⟨b2, m2, rfl⟩ := hi2.form
  have L0 := Lib.hid (J0.out.keep (w' := w3) (Carries.trans (by (repeat' (first | (with_reducible exact Carries.refl _ _) | (with_reducible assumption) | (with_reducible refine Carries.alloc ?_ _) | (with_reducible refine Carries.drew ?_) | (with_reducible refine Carries.drewN ?_ _) | (with_reducible refine Carries.set ?_ ?_ _) | go_size))) (Carries.of _ hb2)))
  have L1 := Lib.hid (J1.out.keep (w' := w3) (Carries.trans (by (repeat' (first | (with_reducible exact Carries.refl _ _) | (with_reducible assumption) | (with_reducible refine Carries.alloc ?_ _) | (with_reducible refine Carries.drew ?_) | (with_reducible refine Carries.drewN ?_ _) | (with_reducible refine Carries.set ?_ ?_ _) | go_size))) (Carries.of _ hb2)))
  have L2 := Lib.hid (hi2.low (lo' := w.heap.size + 3) (by simp; omega)); clear hi2
  go_wp2_with fail
  refine bodyPost_ret (v := .agg #[.int .i64 n.places, .slice b0 n.ts.length m0, .slice b1 ss.length m1, .slice b2 ls.length m2, .string st]) (by simp [results, Try.results12, go_sem, hc, hc2, hc3, hz1a, hz2b]) rfl ?_
  refine ⟨_, rfl, ⟨_, _, _, rfl, (L0.out.keep ?_).low ?_, (L1.out.keep ?_).low ?_, (L2.out.keep ?_).low ?_⟩, ?_⟩
  · (repeat' (first | (with_reducible exact Carries.refl _ _) | (with_reducible assumption) | (with_reducible refine Carries.alloc ?_ _) | (with_reducible refine Carries.drew ?_) | (with_reducible refine Carries.drewN ?_ _) | (with_reducible refine Carries.set ?_ ?_ _) | go_size))
  · omega
  · (repeat' (first | (with_reducible exact Carries.refl _ _) | (with_reducible assumption) | (with_reducible refine Carries.alloc ?_ _) | (with_reducible refine Carries.drew ?_) | (with_reducible refine Carries.drewN ?_ _) | (with_reducible refine Carries.set ?_ ?_ _) | go_size))
  · omega
  · (repeat' (first | (with_reducible exact Carries.refl _ _) | (with_reducible assumption) | (with_reducible refine Carries.alloc ?_ _) | (with_reducible refine Carries.drew ?_) | (with_reducible refine Carries.drewN ?_ _) | (with_reducible refine Carries.set ?_ ?_ _) | go_size))
  · omega
  · (repeat' (first | (with_reducible exact Below.refl _ _) | (with_reducible assumption) | (with_reducible refine Below.alloc ?_ ?_ _) | (with_reducible refine Below.drew ?_) | (with_reducible refine below_drewN ?_ _) | (with_reducible refine Below.setCell ?_ ?_ _) | go_size))

set_option maxHeartbeats 1000000 in
theorem szSTG_any (v : Value) (s : StgD) (left : Int) (w : World) (lo : Nat) (hv : StgAt lo w v s) (h0 : 0 ≤ left) (h1 : left ≤ 1048576) (hok : OkStg s) :
    Calls Try.prog 10 #[v, .int .i64 left] w (RetSz w left (SmallStg s)) := by
  obtain ⟨a0, c0, a1, c1, a2, c2, rfl, hn, hsg, hl⟩ := hv.form
  clear hv
  obtain ⟨n, ss, ls, st⟩ := s
  obtain ⟨k1, k2, k3, k4⟩ := hok
  simp only at hn hsg hl k1 k2 k3 k4 ⊢
  have HN := Lib.hid hn; clear hn
  have HG := Lib.hid hsg; clear hsg
  clear hl
  have K1 := Lib.hid k1; clear k1
  have K2 := Lib.hid k2; clear k2
  go_enter Try.func10, Try.ntmps10
  go_wp2_with fail
  refine (szNet_any _ n _ _ lo (HN.out.keep ?_) h0 h1 K1.out).mono ?_
  · (repeat' (first | (with_reducible exact Carries.refl _ _) | (with_reducible assumption) | (with_reducible refine Carries.alloc ?_ _) | (with_reducible refine Carries.drew ?_) | (with_reducible refine Carries.drewN ?_ _) | (with_reducible refine Carries.set ?_ ?_ _) | go_size))
  rintro e w1 ⟨r, rfl, hr, hb1⟩
  obtain ⟨hc, hf⟩ := bcell hb1
  have z1 : w.heap.size < w1.heap.size := by have := hb1.size; simp at this; omega
  have hw1 : Below w.heap.size w w1 := by
    refine Below.trans ?_ (hb1.mono ?_)
    · (repeat' (first | (with_reducible exact Below.refl _ _) | (with_reducible assumption) | (with_reducible refine Below.alloc ?_ ?_ _) | (with_reducible refine Below.drew ?_) | (with_reducible refine below_drewN ?_ _) | (with_reducible refine Below.setCell ?_ ?_ _) | go_size))
    · simp
  have x1 : w1.cell? ⟨w.heap.size, 2, none⟩ = some (.slice a1 ss.length c1) := cell_carry (by simp) (Carries.of 0 hb1)
  have x2 : w1.cell? ⟨w.heap.size, 3, none⟩ = some (.slice a2 ls.length c2) := cell_carry (by simp) (Carries.of 0 hb1)
  have x3 : w1.cell? ⟨w.heap.size, 4, none⟩ = some (.string st) := cell_carry (by simp) (Carries.of 0 hb1)
  clear hc hf hb1
  rcases hr with rfl | ⟨g0, g1, q1⟩
  · go_wp2_with fail
    go_ret
    exact ⟨_, rfl, Or.inl rfl, hw1⟩
  have Q1 := Lib.hid q1; clear q1
  go_wp2_with fail
  refine (szSignalS_any _ ss _ _ lo (HG.out.keep (Carries.of lo hw1)) g0 (by omega) K2.out).mono ?_
  rintro e w2 ⟨r2, rfl, hr2, hb2⟩
  have hw2 : Below w.heap.size w w2 := hw1.trans (hb2.mono hw1.size)
  have y2 := cell_carry x2 (Carries.of 0 hb2)
  have y3 := cell_carry x3 (Carries.of 0 hb2)
  clear x1 x2 x3 hb2
  rcases hr2 with rfl | ⟨g2, g3, q2⟩
  · go_wp2_with fail
    go_ret
    exact ⟨_, rfl, Or.inl rfl, hw2⟩
  have Q2 := Lib.hid q2; clear q2
  go_wp2_with fail
  refine (szLabelS_any _ _ _ _ _ g2 (by omega) k3).mono ?_
  rintro e w3 ⟨rfl, hb3⟩
  have hw3 : Below w.heap.size w w3 := hw2.trans (hb3.mono hw2.size)
  have u3 := cell_carry y3 (Carries.of 0 hb3)
  clear y2 y3 hb3
  by_cases hq : r2 < ls.length
  · have e : szI r2 ls.length = -1 := by unfold szI; rw [if_pos hq]
    rw [e]; clear e
    go_wp2_with fail
    go_ret
    exact ⟨_, rfl, Or.inl rfl, hw3⟩
  have e : szI r2 ls.length = r2 - ls.length := by unfold szI; rw [if_neg hq]
  rw [e]; clear e
  obtain ⟨q, hqq⟩ : ∃ q, q = r2 - (ls.length : Int) := ⟨_, rfl⟩
  rw [← hqq]
  have q0 : 0 ≤ q := by omega
  have q1 : q ≤ r2 := by omega
  have q3 : ls.length ≤ 1048576 := by omega
  clear hqq hq
  by_cases hq : q < st.size
  · go_wp2_with fail
    go_ret
    exact ⟨_, rfl, Or.inl rfl, hw3⟩
  · go_wp2_with fail
    go_ret
    exact ⟨_, rfl, Or.inr ⟨by omega, by omega, Q1.out, Q2.out, q3, by simp only; omega⟩, hw3⟩

/-- two graphs, compared part by part -/
def eqStgB (a b : StgD) : Bool := decide (a.net.places = b.net.places ∧ a.net.ts = b.net.ts) && (decide (a.sigs = b.sigs) && (decide (a.labs = b.labs) && decide (a.start = b.start)))
theorem eqStgB_self (a : StgD) : eqStgB a a = true := by unfold eqStgB; simp

set_option maxHeartbeats 1000000 in
theorem eqSTG_any (v v' : Value) (a b : StgD) (w : World) (lo lo' : Nat) (hv : StgAt lo w v a) (hv' : StgAt lo' w v' b) (hs : SmallStg a) (hs' : SmallStg b) :
    Calls Try.prog 15 #[v, v'] w (RetB w (eqStgB a b)) := by
  generalize hG : eqStgB a b = g
  unfold eqStgB at hG
  obtain ⟨a0, c0, a1, c1, a2, c2, rfl, hn, hsg, hl⟩ := hv.form
  obtain ⟨b0, d0, b1, d1, b2, d2, rfl, hn', hsg', hl'⟩ := hv'.form
  clear hv hv'
  obtain ⟨n, ss, ls, st⟩ := a
  obtain ⟨n', ss', ls', st'⟩ := b
  obtain ⟨k1, k2, k3, k4⟩ := hs
  obtain ⟨k1', k2', k3', k4'⟩ := hs'
  simp only at hn hsg hl k1 k2 k3 k4 hn' hsg' hl' k1' k2' k3' k4' hG ⊢
  generalize hp1 : decide (n.places = n'.places ∧ n.ts = n'.ts) = p1 at hG
  generalize hp2 : decide (ss = ss') = p2 at hG
  generalize hp3 : decide (ls = ls') = p3 at hG
  generalize hp4 : decide (st = st') = p4 at hG
  have P1 := Lib.hid hp1; clear hp1
  have P2 := Lib.hid hp2; clear hp2
  have P3 := Lib.hid hp3; clear hp3
  have hcmp : (st.toList == st'.toList) = p4 := by rw [bytes_toList_beq]; exact hp4
  clear hp4
  have GG := Lib.hid hG; clear hG
  have HN := Lib.hid hn; clear hn
  have HG := Lib.hid hsg; clear hsg
  have HL := Lib.hid hl; clear hl
  have K1 := Lib.hid k1; clear k1
  have HN' := Lib.hid hn'; clear hn'
  have HG' := Lib.hid hsg'; clear hsg'
  have HL' := Lib.hid hl'; clear hl'
  have K1' := Lib.hid k1'; clear k1'
  have K2 := k2.1; clear k2
  have K2' := k2'.1; clear k2'
  go_enter Try.func15, Try.ntmps15
  go_wp2_with fail
  refine (eqNet_any _ _ n n' _ lo lo' (HN.out.keep ?_) (HN'.out.keep ?_) K1.out K1'.out).mono ?_
  · (repeat' (first | (with_reducible exact Carries.refl _ _) | (with_reducible assumption) | (with_reducible refine Carries.alloc ?_ _) | (with_reducible refine Carries.drew ?_) | (with_reducible refine Carries.drewN ?_ _) | (with_reducible refine Carries.set ?_ ?_ _) | go_size))
  · (repeat' (first | (with_reducible exact Carries.refl _ _) | (with_reducible assumption) | (with_reducible refine Carries.alloc ?_ _) | (with_reducible refine Carries.drew ?_) | (with_reducible refine Carries.drewN ?_ _) | (with_reducible refine Carries.set ?_ ?_ _) | go_size))
  rintro e w1 ⟨rfl, hb1⟩
  have z1 : w.heap.size + 1 < w1.heap.size := by have := hb1.size; simp at this; omega
  have hw1 : Below w.heap.size w w1 := by
    refine Below.trans ?_ (hb1.mono ?_)
    · (repeat' (first | (with_reducible exact Below.refl _ _) | (with_reducible assumption) | (with_reducible refine Below.alloc ?_ ?_ _) | (with_reducible refine Below.drew ?_) | (with_reducible refine below_drewN ?_ _) | (with_reducible refine Below.setCell ?_ ?_ _) | go_size))
    · simp; omega
  have x1 : w1.cell? ⟨w.heap.size, 2, none⟩ = some (.slice a1 ss.length c1) := cell_carry (by simp) (Carries.of 0 hb1)
  have x2 : w1.cell? ⟨w.heap.size, 3, none⟩ = some (.slice a2 ls.length c2) := cell_carry (by simp) (Carries.of 0 hb1)
  have x3 : w1.cell? ⟨w.heap.size, 4, none⟩ = some (.string st) := cell_carry (by simp) (Carries.of 0 hb1)
  have y1 : w1.cell? ⟨w.heap.size + 1, 2, none⟩ = some (.slice b1 ss'.length d1) := cell_carry (by simp) (Carries.of 0 hb1)
  have y2 : w1.cell? ⟨w.heap.size + 1, 3, none⟩ = some (.slice b2 ls'.length d2) := cell_carry (by simp) (Carries.of 0 hb1)
  have y3 : w1.cell? ⟨w.heap.size + 1, 4, none⟩ = some (.string st') := cell_carry (by simp) (Carries.of 0 hb1)
  clear hb1
  rw [P1.out]
  cases p1 with
  | false =>
    have := GG.out
    simp only [Bool.false_and] at this
    subst this
    go_wp2_with fail
    go_ret
    exact ⟨rfl, hw1⟩
  | true =>
  go_wp2_with fail
  refine (eqSignalS_any _ _ ss ss' _ lo lo' (HG.out.keep (Carries.of lo hw1)) (HG'.out.keep (Carries.of lo' hw1)) K2 K2').mono ?_
  rintro e w2 ⟨rfl, hb2⟩
  have hw2 : Below w.heap.size w w2 := hw1.trans (hb2.mono hw1.size)
  have x2 := cell_carry x2 (Carries.of 0 hb2)
  have x3 := cell_carry x3 (Carries.of 0 hb2)
  have y2 := cell_carry y2 (Carries.of 0 hb2)
  have y3 := cell_carry y3 (Carries.of 0 hb2)
  clear hb2
  rw [P2.out]
  cases p2 with
  | false =>
    have := GG.out
    simp only [Bool.false_and, Bool.true_and] at this
    subst this
    go_wp2_with fail
    go_ret
    exact ⟨rfl, hw2⟩
  | true =>
  go_wp2_with fail
  refine (eqLabelS_any _ _ ls ls' _ lo lo' (HL.out.keep (Carries.of lo hw2)) (HL'.out.keep (Carries.of lo' hw2)) k3 k3').mono ?_
  rintro e w3 ⟨rfl, hb3⟩
  have hw3 : Below w.heap.size w w3 := hw2.trans (hb3.mono hw2.size)
  have x3 := cell_carry x3 (Carries.of 0 hb3)
  have y3 := cell_carry y3 (Carries.of 0 hb3)
  clear hb3
  rw [P3.out]
  cases p3 with
  | false =>
    have := GG.out
    simp only [Bool.false_and, Bool.true_and] at this
    subst this
    go_wp2_with fail
    go_ret
    exact ⟨rfl, hw3⟩
  | true =>
  have := GG.out
  simp only [Bool.true_and] at this
  subst this
  cases p4 with
  | false =>
    go_wp2_with fail
    go_ret
    exact ⟨rfl, hw3⟩
  | true =>
    go_wp2_with fail
    go_ret
    exact ⟨rfl, hw3⟩

end Go.Proofs.Ytigkgfdnnfmmmaa
