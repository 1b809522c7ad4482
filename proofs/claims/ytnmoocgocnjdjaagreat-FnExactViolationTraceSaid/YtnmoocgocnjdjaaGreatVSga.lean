/- WALKS: toArc, toArcS, toStateGraph of the laws. -/
import Derived.Test.YtnmoocgocnjdjaaGreatVSigas
import Derived.Test.YtnmoocgocnjdjaaGreatVNetb
import Derived.Test.YtnmoocgocnjdjaaGreatVSgd
namespace Go.Proofs.YtnmoocgocnjdjaaGreat
open Go.RowKit

theorem Tryz.infoAr : (Tryz.prog.info? 138).map (fun i => (i.zero, i.size, i.bytes)) = some (some (.agg #[.int .i64 0, .int .i64 0, .bool false, .int .i64 0]), 4, 32) := by kernel_rfl

set_option maxHeartbeats 400000 in
theorem toArc_any (a b : Int) (u : Bool) (c : Int) (w : World) :
    Calls Tryz.prog 144 #[.agg #[.int .i64 a, .int .i64 b, .bool u, .int .i64 c]] w (RetV w (.agg #[.int .i64 a, .int .i64 b, .bool u, .int .i64 c])) := by
  go_enter Tryz.func144, Tryz.ntmps144
  go_wp2_with fail
  refine bodyPost_ret (v := .agg #[.int .i64 a, .int .i64 b, .bool u, .int .i64 c]) (by simp [results, Tryz.results144, go_sem]) rfl ?_
  exact ⟨rfl, by (repeat' (first | (with_reducible exact Below.refl _ _) | (with_reducible assumption) | (with_reducible refine Below.alloc ?_ ?_ _) | (with_reducible refine Below.drew ?_) | (with_reducible refine below_drewN ?_ _) | (with_reducible refine Below.setCell ?_ ?_ _) | go_size))⟩

theorem run_make_arcs (n : Nat) (hn : n ≤ 1048576) (w : World) :
    (Instr.makeSlice 78 (.int .i64 (n : Int)) (.int .i64 (n : Int))).run Tryz.prog w = .ok (.slice (some ⟨w.heap.size, 0, none⟩) n n) (w.alloc (.cells (madeCells #[.int .i64 0, .int .i64 0, .bool false, .int .i64 0] (n * 4)) 138)) := by
  obtain ⟨i, hi, hzz⟩ := Option.map_eq_some_iff.1 Tryz.infoAr
  simp only [Prod.mk.injEq] at hzz
  obtain ⟨hz, hs, hb⟩ := hzz
  have hr := run_make (P := Tryz.prog) w 78 138 i _ Tryz.underlying78 hi hz .i64 .i64 n n (by omega) (Int.le_refl _) (by rw [hb]; omega) (by omega)
  rw [hs] at hr
  exact hr

set_option maxHeartbeats 400000 in
theorem toArcS_any (v : Value) (ss : List Ar) (w : World) (lo : Nat) (hv : ArcsAt lo w v ss) (hn : ss.length ≤ 1048576) :
    Calls Tryz.prog 90 #[v] w (RetArcs w ss) := by
  obtain ⟨ao, cap, rfl, hc, hz⟩ := hv
  have hmk := run_make_arcs ss.length hn
  have HF := Lib.hid hz; clear hz
  go_enter Tryz.func90, Tryz.ntmps90
  go_wp2
  go_loopw [4] (fun i wr => ∃ k : Nat, k ≤ ss.length ∧ i = .int .i64 k ∧ QuadRow w.heap.size 138 wr ss.length k (fun i => .int .i64 (arF ss i)) (fun i => .int .i64 (arS ss i)) (fun i => .bool (arU ss i)) (fun i => .int .i64 (arT ss i)) ∧ Below w.heap.size w wr ∧ w.heap.size < wr.heap.size) (fun i _ => ss.length - (intOf i).toNat)
  case atStart =>
    obtain ⟨f, hf⟩ := rowIs_size (w := w) (t := 138) (size_madeCells #[.int .i64 0, .int .i64 0, .bool false, .int .i64 0] (ss.length * 4))
    exact ⟨0, Nat.zero_le _, rfl, ⟨f, hf, fun i hi => absurd hi (Nat.not_lt_zero _)⟩, (Below.refl _ _).alloc (Nat.le_refl _) _, by simp⟩
  case round =>
    obtain ⟨k, hk, rfl, hrow, hb1, hz1⟩ := hrel
    by_cases hlt : k < ss.length
    · rcases HF.out with h0 | ⟨b, off, rfl, hlo, hcell⟩
      · omega
      obtain ⟨c0, c1, c2, c3⟩ := hcell k hlt
      have d0 := Carries.of lo hb1 _ _ hlo c0
      have d1 := Carries.of lo hb1 _ _ hlo c1
      have d2 := Carries.of lo hb1 _ _ hlo c2
      have d3 := Carries.of lo hb1 _ _ hlo c3
      have HR := Lib.hid hrow
      clear hcell c0 c1 c2 c3 hrow
      go_wp2_with fail
      refine (toArc_any _ _ _ _ _).mono ?_
      rintro e w1 ⟨rfl, hb2⟩
      have hrow1 := HR.out.keep (hb2.block _ hz1)
      obtain ⟨y0, y1, y2, y3, e0, e1, e2, e3, f0, f1, f2, f3⟩ := hrow1.cells hlt
      have HR1 := Lib.hid hrow1
      have hz2 : w.heap.size < w1.heap.size := by have := hb2.size; omega
      have hw1 : Below w.heap.size w w1 := hb1.trans (hb2.mono (by omega))
      clear hrow1
      go_wp2_with fail
      go_roundw
      case rel => exact ⟨k + 1, by omega, by go_num, HR1.out.put hlt rfl rfl rfl rfl, by (repeat' (first | (with_reducible exact Below.refl _ _) | (with_reducible assumption) | (with_reducible refine Below.alloc ?_ ?_ _) | (with_reducible refine Below.drew ?_) | (with_reducible refine below_drewN ?_ _) | (with_reducible refine Below.setCell ?_ ?_ _) | go_size)), by simpa using hz2⟩
      case measure => simp [intOf]; omega
    · have hkk : k = ss.length := by omega
      subst hkk
      have HR := Lib.hid hrow; clear hrow
      go_wp2
      go_ret
      exact ⟨_, rfl, HR.out.read, hb1⟩

set_option maxHeartbeats 2000000 in
theorem toSg_any (v : Value) (r : SgD) (w : World) (lo : Nat) (hv : SgAt lo w v r) (hs : SmallSg r) :
    Calls Tryz.prog 38 #[v] w (RetSg w r) := by
  obtain ⟨a0, c0, a1, c1, a2, c2, rfl, hg, hm, hl⟩ := hv.form
  clear hv
  obtain ⟨gs, ss, ls⟩ := r
  obtain ⟨k0, k1, k2⟩ := hs
  simp only at hg hm hl k0 k1 k2 ⊢
  have HD := Lib.hid hg; clear hg
  have HG := Lib.hid hm; clear hm
  have HL := Lib.hid hl; clear hl
  have K0 := Lib.hid k0; clear k0
  have K1 := Lib.hid k1; clear k1
  go_enter Tryz.func38, Tryz.ntmps38
  go_wp2_with fail
  refine (toSignalS_any _ gs _ lo (HD.out.keep ?_) K0.out.1).mono ?_
  · (repeat' (first | (with_reducible exact Carries.refl _ _) | (with_reducible assumption) | (with_reducible refine Carries.alloc ?_ _) | (with_reducible refine Carries.drew ?_) | (with_reducible refine Carries.drewN ?_ _) | (with_reducible refine Carries.set ?_ ?_ _) | go_size))
  rintro e w1 ⟨r0, rfl, hi0, hb0⟩
  obtain ⟨hc, hf⟩ := bcell hb0
  have hw1 : Below w.heap.size w w1 := by
    refine Below.trans ?_ (hb0.mono ?_)
    · (repeat' (first | (with_reducible exact Below.refl _ _) | (with_reducible assumption) | (with_reducible refine Below.alloc ?_ ?_ _) | (with_reducible refine Below.drew ?_) | (with_reducible refine below_drewN ?_ _) | (with_reducible refine Below.setCell ?_ ?_ _) | go_size))
    · simp; omega
  obtain ⟨b0, m0, rfl⟩ := hi0.form
  have I0 := Lib.hid (hi0.low (lo' := w.heap.size + 3) (by simp)); clear hi0
  have hz1 : w.heap.size + 1 + 1 < w1.heap.size := by have := hb0.size; simp at this; omega
  have hz1a : w.heap.size + 1 < w1.heap.size := by omega
  have hz1b : w.heap.size < w1.heap.size := by omega
  go_wp2_with fail
  refine (toStringS_any _ ss _ lo (HG.out.keep (Carries.of lo ?_)) K1.out.1).mono ?_
  · (repeat' (first | (with_reducible exact Below.refl _ _) | (with_reducible assumption) | (with_reducible refine Below.alloc ?_ ?_ _) | (with_reducible refine Below.drew ?_) | (with_reducible refine below_drewN ?_ _) | (with_reducible refine Below.setCell ?_ ?_ _) | go_size))
  rintro e w2 ⟨r1, rfl, hi1, hb1⟩
  obtain ⟨hc2, hf2⟩ := bcell hb1
  have hw2 : Below w.heap.size w w2 := by
    refine Below.trans ?_ (hb1.mono ?_)
    · (repeat' (first | (with_reducible exact Below.refl _ _) | (with_reducible assumption) | (with_reducible refine Below.alloc ?_ ?_ _) | (with_reducible refine Below.drew ?_) | (with_reducible refine below_drewN ?_ _) | (with_reducible refine Below.setCell ?_ ?_ _) | go_size))
    · simp; omega
  obtain ⟨b1, m1, rfl⟩ := hi1.form
  have hz2 : w1.heap.size ≤ w2.heap.size := by have := hb1.size; simpa using this
  have hz2z : w.heap.size + 1 + 1 < w2.heap.size := by omega
  have hz2a : w.heap.size + 1 < w2.heap.size := by omega
  have hz2b : w.heap.size < w2.heap.size := by omega
  have I1 := Lib.hid (I0.out.keep (w' := w2) (Carries.trans (by (repeat' (first | (with_reducible exact Carries.refl _ _) | (with_reducible assumption) | (with_reducible refine Carries.alloc ?_ _) | (with_reducible refine Carries.drew ?_) | (with_reducible refine Carries.drewN ?_ _) | (with_reducible refine Carries.set ?_ ?_ _) | go_size))) (Carries.of _ hb1))); clear I0
  have J1 := Lib.hid (hi1.low (lo' := w.heap.size + 3) (by simp; omega)); clear hi1
  go_wp2_with fail
  refine (toArcS_any _ ls _ lo (HL.out.keep (Carries.of lo ?_)) k2).mono ?_
  · (repeat' (first | (with_reducible exact Below.refl _ _) | (with_reducible assumption) | (with_reducible refine Below.alloc ?_ ?_ _) | (with_reducible refine Below.drew ?_) | (with_reducible refine below_drewN ?_ _) | (with_reducible refine Below.setCell ?_ ?_ _) | go_size))
  rintro e w3 ⟨r2, rfl, hi2, hb2⟩
  obtain ⟨hc3, hf3⟩ := bcell hb2
  have hw3 : Below w.heap.size w w3 := by
    refine Below.trans ?_ (hb2.mono ?_)
    · (repeat' (first | (with_reducible exact Below.refl _ _) | (with_reducible assumption) | (with_reducible refine Below.alloc ?_ ?_ _) | (with_reducible refine Below.drew ?_) | (with_reducible refine below_drewN ?_ _) | (with_reducible refine Below.setCell ?_ ?_ _) | go_size))
    · simp; omega
  have hz3 : w2.heap.size ≤ w3.heap.size := by have := hb2.size; simpa using this
  have hz3a : w.heap.size + 1 + 1 < w3.heap.size := by omega
  have hz3b : w.heap.size + 1 < w3.heap.size := by omega
  have hz3c : w.heap.size < w3.heap.size := by omega
  obtain ⟨b2, m2, rfl⟩ := hi2.form
  have I2 := Lib.hid (I1.out.keep (w' := w3) (Carries.trans (by (repeat' (first | (with_reducible exact Carries.refl _ _) | (with_reducible assumption) | (with_reducible refine Carries.alloc ?_ _) | (with_reducible refine Carries.drew ?_) | (with_reducible refine Carries.drewN ?_ _) | (with_reducible refine Carries.set ?_ ?_ _) | go_size))) (Carries.of _ hb2))); clear I1
  have J2 := Lib.hid (J1.out.keep (w' := w3) (Carries.trans (by (repeat' (first | (with_reducible exact Carries.refl _ _) | (with_reducible assumption) | (with_reducible refine Carries.alloc ?_ _) | (with_reducible refine Carries.drew ?_) | (with_reducible refine Carries.drewN ?_ _) | (with_reducible refine Carries.set ?_ ?_ _) | go_size))) (Carries.of _ hb2))); clear J1
  have L2 := Lib.hid (hi2.low (lo' := w.heap.size + 3) (by simp; omega)); clear hi2
  go_wp2_with fail
  refine bodyPost_ret (v := .agg #[.slice b0 gs.length m0, .slice b1 ss.length m1, .slice b2 ls.length m2]) (by simp [results, Tryz.results38, go_sem, hc, hc2, hc3, hz1a, hz2a, hz3a, hz3b]) rfl ?_
  refine ⟨_, rfl, ⟨_, _, _, rfl, (I2.out.keep ?_).low ?_, (J2.out.keep ?_).low ?_, (L2.out.keep ?_).low ?_⟩, ?_⟩
  · (repeat' (first | (with_reducible exact Carries.refl _ _) | (with_reducible assumption) | (with_reducible refine Carries.alloc ?_ _) | (with_reducible refine Carries.drew ?_) | (with_reducible refine Carries.drewN ?_ _) | (with_reducible refine Carries.set ?_ ?_ _) | go_size))
  · omega
  · (repeat' (first | (with_reducible exact Carries.refl _ _) | (with_reducible assumption) | (with_reducible refine Carries.alloc ?_ _) | (with_reducible refine Carries.drew ?_) | (with_reducible refine Carries.drewN ?_ _) | (with_reducible refine Carries.set ?_ ?_ _) | go_size))
  · omega
  · (repeat' (first | (with_reducible exact Carries.refl _ _) | (with_reducible assumption) | (with_reducible refine Carries.alloc ?_ _) | (with_reducible refine Carries.drew ?_) | (with_reducible refine Carries.drewN ?_ _) | (with_reducible refine Carries.set ?_ ?_ _) | go_size))
  · omega
  · (repeat' (first | (with_reducible exact Below.refl _ _) | (with_reducible assumption) | (with_reducible refine Below.alloc ?_ ?_ _) | (with_reducible refine Below.drew ?_) | (with_reducible refine below_drewN ?_ _) | (with_reducible refine Below.setCell ?_ ?_ _) | go_size))

end Go.Proofs.YtnmoocgocnjdjaaGreat
