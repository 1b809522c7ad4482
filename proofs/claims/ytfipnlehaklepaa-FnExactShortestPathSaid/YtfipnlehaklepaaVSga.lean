/- PLAIN PART: slices of quadruples of cells (arcs), a row of them that is filled from the front; a state graph as data. No program is named here.
   WALKS: toArc, toArcS, toStateGraph of the laws. -/
import Derived.Test.YtfipnlehaklepaaVRgd
import Derived.Test.YtfipnlehaklepaaVSiga
import Derived.Test.YtfipnlehaklepaaVRga
namespace Go.Proofs.Ytfipnlehaklepaa
open Go.RowKit

/-- what a slice of n quadruples reads as; its cells lie from block lo on -/
def QuadsAt (lo : Nat) (w : World) (v : Value) (n : Nat) (x y z t : Nat → Value) : Prop :=
  ∃ (ao : Option Addr) (cap : Nat), v = .slice ao n cap ∧ n ≤ cap ∧
    (n = 0 ∨ ∃ b off, ao = some ⟨b, off, none⟩ ∧ lo ≤ b ∧ ∀ i, i < n → w.cell? ⟨b, off + i * 4, none⟩ = some (x i) ∧ w.cell? ⟨b, off + i * 4 + 1, none⟩ = some (y i) ∧ w.cell? ⟨b, off + i * 4 + 2, none⟩ = some (z i) ∧ w.cell? ⟨b, off + i * 4 + 3, none⟩ = some (t i))
theorem QuadsAt.keep {lo : Nat} {w w' : World} {v : Value} {n : Nat} {x y z t : Nat → Value} (h : QuadsAt lo w v n x y z t) (hb : Carries lo w w') : QuadsAt lo w' v n x y z t := by
  obtain ⟨ao, cap, hv, hc, hz⟩ := h
  refine ⟨ao, cap, hv, hc, ?_⟩
  rcases hz with hz | ⟨b, off, ha, hlo, hcell⟩
  · exact Or.inl hz
  · exact Or.inr ⟨b, off, ha, hlo, fun i hi => ⟨hb _ _ hlo (hcell i hi).1, hb _ _ hlo (hcell i hi).2.1, hb _ _ hlo (hcell i hi).2.2.1, hb _ _ hlo (hcell i hi).2.2.2⟩⟩
theorem QuadsAt.low {lo lo' : Nat} {w : World} {v : Value} {n : Nat} {x y z t : Nat → Value} (h : QuadsAt lo w v n x y z t) (hl : lo' ≤ lo) : QuadsAt lo' w v n x y z t := by
  obtain ⟨ao, cap, hv, hc, hz⟩ := h
  refine ⟨ao, cap, hv, hc, ?_⟩
  rcases hz with hz | ⟨b, off, ha, hlo, hcell⟩
  · exact Or.inl hz
  · exact Or.inr ⟨b, off, ha, Nat.le_trans hl hlo, hcell⟩
/-- the first k quadruples of the row b of n quadruples are there -/
def QuadRow (b : Nat) (t : TypeId) (w : World) (n k : Nat) (x y z u : Nat → Value) : Prop := ∃ f, w.rowIs b t (n * 4) f ∧ ∀ i, i < k → f (i * 4) = x i ∧ f (i * 4 + 1) = y i ∧ f (i * 4 + 2) = z i ∧ f (i * 4 + 3) = u i
theorem QuadRow.keep {b : Nat} {t : TypeId} {w w' : World} {n k : Nat} {x y z u : Nat → Value} (h : QuadRow b t w n k x y z u) (hb : w'.heap[b]? = w.heap[b]?) : QuadRow b t w' n k x y z u := by
  obtain ⟨f, hr, ht⟩ := h
  exact ⟨f, hr.of_block hb, ht⟩
theorem QuadRow.cells {b : Nat} {t : TypeId} {w : World} {n k : Nat} {x y z u : Nat → Value} (h : QuadRow b t w n k x y z u) {i : Nat} (hi : i < n) : ∃ v0 v1 v2 v3, w.cell? ⟨b, i * 4, none⟩ = some v0 ∧ w.cell? ⟨b, i * 4 + 1, none⟩ = some v1 ∧ w.cell? ⟨b, i * 4 + 2, none⟩ = some v2 ∧ w.cell? ⟨b, i * 4 + 3, none⟩ = some v3 ∧ w.frozen? ⟨b, i * 4, none⟩ = false ∧ w.frozen? ⟨b, i * 4 + 1, none⟩ = false ∧ w.frozen? ⟨b, i * 4 + 2, none⟩ = false ∧ w.frozen? ⟨b, i * 4 + 3, none⟩ = false := by
  obtain ⟨f, hr, ht⟩ := h
  exact ⟨_, _, _, _, hr.cell (by omega), hr.cell (by omega), hr.cell (by omega), hr.cell (by omega), hr.frozen _, hr.frozen _, hr.frozen _, hr.frozen _⟩
theorem QuadRow.put {b : Nat} {t : TypeId} {w : World} {n k : Nat} {x y z u : Nat → Value} (h : QuadRow b t w n k x y z u) {v0 v1 v2 v3 : Value} (hk : k < n) (h0 : v0 = x k) (h1 : v1 = y k) (h2 : v2 = z k) (h3 : v3 = u k) :
    QuadRow b t ((((w.setCell ⟨b, k * 4, none⟩ v0).setCell ⟨b, k * 4 + 1, none⟩ v1).setCell ⟨b, k * 4 + 2, none⟩ v2).setCell ⟨b, k * 4 + 3, none⟩ v3) n (k + 1) x y z u := by
  obtain ⟨f, hr, hx⟩ := h
  refine ⟨_, (((hr.set (k * 4) v0).set (k * 4 + 1) v1).set (k * 4 + 2) v2).set (k * 4 + 3) v3, fun i hi => ?_⟩
  by_cases e : i = k
  · subst e
    simp [show ¬ i * 4 = i * 4 + 1 by omega, show ¬ i * 4 = i * 4 + 2 by omega, show ¬ i * 4 = i * 4 + 3 by omega, h0, h1, h2, h3]
  · have hne : ∀ p q : Nat, p < 4 → q < 4 → ¬ i * 4 + p = k * 4 + q := fun p q hp hq => by omega
    have z0 : ∀ q : Nat, q < 4 → ¬ i * 4 = k * 4 + q := fun q hq => by omega
    have a0 : ∀ p : Nat, p < 4 → ¬ i * 4 + p = k * 4 := fun p hp => by omega
    have aa : ¬ i * 4 = k * 4 := by omega
    simp only [if_neg (hne 1 1 (by omega) (by omega)), if_neg (hne 1 2 (by omega) (by omega)), if_neg (hne 1 3 (by omega) (by omega)), if_neg (hne 2 1 (by omega) (by omega)), if_neg (hne 2 2 (by omega) (by omega)), if_neg (hne 2 3 (by omega) (by omega)), if_neg (hne 3 1 (by omega) (by omega)), if_neg (hne 3 2 (by omega) (by omega)), if_neg (hne 3 3 (by omega) (by omega)), if_neg (z0 1 (by omega)), if_neg (z0 2 (by omega)), if_neg (z0 3 (by omega)), if_neg (a0 1 (by omega)), if_neg (a0 2 (by omega)), if_neg (a0 3 (by omega)), if_neg aa]
    exact hx i (by omega)
theorem QuadRow.read {b : Nat} {t : TypeId} {w : World} {n : Nat} {x y z u : Nat → Value} (h : QuadRow b t w n n x y z u) : QuadsAt b w (.slice (some ⟨b, 0, none⟩) n n) n x y z u := by
  obtain ⟨f, hr, ht⟩ := h
  refine ⟨_, _, rfl, Nat.le_refl _, Or.inr ⟨b, 0, rfl, Nat.le_refl _, fun i hi => ⟨?_, ?_, ?_, ?_⟩⟩⟩
  · rw [Nat.zero_add, hr.cell (by omega), (ht i hi).1]
  · rw [Nat.zero_add, hr.cell (by omega), (ht i hi).2.1]
  · rw [Nat.zero_add, hr.cell (by omega), (ht i hi).2.2.1]
  · rw [Nat.zero_add, hr.cell (by omega), (ht i hi).2.2.2]

/-- an arc: from, signal, up, to -/
abbrev Ar := Int × Int × Bool × Int
def arF (ms : List Ar) (i : Nat) : Int := (ms.getD i (0, 0, false, 0)).1
def arS (ms : List Ar) (i : Nat) : Int := (ms.getD i (0, 0, false, 0)).2.1
def arU (ms : List Ar) (i : Nat) : Bool := (ms.getD i (0, 0, false, 0)).2.2.1
def arT (ms : List Ar) (i : Nat) : Int := (ms.getD i (0, 0, false, 0)).2.2.2
theorem ar_getD {zs : List Ar} {i : Nat} (h : i < zs.length) : (arF zs i, arS zs i, arU zs i, arT zs i) = zs[i] := by simp [arF, arS, arU, arT, List.getD, h]
def ArcsAt (lo : Nat) (w : World) (v : Value) (ms : List Ar) : Prop := QuadsAt lo w v ms.length (fun i => .int .i64 (arF ms i)) (fun i => .int .i64 (arS ms i)) (fun i => .bool (arU ms i)) (fun i => .int .i64 (arT ms i))
theorem ArcsAt.keep {lo : Nat} {w w' : World} {v : Value} {ss : List Ar} (h : ArcsAt lo w v ss) (hb : Carries lo w w') : ArcsAt lo w' v ss := QuadsAt.keep h hb
theorem ArcsAt.low {lo lo' : Nat} {w : World} {v : Value} {ss : List Ar} (h : ArcsAt lo w v ss) (hl : lo' ≤ lo) : ArcsAt lo' w v ss := QuadsAt.low h hl
theorem ArcsAt.form {lo : Nat} {w : World} {v : Value} {ss : List Ar} (h : ArcsAt lo w v ss) : ∃ a c, v = .slice a ss.length c := by
  obtain ⟨a, c, rfl, _, _⟩ := h
  exact ⟨a, c, rfl⟩
def RetArcs (w : World) (ms : List Ar) (e : Ending) (w' : World) : Prop := ∃ v, e = .returned v ∧ ArcsAt w.heap.size w' v ms ∧ Below w.heap.size w w'

/-- a state graph as data -/
structure SgD where
  sigs : List Sig
  codes : List ByteArray
  arcs : List Ar

/-- numbers that fit, names and codes that are no longer than any string -/
def OkArcs (ms : List Ar) : Prop := ms.length ≤ 9223372036854775807 ∧ ∀ i, i < ms.length → (-9223372036854775808 ≤ arF ms i ∧ arF ms i ≤ 9223372036854775807) ∧ (-9223372036854775808 ≤ arS ms i ∧ arS ms i ≤ 9223372036854775807) ∧ (-9223372036854775808 ≤ arT ms i ∧ arT ms i ≤ 9223372036854775807)
def OkSg (r : SgD) : Prop := OkSigs r.sigs ∧ OkTexts r.codes ∧ OkArcs r.arcs
def SmallSg (r : SgD) : Prop := SmallSigs r.sigs ∧ SmallTexts r.codes ∧ r.arcs.length ≤ 1048576

def SgAt (lo : Nat) (w : World) (v : Value) (r : SgD) : Prop := ∃ vg vs vm, v = .agg #[vg, vs, vm] ∧ SigsAt lo w vg r.sigs ∧ TextsAt lo w vs r.codes ∧ ArcsAt lo w vm r.arcs
theorem SgAt.keep {lo : Nat} {w w' : World} {v : Value} {r : SgD} (h : SgAt lo w v r) (hb : Carries lo w w') : SgAt lo w' v r := by
  obtain ⟨vg, vs, vm, hv, h0, h1, h2⟩ := h
  exact ⟨vg, vs, vm, hv, h0.keep hb, h1.keep hb, h2.keep hb⟩
theorem SgAt.low {lo lo' : Nat} {w : World} {v : Value} {r : SgD} (h : SgAt lo w v r) (hl : lo' ≤ lo) : SgAt lo' w v r := by
  obtain ⟨vg, vs, vm, hv, h0, h1, h2⟩ := h
  exact ⟨vg, vs, vm, hv, h0.low hl, h1.low hl, h2.low hl⟩
theorem SgAt.form {lo : Nat} {w : World} {v : Value} {r : SgD} (h : SgAt lo w v r) : ∃ a0 c0 a1 c1 a2 c2, v = .agg #[.slice a0 r.sigs.length c0, .slice a1 r.codes.length c1, .slice a2 r.arcs.length c2] ∧ SigsAt lo w (.slice a0 r.sigs.length c0) r.sigs ∧ TextsAt lo w (.slice a1 r.codes.length c1) r.codes ∧ ArcsAt lo w (.slice a2 r.arcs.length c2) r.arcs := by
  obtain ⟨vg, vs, vm, rfl, h0, h1, h2⟩ := h
  obtain ⟨a0, c0, rfl⟩ := h0.form
  obtain ⟨a1, c1, rfl⟩ := h1.form
  obtain ⟨a2, c2, rfl⟩ := h2.form
  exact ⟨a0, c0, a1, c1, a2, c2, rfl, h0, h1, h2⟩
def RetSg (w : World) (r : SgD) (e : Ending) (w' : World) : Prop := ∃ v, e = .returned v ∧ SgAt w.heap.size w' v r ∧ Below w.heap.size w w'

end Go.Proofs.Ytfipnlehaklepaa

namespace Go.Proofs.Ytfipnlehaklepaa
open Go.RowKit

theorem Try.infoAr : (Try.prog.info? 101).map (fun i => (i.zero, i.size, i.bytes)) = some (some (.agg #[.int .i64 0, .int .i64 0, .bool false, .int .i64 0]), 4, 32) := by kernel_rfl

set_option maxHeartbeats 400000 in
theorem toArc_any (a b : Int) (u : Bool) (c : Int) (w : World) :
    Calls Try.prog 117 #[.agg #[.int .i64 a, .int .i64 b, .bool u, .int .i64 c]] w (RetV w (.agg #[.int .i64 a, .int .i64 b, .bool u, .int .i64 c])) := by
  go_enter Try.func117, Try.ntmps117
  go_wp2_with fail
  refine bodyPost_ret (v := .agg #[.int .i64 a, .int .i64 b, .bool u, .int .i64 c]) (by simp [results, Try.results117, go_sem]) rfl ?_
  exact ⟨rfl, by (repeat' (first | (with_reducible exact Below.refl _ _) | (with_reducible assumption) | (with_reducible refine Below.alloc ?_ ?_ _) | (with_reducible refine Below.drew ?_) | (with_reducible refine below_drewN ?_ _) | (with_reducible refine Below.setCell ?_ ?_ _) | go_size))⟩

theorem run_make_arcs (n : Nat) (hn : n ≤ 1048576) (w : World) :
    (Instr.makeSlice 30 (.int .i64 (n : Int)) (.int .i64 (n : Int))).run Try.prog w = .ok (.slice (some ⟨w.heap.size, 0, none⟩) n n) (w.alloc (.cells (madeCells #[.int .i64 0, .int .i64 0, .bool false, .int .i64 0] (n * 4)) 101)) := by
  obtain ⟨i, hi, hzz⟩ := Option.map_eq_some_iff.1 Try.infoAr
  simp only [Prod.mk.injEq] at hzz
  obtain ⟨hz, hs, hb⟩ := hzz
  have hr := run_make (P := Try.prog) w 30 101 i _ Try.underlying30 hi hz .i64 .i64 n n (by omega) (Int.le_refl _) (by rw [hb]; omega) (by omega)
  rw [hs] at hr
  exact hr

set_option maxHeartbeats 400000 in
theorem toArcS_any (v : Value) (ss : List Ar) (w : World) (lo : Nat) (hv : ArcsAt lo w v ss) (hn : ss.length ≤ 1048576) :
    Calls Try.prog 55 #[v] w (RetArcs w ss) := by
  obtain ⟨ao, cap, rfl, hc, hz⟩ := hv
  have hmk := run_make_arcs ss.length hn
  have HF := Lib.hid hz; clear hz
  go_enter Try.func55, Try.ntmps55
  go_wp2
  go_loopw [4] (fun i wr => ∃ k : Nat, k ≤ ss.length ∧ i = .int .i64 k ∧ QuadRow w.heap.size 101 wr ss.length k (fun i => .int .i64 (arF ss i)) (fun i => .int .i64 (arS ss i)) (fun i => .bool (arU ss i)) (fun i => .int .i64 (arT ss i)) ∧ Below w.heap.size w wr ∧ w.heap.size < wr.heap.size) (fun i _ => ss.length - (intOf i).toNat)
  case atStart =>
    obtain ⟨f, hf⟩ := rowIs_size (w := w) (t := 101) (size_madeCells #[.int .i64 0, .int .i64 0, .bool false, .int .i64 0] (ss.length * 4))
    exact ⟨0, Nat.zero_le _, rfl, ⟨f, hf, fun i hi => absurd hi (Nat.not_lt_zero _)⟩, (Below.refl _ _).alloc (Nat.le_refl _) _, by simp⟩
  case round =>
    obtain ⟨k, hk, rfl, hrow, hb1, hz1⟩ := hrel
    by_cases hlt : k < ss.length
    · rcases HF.out with h0 | ⟨b, off, rfl, hlo, hcell⟩
      · omega
      obtain ⟨c0, c1, c2, c3⟩ := hcell k hlt
      have d0 := Carries.of lo hb1 _ _ hlo c0
      have d1 := Carries.of lo hb1 _ _ hlo c1
      have d2 := Carries.of lo hb1 _ _ hlo c2
      have d3 := Carries.of lo hb1 _ _ hlo c3
      have HR := Lib.hid hrow
      clear hcell c0 c1 c2 c3 hrow
      go_wp2_with fail
      refine (toArc_any _ _ _ _ _).mono ?_
      rintro e w1 ⟨rfl, hb2⟩
      have hrow1 := HR.out.keep (hb2.block _ hz1)
      obtain ⟨y0, y1, y2, y3, e0, e1, e2, e3, f0, f1, f2, f3⟩ := hrow1.cells hlt
      have HR1 := Lib.hid hrow1
      have hz2 : w.heap.size < w1.heap.size := by have := hb2.size; omega
      have hw1 : Below w.heap.size w w1 := hb1.trans (hb2.mono (by omega))
      clear hrow1
      go_wp2_with fail
      go_roundw
      case rel => exact ⟨k + 1, by omega, by go_num, HR1.out.put hlt rfl rfl rfl rfl, by (repeat' (first | (with_reducible exact Below.refl _ _) | (with_reducible assumption) | (with_reducible refine Below.alloc ?_ ?_ _) | (with_reducible refine Below.drew ?_) | (with_reducible refine below_drewN ?_ _) | (with_reducible refine Below.setCell ?_ ?_ _) | go_size)), by simpa using hz2⟩
      case measure => simp [intOf]; omega
    · have hkk : k = ss.length := by omega
      subst hkk
      have HR := Lib.hid hrow; clear hrow
      go_wp2
      go_ret
      exact ⟨_, rfl, HR.out.read, hb1⟩

set_option maxHeartbeats 2000000 in
theorem toSg_any (v : Value) (r : SgD) (w : World) (lo : Nat) (hv : SgAt lo w v r) (hs : SmallSg r) :
    Calls Try.prog 14 #[v] w (RetSg w r) := by
  obtain ⟨a0, c0, a1, c1, a2, c2, rfl, hg, hm, hl⟩ := hv.form
  clear hv
  obtain ⟨gs, ss, ls⟩ := r
  obtain ⟨k0, k1, k2⟩ := hs
  simp only at hg hm hl k0 k1 k2 ⊢
  have HD := Lib.hid hg; clear hg
  have HG := Lib.hid hm; clear hm
  have HL := Lib.hid hl; clear hl
  have K0 := Lib.hid k0; clear k0
  have K1 := Lib.hid k1; clear k1
  go_enter Try.func14, Try.ntmps14
  go_wp2_with fail
  refine (toSignalS_any _ gs _ lo (HD.out.keep ?_) K0.out.1).mono ?_
  · (repeat' (first | (with_reducible exact Carries.refl _ _) | (with_reducible assumption) | (with_reducible refine Carries.alloc ?_ _) | (with_reducible refine Carries.drew ?_) | (with_reducible refine Carries.drewN ?_ _) | (with_reducible refine Carries.set ?_ ?_ _) | go_size))
  rintro e w1 ⟨r0, rfl, hi0, hb0⟩
  obtain ⟨hc, hf⟩ := bcell hb0
  have hw1 : Below w.heap.size w w1 := by
    refine Below.trans ?_ (hb0.mono ?_)
    · (repeat' (first | (with_reducible exact Below.refl _ _) | (with_reducible assumption) | (with_reducible refine Below.alloc ?_ ?_ _) | (with_reducible refine Below.drew ?_) | (with_reducible refine below_drewN ?_ _) | (with_reducible refine Below.setCell ?_ ?_ _) | go_size))
    · simp; omega
  obtain ⟨b0, m0, rfl⟩ := hi0.form
  have I0 := Lib.hid (hi0.low (lo' := w.heap.size + 3) (by simp)); clear hi0
  have hz1 : w.heap.size + 1 + 1 < w1.heap.size := by have := hb0.size; simp at this; omega
  have hz1a : w.heap.size + 1 < w1.heap.size := by omega
  have hz1b : w.heap.size < w1.heap.size := by omega
  go_wp2_with fail
  refine (toStringS_any _ ss _ lo (HG.out.keep (Carries.of lo ?_)) K1.out.1).mono ?_
  · (repeat' (first | (with_reducible exact Below.refl _ _) | (with_reducible assumption) | (with_reducible refine Below.alloc ?_ ?_ _) | (with_reducible refine Below.drew ?_) | (with_reducible refine below_drewN ?_ _) | (with_reducible refine Below.setCell ?_ ?_ _) | go_size))
  rintro e w2 ⟨r1, rfl, hi1, hb1⟩
  obtain ⟨hc2, hf2⟩ := bcell hb1
  have hw2 : Below w.heap.size w w2 := by
    refine Below.trans ?_ (hb1.mono ?_)
    · (repeat' (first | (with_reducible exact Below.refl _ _) | (with_reducible assumption) | (with_reducible refine Below.alloc ?_ ?_ _) | (with_reducible refine Below.drew ?_) | (with_reducible refine below_drewN ?_ _) | (with_reducible refine Below.setCell ?_ ?_ _) | go_size))
    · simp; omega
  obtain ⟨b1, m1, rfl⟩ := hi1.form
  have hz2 : w1.heap.size ≤ w2.heap.size := by have := hb1.size; simpa using this
  have hz2z : w.heap.size + 1 + 1 < w2.heap.size := by omega
  have hz2a : w.heap.size + 1 < w2.heap.size := by omega
  have hz2b : w.heap.size < w2.heap.size := by omega
  have I1 := Lib.hid (I0.out.keep (w' := w2) (Carries.trans (by (repeat' (first | (with_reducible exact Carries.refl _ _) | (with_reducible assumption) | (with_reducible refine Carries.alloc ?_ _) | (with_reducible refine Carries.drew ?_) | (with_reducible refine Carries.drewN ?_ _) | (with_reducible refine Carries.set ?_ ?_ _) | go_size))) (Carries.of _ hb1))); clear I0
  have J1 := Lib.hid (hi1.low (lo' := w.heap.size + 3) (by simp; omega)); clear hi1
  go_wp2_with fail
  refine (toArcS_any _ ls _ lo (HL.out.keep (Carries.of lo ?_)) k2).mono ?_
  · (repeat' (first | (with_reducible exact Below.refl _ _) | (with_reducible assumption) | (with_reducible refine Below.alloc ?_ ?_ _) | (with_reducible refine Below.drew ?_) | (with_reducible refine below_drewN ?_ _) | (with_reducible refine Below.setCell ?_ ?_ _) | go_size))
  rintro e w3 ⟨r2, rfl, hi2, hb2⟩
  obtain ⟨hc3, hf3⟩ := bcell hb2
  have hw3 : Below w.heap.size w w3 := by
    refine Below.trans ?_ (hb2.mono ?_)
    · (repeat' (first | (with_reducible exact Below.refl _ _) | (with_reducible assumption) | (with_reducible refine Below.alloc ?_ ?_ _) | (with_reducible refine Below.drew ?_) | (with_reducible refine below_drewN ?_ _) | (with_reducible refine Below.setCell ?_ ?_ _) | go_size))
    · simp; omega
  have hz3 : w2.heap.size ≤ w3.heap.size := by have := hb2.size; simpa using this
  have hz3a : w.heap.size + 1 + 1 < w3.heap.size := by omega
  have hz3b : w.heap.size + 1 < w3.heap.size := by omega
  have hz3c : w.heap.size < w3.heap.size := by omega
  obtain ⟨b2, m2, rfl⟩ := hi2.form
  have I2 := Lib.hid (I1.out.keep (w' := w3) (Carries.trans (by (repeat' (first | (with_reducible exact Carries.refl _ _) | (with_reducible assumption) | (with_reducible refine Carries.alloc ?_ _) | (with_reducible refine Carries.drew ?_) | (with_reducible refine Carries.drewN ?_ _) | (with_reducible refine Carries.set ?_ ?_ _) | go_size))) (Carries.of _ hb2))); clear I1
  have J2 := Lib.hid (J1.out.keep (w' := w3) (Carries.trans (by (repeat' (first | (with_reducible exact Carries.refl _ _) | (with_reducible assumption) | (with_reducible refine Carries.alloc ?_ _) | (with_reducible refine Carries.drew ?_) | (with_reducible refine Carries.drewN ?_ _) | (with_reducible refine Carries.set ?_ ?_ _) | go_size))) (Carries.of _ hb2))); clear J1
  have L2 := Lib.hid (hi2.low (lo' := w.heap.size + 3) (by simp; omega)); clear hi2
  go_wp2_with fail
  refine bodyPost_ret (v := .agg #[.slice b0 gs.length m0, .slice b1 ss.length m1, .slice b2 ls.length m2]) (by simp [results, Try.results14, go_sem, hc, hc2, hc3, hz1a, hz2a, hz3a, hz3b]) rfl ?_
  refine ⟨_, rfl, ⟨_, _, _, rfl, (I2.out.keep ?_).low ?_, (J2.out.keep ?_).low ?_, (L2.out.keep ?_).low ?_⟩, ?_⟩
  · (repeat' (first | (with_reducible exact Carries.refl _ _) | (with_reducible assumption) | (with_reducible refine Carries.alloc ?_ _) | (with_reducible refine Carries.drew ?_) | (with_reducible refine Carries.drewN ?_ _) | (with_reducible refine Carries.set ?_ ?_ _) | go_size))
  · omega
  · (repeat' (first | (with_reducible exact Carries.refl _ _) | (with_reducible assumption) | (with_reducible refine Carries.alloc ?_ _) | (with_reducible refine Carries.drew ?_) | (with_reducible refine Carries.drewN ?_ _) | (with_reducible refine Carries.set ?_ ?_ _) | go_size))
  · omega
  · (repeat' (first | (with_reducible exact Carries.refl _ _) | (with_reducible assumption) | (with_reducible refine Carries.alloc ?_ _) | (with_reducible refine Carries.drew ?_) | (with_reducible refine Carries.drewN ?_ _) | (with_reducible refine Carries.set ?_ ?_ _) | go_size))
  · omega
  · (repeat' (first | (with_reducible exact Below.refl _ _) | (with_reducible assumption) | (with_reducible refine Below.alloc ?_ ?_ _) | (with_reducible refine Below.drew ?_) | (with_reducible refine below_drewN ?_ _) | (with_reducible refine Below.setCell ?_ ?_ _) | go_size))

end Go.Proofs.Ytfipnlehaklepaa
