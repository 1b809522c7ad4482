/- WALKS: toTransition, toTransitionS, toNet.
   PLAIN PART: a slice of pairs of cells (signals, labels), a row of pairs that is filled from the front; signals and labels as data. No program is named here.
   WALKS: toSignal, toSignalS of the laws. -/
import Derived.Test.YtnmoocgocnjdjaaGreatVSrt
namespace Go.Proofs.YtnmoocgocnjdjaaGreat
open Go.RowKit

theorem bcell {W w1 : World} (hb : Below W.heap.size W w1) : (∀ b o, b < W.heap.size → w1.cell? ⟨b, o, none⟩ = W.cell? ⟨b, o, none⟩) ∧ (∀ b o, b < W.heap.size → w1.frozen? ⟨b, o, none⟩ = W.frozen? ⟨b, o, none⟩) :=
  ⟨fun b o h => hb.cell (p := ⟨b, o, none⟩) h, fun b o h => hb.frozen (p := ⟨b, o, none⟩) h⟩

set_option maxHeartbeats 400000 in
theorem toTransition_any (v0 v1 : Value) (t : Tr) (w : World) (lo : Nat) (hv : TrAt lo w v0 v1 t) (hn : t.1.length ≤ 1048576) (hm : t.2.length ≤ 1048576) :
    Calls Tryz.prog 104 #[.agg #[v0, v1]] w (RetTr w t) := by
  obtain ⟨h0, h1⟩ := hv
  have h0' := h0
  have h1' := h1
  obtain ⟨a0, k0, rfl, _, _⟩ := h0'
  obtain ⟨a1, k1, rfl, _, _⟩ := h1'
  have H0 := Lib.hid h0; clear h0
  have H1 := Lib.hid h1; clear h1
  go_enter Tryz.func104, Tryz.ntmps104
  go_wp2_with fail
  refine (toIntS_any _ t.1 _ lo (H0.out.keep ?_) hn).mono ?_
  · (repeat' (first | (with_reducible exact Carries.refl _ _) | (with_reducible assumption) | (with_reducible refine Carries.alloc ?_ _) | (with_reducible refine Carries.drew ?_) | (with_reducible refine Carries.drewN ?_ _) | (with_reducible refine Carries.set ?_ ?_ _) | go_size))
  rintro e w1 ⟨r0, rfl, hi0, hb0⟩
  obtain ⟨hc, hf⟩ := bcell hb0
  have hi0' := hi0
  obtain ⟨b0, m0, rfl, _, _⟩ := hi0'
  have I0 := Lib.hid hi0; clear hi0
  have hw1 : Below w.heap.size w w1 := by
    refine Below.trans ?_ (hb0.mono ?_)
    · go_grown
    · simp; omega
  have hz1 : w.heap.size + 1 + 1 < w1.heap.size := by have := hb0.size; simp at this; omega
  have hz1a : w.heap.size + 1 < w1.heap.size := by omega
  have hz1b : w.heap.size < w1.heap.size := by omega
  go_wp2_with fail
  refine (toIntS_any _ t.2 _ lo (H1.out.keep (Carries.of lo ?_)) hm).mono ?_
  · go_grown
  rintro e w2 ⟨r1, rfl, hi1, hb1⟩
  obtain ⟨hc2, hf2⟩ := bcell hb1
  have hw2 : Below w.heap.size w w2 := by
    refine Below.trans ?_ (hb1.mono ?_)
    · go_grown
    · simp; omega
  have hz2 : w1.heap.size ≤ w2.heap.size := by have := hb1.size; simpa using this
  have hi1' := hi1
  obtain ⟨b1, m1, rfl, _, _⟩ := hi1'
  have J0 := Lib.hid (I0.out.keep (w' := w2) (Carries.trans (Carries.set (Carries.refl _ _) (by simp) _) (Carries.of _ hb1)))
  have J1 := Lib.hid hi1; clear hi1
  go_wp2_with fail
  refine bodyPost_ret (v := .agg #[.slice b0 t.1.length m0, .slice b1 t.2.length m1]) (by simp [results, Tryz.results104, go_sem, hc, hc2, hz1a]) rfl ?_
  refine ⟨_, _, rfl, ⟨(J0.out.keep ?_).low ?_, (J1.out.keep ?_).low ?_⟩, ?_⟩
  · (repeat' (first | (with_reducible exact Carries.refl _ _) | (with_reducible assumption) | (with_reducible refine Carries.alloc ?_ _) | (with_reducible refine Carries.drew ?_) | (with_reducible refine Carries.drewN ?_ _) | (with_reducible refine Carries.set ?_ ?_ _) | go_size))
  · simp; omega
  · (repeat' (first | (with_reducible exact Carries.refl _ _) | (with_reducible assumption) | (with_reducible refine Carries.alloc ?_ _) | (with_reducible refine Carries.drew ?_) | (with_reducible refine Carries.drewN ?_ _) | (with_reducible refine Carries.set ?_ ?_ _) | go_size))
  · simp; omega
  · (repeat' (first | (with_reducible exact Below.refl _ _) | (with_reducible assumption) | (with_reducible refine Below.alloc ?_ ?_ _) | (with_reducible refine Below.drew ?_) | (with_reducible refine below_drewN ?_ _) | (with_reducible refine Below.setCell ?_ ?_ _) | go_size))

theorem Tryz.infoTr : (Tryz.prog.info? 154).map (fun i => (i.zero, i.size, i.bytes)) = some (some (.agg #[.slice none 0 0, .slice none 0 0]), 2, 48) := by kernel_rfl

theorem run_make_trs (n : Nat) (hn : n ≤ 1048576) (w : World) :
    (Instr.makeSlice 34 (.int .i64 (n : Int)) (.int .i64 (n : Int))).run Tryz.prog w = .ok (.slice (some ⟨w.heap.size, 0, none⟩) n n) (w.alloc (.cells (madeCells #[.slice none 0 0, .slice none 0 0] (n * 2)) 154)) := by
  obtain ⟨i, hi, hzz⟩ := Option.map_eq_some_iff.1 Tryz.infoTr
  simp only [Prod.mk.injEq] at hzz
  obtain ⟨hz, hs, hb⟩ := hzz
  have hr := run_make (P := Tryz.prog) w 34 154 i _ Tryz.underlying34 hi hz .i64 .i64 n n (by omega) (Int.le_refl _) (by rw [hb]; omega) (by omega)
  rw [hs] at hr
  exact hr

theorem rowIs_size {w : World} {c : Array Value} {t : TypeId} {n : Nat} (hn : c.size = n) : ∃ f, (w.alloc (.cells c t)).rowIs w.heap.size t n f := by
  subst hn
  exact ⟨fun i => c[i]?.getD undef, World.rowIs_alloc _ _ _ _ fun i hi => by simp [hi]⟩

/-- the first k of the transitions lie in the row b, what they lead to lies behind it -/
def TrsRow (b : Nat) (w : World) (n k : Nat) (ts : List Tr) : Prop := ∃ f, w.rowIs b 154 (n * 2) f ∧ ∀ i, i < k → TrAt (b + 1) w (f (i * 2)) (f (i * 2 + 1)) (ts.getD i ([], []))

theorem TrsRow.keep {b : Nat} {w w' : World} {n k : Nat} {ts : List Tr} (h : TrsRow b w n k ts) (hc : Carries (b + 1) w w') (hb : w'.heap[b]? = w.heap[b]?) : TrsRow b w' n k ts := by
  obtain ⟨f, hr, ht⟩ := h
  exact ⟨f, hr.of_block hb, fun i hi => (ht i hi).keep hc⟩

theorem TrsRow.cells {b : Nat} {w : World} {n k : Nat} {ts : List Tr} (h : TrsRow b w n k ts) {i : Nat} (hi : i < n) : ∃ v0 v1, w.cell? ⟨b, i * 2, none⟩ = some v0 ∧ w.cell? ⟨b, i * 2 + 1, none⟩ = some v1 ∧ w.frozen? ⟨b, i * 2, none⟩ = false ∧ w.frozen? ⟨b, i * 2 + 1, none⟩ = false := by
  obtain ⟨f, hr, ht⟩ := h
  exact ⟨_, _, hr.cell (by omega), hr.cell (by omega), hr.frozen _, hr.frozen _⟩

theorem TrsRow.put {b : Nat} {w : World} {n k : Nat} {ts : List Tr} (h : TrsRow b w n k ts) {v0 v1 : Value} (hk : k < n) (ht : TrAt (b + 1) w v0 v1 (ts.getD k ([], []))) :
    TrsRow b ((w.setCell ⟨b, k * 2, none⟩ v0).setCell ⟨b, k * 2 + 1, none⟩ v1) n (k + 1) ts := by
  obtain ⟨f, hr, hx⟩ := h
  have hc : Carries (b + 1) w ((w.setCell ⟨b, k * 2, none⟩ v0).setCell ⟨b, k * 2 + 1, none⟩ v1) := by (repeat' (first | (with_reducible exact Carries.refl _ _) | (with_reducible assumption) | (with_reducible refine Carries.alloc ?_ _) | (with_reducible refine Carries.drew ?_) | (with_reducible refine Carries.drewN ?_ _) | (with_reducible refine Carries.set ?_ ?_ _) | go_size))
  refine ⟨_, (hr.set (k * 2) v0).set (k * 2 + 1) v1, fun i hi => ?_⟩
  by_cases e : i = k
  · subst e
    simpa [show ¬ i * 2 = i * 2 + 1 by omega] using ht.keep hc
  · have h1 : ¬ i * 2 = k * 2 + 1 := by omega
    have h2 : ¬ i * 2 = k * 2 := by omega
    have h3 : ¬ i * 2 + 1 = k * 2 + 1 := by omega
    have h4 : ¬ i * 2 + 1 = k * 2 := by omega
    simp only [if_neg h1, if_neg h2, if_neg h3, if_neg h4]
    exact (hx i (by omega)).keep hc

theorem TrsRow.read {b : Nat} {w : World} {ts : List Tr} (h : TrsRow b w ts.length ts.length ts) : TrsAt b w (.slice (some ⟨b, 0, none⟩) ts.length ts.length) ts := by
  obtain ⟨f, hr, ht⟩ := h
  refine ⟨_, _, rfl, Nat.le_refl _, Or.inr ⟨b, 0, rfl, Nat.le_refl _, fun i hi => ⟨_, _, ?_, ?_, (ht i hi).low (Nat.le_succ _)⟩⟩⟩
  · rw [Nat.zero_add]; exact hr.cell (by omega)
  · rw [Nat.zero_add]; exact hr.cell (by omega)

/-- small lists throughout -/
def SmallTrs (ts : List Tr) : Prop := ts.length ≤ 1048576 ∧ ∀ i, i < ts.length → (ts.getD i ([], [])).1.length ≤ 1048576 ∧ (ts.getD i ([], [])).2.length ≤ 1048576

set_option maxHeartbeats 400000 in
theorem toTransitionS_any (v : Value) (ts : List Tr) (w : World) (lo : Nat) (hv : TrsAt lo w v ts) (hs : SmallTrs ts) :
    Calls Tryz.prog 47 #[v] w (RetTrs w ts) := by
  obtain ⟨ao, cap, rfl, hc, hz⟩ := hv
  obtain ⟨hn, hsm⟩ := hs
  have hmk := run_make_trs ts.length hn
  have HF := Lib.hid hz; clear hz
  have HS := Lib.hid hsm; clear hsm
  go_enter Tryz.func47, Tryz.ntmps47
  go_wp2
  go_loopw [4] (fun i wr => ∃ k : Nat, k ≤ ts.length ∧ i = .int .i64 k ∧ TrsRow w.heap.size wr ts.length k ts ∧ Below w.heap.size w wr ∧ w.heap.size < wr.heap.size) (fun i _ => ts.length - (intOf i).toNat)
  case atStart =>
    obtain ⟨f, hf⟩ := rowIs_size (w := w) (t := 154) (size_madeCells #[.slice none 0 0, .slice none 0 0] (ts.length * 2))
    exact ⟨0, Nat.zero_le _, rfl, ⟨f, hf, fun i hi => absurd hi (Nat.not_lt_zero _)⟩, (Below.refl _ _).alloc (Nat.le_refl _) _, by simp⟩
  case round =>
    obtain ⟨k, hk, rfl, hrow, hb1, hz1⟩ := hrel
    by_cases hlt : k < ts.length
    · rcases HF.out with rfl | ⟨b, off, rfl, hlo, hcell⟩
      · simp at hlt
      obtain ⟨x0, x1, c0, c1, hx⟩ := hcell k hlt
      have d0 := Carries.of lo hb1 _ _ hlo c0
      have d1 := Carries.of lo hb1 _ _ hlo c1
      obtain ⟨hk1, hk2⟩ := HS.out k hlt
      obtain ⟨t, htk⟩ : ∃ t, t = ts.getD k ([], []) := ⟨_, rfl⟩
      rw [← htk] at hk1 hk2 hx
      have HK := Lib.hid htk; clear htk
      have HX := Lib.hid (hx.keep (Carries.of lo hb1))
      have HR := Lib.hid hrow
      clear hcell c0 c1 hx hrow
      go_wp2_with fail
      refine (toTransition_any _ _ _ _ lo HX.out hk1 hk2).mono ?_
      rintro e w1 ⟨r0, r1, rfl, ht, hb2⟩
      obtain ⟨⟨p0, q0, rfl, g0⟩, ⟨p1, q1, rfl, g1⟩⟩ := ht
      have ht : TrAt wr.heap.size w1 _ _ t := ⟨⟨p0, q0, rfl, g0⟩, ⟨p1, q1, rfl, g1⟩⟩
      have HT := Lib.hid (ht.low (lo' := w.heap.size + 1) (by omega))
      have hrow1 := HR.out.keep (Carries.of _ hb2) (hb2.block _ hz1)
      obtain ⟨y0, y1, e0, e1, f0, f1⟩ := hrow1.cells hlt
      have HR1 := Lib.hid hrow1
      have hz2 : w.heap.size < w1.heap.size := by have := hb2.size; omega
      have hw1 : Below w.heap.size w w1 := hb1.trans (hb2.mono (by omega))
      clear ht hrow1 g0 g1
      go_wp2_with fail
      go_roundw
      case rel => exact ⟨k + 1, by omega, by go_num, HR1.out.put hlt (HK.out ▸ HT.out), by (repeat' (first | (with_reducible exact Below.refl _ _) | (with_reducible assumption) | (with_reducible refine Below.alloc ?_ ?_ _) | (with_reducible refine Below.drew ?_) | (with_reducible refine below_drewN ?_ _) | (with_reducible refine Below.setCell ?_ ?_ _) | go_size)), by simpa using hz2⟩
      case measure => simp [intOf]; omega
    · have hkk : k = ts.length := by omega
      subst hkk
      have HR := Lib.hid hrow; clear hrow
      go_wp2
      go_ret
      exact ⟨_, rfl, HR.out.read, hb1⟩

set_option maxHeartbeats 400000 in
theorem toNet_any (v : Value) (n : NetD) (w : World) (lo : Nat) (hv : NetAt lo w v n) (hs : SmallTrs n.ts) :
    Calls Tryz.prog 12 #[v] w (RetNet w n) := by
  obtain ⟨p, ts⟩ := n
  obtain ⟨hp0, hp1, u, rfl, h0⟩ := hv
  simp only at hp0 hp1 h0 hs ⊢
  have h0' := h0
  obtain ⟨a0, k0, rfl, _, _⟩ := h0'
  have H0 := Lib.hid h0; clear h0
  have HS := Lib.hid hs; clear hs
  go_enter Tryz.func12, Tryz.ntmps12
  go_wp2_with fail
  refine (toTransitionS_any _ ts _ lo (H0.out.keep ?_) HS.out).mono ?_
  · (repeat' (first | (with_reducible exact Carries.refl _ _) | (with_reducible assumption) | (with_reducible refine Carries.alloc ?_ _) | (with_reducible refine Carries.drew ?_) | (with_reducible refine Carries.drewN ?_ _) | (with_reducible refine Carries.set ?_ ?_ _) | go_size))
  rintro e w1 ⟨r0, rfl, hi0, hb0⟩
  obtain ⟨hc, hf⟩ := bcell hb0
  have hi0' := hi0
  obtain ⟨b0, m0, rfl, _, _⟩ := hi0'
  have I0 := Lib.hid hi0; clear hi0
  have hw1 : Below w.heap.size w w1 := by
    refine Below.trans ?_ (hb0.mono ?_)
    · (repeat' (first | (with_reducible exact Below.refl _ _) | (with_reducible assumption) | (with_reducible refine Below.alloc ?_ ?_ _) | (with_reducible refine Below.drew ?_) | (with_reducible refine below_drewN ?_ _) | (with_reducible refine Below.setCell ?_ ?_ _) | go_size))
    · simp; omega
  have hz1 : w.heap.size + 1 + 1 < w1.heap.size := by have := hb0.size; simp at this; omega
  have hz1a : w.heap.size + 1 < w1.heap.size := by omega
  have hz1b : w.heap.size < w1.heap.size := by omega
  go_wp2_with fail
  refine bodyPost_ret (v := .agg #[.int .i64 p, .slice b0 ts.length m0]) (by simp [results, Tryz.results12, go_sem, hc]) rfl ?_
  refine ⟨_, rfl, ⟨hp0, hp1, _, rfl, (I0.out.keep ?_).low ?_⟩, ?_⟩
  · (repeat' (first | (with_reducible exact Carries.refl _ _) | (with_reducible assumption) | (with_reducible refine Carries.alloc ?_ _) | (with_reducible refine Carries.drew ?_) | (with_reducible refine Carries.drewN ?_ _) | (with_reducible refine Carries.set ?_ ?_ _) | go_size))
  · simp; omega
  · (repeat' (first | (with_reducible exact Below.refl _ _) | (with_reducible assumption) | (with_reducible refine Below.alloc ?_ ?_ _) | (with_reducible refine Below.drew ?_) | (with_reducible refine below_drewN ?_ _) | (with_reducible refine Below.setCell ?_ ?_ _) | go_size))

end Go.Proofs.YtnmoocgocnjdjaaGreat

namespace Go.Proofs.YtnmoocgocnjdjaaGreat
open Go.RowKit

/-- what a slice of n pairs reads as; its cells lie from block lo on -/
def PairsAt (lo : Nat) (w : World) (v : Value) (n : Nat) (x y : Nat → Value) : Prop :=
  ∃ (ao : Option Addr) (cap : Nat), v = .slice ao n cap ∧ n ≤ cap ∧
    (n = 0 ∨ ∃ b off, ao = some ⟨b, off, none⟩ ∧ lo ≤ b ∧ ∀ i, i < n → w.cell? ⟨b, off + i * 2, none⟩ = some (x i) ∧ w.cell? ⟨b, off + i * 2 + 1, none⟩ = some (y i))

theorem PairsAt.keep {lo : Nat} {w w' : World} {v : Value} {n : Nat} {x y : Nat → Value} (h : PairsAt lo w v n x y) (hb : Carries lo w w') : PairsAt lo w' v n x y := by
  obtain ⟨ao, cap, hv, hc, hz⟩ := h
  refine ⟨ao, cap, hv, hc, ?_⟩
  rcases hz with hz | ⟨b, off, ha, hlo, hcell⟩
  · exact Or.inl hz
  · exact Or.inr ⟨b, off, ha, hlo, fun i hi => ⟨hb _ _ hlo (hcell i hi).1, hb _ _ hlo (hcell i hi).2⟩⟩

theorem PairsAt.low {lo lo' : Nat} {w : World} {v : Value} {n : Nat} {x y : Nat → Value} (h : PairsAt lo w v n x y) (hl : lo' ≤ lo) : PairsAt lo' w v n x y := by
  obtain ⟨ao, cap, hv, hc, hz⟩ := h
  refine ⟨ao, cap, hv, hc, ?_⟩
  rcases hz with hz | ⟨b, off, ha, hlo, hcell⟩
  · exact Or.inl hz
  · exact Or.inr ⟨b, off, ha, Nat.le_trans hl hlo, hcell⟩

/-- the first k pairs of the row b of n pairs are there -/
def PairRow (b : Nat) (t : TypeId) (w : World) (n k : Nat) (x y : Nat → Value) : Prop := ∃ f, w.rowIs b t (n * 2) f ∧ ∀ i, i < k → f (i * 2) = x i ∧ f (i * 2 + 1) = y i

theorem PairRow.keep {b : Nat} {t : TypeId} {w w' : World} {n k : Nat} {x y : Nat → Value} (h : PairRow b t w n k x y) (hb : w'.heap[b]? = w.heap[b]?) : PairRow b t w' n k x y := by
  obtain ⟨f, hr, ht⟩ := h
  exact ⟨f, hr.of_block hb, ht⟩

theorem PairRow.cells {b : Nat} {t : TypeId} {w : World} {n k : Nat} {x y : Nat → Value} (h : PairRow b t w n k x y) {i : Nat} (hi : i < n) : ∃ v0 v1, w.cell? ⟨b, i * 2, none⟩ = some v0 ∧ w.cell? ⟨b, i * 2 + 1, none⟩ = some v1 ∧ w.frozen? ⟨b, i * 2, none⟩ = false ∧ w.frozen? ⟨b, i * 2 + 1, none⟩ = false := by
  obtain ⟨f, hr, ht⟩ := h
  exact ⟨_, _, hr.cell (by omega), hr.cell (by omega), hr.frozen _, hr.frozen _⟩

theorem PairRow.put {b : Nat} {t : TypeId} {w : World} {n k : Nat} {x y : Nat → Value} (h : PairRow b t w n k x y) {v0 v1 : Value} (hk : k < n) (h0 : v0 = x k) (h1 : v1 = y k) :
    PairRow b t ((w.setCell ⟨b, k * 2, none⟩ v0).setCell ⟨b, k * 2 + 1, none⟩ v1) n (k + 1) x y := by
  obtain ⟨f, hr, hx⟩ := h
  refine ⟨_, (hr.set (k * 2) v0).set (k * 2 + 1) v1, fun i hi => ?_⟩
  by_cases e : i = k
  · subst e
    simp [show ¬ i * 2 = i * 2 + 1 by omega, h0, h1]
  · have h1 : ¬ i * 2 = k * 2 + 1 := by omega
    have h2 : ¬ i * 2 = k * 2 := by omega
    have h3 : ¬ i * 2 + 1 = k * 2 + 1 := by omega
    have h4 : ¬ i * 2 + 1 = k * 2 := by omega
    simp only [if_neg h1, if_neg h2, if_neg h3, if_neg h4]
    exact hx i (by omega)

theorem PairRow.read {b : Nat} {t : TypeId} {w : World} {n : Nat} {x y : Nat → Value} (h : PairRow b t w n n x y) : PairsAt b w (.slice (some ⟨b, 0, none⟩) n n) n x y := by
  obtain ⟨f, hr, ht⟩ := h
  refine ⟨_, _, rfl, Nat.le_refl _, Or.inr ⟨b, 0, rfl, Nat.le_refl _, fun i hi => ⟨?_, ?_⟩⟩⟩
  · rw [Nat.zero_add, hr.cell (by omega), (ht i hi).1]
  · rw [Nat.zero_add, hr.cell (by omega), (ht i hi).2]

/-! two strings are equal where their lists of bytes are -/
theorem bytes_loop_eq (s : ByteArray) : ∀ n i r, s.size - i = n → ByteArray.toList.loop s i r = r.reverse ++ s.data.toList.drop i := by
  intro n
  induction n with
  | zero =>
    intro i r h
    rw [ByteArray.toList.loop]
    have h2 : ¬ i < s.size := by omega
    rw [if_neg h2, List.drop_eq_nil_of_le]
    · simp
    · have : s.data.toList.length = s.size := Array.length_toList (xs := s.data)
      omega
  | succ n ih =>
    intro i r h
    rw [ByteArray.toList.loop]
    have h2 : i < s.size := by omega
    rw [if_pos h2, ih _ _ (by omega)]
    have hl : i < s.data.toList.length := by have : s.data.toList.length = s.size := Array.length_toList (xs := s.data)
                                             omega
    rw [List.drop_eq_getElem_cons hl]
    have hg : s.get! i = s.data.toList[i] := by
      show s.data[i]! = s.data.toList[i]
      rw [getElem!_pos s.data i (by simpa using hl)]
      simp
    simp [hg]
theorem bytes_toList_data (s : ByteArray) : s.toList = s.data.toList := by
  unfold ByteArray.toList
  rw [bytes_loop_eq s s.size 0 [] (by omega)]; simp
theorem bytes_toList_beq (s t : ByteArray) : (s.toList == t.toList) = decide (s = t) := by
  rw [bytes_toList_data, bytes_toList_data, Bool.eq_iff_iff]
  simp only [beq_iff_eq, decide_eq_true_eq]
  constructor
  · intro h
    cases s; cases t
    simp at h
    simp [h]
  · rintro rfl; rfl

/-- a signal: its name and its kind; a label: a signal's number, up or down -/
abbrev Sig := ByteArray × Int
abbrev Lab := Int × Bool
def sgN (ss : List Sig) (i : Nat) : ByteArray := (ss.getD i (ByteArray.empty, 0)).1
def sgK (ss : List Sig) (i : Nat) : Int := (ss.getD i (ByteArray.empty, 0)).2
def lbS (ls : List Lab) (i : Nat) : Int := (ls.getD i (0, false)).1
def lbU (ls : List Lab) (i : Nat) : Bool := (ls.getD i (0, false)).2

def SigsAt (lo : Nat) (w : World) (v : Value) (ss : List Sig) : Prop := PairsAt lo w v ss.length (fun i => .string (sgN ss i)) (fun i => .int .i64 (sgK ss i))
def LabsAt (lo : Nat) (w : World) (v : Value) (ls : List Lab) : Prop := PairsAt lo w v ls.length (fun i => .int .i64 (lbS ls i)) (fun i => .bool (lbU ls i))
theorem SigsAt.keep {lo : Nat} {w w' : World} {v : Value} {ss : List Sig} (h : SigsAt lo w v ss) (hb : Carries lo w w') : SigsAt lo w' v ss := PairsAt.keep h hb
theorem SigsAt.low {lo lo' : Nat} {w : World} {v : Value} {ss : List Sig} (h : SigsAt lo w v ss) (hl : lo' ≤ lo) : SigsAt lo' w v ss := PairsAt.low h hl
theorem LabsAt.keep {lo : Nat} {w w' : World} {v : Value} {ss : List Lab} (h : LabsAt lo w v ss) (hb : Carries lo w w') : LabsAt lo w' v ss := PairsAt.keep h hb
theorem LabsAt.low {lo lo' : Nat} {w : World} {v : Value} {ss : List Lab} (h : LabsAt lo w v ss) (hl : lo' ≤ lo) : LabsAt lo' w v ss := PairsAt.low h hl

def RetSigs (w : World) (ss : List Sig) (e : Ending) (w' : World) : Prop := ∃ v, e = .returned v ∧ SigsAt w.heap.size w' v ss ∧ Below w.heap.size w w'
def RetLabs (w : World) (ls : List Lab) (e : Ending) (w' : World) : Prop := ∃ v, e = .returned v ∧ LabsAt w.heap.size w' v ls ∧ Below w.heap.size w w'

/-- numbers that fit, names that are no longer than any string -/
def OkSigs (ss : List Sig) : Prop := ss.length ≤ 9223372036854775807 ∧ ∀ i, i < ss.length → (sgN ss i).size ≤ 9223372036854775807
def SmallSigs (ss : List Sig) : Prop := ss.length ≤ 1048576 ∧ ∀ i, i < ss.length → (sgN ss i).size ≤ 1048576

/-- a graph as data -/
structure StgD where
  net : NetD
  sigs : List Sig
  labs : List Lab
  start : ByteArray

/-- what a graph's value reads as -/
def StgAt (lo : Nat) (w : World) (v : Value) (s : StgD) : Prop :=
  ∃ vt vs vl, v = .agg #[.int .i64 s.net.places, vt, vs, vl, .string s.start] ∧ NetAt lo w (.agg #[.int .i64 s.net.places, vt]) s.net ∧ SigsAt lo w vs s.sigs ∧ LabsAt lo w vl s.labs
theorem StgAt.keep {lo : Nat} {w w' : World} {v : Value} {s : StgD} (h : StgAt lo w v s) (hb : Carries lo w w') : StgAt lo w' v s := by
  obtain ⟨vt, vs, vl, hv, h1, h2, h3⟩ := h
  exact ⟨vt, vs, vl, hv, h1.keep hb, h2.keep hb, h3.keep hb⟩
theorem StgAt.low {lo lo' : Nat} {w : World} {v : Value} {s : StgD} (h : StgAt lo w v s) (hl : lo' ≤ lo) : StgAt lo' w v s := by
  obtain ⟨vt, vs, vl, hv, h1, h2, h3⟩ := h
  exact ⟨vt, vs, vl, hv, h1.low hl, h2.low hl, h3.low hl⟩
def RetStg (w : World) (s : StgD) (e : Ending) (w' : World) : Prop := ∃ v, e = .returned v ∧ StgAt w.heap.size w' v s ∧ Below w.heap.size w w'

end Go.Proofs.YtnmoocgocnjdjaaGreat

namespace Go.Proofs.YtnmoocgocnjdjaaGreat
open Go.RowKit

set_option maxHeartbeats 400000 in
theorem toSignal_any (s : ByteArray) (k : Int) (w : World) :
    Calls Tryz.prog 143 #[.agg #[.string s, .int .i64 k]] w (RetV w (.agg #[.string s, .int .i64 k])) := by
  go_enter Tryz.func143, Tryz.ntmps143
  go_wp2_with fail
  refine bodyPost_ret (v := .agg #[.string s, .int .i64 k]) (by simp [results, Tryz.results143, go_sem]) rfl ?_
  exact ⟨rfl, by (repeat' (first | (with_reducible exact Below.refl _ _) | (with_reducible assumption) | (with_reducible refine Below.alloc ?_ ?_ _) | (with_reducible refine Below.drew ?_) | (with_reducible refine below_drewN ?_ _) | (with_reducible refine Below.setCell ?_ ?_ _) | go_size))⟩

theorem Tryz.infoSig : (Tryz.prog.info? 190).map (fun i => (i.zero, i.size, i.bytes)) = some (some (.agg #[.string ByteArray.empty, .int .i64 0]), 2, 24) := by kernel_rfl
theorem run_make_sigs (n : Nat) (hn : n ≤ 1048576) (w : World) :
    (Instr.makeSlice 77 (.int .i64 (n : Int)) (.int .i64 (n : Int))).run Tryz.prog w = .ok (.slice (some ⟨w.heap.size, 0, none⟩) n n) (w.alloc (.cells (madeCells #[.string ByteArray.empty, .int .i64 0] (n * 2)) 190)) := by
  obtain ⟨i, hi, hzz⟩ := Option.map_eq_some_iff.1 Tryz.infoSig
  simp only [Prod.mk.injEq] at hzz
  obtain ⟨hz, hs, hb⟩ := hzz
  have hr := run_make (P := Tryz.prog) w 77 190 i _ Tryz.underlying77 hi hz .i64 .i64 n n (by omega) (Int.le_refl _) (by rw [hb]; omega) (by omega)
  rw [hs] at hr
  exact hr

set_option maxHeartbeats 400000 in
theorem toSignalS_any (v : Value) (ss : List Sig) (w : World) (lo : Nat) (hv : SigsAt lo w v ss) (hn : ss.length ≤ 1048576) :
    Calls Tryz.prog 88 #[v] w (RetSigs w ss) := by
  obtain ⟨ao, cap, rfl, hc, hz⟩ := hv
  have hmk := run_make_sigs ss.length hn
  have HF := Lib.hid hz; clear hz
  go_enter Tryz.func88, Tryz.ntmps88
  go_wp2
  go_loopw [4] (fun i wr => ∃ k : Nat, k ≤ ss.length ∧ i = .int .i64 k ∧ PairRow w.heap.size 190 wr ss.length k (fun i => .string (sgN ss i)) (fun i => .int .i64 (sgK ss i)) ∧ Below w.heap.size w wr ∧ w.heap.size < wr.heap.size) (fun i _ => ss.length - (intOf i).toNat)
  case atStart =>
    obtain ⟨f, hf⟩ := rowIs_size (w := w) (t := 190) (size_madeCells #[.string ByteArray.empty, .int .i64 0] (ss.length * 2))
    exact ⟨0, Nat.zero_le _, rfl, ⟨f, hf, fun i hi => absurd hi (Nat.not_lt_zero _)⟩, (Below.refl _ _).alloc (Nat.le_refl _) _, by simp⟩
  case round =>
    obtain ⟨k, hk, rfl, hrow, hb1, hz1⟩ := hrel
    by_cases hlt : k < ss.length
    · rcases HF.out with h0 | ⟨b, off, rfl, hlo, hcell⟩
      · omega
      obtain ⟨c0, c1⟩ := hcell k hlt
      have d0 := Carries.of lo hb1 _ _ hlo c0
      have d1 := Carries.of lo hb1 _ _ hlo c1
      have HR := Lib.hid hrow
      clear hcell c0 c1 hrow
      go_wp2_with fail
      refine (toSignal_any _ _ _).mono ?_
      rintro e w1 ⟨rfl, hb2⟩
      have hrow1 := HR.out.keep (hb2.block _ hz1)
      obtain ⟨y0, y1, e0, e1, f0, f1⟩ := hrow1.cells hlt
      have HR1 := Lib.hid hrow1
      have hz2 : w.heap.size < w1.heap.size := by have := hb2.size; omega
      have hw1 : Below w.heap.size w w1 := hb1.trans (hb2.mono (by omega))
      clear hrow1
      go_wp2_with fail
      go_roundw
      case rel => exact ⟨k + 1, by omega, by go_num, HR1.out.put hlt rfl rfl, by (repeat' (first | (with_reducible exact Below.refl _ _) | (with_reducible assumption) | (with_reducible refine Below.alloc ?_ ?_ _) | (with_reducible refine Below.drew ?_) | (with_reducible refine below_drewN ?_ _) | (with_reducible refine Below.setCell ?_ ?_ _) | go_size)), by simpa using hz2⟩
      case measure => simp [intOf]; omega
    · have hkk : k = ss.length := by omega
      subst hkk
      have HR := Lib.hid hrow; clear hrow
      go_wp2
      go_ret
      exact ⟨_, rfl, HR.out.read, hb1⟩


end Go.Proofs.YtnmoocgocnjdjaaGreat
