/- WALKS: toIntS, toTransition, toTransitionS, toNet once more: what they return may be written (no cell of it is frozen). -/
import Derived.Test.YtigkgfdnnfmmmaaVL1in
namespace Go.Proofs.Ytigkgfdnnfmmmaa
open Go.RowKit

/-- every block from lo on is as it was -/
def Same (lo : Nat) (w w' : World) : Prop := w.heap.size ≤ w'.heap.size ∧ ∀ b, lo ≤ b → b < w.heap.size → w'.heap[b]? = w.heap[b]?
theorem Same.refl (lo : Nat) (w : World) : Same lo w w := ⟨Nat.le_refl _, fun _ _ _ => rfl⟩
theorem Same.trans {lo : Nat} {a b c : World} (h : Same lo a b) (k : Same lo b c) : Same lo a c :=
  ⟨Nat.le_trans h.1 k.1, fun x hx hs => (k.2 x hx (Nat.lt_of_lt_of_le hs h.1)).trans (h.2 x hx hs)⟩
theorem Same.of (lo : Nat) {w w' : World} (hb : Below w.heap.size w w') : Same lo w w' := ⟨hb.size, fun b _ hs => hb.block b hs⟩
theorem Same.set {lo : Nat} {a w : World} (h : Same lo a w) {p : Addr} (hp : p.block < lo) (u : Value) : Same lo a (w.setCell p u) :=
  h.trans ⟨by simp [World.setCell], fun b hx _ => Below.heap_setCell _ _ _ _ (by omega)⟩
theorem Same.alloc {lo : Nat} {a w : World} (h : Same lo a w) (o : Obj) : Same lo a (w.alloc o) := h.trans (Same.of lo ((Below.refl _ _).alloc (Nat.le_refl _) o))
theorem Same.drew {lo : Nat} {a w : World} (h : Same lo a w) : Same lo a w.drew := h.trans (Same.of lo (Below.refl _ _).drew)
theorem Same.drewN {lo : Nat} {a w : World} (h : Same lo a w) (n : Nat) : Same lo a (w.drewN n) := h.trans (Same.of lo (below_drewN (Below.refl _ _) n))

/-- a slice of ints that may be written -/
def IntsOw (lo : Nat) (w : World) (v : Value) (zs : List Int) : Prop :=
  ∃ (ao : Option Addr) (cap : Nat), v = .slice ao zs.length cap ∧ zs.length ≤ cap ∧
    (zs = [] ∨ ∃ b off, ao = some ⟨b, off, none⟩ ∧ lo ≤ b ∧ ∀ i, i < zs.length → w.cell? ⟨b, off + i, none⟩ = some (.int .i64 (zs.getD i 0)) ∧ w.frozen? ⟨b, off + i, none⟩ = false)
theorem IntsOw.keep {lo : Nat} {w w' : World} {v : Value} {zs : List Int} (h : IntsOw lo w v zs) (hb : Same lo w w') : IntsOw lo w' v zs := by
  obtain ⟨ao, cap, hv, hc, hz⟩ := h
  refine ⟨ao, cap, hv, hc, ?_⟩
  rcases hz with hz | ⟨b, off, ha, hlo, hcell⟩
  · exact Or.inl hz
  · refine Or.inr ⟨b, off, ha, hlo, fun i hi => ?_⟩
    obtain ⟨h1, h2⟩ := hcell i hi
    have he := hb.2 b hlo (by have := cell_old h1; simpa using this)
    exact ⟨(World.cell?_of_block (w := w) (w' := w') (a := ⟨b, off + i, none⟩) he).trans h1, (World.frozen?_of_block (w := w) (w' := w') (a := ⟨b, off + i, none⟩) he).trans h2⟩
theorem IntsOw.low {lo lo' : Nat} {w : World} {v : Value} {zs : List Int} (h : IntsOw lo w v zs) (hl : lo' ≤ lo) : IntsOw lo' w v zs := by
  obtain ⟨ao, cap, hv, hc, hz⟩ := h
  refine ⟨ao, cap, hv, hc, ?_⟩
  rcases hz with hz | ⟨b, off, ha, hlo, hcell⟩
  · exact Or.inl hz
  · exact Or.inr ⟨b, off, ha, Nat.le_trans hl hlo, hcell⟩
theorem IntsOw.at {lo : Nat} {w : World} {v : Value} {zs : List Int} (h : IntsOw lo w v zs) : IntsAt lo w v zs := by
  obtain ⟨ao, cap, hv, hc, hz⟩ := h
  refine ⟨ao, cap, hv, hc, ?_⟩
  rcases hz with hz | ⟨b, off, ha, hlo, hcell⟩
  · exact Or.inl hz
  · exact Or.inr ⟨b, off, ha, hlo, fun i hi => (hcell i hi).1⟩

def TrOw (lo : Nat) (w : World) (v0 v1 : Value) (t : Tr) : Prop := IntsOw lo w v0 t.1 ∧ IntsOw lo w v1 t.2
theorem TrOw.keep {lo : Nat} {w w' : World} {v0 v1 : Value} {t : Tr} (h : TrOw lo w v0 v1 t) (hb : Same lo w w') : TrOw lo w' v0 v1 t := ⟨h.1.keep hb, h.2.keep hb⟩
theorem TrOw.low {lo lo' : Nat} {w : World} {v0 v1 : Value} {t : Tr} (h : TrOw lo w v0 v1 t) (hl : lo' ≤ lo) : TrOw lo' w v0 v1 t := ⟨h.1.low hl, h.2.low hl⟩
theorem TrOw.at {lo : Nat} {w : World} {v0 v1 : Value} {t : Tr} (h : TrOw lo w v0 v1 t) : TrAt lo w v0 v1 t := ⟨h.1.at, h.2.at⟩

def TrsOw (lo : Nat) (w : World) (v : Value) (ts : List Tr) : Prop :=
  ∃ (ao : Option Addr) (cap : Nat), v = .slice ao ts.length cap ∧ ts.length ≤ cap ∧
    (ts = [] ∨ ∃ b off, ao = some ⟨b, off, none⟩ ∧ lo ≤ b ∧ ∀ i, i < ts.length → ∃ v0 v1, w.cell? ⟨b, off + i * 2, none⟩ = some v0 ∧ w.cell? ⟨b, off + i * 2 + 1, none⟩ = some v1 ∧ TrOw lo w v0 v1 (ts.getD i ([], [])))
theorem TrsOw.keep {lo : Nat} {w w' : World} {v : Value} {ts : List Tr} (h : TrsOw lo w v ts) (hb : Same lo w w') : TrsOw lo w' v ts := by
  obtain ⟨ao, cap, hv, hc, hz⟩ := h
  refine ⟨ao, cap, hv, hc, ?_⟩
  rcases hz with hz | ⟨b, off, ha, hlo, hcell⟩
  · exact Or.inl hz
  · refine Or.inr ⟨b, off, ha, hlo, fun i hi => ?_⟩
    obtain ⟨v0, v1, c0, c1, ht⟩ := hcell i hi
    have he := hb.2 b hlo (by have := cell_old c0; simpa using this)
    exact ⟨v0, v1, (World.cell?_of_block (w := w) (w' := w') (a := ⟨b, off + i * 2, none⟩) he).trans c0, (World.cell?_of_block (w := w) (w' := w') (a := ⟨b, off + i * 2 + 1, none⟩) he).trans c1, ht.keep hb⟩
theorem TrsOw.low {lo lo' : Nat} {w : World} {v : Value} {ts : List Tr} (h : TrsOw lo w v ts) (hl : lo' ≤ lo) : TrsOw lo' w v ts := by
  obtain ⟨ao, cap, hv, hc, hz⟩ := h
  refine ⟨ao, cap, hv, hc, ?_⟩
  rcases hz with hz | ⟨b, off, ha, hlo, hcell⟩
  · exact Or.inl hz
  · refine Or.inr ⟨b, off, ha, Nat.le_trans hl hlo, fun i hi => ?_⟩
    obtain ⟨v0, v1, c0, c1, ht⟩ := hcell i hi
    exact ⟨v0, v1, c0, c1, ht.low hl⟩
theorem TrsOw.at {lo : Nat} {w : World} {v : Value} {ts : List Tr} (h : TrsOw lo w v ts) : TrsAt lo w v ts := by
  obtain ⟨ao, cap, hv, hc, hz⟩ := h
  refine ⟨ao, cap, hv, hc, ?_⟩
  rcases hz with hz | ⟨b, off, ha, hlo, hcell⟩
  · exact Or.inl hz
  · refine Or.inr ⟨b, off, ha, hlo, fun i hi => ?_⟩
    obtain ⟨v0, v1, c0, c1, ht⟩ := hcell i hi
    exact ⟨v0, v1, c0, c1, ht.at⟩

def NetOw (lo : Nat) (w : World) (v : Value) (n : NetD) : Prop :=
  -9223372036854775808 ≤ n.places ∧ n.places ≤ 9223372036854775807 ∧ ∃ u, v = .agg #[.int .i64 n.places, u] ∧ TrsOw lo w u n.ts
theorem NetOw.at {lo : Nat} {w : World} {v : Value} {n : NetD} (h : NetOw lo w v n) : NetAt lo w v n := by
  obtain ⟨h1, h2, u, hv, ht⟩ := h
  exact ⟨h1, h2, u, hv, ht.at⟩
theorem NetOw.keep {lo : Nat} {w w' : World} {v : Value} {n : NetD} (h : NetOw lo w v n) (hb : Same lo w w') : NetOw lo w' v n := by
  obtain ⟨h1, h2, u, hv, ht⟩ := h
  exact ⟨h1, h2, u, hv, ht.keep hb⟩
theorem NetOw.low {lo lo' : Nat} {w : World} {v : Value} {n : NetD} (h : NetOw lo w v n) (hl : lo' ≤ lo) : NetOw lo' w v n := by
  obtain ⟨h1, h2, u, hv, ht⟩ := h
  exact ⟨h1, h2, u, hv, ht.low hl⟩

def RetIntsO (w : World) (zs : List Int) (e : Ending) (w' : World) : Prop := ∃ v, e = .returned v ∧ IntsOw w.heap.size w' v zs ∧ Below w.heap.size w w'
def RetTrO (w : World) (t : Tr) (e : Ending) (w' : World) : Prop := ∃ v0 v1, e = .returned (.agg #[v0, v1]) ∧ TrOw w.heap.size w' v0 v1 t ∧ Below w.heap.size w w'
def RetTrsO (w : World) (ts : List Tr) (e : Ending) (w' : World) : Prop := ∃ v, e = .returned v ∧ TrsOw w.heap.size w' v ts ∧ Below w.heap.size w w'
def RetNetO (w : World) (n : NetD) (e : Ending) (w' : World) : Prop := ∃ v, e = .returned v ∧ NetOw w.heap.size w' v n ∧ Below w.heap.size w w'

theorem ow_of_row {w : World} {b : Nat} {zs : List Int} {f : Nat → Value} (h : w.rowIs b 3 zs.length f) (hf : ∀ i, i < zs.length → f i = .int .i64 (zs.getD i 0)) : IntsOw b w (.slice (some ⟨b, 0, none⟩) zs.length zs.length) zs :=
  ⟨_, _, rfl, Nat.le_refl _, Or.inr ⟨b, 0, rfl, Nat.le_refl _, fun i hi => ⟨by rw [Nat.zero_add, h.cell hi, hf i hi], h.frozen _⟩⟩⟩

set_option maxHeartbeats 400000 in
theorem toIntS_ow (v : Value) (zs : List Int) (w : World) (lo : Nat) (hv : IntsAt lo w v zs) (hn : zs.length ≤ 1048576) :
    Calls Try.prog 118 #[v] w (RetIntsO w zs) := by
  obtain ⟨ao, cap, rfl, hc, hz⟩ := hv
  have hmk := run_make_row' (P := Try.prog) 49 3 (.int .i64 0) 8 Try.underlying49 Try.infoInt rfl .i64 .i64 zs.length (by omega) (by omega)
  have HF := Lib.hid hz; clear hz
  go_enter Try.func118, Try.ntmps118
  go_wp2
  go_loopw [4] (fun i wr => ∃ k : Nat, k ≤ zs.length ∧ i = .int .i64 k ∧ wr.rowIs w.heap.size 3 zs.length (copied zs k) ∧ Below w.heap.size w wr) (fun i _ => zs.length - (intOf i).toNat)
  case atStart => exact ⟨0, Nat.zero_le _, rfl, (World.rowIs_made _ _ _ _).congr (fun i _ => by simp [copied]), (Below.refl _ _).alloc (Nat.le_refl _) _⟩
  case round =>
    obtain ⟨k, hk, rfl, hrow, hb1⟩ := hrel
    by_cases hlt : k < zs.length
    · rcases HF.out with rfl | ⟨b, off, rfl, _, hcell⟩
      · simp at hlt
      have c1 := cell_keep (hcell k hlt) hb1 (Nat.le_refl _)
      have c2 := hrow.cell hlt
      have f2 := hrow.frozen k
      clear hcell
      go_wp2
      have h3 := hrow.set k (.int .i64 (zs.getD k 0))
      rw [copied_step, getD_eq hlt] at h3
      have h4 := hb1.setCell (p := ⟨w.heap.size, k, none⟩) (Nat.le_refl _) (.int .i64 zs[k])
      go_roundw
      case rel => exact ⟨k + 1, by omega, by go_num, h3, h4⟩
      case measure => simp [intOf]; omega
    · go_wp2
      go_ret
      exact ⟨_, rfl, ow_of_row hrow (fun i hi => by unfold copied; rw [if_pos (by omega)]), hb1⟩

set_option maxHeartbeats 400000 in
theorem toTransition_ow (v0 v1 : Value) (t : Tr) (w : World) (lo : Nat) (hv : TrAt lo w v0 v1 t) (hn : t.1.length ≤ 1048576) (hm : t.2.length ≤ 1048576) :
    Calls Try.prog 102 #[.agg #[v0, v1]] w (RetTrO w t) := by
  obtain ⟨h0, h1⟩ := hv
  have h0' := h0
  have h1' := h1
  obtain ⟨a0, k0, rfl, _, _⟩ := h0'
  obtain ⟨a1, k1, rfl, _, _⟩ := h1'
  have H0 := Lib.hid h0; clear h0
  have H1 := Lib.hid h1; clear h1
  go_enter Try.func102, Try.ntmps102
  go_wp2_with fail
  refine (toIntS_ow _ t.1 _ lo (H0.out.keep ?_) hn).mono ?_
  · (repeat' (first | (with_reducible exact Carries.refl _ _) | (with_reducible assumption) | (with_reducible refine Carries.alloc ?_ _) | (with_reducible refine Carries.drew ?_) | (with_reducible refine Carries.drewN ?_ _) | (with_reducible refine Carries.set ?_ ?_ _) | go_size))
  rintro e w1 ⟨r0, rfl, hi0, hb0⟩
  obtain ⟨hc, hf⟩ := bcell hb0
  have hi0' := hi0
  obtain ⟨b0, m0, rfl, _, _⟩ := hi0'
  have I0 := Lib.hid hi0; clear hi0
  have hw1 : Below w.heap.size w w1 := by
    refine Below.trans ?_ (hb0.mono ?_)
    · go_grown
    · simp; omega
  have hz1 : w.heap.size + 1 + 1 < w1.heap.size := by have := hb0.size; simp at this; omega
  have hz1a : w.heap.size + 1 < w1.heap.size := by omega
  have hz1b : w.heap.size < w1.heap.size := by omega
  go_wp2_with fail
  refine (toIntS_ow _ t.2 _ lo (H1.out.keep (Carries.of lo ?_)) hm).mono ?_
  · go_grown
  rintro e w2 ⟨r1, rfl, hi1, hb1⟩
  obtain ⟨hc2, hf2⟩ := bcell hb1
  have hw2 : Below w.heap.size w w2 := by
    refine Below.trans ?_ (hb1.mono ?_)
    · go_grown
    · simp; omega
  have hz2 : w1.heap.size ≤ w2.heap.size := by have := hb1.size; simpa using this
  have hi1' := hi1
  obtain ⟨b1, m1, rfl, _, _⟩ := hi1'
  have J0 := Lib.hid (I0.out.keep (w' := w2) (Same.trans (Same.set (Same.refl _ _) (by simp) _) (Same.of _ hb1)))
  have J1 := Lib.hid hi1; clear hi1
  go_wp2_with fail
  refine bodyPost_ret (v := .agg #[.slice b0 t.1.length m0, .slice b1 t.2.length m1]) (by simp [results, Try.results102, go_sem, hc, hc2, hz1a]) rfl ?_
  refine ⟨_, _, rfl, ⟨(J0.out.keep ?_).low ?_, (J1.out.keep ?_).low ?_⟩, ?_⟩
  · (repeat' (first | (with_reducible exact Same.refl _ _) | (with_reducible assumption) | (with_reducible refine Same.alloc ?_ _) | (with_reducible refine Same.drew ?_) | (with_reducible refine Same.drewN ?_ _) | (with_reducible refine Same.set ?_ ?_ _) | go_size))
  · simp; omega
  · (repeat' (first | (with_reducible exact Same.refl _ _) | (with_reducible assumption) | (with_reducible refine Same.alloc ?_ _) | (with_reducible refine Same.drew ?_) | (with_reducible refine Same.drewN ?_ _) | (with_reducible refine Same.set ?_ ?_ _) | go_size))
  · simp; omega
  · (repeat' (first | (with_reducible exact Below.refl _ _) | (with_reducible assumption) | (with_reducible refine Below.alloc ?_ ?_ _) | (with_reducible refine Below.drew ?_) | (with_reducible refine below_drewN ?_ _) | (with_reducible refine Below.setCell ?_ ?_ _) | go_size))

/-- the first k of the transitions lie in the row b, what they lead to lies behind it -/
def TrsRowO (b : Nat) (w : World) (n k : Nat) (ts : List Tr) : Prop := ∃ f, w.rowIs b 116 (n * 2) f ∧ ∀ i, i < k → TrOw (b + 1) w (f (i * 2)) (f (i * 2 + 1)) (ts.getD i ([], []))

theorem TrsRowO.keep {b : Nat} {w w' : World} {n k : Nat} {ts : List Tr} (h : TrsRowO b w n k ts) (hc : Same (b + 1) w w') (hb : w'.heap[b]? = w.heap[b]?) : TrsRowO b w' n k ts := by
  obtain ⟨f, hr, ht⟩ := h
  exact ⟨f, hr.of_block hb, fun i hi => (ht i hi).keep hc⟩

theorem TrsRowO.cells {b : Nat} {w : World} {n k : Nat} {ts : List Tr} (h : TrsRowO b w n k ts) {i : Nat} (hi : i < n) : ∃ v0 v1, w.cell? ⟨b, i * 2, none⟩ = some v0 ∧ w.cell? ⟨b, i * 2 + 1, none⟩ = some v1 ∧ w.frozen? ⟨b, i * 2, none⟩ = false ∧ w.frozen? ⟨b, i * 2 + 1, none⟩ = false := by
  obtain ⟨f, hr, ht⟩ := h
  exact ⟨_, _, hr.cell (by omega), hr.cell (by omega), hr.frozen _, hr.frozen _⟩

theorem TrsRowO.put {b : Nat} {w : World} {n k : Nat} {ts : List Tr} (h : TrsRowO b w n k ts) {v0 v1 : Value} (hk : k < n) (ht : TrOw (b + 1) w v0 v1 (ts.getD k ([], []))) :
    TrsRowO b ((w.setCell ⟨b, k * 2, none⟩ v0).setCell ⟨b, k * 2 + 1, none⟩ v1) n (k + 1) ts := by
  obtain ⟨f, hr, hx⟩ := h
  have hc : Same (b + 1) w ((w.setCell ⟨b, k * 2, none⟩ v0).setCell ⟨b, k * 2 + 1, none⟩ v1) := by (repeat' (first | (with_reducible exact Same.refl _ _) | (with_reducible assumption) | (with_reducible refine Same.alloc ?_ _) | (with_reducible refine Same.drew ?_) | (with_reducible refine Same.drewN ?_ _) | (with_reducible refine Same.set ?_ ?_ _) | go_size))
  refine ⟨_, (hr.set (k * 2) v0).set (k * 2 + 1) v1, fun i hi => ?_⟩
  by_cases e : i = k
  · subst e
    simpa [show ¬ i * 2 = i * 2 + 1 by omega] using ht.keep hc
  · have h1 : ¬ i * 2 = k * 2 + 1 := by omega
    have h2 : ¬ i * 2 = k * 2 := by omega
    have h3 : ¬ i * 2 + 1 = k * 2 + 1 := by omega
    have h4 : ¬ i * 2 + 1 = k * 2 := by omega
    simp only [if_neg h1, if_neg h2, if_neg h3, if_neg h4]
    exact (hx i (by omega)).keep hc

theorem TrsRowO.read {b : Nat} {w : World} {ts : List Tr} (h : TrsRowO b w ts.length ts.length ts) : TrsOw b w (.slice (some ⟨b, 0, none⟩) ts.length ts.length) ts := by
  obtain ⟨f, hr, ht⟩ := h
  refine ⟨_, _, rfl, Nat.le_refl _, Or.inr ⟨b, 0, rfl, Nat.le_refl _, fun i hi => ⟨_, _, ?_, ?_, (ht i hi).low (Nat.le_succ _)⟩⟩⟩
  · rw [Nat.zero_add]; exact hr.cell (by omega)
  · rw [Nat.zero_add]; exact hr.cell (by omega)

set_option maxHeartbeats 400000 in
theorem toTransitionS_ow (v : Value) (ts : List Tr) (w : World) (lo : Nat) (hv : TrsAt lo w v ts) (hs : SmallTrs ts) :
    Calls Try.prog 63 #[v] w (RetTrsO w ts) := by
  obtain ⟨ao, cap, rfl, hc, hz⟩ := hv
  obtain ⟨hn, hsm⟩ := hs
  have hmk := run_make_trs ts.length hn
  have HF := Lib.hid hz; clear hz
  have HS := Lib.hid hsm; clear hsm
  go_enter Try.func63, Try.ntmps63
  go_wp2
  go_loopw [4] (fun i wr => ∃ k : Nat, k ≤ ts.length ∧ i = .int .i64 k ∧ TrsRowO w.heap.size wr ts.length k ts ∧ Below w.heap.size w wr ∧ w.heap.size < wr.heap.size) (fun i _ => ts.length - (intOf i).toNat)
  case atStart =>
    obtain ⟨f, hf⟩ := rowIs_size (w := w) (t := 116) (size_madeCells #[.slice none 0 0, .slice none 0 0] (ts.length * 2))
    exact ⟨0, Nat.zero_le _, rfl, ⟨f, hf, fun i hi => absurd hi (Nat.not_lt_zero _)⟩, (Below.refl _ _).alloc (Nat.le_refl _) _, by simp⟩
  case round =>
    obtain ⟨k, hk, rfl, hrow, hb1, hz1⟩ := hrel
    by_cases hlt : k < ts.length
    · rcases HF.out with rfl | ⟨b, off, rfl, hlo, hcell⟩
      · simp at hlt
      obtain ⟨x0, x1, c0, c1, hx⟩ := hcell k hlt
      have d0 := Carries.of lo hb1 _ _ hlo c0
      have d1 := Carries.of lo hb1 _ _ hlo c1
      obtain ⟨hk1, hk2⟩ := HS.out k hlt
      obtain ⟨t, htk⟩ : ∃ t, t = ts.getD k ([], []) := ⟨_, rfl⟩
      rw [← htk] at hk1 hk2 hx
      have HK := Lib.hid htk; clear htk
      have HX := Lib.hid (hx.keep (Carries.of lo hb1))
      have HR := Lib.hid hrow
      clear hcell c0 c1 hx hrow
      go_wp2_with fail
      refine (toTransition_ow _ _ _ _ lo HX.out hk1 hk2).mono ?_
      rintro e w1 ⟨r0, r1, rfl, ht, hb2⟩
      obtain ⟨⟨p0, q0, rfl, g0⟩, ⟨p1, q1, rfl, g1⟩⟩ := ht
      have ht : TrOw wr.heap.size w1 _ _ t := ⟨⟨p0, q0, rfl, g0⟩, ⟨p1, q1, rfl, g1⟩⟩
      have HT := Lib.hid (ht.low (lo' := w.heap.size + 1) (by omega))
      have hrow1 := HR.out.keep (Same.of _ hb2) (hb2.block _ hz1)
      obtain ⟨y0, y1, e0, e1, f0, f1⟩ := hrow1.cells hlt
      have HR1 := Lib.hid hrow1
      have hz2 : w.heap.size < w1.heap.size := by have := hb2.size; omega
      have hw1 : Below w.heap.size w w1 := hb1.trans (hb2.mono (by omega))
      clear ht hrow1 g0 g1
      go_wp2_with fail
      go_roundw
      case rel => exact ⟨k + 1, by omega, by go_num, HR1.out.put hlt (HK.out ▸ HT.out), by (repeat' (first | (with_reducible exact Below.refl _ _) | (with_reducible assumption) | (with_reducible refine Below.alloc ?_ ?_ _) | (with_reducible refine Below.drew ?_) | (with_reducible refine below_drewN ?_ _) | (with_reducible refine Below.setCell ?_ ?_ _) | go_size)), by simpa using hz2⟩
      case measure => simp [intOf]; omega
    · have hkk : k = ts.length := by omega
      subst hkk
      have HR := Lib.hid hrow; clear hrow
      go_wp2
      go_ret
      exact ⟨_, rfl, HR.out.read, hb1⟩

set_option maxHeartbeats 400000 in
theorem toNet_ow (v : Value) (n : NetD) (w : World) (lo : Nat) (hv : NetAt lo w v n) (hs : SmallTrs n.ts) :
    Calls Try.prog 26 #[v] w (RetNetO w n) := by
  obtain ⟨p, ts⟩ := n
  obtain ⟨hp0, hp1, u, rfl, h0⟩ := hv
  simp only at hp0 hp1 h0 hs ⊢
  have h0' := h0
  obtain ⟨a0, k0, rfl, _, _⟩ := h0'
  have H0 := Lib.hid h0; clear h0
  have HS := Lib.hid hs; clear hs
  go_enter Try.func26, Try.ntmps26
  go_wp2_with fail
  refine (toTransitionS_ow _ ts _ lo (H0.out.keep ?_) HS.out).mono ?_
  · (repeat' (first | (with_reducible exact Carries.refl _ _) | (with_reducible assumption) | (with_reducible refine Carries.alloc ?_ _) | (with_reducible refine Carries.drew ?_) | (with_reducible refine Carries.drewN ?_ _) | (with_reducible refine Carries.set ?_ ?_ _) | go_size))
  rintro e w1 ⟨r0, rfl, hi0, hb0⟩
  obtain ⟨hc, hf⟩ := bcell hb0
  have hi0' := hi0
  obtain ⟨b0, m0, rfl, _, _⟩ := hi0'
  have I0 := Lib.hid hi0; clear hi0
  have hw1 : Below w.heap.size w w1 := by
    refine Below.trans ?_ (hb0.mono ?_)
    · (repeat' (first | (with_reducible exact Below.refl _ _) | (with_reducible assumption) | (with_reducible refine Below.alloc ?_ ?_ _) | (with_reducible refine Below.drew ?_) | (with_reducible refine below_drewN ?_ _) | (with_reducible refine Below.setCell ?_ ?_ _) | go_size))
    · simp; omega
  have hz1 : w.heap.size + 1 + 1 < w1.heap.size := by have := hb0.size; simp at this; omega
  have hz1a : w.heap.size + 1 < w1.heap.size := by omega
  have hz1b : w.heap.size < w1.heap.size := by omega
  go_wp2_with fail
  refine bodyPost_ret (v := .agg #[.int .i64 p, .slice b0 ts.length m0]) (by simp [results, Try.results26, go_sem, hc]) rfl ?_
  refine ⟨_, rfl, ⟨hp0, hp1, _, rfl, (I0.out.keep ?_).low ?_⟩, ?_⟩
  · (repeat' (first | (with_reducible exact Same.refl _ _) | (with_reducible assumption) | (with_reducible refine Same.alloc ?_ _) | (with_reducible refine Same.drew ?_) | (with_reducible refine Same.drewN ?_ _) | (with_reducible refine Same.set ?_ ?_ _) | go_size))
  · simp; omega
  · (repeat' (first | (with_reducible exact Below.refl _ _) | (with_reducible assumption) | (with_reducible refine Below.alloc ?_ ?_ _) | (with_reducible refine Below.drew ?_) | (with_reducible refine below_drewN ?_ _) | (with_reducible refine Below.setCell ?_ ?_ _) | go_size))

end Go.Proofs.Ytigkgfdnnfmmmaa
