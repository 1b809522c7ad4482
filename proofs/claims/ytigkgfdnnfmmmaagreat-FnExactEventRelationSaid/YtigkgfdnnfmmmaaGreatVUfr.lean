/- WALKS: toCondition, toConditionS, toEvent, toEventS, toUnfolding of the laws. -/
import Derived.Test.YtigkgfdnnfmmmaaGreatVInts
import Derived.Test.YtigkgfdnnfmmmaaGreatVNeta
import Derived.Test.YtigkgfdnnfmmmaaGreatVRgd
namespace Go.Proofs.YtigkgfdnnfmmmaaGreat
open Go.RowKit

def RetCs (w : World) (cs : List Cnd) (e : Ending) (w' : World) : Prop := ∃ v, e = .returned v ∧ CndsAt w.heap.size w' v cs ∧ Below w.heap.size w w'
def RetEvs (w : World) (es : List Ev) (e : Ending) (w' : World) : Prop := ∃ v, e = .returned v ∧ EvsAt w.heap.size w' v es ∧ Below w.heap.size w w'
def RetUnf (w : World) (u : UnfD) (e : Ending) (w' : World) : Prop := ∃ v, e = .returned v ∧ UnfAt w.heap.size w' v u ∧ Below w.heap.size w w'
def RetEv (w : World) (t : Int) (L : List Int) (e : Ending) (w' : World) : Prop := ∃ v, e = .returned (.agg #[.int .i64 t, v]) ∧ IntsAt w.heap.size w' v L ∧ Below w.heap.size w w'

set_option maxHeartbeats 400000 in
theorem toCondition_any (s k : Int) (w : World) :
    Calls Tryz.prog 61 #[.agg #[.int .i64 s, .int .i64 k]] w (RetV w (.agg #[.int .i64 s, .int .i64 k])) := by
  go_enter Tryz.func61, Tryz.ntmps61
  go_wp2_with fail
  refine bodyPost_ret (v := .agg #[.int .i64 s, .int .i64 k]) (by simp [results, Tryz.results61, go_sem]) rfl ?_
  exact ⟨rfl, by (repeat' (first | (with_reducible exact Below.refl _ _) | (with_reducible assumption) | (with_reducible refine Below.alloc ?_ ?_ _) | (with_reducible refine Below.drew ?_) | (with_reducible refine below_drewN ?_ _) | (with_reducible refine Below.setCell ?_ ?_ _) | go_size))⟩

theorem Tryz.infoCndz : (Tryz.prog.info? 96).map (fun i => (i.zero, i.size, i.bytes)) = some (some (.agg #[.int .i64 0, .int .i64 0]), 2, 16) := by kernel_rfl

theorem run_make_cnds (n : Nat) (hn : n ≤ 1048576) (w : World) :
    (Instr.makeSlice 35 (.int .i64 (n : Int)) (.int .i64 (n : Int))).run Tryz.prog w = .ok (.slice (some ⟨w.heap.size, 0, none⟩) n n) (w.alloc (.cells (madeCells #[.int .i64 0, .int .i64 0] (n * 2)) 96)) := by
  obtain ⟨i, hi, hzz⟩ := Option.map_eq_some_iff.1 Tryz.infoCndz
  simp only [Prod.mk.injEq] at hzz
  obtain ⟨hz, hs, hb⟩ := hzz
  have hr := run_make (P := Tryz.prog) w 35 96 i _ Tryz.underlying35 hi hz .i64 .i64 n n (by omega) (Int.le_refl _) (by rw [hb]; omega) (by omega)
  rw [hs] at hr
  exact hr

set_option maxHeartbeats 400000 in
theorem toConditionS_any (v : Value) (ss : List Cnd) (w : World) (lo : Nat) (hv : CndsAt lo w v ss) (hn : ss.length ≤ 1048576) :
    Calls Tryz.prog 31 #[v] w (RetCs w ss) := by
  obtain ⟨ao, cap, rfl, hc, hz⟩ := hv
  have hmk := run_make_cnds ss.length hn
  have HF := Lib.hid hz; clear hz
  go_enter Tryz.func31, Tryz.ntmps31
  go_wp2
  go_loopw [4] (fun i wr => ∃ k : Nat, k ≤ ss.length ∧ i = .int .i64 k ∧ PairRow w.heap.size 96 wr ss.length k (fun i => .int .i64 (cnP ss i)) (fun i => .int .i64 (cnB ss i)) ∧ Below w.heap.size w wr ∧ w.heap.size < wr.heap.size) (fun i _ => ss.length - (intOf i).toNat)
  case atStart =>
    obtain ⟨f, hf⟩ := rowIs_size (w := w) (t := 96) (size_madeCells #[.int .i64 0, .int .i64 0] (ss.length * 2))
    exact ⟨0, Nat.zero_le _, rfl, ⟨f, hf, fun i hi => absurd hi (Nat.not_lt_zero _)⟩, (Below.refl _ _).alloc (Nat.le_refl _) _, by simp⟩
  case round =>
    obtain ⟨k, hk, rfl, hrow, hb1, hz1⟩ := hrel
    by_cases hlt : k < ss.length
    · rcases HF.out with h0 | ⟨b, off, rfl, hlo, hcell⟩
      · omega
      obtain ⟨c0, c1⟩ := hcell k hlt
      have d0 := Carries.of lo hb1 _ _ hlo c0
      have d1 := Carries.of lo hb1 _ _ hlo c1
      have HR := Lib.hid hrow
      clear hcell c0 c1 hrow
      go_wp2_with fail
      refine (toCondition_any _ _ _).mono ?_
      rintro e w1 ⟨rfl, hb2⟩
      have hrow1 := HR.out.keep (hb2.block _ hz1)
      obtain ⟨y0, y1, e0, e1, f0, f1⟩ := hrow1.cells hlt
      have HR1 := Lib.hid hrow1
      have hz2 : w.heap.size < w1.heap.size := by have := hb2.size; omega
      have hw1 : Below w.heap.size w w1 := hb1.trans (hb2.mono (by omega))
      clear hrow1
      go_wp2_with fail
      go_roundw
      case rel => exact ⟨k + 1, by omega, by go_num, HR1.out.put hlt rfl rfl, by (repeat' (first | (with_reducible exact Below.refl _ _) | (with_reducible assumption) | (with_reducible refine Below.alloc ?_ ?_ _) | (with_reducible refine Below.drew ?_) | (with_reducible refine below_drewN ?_ _) | (with_reducible refine Below.setCell ?_ ?_ _) | go_size)), by simpa using hz2⟩
      case measure => simp [intOf]; omega
    · have hkk : k = ss.length := by omega
      subst hkk
      have HR := Lib.hid hrow; clear hrow
      go_wp2
      go_ret
      exact ⟨_, rfl, HR.out.read, hb1⟩




set_option maxHeartbeats 400000 in
theorem toEvent_any (t : Int) (v : Value) (L : List Int) (w : World) (lo : Nat) (hv : IntsAt lo w v L) (hn : L.length ≤ 1048576) :
    Calls Tryz.prog 11 #[.agg #[.int .i64 t, v]] w (RetEv w t L) := by
  have h0' := hv
  obtain ⟨a0, k0, rfl, _, _⟩ := h0'
  have H0 := Lib.hid hv; clear hv
  go_enter Tryz.func11, Tryz.ntmps11
  go_wp2_with fail
  refine (toIntS_any _ L _ lo (H0.out.keep ?_) hn).mono ?_
  · (repeat' (first | (with_reducible exact Carries.refl _ _) | (with_reducible assumption) | (with_reducible refine Carries.alloc ?_ _) | (with_reducible refine Carries.drew ?_) | (with_reducible refine Carries.drewN ?_ _) | (with_reducible refine Carries.set ?_ ?_ _) | go_size))
  rintro e w1 ⟨r0, rfl, hi0, hb0⟩
  obtain ⟨hc, hf⟩ := bcell hb0
  have hi0' := hi0
  obtain ⟨b0, m0, rfl, _, _⟩ := hi0'
  have I0 := Lib.hid hi0; clear hi0
  have hw1 : Below w.heap.size w w1 := by
    refine Below.trans ?_ (hb0.mono ?_)
    · (repeat' (first | (with_reducible exact Below.refl _ _) | (with_reducible assumption) | (with_reducible refine Below.alloc ?_ ?_ _) | (with_reducible refine Below.drew ?_) | (with_reducible refine below_drewN ?_ _) | (with_reducible refine Below.setCell ?_ ?_ _) | go_size))
    · simp; omega
  have hz1 : w.heap.size + 1 + 1 < w1.heap.size := by have := hb0.size; simp at this; omega
  have hz1a : w.heap.size + 1 < w1.heap.size := by omega
  have hz1b : w.heap.size < w1.heap.size := by omega
  go_wp2_with fail
  refine bodyPost_ret (v := .agg #[.int .i64 t, .slice b0 L.length m0]) (by simp [results, Tryz.results11, go_sem, hc]) rfl ?_
  refine ⟨_, rfl, (I0.out.keep ?_).low ?_, ?_⟩
  · (repeat' (first | (with_reducible exact Carries.refl _ _) | (with_reducible assumption) | (with_reducible refine Carries.alloc ?_ _) | (with_reducible refine Carries.drew ?_) | (with_reducible refine Carries.drewN ?_ _) | (with_reducible refine Carries.set ?_ ?_ _) | go_size))
  · simp; omega
  · (repeat' (first | (with_reducible exact Below.refl _ _) | (with_reducible assumption) | (with_reducible refine Below.alloc ?_ ?_ _) | (with_reducible refine Below.drew ?_) | (with_reducible refine below_drewN ?_ _) | (with_reducible refine Below.setCell ?_ ?_ _) | go_size))

theorem Tryz.infoEvz : (Tryz.prog.info? 46).map (fun i => (i.zero, i.size, i.bytes)) = some (some (.agg #[.int .i64 0, .slice none 0 0]), 2, 32) := by kernel_rfl

theorem run_make_evs (n : Nat) (hn : n ≤ 1048576) (w : World) :
    (Instr.makeSlice 36 (.int .i64 (n : Int)) (.int .i64 (n : Int))).run Tryz.prog w = .ok (.slice (some ⟨w.heap.size, 0, none⟩) n n) (w.alloc (.cells (madeCells #[.int .i64 0, .slice none 0 0] (n * 2)) 46)) := by
  obtain ⟨i, hi, hzz⟩ := Option.map_eq_some_iff.1 Tryz.infoEvz
  simp only [Prod.mk.injEq] at hzz
  obtain ⟨hz, hs, hb⟩ := hzz
  have hr := run_make (P := Tryz.prog) w 36 46 i _ Tryz.underlying36 hi hz .i64 .i64 n n (by omega) (Int.le_refl _) (by rw [hb]; omega) (by omega)
  rw [hs] at hr
  exact hr

/-- the first k of the events lie in the row b, what they lead to lies behind it -/
def EvsRow (b : Nat) (w : World) (n k : Nat) (es : List Ev) : Prop := ∃ f, w.rowIs b 46 (n * 2) f ∧ ∀ i, i < k → f (i * 2) = .int .i64 (evT es i) ∧ IntsAt (b + 1) w (f (i * 2 + 1)) (evP es i)
theorem EvsRow.keep {b : Nat} {w w' : World} {n k : Nat} {es : List Ev} (h : EvsRow b w n k es) (hc : Carries (b + 1) w w') (hb : w'.heap[b]? = w.heap[b]?) : EvsRow b w' n k es := by
  obtain ⟨f, hr, ht⟩ := h
  exact ⟨f, hr.of_block hb, fun i hi => ⟨(ht i hi).1, (ht i hi).2.keep hc⟩⟩
theorem EvsRow.cells {b : Nat} {w : World} {n k : Nat} {es : List Ev} (h : EvsRow b w n k es) {i : Nat} (hi : i < n) : ∃ v0 v1, w.cell? ⟨b, i * 2, none⟩ = some v0 ∧ w.cell? ⟨b, i * 2 + 1, none⟩ = some v1 ∧ w.frozen? ⟨b, i * 2, none⟩ = false ∧ w.frozen? ⟨b, i * 2 + 1, none⟩ = false := by
  obtain ⟨f, hr, ht⟩ := h
  exact ⟨_, _, hr.cell (by omega), hr.cell (by omega), hr.frozen _, hr.frozen _⟩
theorem EvsRow.put {b : Nat} {w : World} {n k : Nat} {es : List Ev} (h : EvsRow b w n k es) {v1 : Value} (hk : k < n) {t : Int} (h0 : t = evT es k) (ht : IntsAt (b + 1) w v1 (evP es k)) :
    EvsRow b ((w.setCell ⟨b, k * 2, none⟩ (.int .i64 t)).setCell ⟨b, k * 2 + 1, none⟩ v1) n (k + 1) es := by
  subst h0
  obtain ⟨f, hr, hx⟩ := h
  have hc : Carries (b + 1) w ((w.setCell ⟨b, k * 2, none⟩ (.int .i64 (evT es k))).setCell ⟨b, k * 2 + 1, none⟩ v1) := by (repeat' (first | (with_reducible exact Carries.refl _ _) | (with_reducible assumption) | (with_reducible refine Carries.alloc ?_ _) | (with_reducible refine Carries.drew ?_) | (with_reducible refine Carries.drewN ?_ _) | (with_reducible refine Carries.set ?_ ?_ _) | go_size))
  refine ⟨_, (hr.set (k * 2) (.int .i64 (evT es k))).set (k * 2 + 1) v1, fun i hi => ?_⟩
  by_cases e : i = k
  · subst e
    simpa [show ¬ i * 2 = i * 2 + 1 by omega] using ht.keep hc
  · have h1 : ¬ i * 2 = k * 2 + 1 := by omega
    have h2 : ¬ i * 2 = k * 2 := by omega
    have h3 : ¬ i * 2 + 1 = k * 2 + 1 := by omega
    have h4 : ¬ i * 2 + 1 = k * 2 := by omega
    simp only [if_neg h1, if_neg h2, if_neg h3, if_neg h4]
    exact ⟨(hx i (by omega)).1, (hx i (by omega)).2.keep hc⟩
theorem EvsRow.read {b : Nat} {w : World} {es : List Ev} (h : EvsRow b w es.length es.length es) : EvsAt b w (.slice (some ⟨b, 0, none⟩) es.length es.length) es := by
  obtain ⟨f, hr, ht⟩ := h
  refine ⟨_, _, rfl, Nat.le_refl _, Or.inr ⟨b, 0, rfl, Nat.le_refl _, fun i hi => ⟨f (i * 2 + 1), ?_, ?_, (ht i hi).2.low (Nat.le_succ _)⟩⟩⟩
  · rw [Nat.zero_add, hr.cell (by omega), (ht i hi).1]
  · rw [Nat.zero_add]; exact hr.cell (by omega)

set_option maxHeartbeats 400000 in
theorem toEventS_any (v : Value) (es : List Ev) (w : World) (lo : Nat) (hv : EvsAt lo w v es) (hs : SmallEvs es) :
    Calls Tryz.prog 32 #[v] w (RetEvs w es) := by
  obtain ⟨ao, cap, rfl, hc, hz⟩ := hv
  obtain ⟨hn, hsm⟩ := hs
  have hmk := run_make_evs es.length hn
  have HF := Lib.hid hz; clear hz
  have HS := Lib.hid hsm; clear hsm
  go_enter Tryz.func32, Tryz.ntmps32
  go_wp2
  go_loopw [4] (fun i wr => ∃ k : Nat, k ≤ es.length ∧ i = .int .i64 k ∧ EvsRow w.heap.size wr es.length k es ∧ Below w.heap.size w wr ∧ w.heap.size < wr.heap.size) (fun i _ => es.length - (intOf i).toNat)
  case atStart =>
    obtain ⟨f, hf⟩ := rowIs_size (w := w) (t := 46) (size_madeCells #[.int .i64 0, .slice none 0 0] (es.length * 2))
    exact ⟨0, Nat.zero_le _, rfl, ⟨f, hf, fun i hi => absurd hi (Nat.not_lt_zero _)⟩, (Below.refl _ _).alloc (Nat.le_refl _) _, by simp⟩
  case round =>
    obtain ⟨k, hk, rfl, hrow, hb1, hz1⟩ := hrel
    by_cases hlt : k < es.length
    · rcases HF.out with h0 | ⟨b, off, rfl, hlo, hcell⟩
      · omega
      obtain ⟨x1, c0, c1, hx⟩ := hcell k hlt
      have d0 := Carries.of lo hb1 _ _ hlo c0
      have d1 := Carries.of lo hb1 _ _ hlo c1
      have hk1 := HS.out k hlt
      obtain ⟨t, htk⟩ : ∃ t, t = evT es k := ⟨_, rfl⟩
      obtain ⟨L, hLk⟩ : ∃ t, t = evP es k := ⟨_, rfl⟩
      rw [← hLk] at hk1 hx
      rw [← htk] at d0
      have HK := Lib.hid htk; clear htk
      have HL := Lib.hid hLk; clear hLk
      have HX := Lib.hid (hx.keep (Carries.of lo hb1))
      have HR := Lib.hid hrow
      clear hcell c0 c1 hx hrow
      go_wp2_with fail
      refine (toEvent_any _ _ _ _ lo HX.out hk1).mono ?_
      rintro e w1 ⟨r1, rfl, ht, hb2⟩
      obtain ⟨p1, q1, rfl, g1⟩ := ht
      have ht : IntsAt wr.heap.size w1 _ L := ⟨p1, q1, rfl, g1⟩
      have HT := Lib.hid (ht.low (lo' := w.heap.size + 1) (by omega))
      have hrow1 := HR.out.keep (Carries.of _ hb2) (hb2.block _ hz1)
      obtain ⟨y0, y1, e0, e1, f0, f1⟩ := hrow1.cells hlt
      have HR1 := Lib.hid hrow1
      have hz2 : w.heap.size < w1.heap.size := by have := hb2.size; omega
      have hw1 : Below w.heap.size w w1 := hb1.trans (hb2.mono (by omega))
      clear ht hrow1 g1
      go_wp2_with fail
      go_roundw
      case rel => exact ⟨k + 1, by omega, by go_num, HR1.out.put hlt HK.out (HL.out ▸ HT.out), by (repeat' (first | (with_reducible exact Below.refl _ _) | (with_reducible assumption) | (with_reducible refine Below.alloc ?_ ?_ _) | (with_reducible refine Below.drew ?_) | (with_reducible refine below_drewN ?_ _) | (with_reducible refine Below.setCell ?_ ?_ _) | go_size)), by simpa using hz2⟩
      case measure => simp [intOf]; omega
    · have hkk : k = es.length := by omega
      subst hkk
      have HR := Lib.hid hrow; clear hrow
      go_wp2
      go_ret
      exact ⟨_, rfl, HR.out.read, hb1⟩

set_option maxHeartbeats 1000000 in
theorem toUnfolding_any (v : Value) (u : UnfD) (w : World) (lo : Nat) (hv : UnfAt lo w v u) (hs : SmallUnf u) :
    Calls Tryz.prog 10 #[v] w (RetUnf w u) := by
  obtain ⟨a0, c0, a1, c1, rfl, hc_, he_⟩ := hv.form
  clear hv
  obtain ⟨cs, es⟩ := u
  obtain ⟨k1, k2⟩ := hs
  simp only at hc_ he_ k1 k2 ⊢
  have HC := Lib.hid hc_; clear hc_
  have HE := Lib.hid he_; clear he_
  have K2 := Lib.hid k2; clear k2
  go_enter Tryz.func10, Tryz.ntmps10
  go_wp2_with fail
  refine (toConditionS_any _ cs _ lo (HC.out.keep ?_) k1).mono ?_
  · (repeat' (first | (with_reducible exact Carries.refl _ _) | (with_reducible assumption) | (with_reducible refine Carries.alloc ?_ _) | (with_reducible refine Carries.drew ?_) | (with_reducible refine Carries.drewN ?_ _) | (with_reducible refine Carries.set ?_ ?_ _) | go_size))
  rintro e w1 ⟨r0, rfl, hi0, hb0⟩
  obtain ⟨hc, hf⟩ := bcell hb0
  have hw1 : Below w.heap.size w w1 := by
    refine Below.trans ?_ (hb0.mono ?_)
    · go_grown
    · simp; omega
  obtain ⟨b0, m0, rfl⟩ := hi0.form
  have I0 := Lib.hid (hi0.low (lo' := w.heap.size + 3) (by simp)); clear hi0
  have hz1 : w.heap.size + 1 + 1 < w1.heap.size := by have := hb0.size; simp at this; omega
  have hz1a : w.heap.size + 1 < w1.heap.size := by omega
  have hz1b : w.heap.size < w1.heap.size := by omega
  go_wp2_with fail
  refine (toEventS_any _ es _ lo (HE.out.keep (Carries.of lo ?_)) K2.out).mono ?_
  · go_grown
  rintro e w2 ⟨r1, rfl, hi1, hb1⟩
  obtain ⟨hc2, hf2⟩ := bcell hb1
  have hw2 : Below w.heap.size w w2 := by
    refine Below.trans ?_ (hb1.mono ?_)
    · go_grown
    · simp; omega
  have hz2 : w1.heap.size ≤ w2.heap.size := by have := hb1.size; simpa using this
  obtain ⟨b1, m1, rfl⟩ := hi1.form
  have J0 := Lib.hid (I0.out.keep (w' := w2) (Carries.trans (by (repeat' (first | (with_reducible exact Carries.refl _ _) | (with_reducible assumption) | (with_reducible refine Carries.alloc ?_ _) | (with_reducible refine Carries.drew ?_) | (with_reducible refine Carries.drewN ?_ _) | (with_reducible refine Carries.set ?_ ?_ _) | go_size))) (Carries.of _ hb1)))
  have J1 := Lib.hid (hi1.low (lo' := w.heap.size + 3) (by simp; omega)); clear hi1
  go_wp2_with fail
  refine bodyPost_ret (v := .agg #[.slice b0 cs.length m0, .slice b1 es.length m1]) (by simp [results, Tryz.results10, go_sem, hc, hc2, hz1a]) rfl ?_
  refine ⟨_, rfl, ⟨_, _, rfl, (J0.out.keep ?_).low ?_, (J1.out.keep ?_).low ?_⟩, ?_⟩
  · (repeat' (first | (with_reducible exact Carries.refl _ _) | (with_reducible assumption) | (with_reducible refine Carries.alloc ?_ _) | (with_reducible refine Carries.drew ?_) | (with_reducible refine Carries.drewN ?_ _) | (with_reducible refine Carries.set ?_ ?_ _) | go_size))
  · omega
  · (repeat' (first | (with_reducible exact Carries.refl _ _) | (with_reducible assumption) | (with_reducible refine Carries.alloc ?_ _) | (with_reducible refine Carries.drew ?_) | (with_reducible refine Carries.drewN ?_ _) | (with_reducible refine Carries.set ?_ ?_ _) | go_size))
  · omega
  · (repeat' (first | (with_reducible exact Below.refl _ _) | (with_reducible assumption) | (with_reducible refine Below.alloc ?_ ?_ _) | (with_reducible refine Below.drew ?_) | (with_reducible refine below_drewN ?_ _) | (with_reducible refine Below.setCell ?_ ?_ _) | go_size))

end Go.Proofs.YtigkgfdnnfmmmaaGreat
