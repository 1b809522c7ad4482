/- WALKS: toUnfolding, markUnfolding of the laws: an unfolding whose cells may be written (written by gen8/gufw.py). -/
import Derived.Test.YtigkgfdnnfmmmaaGreatVUfr
import Derived.Test.YtigkgfdnnfmmmaaGreatVOwn
import Derived.Test.YtigkgfdnnfmmmaaGreatVMk
import Derived.Test.YtigkgfdnnfmmmaaGreatVUfm
namespace Go.Proofs.YtigkgfdnnfmmmaaGreat
open Go.RowKit

/-- events that may be written: the row's words, and the lists apart -/
def EvsOw (lo : Nat) (w : World) (v : Value) (es : List Ev) : Prop :=
  ∃ (ao : Option Addr) (cap : Nat), v = .slice ao es.length cap ∧ es.length ≤ cap ∧
    (es.length = 0 ∨ ∃ b off, ao = some ⟨b, off, none⟩ ∧ lo ≤ b ∧ ∀ i, i < es.length → ∃ v1, w.cell? ⟨b, off + i * 2, none⟩ = some (.int .i64 (evT es i)) ∧ w.frozen? ⟨b, off + i * 2, none⟩ = false ∧ w.cell? ⟨b, off + i * 2 + 1, none⟩ = some v1 ∧ IntsOw lo w v1 (evP es i))
theorem EvsOw.at {lo : Nat} {w : World} {v : Value} {es : List Ev} (h : EvsOw lo w v es) : EvsAt lo w v es := by
  obtain ⟨ao, cap, hv, hc, hz⟩ := h
  refine ⟨ao, cap, hv, hc, ?_⟩
  rcases hz with hz | ⟨b, off, ha, hlo, hcell⟩
  · exact Or.inl hz
  · refine Or.inr ⟨b, off, ha, hlo, fun i hi => ?_⟩
    obtain ⟨v1, c0, _, c1, ht⟩ := hcell i hi
    exact ⟨v1, c0, c1, ht.at⟩
theorem EvsOw.low {lo lo' : Nat} {w : World} {v : Value} {es : List Ev} (h : EvsOw lo w v es) (hl : lo' ≤ lo) : EvsOw lo' w v es := by
  obtain ⟨ao, cap, hv, hc, hz⟩ := h
  refine ⟨ao, cap, hv, hc, ?_⟩
  rcases hz with hz | ⟨b, off, ha, hlo, hcell⟩
  · exact Or.inl hz
  · refine Or.inr ⟨b, off, ha, Nat.le_trans hl hlo, fun i hi => ?_⟩
    obtain ⟨v1, c0, f0, c1, ht⟩ := hcell i hi
    exact ⟨v1, c0, f0, c1, ht.low hl⟩
theorem EvsOw.keep {lo : Nat} {w w' : World} {v : Value} {es : List Ev} (h : EvsOw lo w v es) (hb : Same lo w w') : EvsOw lo w' v es := by
  obtain ⟨ao, cap, hv, hc, hz⟩ := h
  refine ⟨ao, cap, hv, hc, ?_⟩
  rcases hz with hz | ⟨b, off, ha, hlo, hcell⟩
  · exact Or.inl hz
  · refine Or.inr ⟨b, off, ha, hlo, fun i hi => ?_⟩
    obtain ⟨v1, c0, f0, c1, ht⟩ := hcell i hi
    have he := hb.2 b hlo (by have := cell_old c0; simpa using this)
    exact ⟨v1, (World.cell?_of_block (w := w) (w' := w') (a := ⟨b, off + i * 2, none⟩) he).trans c0, (World.frozen?_of_block (w := w) (w' := w') (a := ⟨b, off + i * 2, none⟩) he).trans f0, (World.cell?_of_block (w := w) (w' := w') (a := ⟨b, off + i * 2 + 1, none⟩) he).trans c1, ht.keep hb⟩
def RetEvW (w : World) (t : Int) (L : List Int) (e : Ending) (w' : World) : Prop := ∃ v, e = .returned (.agg #[.int .i64 t, v]) ∧ IntsOw w.heap.size w' v L ∧ Below w.heap.size w w'
def RetEvsW (w : World) (es : List Ev) (e : Ending) (w' : World) : Prop := ∃ v, e = .returned v ∧ EvsOw w.heap.size w' v es ∧ Below w.heap.size w w'
/-- an unfolding that may be written: its conditions ahead of its events -/
def UnfOw (B : Nat) (w : World) (v : Value) (u : UnfD) : Prop :=
  ∃ m v0 v1, v = .agg #[v0, v1] ∧ B ≤ m ∧ m ≤ w.heap.size ∧ PairBox B m w v0 u.cs.length ∧ EvsOw m w v1 u.es

set_option maxHeartbeats 400000 in
theorem toConditionS_box (v : Value) (ss : List Cnd) (w : World) (lo : Nat) (hv : CndsAt lo w v ss) (hn : ss.length ≤ 1048576) :
    Calls Tryz.prog 31 #[v] w (fun e w' => ∃ v, e = .returned v ∧ CndsAt w.heap.size w' v ss ∧ PairBox w.heap.size w'.heap.size w' v ss.length ∧ Below w.heap.size w w') := by
  obtain ⟨ao, cap, rfl, hc, hz⟩ := hv
  have hmk := run_make_cnds ss.length hn
  have HF := Lib.hid hz; clear hz
  go_enter Tryz.func31, Tryz.ntmps31
  go_wp2
  go_loopw [4] (fun i wr => ∃ k : Nat, k ≤ ss.length ∧ i = .int .i64 k ∧ PairRow w.heap.size 96 wr ss.length k (fun i => .int .i64 (cnP ss i)) (fun i => .int .i64 (cnB ss i)) ∧ Below w.heap.size w wr ∧ w.heap.size < wr.heap.size) (fun i _ => ss.length - (intOf i).toNat)
  case atStart =>
    obtain ⟨f, hf⟩ := rowIs_size (w := w) (t := 96) (size_madeCells #[.int .i64 0, .int .i64 0] (ss.length * 2))
    exact ⟨0, Nat.zero_le _, rfl, ⟨f, hf, fun i hi => absurd hi (Nat.not_lt_zero _)⟩, (Below.refl _ _).alloc (Nat.le_refl _) _, by simp⟩
  case round =>
    obtain ⟨k, hk, rfl, hrow, hb1, hz1⟩ := hrel
    by_cases hlt : k < ss.length
    · rcases HF.out with h0 | ⟨b, off, rfl, hlo, hcell⟩
      · omega
      obtain ⟨c0, c1⟩ := hcell k hlt
      have d0 := Carries.of lo hb1 _ _ hlo c0
      have d1 := Carries.of lo hb1 _ _ hlo c1
      have HR := Lib.hid hrow
      clear hcell c0 c1 hrow
      go_wp2_with fail
      refine (toCondition_any _ _ _).mono ?_
      rintro e w1 ⟨rfl, hb2⟩
      have hrow1 := HR.out.keep (hb2.block _ hz1)
      obtain ⟨y0, y1, e0, e1, f0, f1⟩ := hrow1.cells hlt
      have HR1 := Lib.hid hrow1
      have hz2 : w.heap.size < w1.heap.size := by have := hb2.size; omega
      have hw1 : Below w.heap.size w w1 := hb1.trans (hb2.mono (by omega))
      clear hrow1
      go_wp2_with fail
      go_roundw
      case rel => exact ⟨k + 1, by omega, by go_num, HR1.out.put hlt rfl rfl, by (repeat' (first | (with_reducible exact Below.refl _ _) | (with_reducible assumption) | (with_reducible refine Below.alloc ?_ ?_ _) | (with_reducible refine Below.drew ?_) | (with_reducible refine below_drewN ?_ _) | (with_reducible refine Below.setCell ?_ ?_ _) | go_size)), by simpa using hz2⟩
      case measure => simp [intOf]; omega
    · have hkk : k = ss.length := by omega
      subst hkk
      have HR := Lib.hid hrow; clear hrow
      go_wp2
      go_ret
      exact ⟨_, rfl, HR.out.read, HR.out.box.wide (Nat.le_refl _) hz1, hb1⟩

set_option maxHeartbeats 400000 in
theorem toEvent_ow (t : Int) (v : Value) (L : List Int) (w : World) (lo : Nat) (hv : IntsAt lo w v L) (hn : L.length ≤ 1048576) :
    Calls Tryz.prog 11 #[.agg #[.int .i64 t, v]] w (RetEvW w t L) := by
  have h0' := hv
  obtain ⟨a0, k0, rfl, _, _⟩ := h0'
  have H0 := Lib.hid hv; clear hv
  go_enter Tryz.func11, Tryz.ntmps11
  go_wp2_with fail
  refine (toIntS_ow _ L _ lo (H0.out.keep ?_) hn).mono ?_
  · (repeat' (first | (with_reducible exact Carries.refl _ _) | (with_reducible assumption) | (with_reducible refine Carries.alloc ?_ _) | (with_reducible refine Carries.drew ?_) | (with_reducible refine Carries.drewN ?_ _) | (with_reducible refine Carries.set ?_ ?_ _) | go_size))
  rintro e w1 ⟨r0, rfl, hi0, hb0⟩
  obtain ⟨hc, hf⟩ := bcell hb0
  have hi0' := hi0
  obtain ⟨b0, m0, rfl, _, _⟩ := hi0'
  have I0 := Lib.hid hi0; clear hi0
  have hw1 : Below w.heap.size w w1 := by
    refine Below.trans ?_ (hb0.mono ?_)
    · (repeat' (first | (with_reducible exact Below.refl _ _) | (with_reducible assumption) | (with_reducible refine Below.alloc ?_ ?_ _) | (with_reducible refine Below.drew ?_) | (with_reducible refine below_drewN ?_ _) | (with_reducible refine Below.setCell ?_ ?_ _) | go_size))
    · simp; omega
  have hz1 : w.heap.size + 1 + 1 < w1.heap.size := by have := hb0.size; simp at this; omega
  have hz1a : w.heap.size + 1 < w1.heap.size := by omega
  have hz1b : w.heap.size < w1.heap.size := by omega
  go_wp2_with fail
  refine bodyPost_ret (v := .agg #[.int .i64 t, .slice b0 L.length m0]) (by simp [results, Tryz.results11, go_sem, hc]) rfl ?_
  refine ⟨_, rfl, (I0.out.keep ?_).low ?_, ?_⟩
  · (repeat' (first | (with_reducible exact Same.refl _ _) | (with_reducible assumption) | (with_reducible refine Same.alloc ?_ _) | (with_reducible refine Same.drew ?_) | (with_reducible refine Same.drewN ?_ _) | (with_reducible refine Same.set ?_ ?_ _) | go_size))
  · simp; omega
  · (repeat' (first | (with_reducible exact Below.refl _ _) | (with_reducible assumption) | (with_reducible refine Below.alloc ?_ ?_ _) | (with_reducible refine Below.drew ?_) | (with_reducible refine below_drewN ?_ _) | (with_reducible refine Below.setCell ?_ ?_ _) | go_size))

/-- the first k of the events lie in the row b, what they lead to lies behind it -/
def EvsRowO (b : Nat) (w : World) (n k : Nat) (es : List Ev) : Prop := ∃ f, w.rowIs b 46 (n * 2) f ∧ ∀ i, i < k → f (i * 2) = .int .i64 (evT es i) ∧ IntsOw (b + 1) w (f (i * 2 + 1)) (evP es i)
theorem EvsRowO.keep {b : Nat} {w w' : World} {n k : Nat} {es : List Ev} (h : EvsRowO b w n k es) (hc : Same (b + 1) w w') (hb : w'.heap[b]? = w.heap[b]?) : EvsRowO b w' n k es := by
  obtain ⟨f, hr, ht⟩ := h
  exact ⟨f, hr.of_block hb, fun i hi => ⟨(ht i hi).1, (ht i hi).2.keep hc⟩⟩
theorem EvsRowO.cells {b : Nat} {w : World} {n k : Nat} {es : List Ev} (h : EvsRowO b w n k es) {i : Nat} (hi : i < n) : ∃ v0 v1, w.cell? ⟨b, i * 2, none⟩ = some v0 ∧ w.cell? ⟨b, i * 2 + 1, none⟩ = some v1 ∧ w.frozen? ⟨b, i * 2, none⟩ = false ∧ w.frozen? ⟨b, i * 2 + 1, none⟩ = false := by
  obtain ⟨f, hr, ht⟩ := h
  exact ⟨_, _, hr.cell (by omega), hr.cell (by omega), hr.frozen _, hr.frozen _⟩
theorem EvsRowO.put {b : Nat} {w : World} {n k : Nat} {es : List Ev} (h : EvsRowO b w n k es) {v1 : Value} (hk : k < n) {t : Int} (h0 : t = evT es k) (ht : IntsOw (b + 1) w v1 (evP es k)) :
    EvsRowO b ((w.setCell ⟨b, k * 2, none⟩ (.int .i64 t)).setCell ⟨b, k * 2 + 1, none⟩ v1) n (k + 1) es := by
  subst h0
  obtain ⟨f, hr, hx⟩ := h
  have hc : Same (b + 1) w ((w.setCell ⟨b, k * 2, none⟩ (.int .i64 (evT es k))).setCell ⟨b, k * 2 + 1, none⟩ v1) := by (repeat' (first | (with_reducible exact Same.refl _ _) | (with_reducible assumption) | (with_reducible refine Same.alloc ?_ _) | (with_reducible refine Same.drew ?_) | (with_reducible refine Same.drewN ?_ _) | (with_reducible refine Same.set ?_ ?_ _) | go_size))
  refine ⟨_, (hr.set (k * 2) (.int .i64 (evT es k))).set (k * 2 + 1) v1, fun i hi => ?_⟩
  by_cases e : i = k
  · subst e
    simpa [show ¬ i * 2 = i * 2 + 1 by omega] using ht.keep hc
  · have h1 : ¬ i * 2 = k * 2 + 1 := by omega
    have h2 : ¬ i * 2 = k * 2 := by omega
    have h3 : ¬ i * 2 + 1 = k * 2 + 1 := by omega
    have h4 : ¬ i * 2 + 1 = k * 2 := by omega
    simp only [if_neg h1, if_neg h2, if_neg h3, if_neg h4]
    exact ⟨(hx i (by omega)).1, (hx i (by omega)).2.keep hc⟩
theorem EvsRowO.read {b : Nat} {w : World} {es : List Ev} (h : EvsRowO b w es.length es.length es) : EvsOw b w (.slice (some ⟨b, 0, none⟩) es.length es.length) es := by
  obtain ⟨f, hr, ht⟩ := h
  refine ⟨_, _, rfl, Nat.le_refl _, Or.inr ⟨b, 0, rfl, Nat.le_refl _, fun i hi => ⟨f (i * 2 + 1), ?_, hr.frozen _, ?_, (ht i hi).2.low (Nat.le_succ _)⟩⟩⟩
  · rw [Nat.zero_add, hr.cell (by omega), (ht i hi).1]
  · rw [Nat.zero_add]; exact hr.cell (by omega)

set_option maxHeartbeats 400000 in
theorem toEventS_ow (v : Value) (es : List Ev) (w : World) (lo : Nat) (hv : EvsAt lo w v es) (hs : SmallEvs es) :
    Calls Tryz.prog 32 #[v] w (RetEvsW w es) := by
  obtain ⟨ao, cap, rfl, hc, hz⟩ := hv
  obtain ⟨hn, hsm⟩ := hs
  have hmk := run_make_evs es.length hn
  have HF := Lib.hid hz; clear hz
  have HS := Lib.hid hsm; clear hsm
  go_enter Tryz.func32, Tryz.ntmps32
  go_wp2
  go_loopw [4] (fun i wr => ∃ k : Nat, k ≤ es.length ∧ i = .int .i64 k ∧ EvsRowO w.heap.size wr es.length k es ∧ Below w.heap.size w wr ∧ w.heap.size < wr.heap.size) (fun i _ => es.length - (intOf i).toNat)
  case atStart =>
    obtain ⟨f, hf⟩ := rowIs_size (w := w) (t := 46) (size_madeCells #[.int .i64 0, .slice none 0 0] (es.length * 2))
    exact ⟨0, Nat.zero_le _, rfl, ⟨f, hf, fun i hi => absurd hi (Nat.not_lt_zero _)⟩, (Below.refl _ _).alloc (Nat.le_refl _) _, by simp⟩
  case round =>
    obtain ⟨k, hk, rfl, hrow, hb1, hz1⟩ := hrel
    by_cases hlt : k < es.length
    · rcases HF.out with h0 | ⟨b, off, rfl, hlo, hcell⟩
      · omega
      obtain ⟨x1, c0, c1, hx⟩ := hcell k hlt
      have d0 := Carries.of lo hb1 _ _ hlo c0
      have d1 := Carries.of lo hb1 _ _ hlo c1
      have hk1 := HS.out k hlt
      obtain ⟨t, htk⟩ : ∃ t, t = evT es k := ⟨_, rfl⟩
      obtain ⟨L, hLk⟩ : ∃ t, t = evP es k := ⟨_, rfl⟩
      rw [← hLk] at hk1 hx
      rw [← htk] at d0
      have HK := Lib.hid htk; clear htk
      have HL := Lib.hid hLk; clear hLk
      have HX := Lib.hid (hx.keep (Carries.of lo hb1))
      have HR := Lib.hid hrow
      clear hcell c0 c1 hx hrow
      go_wp2_with fail
      refine (toEvent_ow _ _ _ _ lo HX.out hk1).mono ?_
      rintro e w1 ⟨r1, rfl, ht, hb2⟩
      obtain ⟨p1, q1, rfl, g1⟩ := ht
      have ht : IntsOw wr.heap.size w1 _ L := ⟨p1, q1, rfl, g1⟩
      have HT := Lib.hid (ht.low (lo' := w.heap.size + 1) (by omega))
      have hrow1 := HR.out.keep (Same.of _ hb2) (hb2.block _ hz1)
      obtain ⟨y0, y1, e0, e1, f0, f1⟩ := hrow1.cells hlt
      have HR1 := Lib.hid hrow1
      have hz2 : w.heap.size < w1.heap.size := by have := hb2.size; omega
      have hw1 : Below w.heap.size w w1 := hb1.trans (hb2.mono (by omega))
      clear ht hrow1 g1
      go_wp2_with fail
      go_roundw
      case rel => exact ⟨k + 1, by omega, by go_num, HR1.out.put hlt HK.out (HL.out ▸ HT.out), by (repeat' (first | (with_reducible exact Below.refl _ _) | (with_reducible assumption) | (with_reducible refine Below.alloc ?_ ?_ _) | (with_reducible refine Below.drew ?_) | (with_reducible refine below_drewN ?_ _) | (with_reducible refine Below.setCell ?_ ?_ _) | go_size)), by simpa using hz2⟩
      case measure => simp [intOf]; omega
    · have hkk : k = es.length := by omega
      subst hkk
      have HR := Lib.hid hrow; clear hrow
      go_wp2
      go_ret
      exact ⟨_, rfl, HR.out.read, hb1⟩

set_option maxHeartbeats 1000000 in
theorem toUnfolding_ow (v : Value) (u : UnfD) (w : World) (lo : Nat) (hv : UnfAt lo w v u) (hs : SmallUnf u) :
    Calls Tryz.prog 10 #[v] w (fun e w' => ∃ v, e = .returned v ∧ UnfOw w.heap.size w' v u ∧ UnfAt w.heap.size w' v u ∧ Below w.heap.size w w') := by
  obtain ⟨a0, c0, a1, c1, rfl, hc_, he_⟩ := hv.form
  clear hv
  obtain ⟨cs, es⟩ := u
  obtain ⟨k1, k2⟩ := hs
  simp only at hc_ he_ k1 k2 ⊢
  have HC := Lib.hid hc_; clear hc_
  have HE := Lib.hid he_; clear he_
  have K2 := Lib.hid k2; clear k2
  go_enter Tryz.func10, Tryz.ntmps10
  go_wp2_with fail
  refine (toConditionS_box _ cs _ lo (HC.out.keep ?_) k1).mono ?_
  · (repeat' (first | (with_reducible exact Carries.refl _ _) | (with_reducible assumption) | (with_reducible refine Carries.alloc ?_ _) | (with_reducible refine Carries.drew ?_) | (with_reducible refine Carries.drewN ?_ _) | (with_reducible refine Carries.set ?_ ?_ _) | go_size))
  rintro e w1 ⟨r0, rfl, hi0, hx0, hb0⟩
  obtain ⟨hc, hf⟩ := bcell hb0
  have hw1 : Below w.heap.size w w1 := by
    refine Below.trans ?_ (hb0.mono ?_)
    · go_grown
    · simp; omega
  obtain ⟨b0, m0, rfl⟩ := hi0.form
  have X0 := Lib.hid hx0; clear hx0
  have I0 := Lib.hid (hi0.low (lo' := w.heap.size + 3) (by simp)); clear hi0
  have hz1 : w.heap.size + 1 + 1 < w1.heap.size := by have := hb0.size; simp at this; omega
  have hz1a : w.heap.size + 1 < w1.heap.size := by omega
  have hz1b : w.heap.size < w1.heap.size := by omega
  go_wp2_with fail
  refine (toEventS_ow _ es _ lo (HE.out.keep (Carries.of lo ?_)) K2.out).mono ?_
  · go_grown
  rintro e w2 ⟨r1, rfl, hi1, hb1⟩
  obtain ⟨hc2, hf2⟩ := bcell hb1
  have hw2 : Below w.heap.size w w2 := by
    refine Below.trans ?_ (hb1.mono ?_)
    · go_grown
    · simp; omega
  have hz2 : w1.heap.size ≤ w2.heap.size := by have := hb1.size; simpa using this
  obtain ⟨b1, m1, rfl⟩ := hi1.at.form
  have hsz : w1.heap.size ≤ w2.heap.size := hz2
  have J0 := Lib.hid (I0.out.keep (w' := w2) (Carries.trans (by (repeat' (first | (with_reducible exact Carries.refl _ _) | (with_reducible assumption) | (with_reducible refine Carries.alloc ?_ _) | (with_reducible refine Carries.drew ?_) | (with_reducible refine Carries.drewN ?_ _) | (with_reducible refine Carries.set ?_ ?_ _) | go_size))) (Carries.of _ hb1)))
  have J1 := Lib.hid (hi1.low (lo' := w1.heap.size) (by simp)); clear hi1
  have X2 := Lib.hid ((X0.out.set _ _).after hb1)
  go_wp2_with fail
  refine bodyPost_ret (v := .agg #[.slice b0 cs.length m0, .slice b1 es.length m1]) (by simp [results, Tryz.results10, go_sem, hc, hc2, hz1a]) rfl ?_
  have X3 := ((X2.out.set ⟨w.heap.size + 1 + 1, 1, none⟩ (.slice b1 es.length m1)).set ⟨w.heap.size + 1, 0, none⟩ (.slice b0 cs.length m0)).set ⟨w.heap.size + 1, 1, none⟩ (.slice b1 es.length m1)
  have hJ : EvsOw w1.heap.size (((w2.setCell ⟨w.heap.size + 1 + 1, 1, none⟩ (.slice b1 es.length m1)).setCell ⟨w.heap.size + 1, 0, none⟩ (.slice b0 cs.length m0)).setCell ⟨w.heap.size + 1, 1, none⟩ (.slice b1 es.length m1)) (.slice b1 es.length m1) es := J1.out.keep (by (repeat' (first | (with_reducible exact Same.refl _ _) | (with_reducible assumption) | (with_reducible refine Same.alloc ?_ _) | (with_reducible refine Same.drew ?_) | (with_reducible refine Same.drewN ?_ _) | (with_reducible refine Same.set ?_ ?_ _) | go_size)))
  refine ⟨_, rfl, ⟨w1.heap.size, _, _, rfl, by omega, by simpa using hz2, X3.wide (by simp; omega) (Nat.le_refl _), hJ⟩, ⟨_, _, rfl, (J0.out.keep ?_).low ?_, hJ.at.low ?_⟩, ?_⟩
  · (repeat' (first | (with_reducible exact Carries.refl _ _) | (with_reducible assumption) | (with_reducible refine Carries.alloc ?_ _) | (with_reducible refine Carries.drew ?_) | (with_reducible refine Carries.drewN ?_ _) | (with_reducible refine Carries.set ?_ ?_ _) | go_size))
  · omega
  · omega
  · (repeat' (first | (with_reducible exact Below.refl _ _) | (with_reducible assumption) | (with_reducible refine Below.alloc ?_ ?_ _) | (with_reducible refine Below.drew ?_) | (with_reducible refine below_drewN ?_ _) | (with_reducible refine Below.setCell ?_ ?_ _) | go_size))

/-- the marks of the first k events -/
def totE (es : List Ev) : Nat → Nat
  | 0 => 0
  | k + 1 => totE es k + 1 + (evP es k).length
theorem totE_le {es : List Ev} (hs : SmallEvs es) : ∀ k, k ≤ es.length → totE es k ≤ k * 1048577
  | 0, _ => by simp [totE]
  | k + 1, h => by
    have h1 := totE_le hs k (by omega)
    have h2 := hs.2 k (by omega)
    simp only [totE]
    omega

set_option maxRecDepth 100000 in
set_option maxHeartbeats 1000000 in
theorem markEventS_any (v : Value) (es : List Ev) (k : Int) (w0 w : World) (lo : Nat) (hv : EvsOw lo w0 v es) (hsm : Same lo w0 w) (hs : SmallEvs es) (h0 : 0 ≤ k) (h1 : k ≤ 4398046511104) :
    Calls Tryz.prog 44 #[v, .int .i64 k] w (fun e w' => e = .returned (.int .i64 (k + (totE es es.length : Nat))) ∧ Marks lo w0.heap.size w w') := by
  obtain ⟨ao, cap, rfl, hc, hz⟩ := hv
  have HF := Lib.hid hz; clear hz
  have HT := Lib.hid (totE_le hs)
  obtain ⟨hn, hsl⟩ := hs
  have HS := Lib.hid hsl; clear hsl
  have HM := Lib.hid hsm; clear hsm
  obtain ⟨T, hT⟩ : ∃ T, T = totE es := ⟨_, rfl⟩
  have hTs : ∀ j, T (j + 1) = T j + 1 + (evP es j).length := fun j => by rw [hT]; rfl
  have hT0 : T 0 = 0 := by rw [hT]; rfl
  rw [← hT] at HT ⊢
  have HTS := Lib.hid hTs; clear hTs hT
  go_enter Tryz.func44, Tryz.ntmps44
  go_wp2_with fail
  go_loopw [1, 5] (fun kv i wr => ∃ j : Nat, j ≤ es.length ∧ i = .int .i64 j ∧ kv = .int .i64 (k + (T j : Nat)) ∧ Marks lo w0.heap.size w wr) (fun _ i _ => es.length - (intOf i).toNat)
  case atStart => exact ⟨0, Nat.zero_le _, rfl, by simp [hT0], Marks.refl _ _ _⟩
  case round =>
    obtain ⟨j, hj, rfl, rfl, hm⟩ := hrel
    by_cases hlt : j < es.length
    · rcases HF.out with h | ⟨b, off, rfl, hlo, hcell⟩
      · omega
      obtain ⟨x1, c0, f0, c1, hx1⟩ := hcell j hlt
      have s1 := HS.out j hlt
      have tj := HT.out j hj
      have tj1 := HTS.out j
      obtain ⟨X, hX⟩ : ∃ X, X = evP es j := ⟨_, rfl⟩
      rw [← hX] at hx1 s1 tj1
      have hob : b < w0.heap.size := by have := cell_old c0; simpa using this
      have he := HM.out.2 b hlo hob
      have B1 := (hx1.box.same HM.out).marks hm
      obtain ⟨p1, q1, rfl, _, _⟩ := hx1
      obtain ⟨z0, d0⟩ := hm.int _ _ ((World.cell?_of_block (w := w0) (w' := w) (a := ⟨b, off + j * 2, none⟩) he).trans c0)
      have g0 : wr.frozen? ⟨b, off + j * 2, none⟩ = false := (hm.frozen _).trans ((World.frozen?_of_block (w := w0) (w' := w) (a := ⟨b, off + j * 2, none⟩) he).trans f0)
      have e1 := (World.cell?_of_block (w := w0) (w' := w) (a := ⟨b, off + j * 2 + 1, none⟩) he).trans c1
      have hm2 := hm.set d0 hlo hob (k + (T j : Nat))
      have d1 := hm2.slice _ _ _ _ e1
      have B2 := Lib.hid (B1.marks ((Marks.refl lo w0.heap.size wr).set d0 hlo hob (k + (T j : Nat))))
      have MM := Lib.hid hm2
      clear hcell c0 c1 f0 he hX hm hm2 e1 B1
      go_wp2_with fail
      refine (markIntS_any _ X.length _ _ lo w0.heap.size B2.out s1 (by omega) (by omega)).mono ?_
      rintro e w1 ⟨rfl, hm1, _⟩
      have MM1 := Lib.hid (MM.out.trans hm1)
      clear hm1 d1 d0 g0
      go_wp2_with fail
      go_roundw
      case rel => exact ⟨j + 1, by omega, by go_num, by simp [tj1, Int.add_assoc], MM1.out⟩
      case measure => simp [intOf]; omega
    · have hjj : j = es.length := by omega
      subst hjj
      go_wp2_with fail
      go_ret
      exact ⟨rfl, hm⟩

set_option maxRecDepth 100000 in
set_option maxHeartbeats 1000000 in
theorem markConditionS_in (v : Value) (n : Nat) (k : Int) (w : World) (lo hi : Nat) (hv : PairBox lo hi w v n) (hn : n ≤ 1048576) (h0 : 0 ≤ k) (h1 : k ≤ 109951162777600) :
    Calls Tryz.prog 43 #[v, .int .i64 k] w (fun e w' => e = .returned (.int .i64 (k + 2 * (n : Int))) ∧ Stir lo hi w w') := by
  obtain ⟨ao, cap, rfl⟩ := hv.form
  have HB := Lib.hid hv; clear hv
  go_enter Tryz.func43, Tryz.ntmps43
  go_wp2_with fail
  go_loopw [1, 5] (fun kv i wr => ∃ j : Nat, j ≤ n ∧ i = .int .i64 j ∧ kv = .int .i64 (k + 2 * (j : Int)) ∧ Stir lo hi w wr ∧ Hid (PairBox lo hi wr (.slice ao n cap) n) ∧ Hid (∀ b off, ao = some ⟨b, off, none⟩ → ∀ q, q < j → wr.cell? ⟨b, off + q * 2, none⟩ = some (.int .i64 (cnP (markedCnds k n) q)) ∧ wr.cell? ⟨b, off + q * 2 + 1, none⟩ = some (.int .i64 (cnB (markedCnds k n) q)))) (fun _ i _ => n - (intOf i).toNat)
  case atStart => exact ⟨0, Nat.zero_le _, rfl, by simp, Stir.refl _ _ _, HB.out, fun _ _ _ q hq => absurd hq (Nat.not_lt_zero _)⟩
  case round =>
    obtain ⟨j, hj, rfl, rfl, hm, hbox, hex⟩ := hrel
    by_cases hlt : j < n
    · obtain ⟨a, c, e, hz⟩ := id hbox.out
      simp only [Value.slice.injEq, true_and] at e
      obtain ⟨rfl, rfl⟩ := e
      rcases hz with h | ⟨b, off, rfl, hlo, hhi, hcell⟩
      · omega
      obtain ⟨⟨u0, c0⟩, f0⟩ := hcell (j * 2) (by omega)
      obtain ⟨⟨u1, c1⟩, f1⟩ := hcell (j * 2 + 1) (by omega)
      rw [← Nat.add_assoc] at c1 f1
      clear hcell
      have HM3 := Lib.hid (fun (u : Value) => (hm.set (p := ⟨b, off + j * 2, none⟩) hlo hhi (.int .i64 (k + 2 * (j : Int)))).set (p := ⟨b, off + j * 2 + 1, none⟩) hlo hhi u)
      have HB3 := Lib.hid (fun (u : Value) => (hbox.out.set ⟨b, off + j * 2, none⟩ (.int .i64 (k + 2 * (j : Int)))).set ⟨b, off + j * 2 + 1, none⟩ u)
      have HE3 : Hid (∀ u, u = k + 2 * (j : Int) + 1 → ∀ b' off', some (⟨b, off, none⟩ : Addr) = some ⟨b', off', none⟩ → ∀ q, q < j + 1 → ((wr.setCell ⟨b, off + j * 2, none⟩ (.int .i64 (k + 2 * (j : Int)))).setCell ⟨b, off + j * 2 + 1, none⟩ (.int .i64 u)).cell? ⟨b', off' + q * 2, none⟩ = some (.int .i64 (cnP (markedCnds k n) q)) ∧ ((wr.setCell ⟨b, off + j * 2, none⟩ (.int .i64 (k + 2 * (j : Int)))).setCell ⟨b, off + j * 2 + 1, none⟩ (.int .i64 u)).cell? ⟨b', off' + q * 2 + 1, none⟩ = some (.int .i64 (cnB (markedCnds k n) q))) := by
        intro u hu b' off' he q hq
        obtain ⟨rfl, rfl⟩ : b = b' ∧ off = off' := by simpa using he
        have m1 : (wr.setCell ⟨b, off + j * 2, none⟩ (.int .i64 (k + 2 * (j : Int)))).cell? ⟨b, off + j * 2 + 1, none⟩ = some u1 := (World.cell?_setCell_other _ _ _ _ (by intro h; injection h with h1 h2 h3; omega)).trans c1
        by_cases e : q = j
        · subst e
          rw [markedCnds_S hlt, markedCnds_U hlt, ← hu]
          exact ⟨(World.cell?_setCell_other _ _ _ _ (by intro h; injection h with h1 h2 h3; omega)).trans (World.cell?_setCell_same _ _ _ c0), World.cell?_setCell_same _ _ _ m1⟩
        · obtain ⟨q0, q1⟩ := hex.out b off rfl q (by omega)
          exact ⟨(World.cell?_setCell_other _ _ _ _ (by intro h; injection h with h1 h2 h3; omega)).trans ((World.cell?_setCell_other _ _ _ _ (by intro h; injection h with h1 h2 h3; omega)).trans q0),
            (World.cell?_setCell_other _ _ _ _ (by intro h; injection h with h1 h2 h3; omega)).trans ((World.cell?_setCell_other _ _ _ _ (by intro h; injection h with h1 h2 h3; omega)).trans q1)⟩
      clear hm hbox hex
      go_wp2_with fail
      go_roundw
      case rel =>
        exact ⟨j + 1, by omega, by go_num, by simp; omega, HM3.out _, HB3.out _, HE3.out _ rfl⟩
      case measure => simp [intOf]; omega
    · have hjj : j = n := by omega
      subst hjj
      have HX := Lib.hid hex.out; clear hex
      have HBB := Lib.hid hbox.out; clear hbox
      go_wp2_with fail
      go_ret
      exact ⟨rfl, hm⟩

set_option maxRecDepth 100000 in
set_option maxHeartbeats 1000000 in
theorem markUnfolding_any (v : Value) (u : UnfD) (k : Int) (w0 w : World) (B : Nat) (hv : UnfOw B w0 v u) (hsm : Same B w0 w) (hs : SmallUnf u) (h0 : 0 ≤ k) (h1 : k ≤ 2200000000000) :
    Calls Tryz.prog 17 #[v, .int .i64 k] w (fun e w' => ∃ r : Int, e = .returned (.int .i64 r) ∧ 0 ≤ r ∧ r ≤ k + 1099600000000 ∧ Stir B w0.heap.size w w') := by
  obtain ⟨m, v0, v1, rfl, hBm, hmw, hbx, hev⟩ := hv
  obtain ⟨cs, es⟩ := u
  obtain ⟨k1, k2⟩ := hs
  simp only at hbx hev k1 k2 ⊢
  have z0 := hsm.1
  have hbx' : PairBox B m w v0 cs.length := by
    obtain ⟨ao, cap, hv, hz⟩ := hbx
    refine ⟨ao, cap, hv, ?_⟩
    rcases hz with hz | ⟨b, off, ha, q1, q2, hcell⟩
    · exact Or.inl hz
    · refine Or.inr ⟨b, off, ha, q1, q2, fun i hi => ?_⟩
      obtain ⟨⟨u, hu⟩, hf⟩ := hcell i hi
      have he := hsm.2 b (by omega) (by have := cell_old hu; simpa using this)
      exact ⟨⟨u, (World.cell?_of_block (w := w0) (w' := w) (a := ⟨b, off + i, none⟩) he).trans hu⟩, (World.frozen?_of_block (w := w0) (w' := w) (a := ⟨b, off + i, none⟩) he).trans hf⟩
  obtain ⟨a0, c0, e0⟩ := hev.at.form
  subst e0
  obtain ⟨a1, c1, hc1, e1, hcc⟩ : ∃ a1 c1 : _, ∃ hc1 : v0 = .slice a1 cs.length c1, True ∧ True := by
    obtain ⟨ao, cap, hv, _⟩ := hbx
    exact ⟨ao, cap, hv, trivial, trivial⟩
  subst hc1
  clear e1 hcc hbx
  have HSM := Lib.hid (show Same m w0 w from ⟨hsm.1, fun b h1 h2 => hsm.2 b (by omega) h2⟩)
  have HBX := Lib.hid hbx'; clear hbx'
  have HEV := Lib.hid hev; clear hev
  have hT := totE_le k2 es.length (Nat.le_refl _)
  have hl := k2.1
  have K2 := Lib.hid k2; clear k2
  have hal : Below w.heap.size w (w.alloc (.cells #[.slice a1 cs.length c1, .slice a0 es.length c0] 38)) := (Below.refl _ _).alloc (Nat.le_refl _) _
  have x1 : (w.alloc (.cells #[.slice a1 cs.length c1, .slice a0 es.length c0] 38)).cell? ⟨w.heap.size, 1, none⟩ = some (.slice a0 es.length c0) := by simp
  go_enter Tryz.func17, Tryz.ntmps17
  go_wp2_with fail
  generalize w.alloc (.cells #[.slice a1 cs.length c1, .slice a0 es.length c0] 38) = W at hal x1 ⊢
  have zW := hal.size
  refine (markConditionS_in _ cs.length k W B m (HBX.out.after hal) k1 h0 (by omega)).mono ?_
  rintro e w1 ⟨rfl, hst⟩
  have y1 := hst.cell (Or.inr (by simp; omega)) x1
  have ST1 : Stir B w0.heap.size w w1 := (Stir.of _ _ hal).trans (hst.wide (Nat.le_refl _) hmw)
  have HS1 := Lib.hid ((HSM.out.trans (Same.of _ hal)).trans (show Same m W w1 from ⟨hst.size, fun b h1 h2 => hst.block b h2 (Or.inr h1)⟩))
  clear hst x1 HBX
  go_wp2_with fail
  refine (markEventS_any _ es _ w0 w1 m HEV.out HS1.out K2.out (by omega) (by omega)).mono ?_
  rintro e w2 ⟨rfl, hmk⟩
  have ST2 := ST1.trans ((show Stir m w0.heap.size w1 w2 from ⟨hmk.os, hmk.tape, hmk.output, by rw [hmk.size]; exact Nat.le_refl _, fun b _ hc => hmk.block b hc⟩).wide hBm (Nat.le_refl _))
  generalize totE es es.length = T at hT
  go_wp2_with fail
  go_ret
  exact ⟨_, rfl, by omega, by omega, ST2⟩

end Go.Proofs.YtigkgfdnnfmmmaaGreat
