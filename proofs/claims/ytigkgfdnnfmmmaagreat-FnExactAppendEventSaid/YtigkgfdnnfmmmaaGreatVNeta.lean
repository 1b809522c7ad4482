/- PLAIN PART: conditions (pairs of ints), events (an int and a slice of ints), an unfolding as data. No program is named here.
   WALKS: szIntS, toIntS, eqIntS.
   WALKS: toTransition, toTransitionS, toNet. -/
import Derived.Test.YtigkgfdnnfmmmaaGreatVPair
import Derived.Test.YtigkgfdnnfmmmaaGreatChecked
namespace Go.Proofs.YtigkgfdnnfmmmaaGreat
open Go.RowKit

/-- a condition: its place, its event -/
abbrev Cnd := Int × Int
def cnP (cs : List Cnd) (i : Nat) : Int := (cs.getD i (0, 0)).1
def cnB (cs : List Cnd) (i : Nat) : Int := (cs.getD i (0, 0)).2
theorem cn_getD {zs : List Cnd} {i : Nat} (h : i < zs.length) : (cnP zs i, cnB zs i) = zs[i] := by simp [cnP, cnB, List.getD, h]
def cnX (cs : List Cnd) (i : Nat) : Value := .int .i64 (cnP cs i)
def cnY (cs : List Cnd) (i : Nat) : Value := .int .i64 (cnB cs i)
def CndsAt (lo : Nat) (w : World) (v : Value) (cs : List Cnd) : Prop := PairsAt lo w v cs.length (fun i => .int .i64 (cnP cs i)) (fun i => .int .i64 (cnB cs i))
theorem CndsAt.keep {lo : Nat} {w w' : World} {v : Value} {ss : List Cnd} (h : CndsAt lo w v ss) (hb : Carries lo w w') : CndsAt lo w' v ss := PairsAt.keep h hb
theorem CndsAt.low {lo lo' : Nat} {w : World} {v : Value} {ss : List Cnd} (h : CndsAt lo w v ss) (hl : lo' ≤ lo) : CndsAt lo' w v ss := PairsAt.low h hl
theorem CndsAt.form {lo : Nat} {w : World} {v : Value} {ss : List Cnd} (h : CndsAt lo w v ss) : ∃ a c, v = .slice a ss.length c := by
  obtain ⟨a, c, rfl, _, _⟩ := h
  exact ⟨a, c, rfl⟩

/-- an event: its transition, its conditions -/
abbrev Ev := Int × List Int
def evT (es : List Ev) (i : Nat) : Int := (es.getD i (0, [])).1
def evP (es : List Ev) (i : Nat) : List Int := (es.getD i (0, [])).2
theorem ev_getD {zs : List Ev} {i : Nat} (h : i < zs.length) : (evT zs i, evP zs i) = zs[i] := by simp [evT, evP, List.getD, h]
/-- what a slice of events reads as -/
def EvsAt (lo : Nat) (w : World) (v : Value) (es : List Ev) : Prop :=
  ∃ (ao : Option Addr) (cap : Nat), v = .slice ao es.length cap ∧ es.length ≤ cap ∧
    (es.length = 0 ∨ ∃ b off, ao = some ⟨b, off, none⟩ ∧ lo ≤ b ∧ ∀ i, i < es.length → ∃ v1, w.cell? ⟨b, off + i * 2, none⟩ = some (.int .i64 (evT es i)) ∧ w.cell? ⟨b, off + i * 2 + 1, none⟩ = some v1 ∧ IntsAt lo w v1 (evP es i))
theorem EvsAt.keep {lo : Nat} {w w' : World} {v : Value} {es : List Ev} (h : EvsAt lo w v es) (hb : Carries lo w w') : EvsAt lo w' v es := by
  obtain ⟨ao, cap, hv, hc, hz⟩ := h
  refine ⟨ao, cap, hv, hc, ?_⟩
  rcases hz with hz | ⟨b, off, ha, hlo, hcell⟩
  · exact Or.inl hz
  · refine Or.inr ⟨b, off, ha, hlo, fun i hi => ?_⟩
    obtain ⟨v1, c0, c1, ht⟩ := hcell i hi
    exact ⟨v1, hb _ _ hlo c0, hb _ _ hlo c1, ht.keep hb⟩
theorem EvsAt.low {lo lo' : Nat} {w : World} {v : Value} {es : List Ev} (h : EvsAt lo w v es) (hl : lo' ≤ lo) : EvsAt lo' w v es := by
  obtain ⟨ao, cap, hv, hc, hz⟩ := h
  refine ⟨ao, cap, hv, hc, ?_⟩
  rcases hz with hz | ⟨b, off, ha, hlo, hcell⟩
  · exact Or.inl hz
  · refine Or.inr ⟨b, off, ha, Nat.le_trans hl hlo, fun i hi => ?_⟩
    obtain ⟨v1, c0, c1, ht⟩ := hcell i hi
    exact ⟨v1, c0, c1, ht.low hl⟩
theorem EvsAt.form {lo : Nat} {w : World} {v : Value} {ss : List Ev} (h : EvsAt lo w v ss) : ∃ a c, v = .slice a ss.length c := by
  obtain ⟨a, c, rfl, _, _⟩ := h
  exact ⟨a, c, rfl⟩

theorem take_succ_of' {α : Type} {zs ys : List α} {k : Nat} (hk : k < zs.length) (hy : k < ys.length) (h : zs.take k = ys.take k) (he : zs[k] = ys[k]) : zs.take (k + 1) = ys.take (k + 1) := by
  rw [List.take_succ_eq_append_getElem hk, List.take_succ_eq_append_getElem hy, h, he]
theorem list_ne_of' {α : Type} {zs ys : List α} {k : Nat} (hk : k < zs.length) (hy : k < ys.length) (he : zs[k] ≠ ys[k]) : zs ≠ ys := by
  rintro rfl; exact he rfl

/-- an unfolding as data -/
structure UnfD where
  cs : List Cnd
  es : List Ev
def UnfAt (lo : Nat) (w : World) (v : Value) (u : UnfD) : Prop := ∃ vc ve, v = .agg #[vc, ve] ∧ CndsAt lo w vc u.cs ∧ EvsAt lo w ve u.es
theorem UnfAt.keep {lo : Nat} {w w' : World} {v : Value} {r : UnfD} (h : UnfAt lo w v r) (hb : Carries lo w w') : UnfAt lo w' v r := by
  obtain ⟨vs, vm, hv, h1, h2⟩ := h
  exact ⟨vs, vm, hv, h1.keep hb, h2.keep hb⟩
theorem UnfAt.low {lo lo' : Nat} {w : World} {v : Value} {r : UnfD} (h : UnfAt lo w v r) (hl : lo' ≤ lo) : UnfAt lo' w v r := by
  obtain ⟨vs, vm, hv, h1, h2⟩ := h
  exact ⟨vs, vm, hv, h1.low hl, h2.low hl⟩
theorem UnfAt.form {lo : Nat} {w : World} {v : Value} {r : UnfD} (h : UnfAt lo w v r) : ∃ a0 c0 a1 c1, v = .agg #[.slice a0 r.cs.length c0, .slice a1 r.es.length c1] ∧ CndsAt lo w (.slice a0 r.cs.length c0) r.cs ∧ EvsAt lo w (.slice a1 r.es.length c1) r.es := by
  obtain ⟨vs, vm, rfl, h1, h2⟩ := h
  obtain ⟨a0, c0, rfl⟩ := h1.form
  obtain ⟨a1, c1, rfl⟩ := h2.form
  exact ⟨a0, c0, a1, c1, rfl, h1, h2⟩
def SmallEvs (es : List Ev) : Prop := es.length ≤ 1048576 ∧ ∀ i, i < es.length → (evP es i).length ≤ 1048576
def SmallUnf (u : UnfD) : Prop := u.cs.length ≤ 1048576 ∧ SmallEvs u.es
def OkEvs (es : List Ev) : Prop := es.length ≤ 9223372036854775807 ∧ ∀ i, i < es.length → (evP es i).length ≤ 9223372036854775807
def OkUnf (u : UnfD) : Prop := u.cs.length ≤ 9223372036854775807 ∧ OkEvs u.es

end Go.Proofs.YtigkgfdnnfmmmaaGreat

namespace Go.Proofs.YtigkgfdnnfmmmaaGreat
open Go.RowKit

theorem Tryz.infoInt : (Tryz.prog.info? 3).map (fun i => (i.zero, i.size, i.bytes)) = some (some (.int .i64 0), 1, 8) := by kernel_rfl

def szI (left : Int) (n : Nat) : Int := if left < n then -1 else left - n

set_option maxHeartbeats 400000 in
theorem szIntS_any (ao : Option Addr) (n cap : Nat) (left : Int) (w : World) (h0 : 0 ≤ left) (h1 : left ≤ 1048576) (hn : n ≤ 9223372036854775807) :
    Calls Tryz.prog 25 #[.slice ao n cap, .int .i64 left] w (RetV w (.int .i64 (szI left n))) := by
  by_cases hlt : left < n
  · have e : szI left n = -1 := by unfold szI; rw [if_pos hlt]
    rw [e]; clear e
    go_enter Tryz.func25, Tryz.ntmps25
    go_wp2
    go_ret
    exact ⟨rfl, Below.refl _ _⟩
  · have e : szI left n = left - n := by unfold szI; rw [if_neg hlt]
    rw [e]; clear e
    go_enter Tryz.func25, Tryz.ntmps25
    go_wp2
    go_ret
    exact ⟨rfl, Below.refl _ _⟩

theorem getD_eq {zs : List Int} {i : Nat} (h : i < zs.length) : zs.getD i 0 = zs[i] := by simp [List.getD, h]

theorem take_eq_succ {zs ys : List Int} {k : Nat} (hk : k < zs.length) (hy : k < ys.length) (h : zs.take k = ys.take k) (he : zs.getD k 0 = ys.getD k 0) : zs.take (k + 1) = ys.take (k + 1) := by
  rw [List.take_succ_eq_append_getElem hk, List.take_succ_eq_append_getElem hy, h, ← getD_eq hk, ← getD_eq hy, he]

theorem ne_of_getD {zs ys : List Int} {k : Nat} (he : zs.getD k 0 ≠ ys.getD k 0) : decide (zs = ys) = false := by
  rw [decide_eq_false_iff_not]; rintro rfl; exact he rfl

set_option maxHeartbeats 400000 in
theorem eqIntS_any (v v' : Value) (zs ys : List Int) (w : World) (lo lo' : Nat) (hv : IntsAt lo w v zs) (hv' : IntsAt lo' w v' ys) (hn : zs.length ≤ 4611686018427387904) (hm : ys.length ≤ 4611686018427387904) :
    Calls Tryz.prog 41 #[v, v'] w (RetB w (decide (zs = ys))) := by
  obtain ⟨ao, cap, rfl, hc, hz⟩ := hv
  obtain ⟨ao', cap', rfl, hc', hz'⟩ := hv'
  by_cases hl : zs.length = ys.length
  · have hb : ((zs.length : Int) != (ys.length : Int)) = false := by simp [hl]
    by_cases hzs : 0 < zs.length
    · rcases hz with rfl | ⟨b, off, rfl, _, hcell⟩
      · simp at hzs
      rcases hz' with rfl | ⟨b', off', rfl, _, hcell'⟩
      · simp at hl; simp [hl] at hzs
      have HC := Lib.hid hcell; clear hcell
      have HC' := Lib.hid hcell'; clear hcell'
      have HL := Lib.hid hl
      have hl1 : zs.length ≤ ys.length := by omega
      have hl2 : ys.length ≤ zs.length := by omega
      clear hl
      go_enter Tryz.func41, Tryz.ntmps41
      go_wp2
      go_loopw [5] (fun i wr => ∃ k : Nat, k ≤ zs.length ∧ i = .int .i64 k ∧ Hid (zs.take k = ys.take k) ∧ Below w.heap.size w wr) (fun i _ => zs.length - (intOf i).toNat)
      case atStart => exact ⟨0, Nat.zero_le _, rfl, rfl, Below.refl _ _⟩
      case round =>
        obtain ⟨k, hk, rfl, ht, hb1⟩ := hrel
        by_cases hlt : k < zs.length
        · have hk2 : k < ys.length := by omega
          have c1 := cell_keep (HC.out k hlt) hb1 (Nat.le_refl _)
          have c2 := cell_keep (HC'.out k hk2) hb1 (Nat.le_refl _)
          go_wp2
          go_quiet (fail)
          go_wp2
          · have hne : (zs[k] != ys[k]) = true := by assumption
            go_ret
            refine ⟨?_, below_drewN hb1 _⟩
            rw [ne_of_getD (k := k) (by rw [getD_eq hlt, getD_eq hk2]; simpa using hne)]; rfl
          · have heq : (zs[k] != ys[k]) = false := by assumption
            have hs := Lib.hid (take_eq_succ hlt hk2 ht.out (by rw [getD_eq hlt, getD_eq hk2]; simpa using heq))
            go_roundw
            case rel => exact ⟨k + 1, by omega, by go_num, hs, below_drewN hb1 _⟩
            case measure => simp [intOf]; omega
        · go_wp2
          go_ret
          refine ⟨?_, hb1⟩
          have h1 := ht.out
          rw [List.take_of_length_le (by omega), List.take_of_length_le (by omega)] at h1
          simp [h1]
    · have hz0 : zs = [] := List.eq_nil_of_length_eq_zero (by omega)
      have hy0 : ys = [] := List.eq_nil_of_length_eq_zero (by omega)
      subst hz0; subst hy0
      simp only [List.length_nil]
      clear hz hz' hc hc' hb hl hzs
      go_enter Tryz.func41, Tryz.ntmps41
      go_wp2
      go_rounds 1
      go_ret
      exact ⟨rfl, Below.refl _ _⟩
  · have hb : ((zs.length : Int) != (ys.length : Int)) = true := by rw [bne_iff_ne]; omega
    have hd : decide (zs = ys) = false := by rw [decide_eq_false_iff_not]; rintro rfl; exact hl rfl
    rw [hd]; clear hd
    go_enter Tryz.func41, Tryz.ntmps41
    go_wp2
    go_ret
    exact ⟨rfl, Below.refl _ _⟩

/-! toIntS: a slice of its own -/
theorem ints_of_row {w : World} {b : Nat} {zs : List Int} {f : Nat → Value} (h : w.rowIs b 3 zs.length f) (hf : ∀ i, i < zs.length → f i = .int .i64 (zs.getD i 0)) : IntsAt b w (.slice (some ⟨b, 0, none⟩) zs.length zs.length) zs :=
  ⟨_, _, rfl, Nat.le_refl _, Or.inr ⟨b, 0, rfl, Nat.le_refl _, fun i hi => by rw [Nat.zero_add, h.cell hi, hf i hi]⟩⟩

def copied (zs : List Int) (k : Nat) : Nat → Value := fun j => if j < k then .int .i64 (zs.getD j 0) else .int .i64 0

theorem copied_step (zs : List Int) (k : Nat) : (fun j => if j = k then Value.int .i64 (zs.getD k 0) else copied zs k j) = copied zs (k + 1) := by
  funext j
  unfold copied
  by_cases h : j = k
  · subst h; simp
  · rw [if_neg h]; by_cases h2 : j < k
    · rw [if_pos h2, if_pos (by omega)]
    · rw [if_neg h2, if_neg (by omega)]

set_option maxHeartbeats 400000 in
theorem toIntS_any (v : Value) (zs : List Int) (w : World) (lo : Nat) (hv : IntsAt lo w v zs) (hn : zs.length ≤ 1048576) :
    Calls Tryz.prog 33 #[v] w (RetInts w zs) := by
  obtain ⟨ao, cap, rfl, hc, hz⟩ := hv
  have hmk := run_make_row' (P := Tryz.prog) 29 3 (.int .i64 0) 8 Tryz.underlying29 Tryz.infoInt rfl .i64 .i64 zs.length (by omega) (by omega)
  have HF := Lib.hid hz; clear hz
  go_enter Tryz.func33, Tryz.ntmps33
  go_wp2
  go_loopw [4] (fun i wr => ∃ k : Nat, k ≤ zs.length ∧ i = .int .i64 k ∧ wr.rowIs w.heap.size 3 zs.length (copied zs k) ∧ Below w.heap.size w wr) (fun i _ => zs.length - (intOf i).toNat)
  case atStart => exact ⟨0, Nat.zero_le _, rfl, (World.rowIs_made _ _ _ _).congr (fun i _ => by simp [copied]), (Below.refl _ _).alloc (Nat.le_refl _) _⟩
  case round =>
    obtain ⟨k, hk, rfl, hrow, hb1⟩ := hrel
    by_cases hlt : k < zs.length
    · rcases HF.out with rfl | ⟨b, off, rfl, _, hcell⟩
      · simp at hlt
      have c1 := cell_keep (hcell k hlt) hb1 (Nat.le_refl _)
      have c2 := hrow.cell hlt
      have f2 := hrow.frozen k
      clear hcell
      go_wp2
      have h3 := hrow.set k (.int .i64 (zs.getD k 0))
      rw [copied_step, getD_eq hlt] at h3
      have h4 := hb1.setCell (p := ⟨w.heap.size, k, none⟩) (Nat.le_refl _) (.int .i64 zs[k])
      go_roundw
      case rel => exact ⟨k + 1, by omega, by go_num, h3, h4⟩
      case measure => simp [intOf]; omega
    · go_wp2
      go_ret
      exact ⟨_, rfl, ints_of_row hrow (fun i hi => by unfold copied; rw [if_pos (by omega)]), hb1⟩

end Go.Proofs.YtigkgfdnnfmmmaaGreat

namespace Go.Proofs.YtigkgfdnnfmmmaaGreat
open Go.RowKit

theorem bcell {W w1 : World} (hb : Below W.heap.size W w1) : (∀ b o, b < W.heap.size → w1.cell? ⟨b, o, none⟩ = W.cell? ⟨b, o, none⟩) ∧ (∀ b o, b < W.heap.size → w1.frozen? ⟨b, o, none⟩ = W.frozen? ⟨b, o, none⟩) :=
  ⟨fun b o h => hb.cell (p := ⟨b, o, none⟩) h, fun b o h => hb.frozen (p := ⟨b, o, none⟩) h⟩

set_option maxHeartbeats 400000 in
theorem toTransition_any (v0 v1 : Value) (t : Tr) (w : World) (lo : Nat) (hv : TrAt lo w v0 v1 t) (hn : t.1.length ≤ 1048576) (hm : t.2.length ≤ 1048576) :
    Calls Tryz.prog 60 #[.agg #[v0, v1]] w (RetTr w t) := by
  obtain ⟨h0, h1⟩ := hv
  have h0' := h0
  have h1' := h1
  obtain ⟨a0, k0, rfl, _, _⟩ := h0'
  obtain ⟨a1, k1, rfl, _, _⟩ := h1'
  have H0 := Lib.hid h0; clear h0
  have H1 := Lib.hid h1; clear h1
  go_enter Tryz.func60, Tryz.ntmps60
  go_wp2_with fail
  refine (toIntS_any _ t.1 _ lo (H0.out.keep ?_) hn).mono ?_
  · (repeat' (first | (with_reducible exact Carries.refl _ _) | (with_reducible assumption) | (with_reducible refine Carries.alloc ?_ _) | (with_reducible refine Carries.drew ?_) | (with_reducible refine Carries.drewN ?_ _) | (with_reducible refine Carries.set ?_ ?_ _) | go_size))
  rintro e w1 ⟨r0, rfl, hi0, hb0⟩
  obtain ⟨hc, hf⟩ := bcell hb0
  have hi0' := hi0
  obtain ⟨b0, m0, rfl, _, _⟩ := hi0'
  have I0 := Lib.hid hi0; clear hi0
  have hw1 : Below w.heap.size w w1 := by
    refine Below.trans ?_ (hb0.mono ?_)
    · go_grown
    · simp; omega
  have hz1 : w.heap.size + 1 + 1 < w1.heap.size := by have := hb0.size; simp at this; omega
  have hz1a : w.heap.size + 1 < w1.heap.size := by omega
  have hz1b : w.heap.size < w1.heap.size := by omega
  go_wp2_with fail
  refine (toIntS_any _ t.2 _ lo (H1.out.keep (Carries.of lo ?_)) hm).mono ?_
  · go_grown
  rintro e w2 ⟨r1, rfl, hi1, hb1⟩
  obtain ⟨hc2, hf2⟩ := bcell hb1
  have hw2 : Below w.heap.size w w2 := by
    refine Below.trans ?_ (hb1.mono ?_)
    · go_grown
    · simp; omega
  have hz2 : w1.heap.size ≤ w2.heap.size := by have := hb1.size; simpa using this
  have hi1' := hi1
  obtain ⟨b1, m1, rfl, _, _⟩ := hi1'
  have J0 := Lib.hid (I0.out.keep (w' := w2) (Carries.trans (Carries.set (Carries.refl _ _) (by simp) _) (Carries.of _ hb1)))
  have J1 := Lib.hid hi1; clear hi1
  go_wp2_with fail
  refine bodyPost_ret (v := .agg #[.slice b0 t.1.length m0, .slice b1 t.2.length m1]) (by simp [results, Tryz.results60, go_sem, hc, hc2, hz1a]) rfl ?_
  refine ⟨_, _, rfl, ⟨(J0.out.keep ?_).low ?_, (J1.out.keep ?_).low ?_⟩, ?_⟩
  · (repeat' (first | (with_reducible exact Carries.refl _ _) | (with_reducible assumption) | (with_reducible refine Carries.alloc ?_ _) | (with_reducible refine Carries.drew ?_) | (with_reducible refine Carries.drewN ?_ _) | (with_reducible refine Carries.set ?_ ?_ _) | go_size))
  · simp; omega
  · (repeat' (first | (with_reducible exact Carries.refl _ _) | (with_reducible assumption) | (with_reducible refine Carries.alloc ?_ _) | (with_reducible refine Carries.drew ?_) | (with_reducible refine Carries.drewN ?_ _) | (with_reducible refine Carries.set ?_ ?_ _) | go_size))
  · simp; omega
  · (repeat' (first | (with_reducible exact Below.refl _ _) | (with_reducible assumption) | (with_reducible refine Below.alloc ?_ ?_ _) | (with_reducible refine Below.drew ?_) | (with_reducible refine below_drewN ?_ _) | (with_reducible refine Below.setCell ?_ ?_ _) | go_size))

theorem Tryz.infoTr : (Tryz.prog.info? 98).map (fun i => (i.zero, i.size, i.bytes)) = some (some (.agg #[.slice none 0 0, .slice none 0 0]), 2, 48) := by kernel_rfl

theorem run_make_trs (n : Nat) (hn : n ≤ 1048576) (w : World) :
    (Instr.makeSlice 41 (.int .i64 (n : Int)) (.int .i64 (n : Int))).run Tryz.prog w = .ok (.slice (some ⟨w.heap.size, 0, none⟩) n n) (w.alloc (.cells (madeCells #[.slice none 0 0, .slice none 0 0] (n * 2)) 98)) := by
  obtain ⟨i, hi, hzz⟩ := Option.map_eq_some_iff.1 Tryz.infoTr
  simp only [Prod.mk.injEq] at hzz
  obtain ⟨hz, hs, hb⟩ := hzz
  have hr := run_make (P := Tryz.prog) w 41 98 i _ Tryz.underlying41 hi hz .i64 .i64 n n (by omega) (Int.le_refl _) (by rw [hb]; omega) (by omega)
  rw [hs] at hr
  exact hr

theorem rowIs_size {w : World} {c : Array Value} {t : TypeId} {n : Nat} (hn : c.size = n) : ∃ f, (w.alloc (.cells c t)).rowIs w.heap.size t n f := by
  subst hn
  exact ⟨fun i => c[i]?.getD undef, World.rowIs_alloc _ _ _ _ fun i hi => by simp [hi]⟩

/-- the first k of the transitions lie in the row b, what they lead to lies behind it -/
def TrsRow (b : Nat) (w : World) (n k : Nat) (ts : List Tr) : Prop := ∃ f, w.rowIs b 98 (n * 2) f ∧ ∀ i, i < k → TrAt (b + 1) w (f (i * 2)) (f (i * 2 + 1)) (ts.getD i ([], []))

theorem TrsRow.keep {b : Nat} {w w' : World} {n k : Nat} {ts : List Tr} (h : TrsRow b w n k ts) (hc : Carries (b + 1) w w') (hb : w'.heap[b]? = w.heap[b]?) : TrsRow b w' n k ts := by
  obtain ⟨f, hr, ht⟩ := h
  exact ⟨f, hr.of_block hb, fun i hi => (ht i hi).keep hc⟩

theorem TrsRow.cells {b : Nat} {w : World} {n k : Nat} {ts : List Tr} (h : TrsRow b w n k ts) {i : Nat} (hi : i < n) : ∃ v0 v1, w.cell? ⟨b, i * 2, none⟩ = some v0 ∧ w.cell? ⟨b, i * 2 + 1, none⟩ = some v1 ∧ w.frozen? ⟨b, i * 2, none⟩ = false ∧ w.frozen? ⟨b, i * 2 + 1, none⟩ = false := by
  obtain ⟨f, hr, ht⟩ := h
  exact ⟨_, _, hr.cell (by omega), hr.cell (by omega), hr.frozen _, hr.frozen _⟩

theorem TrsRow.put {b : Nat} {w : World} {n k : Nat} {ts : List Tr} (h : TrsRow b w n k ts) {v0 v1 : Value} (hk : k < n) (ht : TrAt (b + 1) w v0 v1 (ts.getD k ([], []))) :
    TrsRow b ((w.setCell ⟨b, k * 2, none⟩ v0).setCell ⟨b, k * 2 + 1, none⟩ v1) n (k + 1) ts := by
  obtain ⟨f, hr, hx⟩ := h
  have hc : Carries (b + 1) w ((w.setCell ⟨b, k * 2, none⟩ v0).setCell ⟨b, k * 2 + 1, none⟩ v1) := by (repeat' (first | (with_reducible exact Carries.refl _ _) | (with_reducible assumption) | (with_reducible refine Carries.alloc ?_ _) | (with_reducible refine Carries.drew ?_) | (with_reducible refine Carries.drewN ?_ _) | (with_reducible refine Carries.set ?_ ?_ _) | go_size))
  refine ⟨_, (hr.set (k * 2) v0).set (k * 2 + 1) v1, fun i hi => ?_⟩
  by_cases e : i = k
  · subst e
    simpa [show ¬ i * 2 = i * 2 + 1 by omega] using ht.keep hc
  · have h1 : ¬ i * 2 = k * 2 + 1 := by omega
    have h2 : ¬ i * 2 = k * 2 := by omega
    have h3 : ¬ i * 2 + 1 = k * 2 + 1 := by omega
    have h4 : ¬ i * 2 + 1 = k * 2 := by omega
    simp only [if_neg h1, if_neg h2, if_neg h3, if_neg h4]
    exact (hx i (by omega)).keep hc

theorem TrsRow.read {b : Nat} {w : World} {ts : List Tr} (h : TrsRow b w ts.length ts.length ts) : TrsAt b w (.slice (some ⟨b, 0, none⟩) ts.length ts.length) ts := by
  obtain ⟨f, hr, ht⟩ := h
  refine ⟨_, _, rfl, Nat.le_refl _, Or.inr ⟨b, 0, rfl, Nat.le_refl _, fun i hi => ⟨_, _, ?_, ?_, (ht i hi).low (Nat.le_succ _)⟩⟩⟩
  · rw [Nat.zero_add]; exact hr.cell (by omega)
  · rw [Nat.zero_add]; exact hr.cell (by omega)

/-- small lists throughout -/
def SmallTrs (ts : List Tr) : Prop := ts.length ≤ 1048576 ∧ ∀ i, i < ts.length → (ts.getD i ([], [])).1.length ≤ 1048576 ∧ (ts.getD i ([], [])).2.length ≤ 1048576

set_option maxHeartbeats 400000 in
theorem toTransitionS_any (v : Value) (ts : List Tr) (w : World) (lo : Nat) (hv : TrsAt lo w v ts) (hs : SmallTrs ts) :
    Calls Tryz.prog 30 #[v] w (RetTrs w ts) := by
  obtain ⟨ao, cap, rfl, hc, hz⟩ := hv
  obtain ⟨hn, hsm⟩ := hs
  have hmk := run_make_trs ts.length hn
  have HF := Lib.hid hz; clear hz
  have HS := Lib.hid hsm; clear hsm
  go_enter Tryz.func30, Tryz.ntmps30
  go_wp2
  go_loopw [4] (fun i wr => ∃ k : Nat, k ≤ ts.length ∧ i = .int .i64 k ∧ TrsRow w.heap.size wr ts.length k ts ∧ Below w.heap.size w wr ∧ w.heap.size < wr.heap.size) (fun i _ => ts.length - (intOf i).toNat)
  case atStart =>
    obtain ⟨f, hf⟩ := rowIs_size (w := w) (t := 98) (size_madeCells #[.slice none 0 0, .slice none 0 0] (ts.length * 2))
    exact ⟨0, Nat.zero_le _, rfl, ⟨f, hf, fun i hi => absurd hi (Nat.not_lt_zero _)⟩, (Below.refl _ _).alloc (Nat.le_refl _) _, by simp⟩
  case round =>
    obtain ⟨k, hk, rfl, hrow, hb1, hz1⟩ := hrel
    by_cases hlt : k < ts.length
    · rcases HF.out with rfl | ⟨b, off, rfl, hlo, hcell⟩
      · simp at hlt
      obtain ⟨x0, x1, c0, c1, hx⟩ := hcell k hlt
      have d0 := Carries.of lo hb1 _ _ hlo c0
      have d1 := Carries.of lo hb1 _ _ hlo c1
      obtain ⟨hk1, hk2⟩ := HS.out k hlt
      obtain ⟨t, htk⟩ : ∃ t, t = ts.getD k ([], []) := ⟨_, rfl⟩
      rw [← htk] at hk1 hk2 hx
      have HK := Lib.hid htk; clear htk
      have HX := Lib.hid (hx.keep (Carries.of lo hb1))
      have HR := Lib.hid hrow
      clear hcell c0 c1 hx hrow
      go_wp2_with fail
      refine (toTransition_any _ _ _ _ lo HX.out hk1 hk2).mono ?_
      rintro e w1 ⟨r0, r1, rfl, ht, hb2⟩
      obtain ⟨⟨p0, q0, rfl, g0⟩, ⟨p1, q1, rfl, g1⟩⟩ := ht
      have ht : TrAt wr.heap.size w1 _ _ t := ⟨⟨p0, q0, rfl, g0⟩, ⟨p1, q1, rfl, g1⟩⟩
      have HT := Lib.hid (ht.low (lo' := w.heap.size + 1) (by omega))
      have hrow1 := HR.out.keep (Carries.of _ hb2) (hb2.block _ hz1)
      obtain ⟨y0, y1, e0, e1, f0, f1⟩ := hrow1.cells hlt
      have HR1 := Lib.hid hrow1
      have hz2 : w.heap.size < w1.heap.size := by have := hb2.size; omega
      have hw1 : Below w.heap.size w w1 := hb1.trans (hb2.mono (by omega))
      clear ht hrow1 g0 g1
      go_wp2_with fail
      go_roundw
      case rel => exact ⟨k + 1, by omega, by go_num, HR1.out.put hlt (HK.out ▸ HT.out), by (repeat' (first | (with_reducible exact Below.refl _ _) | (with_reducible assumption) | (with_reducible refine Below.alloc ?_ ?_ _) | (with_reducible refine Below.drew ?_) | (with_reducible refine below_drewN ?_ _) | (with_reducible refine Below.setCell ?_ ?_ _) | go_size)), by simpa using hz2⟩
      case measure => simp [intOf]; omega
    · have hkk : k = ts.length := by omega
      subst hkk
      have HR := Lib.hid hrow; clear hrow
      go_wp2
      go_ret
      exact ⟨_, rfl, HR.out.read, hb1⟩

set_option maxHeartbeats 400000 in
theorem toNet_any (v : Value) (n : NetD) (w : World) (lo : Nat) (hv : NetAt lo w v n) (hs : SmallTrs n.ts) :
    Calls Tryz.prog 9 #[v] w (RetNet w n) := by
  obtain ⟨p, ts⟩ := n
  obtain ⟨hp0, hp1, u, rfl, h0⟩ := hv
  simp only at hp0 hp1 h0 hs ⊢
  have h0' := h0
  obtain ⟨a0, k0, rfl, _, _⟩ := h0'
  have H0 := Lib.hid h0; clear h0
  have HS := Lib.hid hs; clear hs
  go_enter Tryz.func9, Tryz.ntmps9
  go_wp2_with fail
  refine (toTransitionS_any _ ts _ lo (H0.out.keep ?_) HS.out).mono ?_
  · (repeat' (first | (with_reducible exact Carries.refl _ _) | (with_reducible assumption) | (with_reducible refine Carries.alloc ?_ _) | (with_reducible refine Carries.drew ?_) | (with_reducible refine Carries.drewN ?_ _) | (with_reducible refine Carries.set ?_ ?_ _) | go_size))
  rintro e w1 ⟨r0, rfl, hi0, hb0⟩
  obtain ⟨hc, hf⟩ := bcell hb0
  have hi0' := hi0
  obtain ⟨b0, m0, rfl, _, _⟩ := hi0'
  have I0 := Lib.hid hi0; clear hi0
  have hw1 : Below w.heap.size w w1 := by
    refine Below.trans ?_ (hb0.mono ?_)
    · (repeat' (first | (with_reducible exact Below.refl _ _) | (with_reducible assumption) | (with_reducible refine Below.alloc ?_ ?_ _) | (with_reducible refine Below.drew ?_) | (with_reducible refine below_drewN ?_ _) | (with_reducible refine Below.setCell ?_ ?_ _) | go_size))
    · simp; omega
  have hz1 : w.heap.size + 1 + 1 < w1.heap.size := by have := hb0.size; simp at this; omega
  have hz1a : w.heap.size + 1 < w1.heap.size := by omega
  have hz1b : w.heap.size < w1.heap.size := by omega
  go_wp2_with fail
  refine bodyPost_ret (v := .agg #[.int .i64 p, .slice b0 ts.length m0]) (by simp [results, Tryz.results9, go_sem, hc]) rfl ?_
  refine ⟨_, rfl, ⟨hp0, hp1, _, rfl, (I0.out.keep ?_).low ?_⟩, ?_⟩
  · (repeat' (first | (with_reducible exact Carries.refl _ _) | (with_reducible assumption) | (with_reducible refine Carries.alloc ?_ _) | (with_reducible refine Carries.drew ?_) | (with_reducible refine Carries.drewN ?_ _) | (with_reducible refine Carries.set ?_ ?_ _) | go_size))
  · simp; omega
  · (repeat' (first | (with_reducible exact Below.refl _ _) | (with_reducible assumption) | (with_reducible refine Below.alloc ?_ ?_ _) | (with_reducible refine Below.drew ?_) | (with_reducible refine below_drewN ?_ _) | (with_reducible refine Below.setCell ?_ ?_ _) | go_size))

end Go.Proofs.YtigkgfdnnfmmmaaGreat
