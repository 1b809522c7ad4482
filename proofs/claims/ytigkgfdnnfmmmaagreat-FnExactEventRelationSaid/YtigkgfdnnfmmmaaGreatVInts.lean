/- PLAIN PART: conditions (pairs of ints), events (an int and a slice of ints), an unfolding as data. No program is named here.
   WALKS: szIntS, toIntS, eqIntS. -/
import Derived.Test.YtigkgfdnnfmmmaaGreatVPair
import Derived.Test.YtigkgfdnnfmmmaaGreatChecked
namespace Go.Proofs.YtigkgfdnnfmmmaaGreat
open Go.RowKit

/-- a condition: its place, its event -/
abbrev Cnd := Int × Int
def cnP (cs : List Cnd) (i : Nat) : Int := (cs.getD i (0, 0)).1
def cnB (cs : List Cnd) (i : Nat) : Int := (cs.getD i (0, 0)).2
theorem cn_getD {zs : List Cnd} {i : Nat} (h : i < zs.length) : (cnP zs i, cnB zs i) = zs[i] := by simp [cnP, cnB, List.getD, h]
def cnX (cs : List Cnd) (i : Nat) : Value := .int .i64 (cnP cs i)
def cnY (cs : List Cnd) (i : Nat) : Value := .int .i64 (cnB cs i)
def CndsAt (lo : Nat) (w : World) (v : Value) (cs : List Cnd) : Prop := PairsAt lo w v cs.length (fun i => .int .i64 (cnP cs i)) (fun i => .int .i64 (cnB cs i))
theorem CndsAt.keep {lo : Nat} {w w' : World} {v : Value} {ss : List Cnd} (h : CndsAt lo w v ss) (hb : Carries lo w w') : CndsAt lo w' v ss := PairsAt.keep h hb
theorem CndsAt.low {lo lo' : Nat} {w : World} {v : Value} {ss : List Cnd} (h : CndsAt lo w v ss) (hl : lo' ≤ lo) : CndsAt lo' w v ss := PairsAt.low h hl
theorem CndsAt.form {lo : Nat} {w : World} {v : Value} {ss : List Cnd} (h : CndsAt lo w v ss) : ∃ a c, v = .slice a ss.length c := by
  obtain ⟨a, c, rfl, _, _⟩ := h
  exact ⟨a, c, rfl⟩

/-- an event: its transition, its conditions -/
abbrev Ev := Int × List Int
def evT (es : List Ev) (i : Nat) : Int := (es.getD i (0, [])).1
def evP (es : List Ev) (i : Nat) : List Int := (es.getD i (0, [])).2
theorem ev_getD {zs : List Ev} {i : Nat} (h : i < zs.length) : (evT zs i, evP zs i) = zs[i] := by simp [evT, evP, List.getD, h]
/-- what a slice of events reads as -/
def EvsAt (lo : Nat) (w : World) (v : Value) (es : List Ev) : Prop :=
  ∃ (ao : Option Addr) (cap : Nat), v = .slice ao es.length cap ∧ es.length ≤ cap ∧
    (es.length = 0 ∨ ∃ b off, ao = some ⟨b, off, none⟩ ∧ lo ≤ b ∧ ∀ i, i < es.length → ∃ v1, w.cell? ⟨b, off + i * 2, none⟩ = some (.int .i64 (evT es i)) ∧ w.cell? ⟨b, off + i * 2 + 1, none⟩ = some v1 ∧ IntsAt lo w v1 (evP es i))
theorem EvsAt.keep {lo : Nat} {w w' : World} {v : Value} {es : List Ev} (h : EvsAt lo w v es) (hb : Carries lo w w') : EvsAt lo w' v es := by
  obtain ⟨ao, cap, hv, hc, hz⟩ := h
  refine ⟨ao, cap, hv, hc, ?_⟩
  rcases hz with hz | ⟨b, off, ha, hlo, hcell⟩
  · exact Or.inl hz
  · refine Or.inr ⟨b, off, ha, hlo, fun i hi => ?_⟩
    obtain ⟨v1, c0, c1, ht⟩ := hcell i hi
    exact ⟨v1, hb _ _ hlo c0, hb _ _ hlo c1, ht.keep hb⟩
theorem EvsAt.low {lo lo' : Nat} {w : World} {v : Value} {es : List Ev} (h : EvsAt lo w v es) (hl : lo' ≤ lo) : EvsAt lo' w v es := by
  obtain ⟨ao, cap, hv, hc, hz⟩ := h
  refine ⟨ao, cap, hv, hc, ?_⟩
  rcases hz with hz | ⟨b, off, ha, hlo, hcell⟩
  · exact Or.inl hz
  · refine Or.inr ⟨b, off, ha, Nat.le_trans hl hlo, fun i hi => ?_⟩
    obtain ⟨v1, c0, c1, ht⟩ := hcell i hi
    exact ⟨v1, c0, c1, ht.low hl⟩
theorem EvsAt.form {lo : Nat} {w : World} {v : Value} {ss : List Ev} (h : EvsAt lo w v ss) : ∃ a c, v = .slice a ss.length c := by
  obtain ⟨a, c, rfl, _, _⟩ := h
  exact ⟨a, c, rfl⟩

theorem take_succ_of' {α : Type} {zs ys : List α} {k : Nat} (hk : k < zs.length) (hy : k < ys.length) (h : zs.take k = ys.take k) (he : zs[k] = ys[k]) : zs.take (k + 1) = ys.take (k + 1) := by
  rw [List.take_succ_eq_append_getElem hk, List.take_succ_eq_append_getElem hy, h, he]
theorem list_ne_of' {α : Type} {zs ys : List α} {k : Nat} (hk : k < zs.length) (hy : k < ys.length) (he : zs[k] ≠ ys[k]) : zs ≠ ys := by
  rintro rfl; exact he rfl

/-- an unfolding as data -/
structure UnfD where
  cs : List Cnd
  es : List Ev
def UnfAt (lo : Nat) (w : World) (v : Value) (u : UnfD) : Prop := ∃ vc ve, v = .agg #[vc, ve] ∧ CndsAt lo w vc u.cs ∧ EvsAt lo w ve u.es
theorem UnfAt.keep {lo : Nat} {w w' : World} {v : Value} {r : UnfD} (h : UnfAt lo w v r) (hb : Carries lo w w') : UnfAt lo w' v r := by
  obtain ⟨vs, vm, hv, h1, h2⟩ := h
  exact ⟨vs, vm, hv, h1.keep hb, h2.keep hb⟩
theorem UnfAt.low {lo lo' : Nat} {w : World} {v : Value} {r : UnfD} (h : UnfAt lo w v r) (hl : lo' ≤ lo) : UnfAt lo' w v r := by
  obtain ⟨vs, vm, hv, h1, h2⟩ := h
  exact ⟨vs, vm, hv, h1.low hl, h2.low hl⟩
theorem UnfAt.form {lo : Nat} {w : World} {v : Value} {r : UnfD} (h : UnfAt lo w v r) : ∃ a0 c0 a1 c1, v = .agg #[.slice a0 r.cs.length c0, .slice a1 r.es.length c1] ∧ CndsAt lo w (.slice a0 r.cs.length c0) r.cs ∧ EvsAt lo w (.slice a1 r.es.length c1) r.es := by
  obtain ⟨vs, vm, rfl, h1, h2⟩ := h
  obtain ⟨a0, c0, rfl⟩ := h1.form
  obtain ⟨a1, c1, rfl⟩ := h2.form
  exact ⟨a0, c0, a1, c1, rfl, h1, h2⟩
def SmallEvs (es : List Ev) : Prop := es.length ≤ 1048576 ∧ ∀ i, i < es.length → (evP es i).length ≤ 1048576
def SmallUnf (u : UnfD) : Prop := u.cs.length ≤ 1048576 ∧ SmallEvs u.es
def OkEvs (es : List Ev) : Prop := es.length ≤ 9223372036854775807 ∧ ∀ i, i < es.length → (evP es i).length ≤ 9223372036854775807
def OkUnf (u : UnfD) : Prop := u.cs.length ≤ 9223372036854775807 ∧ OkEvs u.es

end Go.Proofs.YtigkgfdnnfmmmaaGreat

namespace Go.Proofs.YtigkgfdnnfmmmaaGreat
open Go.RowKit

theorem Tryz.infoInt : (Tryz.prog.info? 3).map (fun i => (i.zero, i.size, i.bytes)) = some (some (.int .i64 0), 1, 8) := by kernel_rfl

def szI (left : Int) (n : Nat) : Int := if left < n then -1 else left - n

set_option maxHeartbeats 400000 in
theorem szIntS_any (ao : Option Addr) (n cap : Nat) (left : Int) (w : World) (h0 : 0 ≤ left) (h1 : left ≤ 1048576) (hn : n ≤ 9223372036854775807) :
    Calls Tryz.prog 25 #[.slice ao n cap, .int .i64 left] w (RetV w (.int .i64 (szI left n))) := by
  by_cases hlt : left < n
  · have e : szI left n = -1 := by unfold szI; rw [if_pos hlt]
    rw [e]; clear e
    go_enter Tryz.func25, Tryz.ntmps25
    go_wp2
    go_ret
    exact ⟨rfl, Below.refl _ _⟩
  · have e : szI left n = left - n := by unfold szI; rw [if_neg hlt]
    rw [e]; clear e
    go_enter Tryz.func25, Tryz.ntmps25
    go_wp2
    go_ret
    exact ⟨rfl, Below.refl _ _⟩

theorem getD_eq {zs : List Int} {i : Nat} (h : i < zs.length) : zs.getD i 0 = zs[i] := by simp [List.getD, h]

theorem take_eq_succ {zs ys : List Int} {k : Nat} (hk : k < zs.length) (hy : k < ys.length) (h : zs.take k = ys.take k) (he : zs.getD k 0 = ys.getD k 0) : zs.take (k + 1) = ys.take (k + 1) := by
  rw [List.take_succ_eq_append_getElem hk, List.take_succ_eq_append_getElem hy, h, ← getD_eq hk, ← getD_eq hy, he]

theorem ne_of_getD {zs ys : List Int} {k : Nat} (he : zs.getD k 0 ≠ ys.getD k 0) : decide (zs = ys) = false := by
  rw [decide_eq_false_iff_not]; rintro rfl; exact he rfl

set_option maxHeartbeats 400000 in
theorem eqIntS_any (v v' : Value) (zs ys : List Int) (w : World) (lo lo' : Nat) (hv : IntsAt lo w v zs) (hv' : IntsAt lo' w v' ys) (hn : zs.length ≤ 4611686018427387904) (hm : ys.length ≤ 4611686018427387904) :
    Calls Tryz.prog 41 #[v, v'] w (RetB w (decide (zs = ys))) := by
  obtain ⟨ao, cap, rfl, hc, hz⟩ := hv
  obtain ⟨ao', cap', rfl, hc', hz'⟩ := hv'
  by_cases hl : zs.length = ys.length
  · have hb : ((zs.length : Int) != (ys.length : Int)) = false := by simp [hl]
    by_cases hzs : 0 < zs.length
    · rcases hz with rfl | ⟨b, off, rfl, _, hcell⟩
      · simp at hzs
      rcases hz' with rfl | ⟨b', off', rfl, _, hcell'⟩
      · simp at hl; simp [hl] at hzs
      have HC := Lib.hid hcell; clear hcell
      have HC' := Lib.hid hcell'; clear hcell'
      have HL := Lib.hid hl
      have hl1 : zs.length ≤ ys.length := by omega
      have hl2 : ys.length ≤ zs.length := by omega
      clear hl
      go_enter Tryz.func41, Tryz.ntmps41
      go_wp2
      go_loopw [5] (fun i wr => ∃ k : Nat, k ≤ zs.length ∧ i = .int .i64 k ∧ Hid (zs.take k = ys.take k) ∧ Below w.heap.size w wr) (fun i _ => zs.length - (intOf i).toNat)
      case atStart => exact ⟨0, Nat.zero_le _, rfl, rfl, Below.refl _ _⟩
      case round =>
        obtain ⟨k, hk, rfl, ht, hb1⟩ := hrel
        by_cases hlt : k < zs.length
        · have hk2 : k < ys.length := by omega
          have c1 := cell_keep (HC.out k hlt) hb1 (Nat.le_refl _)
          have c2 := cell_keep (HC'.out k hk2) hb1 (Nat.le_refl _)
          go_wp2
          go_quiet (fail)
          go_wp2
          · have hne : (zs[k] != ys[k]) = true := by assumption
            go_ret
            refine ⟨?_, below_drewN hb1 _⟩
            rw [ne_of_getD (k := k) (by rw [getD_eq hlt, getD_eq hk2]; simpa using hne)]; rfl
          · have heq : (zs[k] != ys[k]) = false := by assumption
            have hs := Lib.hid (take_eq_succ hlt hk2 ht.out (by rw [getD_eq hlt, getD_eq hk2]; simpa using heq))
            go_roundw
            case rel => exact ⟨k + 1, by omega, by go_num, hs, below_drewN hb1 _⟩
            case measure => simp [intOf]; omega
        · go_wp2
          go_ret
          refine ⟨?_, hb1⟩
          have h1 := ht.out
          rw [List.take_of_length_le (by omega), List.take_of_length_le (by omega)] at h1
          simp [h1]
    · have hz0 : zs = [] := List.eq_nil_of_length_eq_zero (by omega)
      have hy0 : ys = [] := List.eq_nil_of_length_eq_zero (by omega)
      subst hz0; subst hy0
      simp only [List.length_nil]
      clear hz hz' hc hc' hb hl hzs
      go_enter Tryz.func41, Tryz.ntmps41
      go_wp2
      go_rounds 1
      go_ret
      exact ⟨rfl, Below.refl _ _⟩
  · have hb : ((zs.length : Int) != (ys.length : Int)) = true := by rw [bne_iff_ne]; omega
    have hd : decide (zs = ys) = false := by rw [decide_eq_false_iff_not]; rintro rfl; exact hl rfl
    rw [hd]; clear hd
    go_enter Tryz.func41, Tryz.ntmps41
    go_wp2
    go_ret
    exact ⟨rfl, Below.refl _ _⟩

/-! toIntS: a slice of its own -/
theorem ints_of_row {w : World} {b : Nat} {zs : List Int} {f : Nat → Value} (h : w.rowIs b 3 zs.length f) (hf : ∀ i, i < zs.length → f i = .int .i64 (zs.getD i 0)) : IntsAt b w (.slice (some ⟨b, 0, none⟩) zs.length zs.length) zs :=
  ⟨_, _, rfl, Nat.le_refl _, Or.inr ⟨b, 0, rfl, Nat.le_refl _, fun i hi => by rw [Nat.zero_add, h.cell hi, hf i hi]⟩⟩

def copied (zs : List Int) (k : Nat) : Nat → Value := fun j => if j < k then .int .i64 (zs.getD j 0) else .int .i64 0

theorem copied_step (zs : List Int) (k : Nat) : (fun j => if j = k then Value.int .i64 (zs.getD k 0) else copied zs k j) = copied zs (k + 1) := by
  funext j
  unfold copied
  by_cases h : j = k
  · subst h; simp
  · rw [if_neg h]; by_cases h2 : j < k
    · rw [if_pos h2, if_pos (by omega)]
    · rw [if_neg h2, if_neg (by omega)]

set_option maxHeartbeats 400000 in
theorem toIntS_any (v : Value) (zs : List Int) (w : World) (lo : Nat) (hv : IntsAt lo w v zs) (hn : zs.length ≤ 1048576) :
    Calls Tryz.prog 33 #[v] w (RetInts w zs) := by
  obtain ⟨ao, cap, rfl, hc, hz⟩ := hv
  have hmk := run_make_row' (P := Tryz.prog) 29 3 (.int .i64 0) 8 Tryz.underlying29 Tryz.infoInt rfl .i64 .i64 zs.length (by omega) (by omega)
  have HF := Lib.hid hz; clear hz
  go_enter Tryz.func33, Tryz.ntmps33
  go_wp2
  go_loopw [4] (fun i wr => ∃ k : Nat, k ≤ zs.length ∧ i = .int .i64 k ∧ wr.rowIs w.heap.size 3 zs.length (copied zs k) ∧ Below w.heap.size w wr) (fun i _ => zs.length - (intOf i).toNat)
  case atStart => exact ⟨0, Nat.zero_le _, rfl, (World.rowIs_made _ _ _ _).congr (fun i _ => by simp [copied]), (Below.refl _ _).alloc (Nat.le_refl _) _⟩
  case round =>
    obtain ⟨k, hk, rfl, hrow, hb1⟩ := hrel
    by_cases hlt : k < zs.length
    · rcases HF.out with rfl | ⟨b, off, rfl, _, hcell⟩
      · simp at hlt
      have c1 := cell_keep (hcell k hlt) hb1 (Nat.le_refl _)
      have c2 := hrow.cell hlt
      have f2 := hrow.frozen k
      clear hcell
      go_wp2
      have h3 := hrow.set k (.int .i64 (zs.getD k 0))
      rw [copied_step, getD_eq hlt] at h3
      have h4 := hb1.setCell (p := ⟨w.heap.size, k, none⟩) (Nat.le_refl _) (.int .i64 zs[k])
      go_roundw
      case rel => exact ⟨k + 1, by omega, by go_num, h3, h4⟩
      case measure => simp [intOf]; omega
    · go_wp2
      go_ret
      exact ⟨_, rfl, ints_of_row hrow (fun i hi => by unfold copied; rw [if_pos (by omega)]), hb1⟩

end Go.Proofs.YtigkgfdnnfmmmaaGreat
