/- WALK: slices.Equal of conditions.
   APPEND of one int at a time: what the row of the numbers that pass a test is; rows that are owned read, and may be written.
   WALK: l7Limits of the model.
   WALK: isWithinLimits of the program. -/
import Derived.Test.YtigkgfdnnfmmmaaGreatVUfe
import Derived.Deep.QuietTactic
import Derived.BigQuiet
import Derived.Test.YtigkgfdnnfmmmaaGreatVTyat
import Derived.Test.YtigkgfdnnfmmmaaGreatVOwn
import Derived.Lib.BufferOwn
import Derived.Lib.SmallJoins
import Derived.Test.YtigkgfdnnfmmmaaGreatVInts
namespace Go.Proofs.YtigkgfdnnfmmmaaGreat
open Go.RowKit

set_option maxRecDepth 100000 in
set_option maxHeartbeats 1000000 in
theorem EqualCnds_any (v v' : Value) (zs ys : List Cnd) (w : World) (lo lo' : Nat) (hv : CndsAt lo w v zs) (hv' : CndsAt lo' w v' ys) (hn : zs.length ≤ 1048576) (hn' : ys.length ≤ 1048576) :
    Calls Tryz.prog 63 #[v, v'] w (RetB w (decide (zs = ys))) := by
  obtain ⟨ao, cap, rfl, hc, hz⟩ := hv
  obtain ⟨ao', cap', rfl, hc', hz'⟩ := hv'
  by_cases hl : zs.length = ys.length
  · have hb : ((zs.length : Int) != (ys.length : Int)) = false := by simp [hl]
    by_cases hzs : 0 < zs.length
    · rcases hz with h0 | ⟨b, off, rfl, hlo, hcell⟩
      · omega
      rcases hz' with h0 | ⟨b', off', rfl, hlo', hcell'⟩
      · omega
      have HC := Lib.hid hcell; clear hcell
      have HC' := Lib.hid hcell'; clear hcell'
      have HL := Lib.hid hl
      have hl1 : zs.length ≤ ys.length := by omega
      have hl2 : ys.length ≤ zs.length := by omega
      clear hl
      go_enter Tryz.func63, Tryz.ntmps63
      go_wp2
      go_loopw [13] (fun i wr => ∃ k : Nat, k ≤ zs.length ∧ i = .int .i64 k ∧ Hid (zs.take k = ys.take k) ∧ Below w.heap.size w wr) (fun i _ => zs.length - (intOf i).toNat)
      case atStart => exact ⟨0, Nat.zero_le _, rfl, rfl, Below.refl _ _⟩
      case round =>
        obtain ⟨k, hk, rfl, ht, hb1⟩ := hrel
        by_cases hlt : k < zs.length
        · have hk2 : k < ys.length := by omega
          obtain ⟨c0, c1⟩ := HC.out k hlt
          obtain ⟨e0, e1⟩ := HC'.out k hk2
          have d0 := Carries.of lo hb1 _ _ hlo c0
          have d1 := Carries.of lo hb1 _ _ hlo c1
          have d2 := Carries.of lo' hb1 _ _ hlo' e0
          have d3 := Carries.of lo' hb1 _ _ hlo' e1
          clear c0 c1 e0 e1
          have HK : Hid ((cnP zs k, cnB zs k) = (cnP ys k, cnB ys k) ↔ zs[k] = ys[k]) := by rw [cn_getD hlt, cn_getD hk2]; exact Iff.rfl
          generalize cnP zs k = x0 at d0 HK
          generalize cnB zs k = x1 at d1 HK
          generalize cnP ys k = y0 at d2 HK
          generalize cnB ys k = y1 at d3 HK
          by_cases hd : (x0, x1) = (y0, y1)
          · have hs := Lib.hid (take_succ_of' hlt hk2 ht.out (HK.out.1 hd))
            injection hd with h0 h1
            subst h0; subst h1
            go_wp2_with fail
            go_quiet (fail)
            go_wp2_with fail
            go_roundw
            case rel => exact ⟨k + 1, by omega, by go_num, hs, by (repeat' (first | (with_reducible exact Below.refl _ _) | (with_reducible assumption) | (with_reducible refine Below.alloc ?_ ?_ _) | (with_reducible refine Below.drew ?_) | (with_reducible refine below_drewN ?_ _) | (with_reducible refine Below.setCell ?_ ?_ _) | go_size))⟩
            case measure => first | (simp [intOf]; omega) | simp [intOf]
          · have hne : ¬ zs[k] = ys[k] := fun q => hd (HK.out.2 q)
            have hfin : Hid (decide (zs = ys) = false) := decide_eq_false (list_ne_of' hlt hk2 hne)
            by_cases h0 : x0 = y0
            · subst h0
              have h1 : (x1 == y1) = false := by rw [beq_eq_false_iff_ne]; intro q; subst q; exact hd rfl
              have h2 : ¬ x1 = y1 := fun q => hd (by rw [q])
              clear hne hd
              go_wp2_with fail
              go_quiet (fail)
              go_wp2_with fail
              go_ret
              refine ⟨?_, by (repeat' (first | (with_reducible exact Below.refl _ _) | (with_reducible assumption) | (with_reducible refine Below.alloc ?_ ?_ _) | (with_reducible refine Below.drew ?_) | (with_reducible refine below_drewN ?_ _) | (with_reducible refine Below.setCell ?_ ?_ _) | go_size))⟩
              rw [hfin.out]; rfl
            · have h1 : (x0 == y0) = false := by rw [beq_eq_false_iff_ne]; exact h0
              clear hne hd
              go_wp2_with fail
              go_quiet (fail)
              go_wp2_with fail
              go_ret
              refine ⟨?_, by (repeat' (first | (with_reducible exact Below.refl _ _) | (with_reducible assumption) | (with_reducible refine Below.alloc ?_ ?_ _) | (with_reducible refine Below.drew ?_) | (with_reducible refine below_drewN ?_ _) | (with_reducible refine Below.setCell ?_ ?_ _) | go_size))⟩
              rw [hfin.out]; rfl
        · go_wp2
          go_ret
          refine ⟨?_, hb1⟩
          have h1 := ht.out
          rw [List.take_of_length_le (by omega), List.take_of_length_le (by omega)] at h1
          simp [h1]
    · have hz0 : zs = [] := List.eq_nil_of_length_eq_zero (by omega)
      have hy0 : ys = [] := List.eq_nil_of_length_eq_zero (by omega)
      subst hz0; subst hy0
      simp only [List.length_nil]
      clear hz hz' hc hc' hb hl hzs hn hn'
      go_enter Tryz.func63, Tryz.ntmps63
      go_wp2
      go_rounds 1
      go_ret
      exact ⟨rfl, Below.refl _ _⟩
  · have hb : ((zs.length : Int) != (ys.length : Int)) = true := by rw [bne_iff_ne]; omega
    have hd : decide (zs = ys) = false := by rw [decide_eq_false_iff_not]; rintro rfl; exact hl rfl
    rw [hd]; clear hd
    clear hz hz'
    go_enter Tryz.func63, Tryz.ntmps63
    go_wp2
    go_ret
    exact ⟨rfl, Below.refl _ _⟩

end Go.Proofs.YtigkgfdnnfmmmaaGreat

namespace Go.Proofs.YtigkgfdnnfmmmaaGreat
open Go.RowKit

theorem ints_one (w : World) (e : TypeId) (z : Int) : IntsAt 0 (w.alloc (.cells #[.int .i64 z] e)) (.slice (some ⟨w.heap.size, 0, none⟩) 1 1) [z] := by
  refine ⟨_, 1, rfl, Nat.le_refl _, Or.inr ⟨w.heap.size, 0, rfl, Nat.zero_le _, fun i hi => ?_⟩⟩
  have h0 : i = 0 := by simp at hi; omega
  subst h0
  simp

/-- the numbers below k at which f is true -/
def enTo (f : Nat → Bool) (k : Nat) : List Int := ((List.range k).filter f).map Int.ofNat
theorem enTo_zero (f : Nat → Bool) : enTo f 0 = [] := rfl
theorem enTo_true {f : Nat → Bool} {k : Nat} (h : f k = true) : enTo f (k + 1) = enTo f k ++ [(k : Int)] := by
  unfold enTo
  rw [List.range_succ, List.filter_append, List.filter_cons_of_pos h, List.filter_nil, List.map_append]
  rfl
theorem enTo_false {f : Nat → Bool} {k : Nat} (h : f k = false) : enTo f (k + 1) = enTo f k := by
  unfold enTo
  rw [List.range_succ, List.filter_append, List.filter_cons_of_neg (by simp [h]), List.filter_nil, List.append_nil]
theorem enTo_length (f : Nat → Bool) (k : Nat) : (enTo f k).length ≤ k := by
  unfold enTo
  rw [List.length_map]
  exact Nat.le_trans (List.length_filter_le _ _) (by simp)

theorem ow_of_owns {w : World} {base : Nat} {v : Value} {zs : List Int} (h : w.ownsRow base 3 1 v zs.length (intCells zs)) : IntsOw base w v zs := by
  have h0 := h
  rcases h.2 with ⟨rfl, hn⟩ | ⟨g, cap, cur, rfl, hb, hg, hnc, _, _, _⟩
  · have hz : zs = [] := List.eq_nil_of_length_eq_zero hn
    subst hz
    exact ⟨_, _, rfl, Nat.le_refl _, Or.inl rfl⟩
  · refine ⟨_, _, rfl, hnc, Or.inr ⟨g, 0, rfl, hb, fun i hi => ⟨?_, ?_⟩⟩⟩
    · rw [Nat.zero_add, h0.cellAt i (by omega)]
      exact intCells_get hi
    · exact h0.frozenAt _
theorem ow_nil (w : World) (lo : Nat) : IntsOw lo w (.slice none 0 0) [] := ⟨none, 0, rfl, Nat.le_refl _, Or.inl rfl⟩

theorem ints_nil (w : World) (lo : Nat) : IntsAt lo w (.slice none 0 0) [] := ⟨none, 0, rfl, Nat.le_refl _, Or.inl rfl⟩

end Go.Proofs.YtigkgfdnnfmmmaaGreat

namespace Go.Proofs.YtigkgfdnnfmmmaaGreat
open Go.RowKit

def limB (u : UnfD) : Bool := decide (u.es.length ≤ 60) && decide (u.cs.length ≤ 200)

set_option maxRecDepth 100000 in
set_option maxHeartbeats 1000000 in
theorem l7Limits_any (v : Value) (u : UnfD) (w : World) (lo : Nat) (hv : UnfAt lo w v u) :
    Calls Tryz.prog 28 #[v] w (RetB w (limB u)) := by
  obtain ⟨a0, c0, a1, c1, rfl, _, _⟩ := hv.form
  clear hv
  unfold limB
  generalize u.cs.length = nc
  generalize u.es.length = ne
  go_enter Tryz.func28, Tryz.ntmps28
  have hW : Below w.heap.size w (w.alloc (.cells #[.slice a0 nc c0, .slice a1 ne c1] 38)) := (Below.refl _ _).alloc (Nat.le_refl _) _
  by_cases h1 : ne ≤ 60
  · have t1 : decide ((ne : Int) ≤ 60) = true := decide_eq_true (by omega)
    by_cases h2 : nc ≤ 200
    · have t2 : decide ((nc : Int) ≤ 200) = true := decide_eq_true (by omega)
      rw [decide_eq_true h1, decide_eq_true h2]
      clear h1 h2
      go_wp2_with fail
      go_ret
      exact ⟨rfl, hW⟩
    · have t2 : decide ((nc : Int) ≤ 200) = false := decide_eq_false (by omega)
      rw [decide_eq_true h1, decide_eq_false h2]
      clear h1 h2
      go_wp2_with fail
      go_ret
      exact ⟨rfl, hW⟩
  · have t1 : decide ((ne : Int) ≤ 60) = false := decide_eq_false (by omega)
    rw [decide_eq_false h1, Bool.false_and]
    clear h1
    go_wp2_with fail
    go_ret
    exact ⟨rfl, hW⟩

end Go.Proofs.YtigkgfdnnfmmmaaGreat

namespace Go.Proofs.YtigkgfdnnfmmmaaGreat
open Go.RowKit


set_option maxRecDepth 100000 in
set_option maxHeartbeats 1000000 in
theorem isWithinLimits_any (v : Value) (u : UnfD) (w : World) (lo : Nat) (hv : UnfAt lo w v u) :
    Calls Tryz.prog 37 #[v] w (RetB w (limB u)) := by
  obtain ⟨a0, c0, a1, c1, rfl, _, _⟩ := hv.form
  clear hv
  unfold limB
  generalize u.cs.length = nc
  generalize u.es.length = ne
  go_enter Tryz.func37, Tryz.ntmps37
  have hW : Below w.heap.size w (w.alloc (.cells #[.slice a0 nc c0, .slice a1 ne c1] 38)) := (Below.refl _ _).alloc (Nat.le_refl _) _
  by_cases h1 : ne ≤ 60
  · have t1 : decide ((ne : Int) ≤ 60) = true := decide_eq_true (by omega)
    by_cases h2 : nc ≤ 200
    · have t2 : decide ((nc : Int) ≤ 200) = true := decide_eq_true (by omega)
      rw [decide_eq_true h1, decide_eq_true h2]
      clear h1 h2
      go_wp2_with fail
      go_ret
      exact ⟨rfl, hW⟩
    · have t2 : decide ((nc : Int) ≤ 200) = false := decide_eq_false (by omega)
      rw [decide_eq_true h1, decide_eq_false h2]
      clear h1 h2
      go_wp2_with fail
      go_ret
      exact ⟨rfl, hW⟩
  · have t1 : decide ((ne : Int) ≤ 60) = false := decide_eq_false (by omega)
    rw [decide_eq_false h1, Bool.false_and]
    clear h1
    go_wp2_with fail
    go_ret
    exact ⟨rfl, hW⟩

end Go.Proofs.YtigkgfdnnfmmmaaGreat
