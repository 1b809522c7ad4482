/- WALK: l7Limits of the model.
   WALKS: l7Asked, l7Made (no event), InitialUnfolding of the model.
   WALK: slices.Equal of conditions.
   WALK: isWithinLimits of the program. -/
import Derived.Test.YtigkgfdnnfmmmaaGreatVNeta
import Derived.Test.YtigkgfdnnfmmmaaGreatVOwnt
import Derived.Test.YtigkgfdnnfmmmaaGreatVUfi
import Derived.Test.YtigkgfdnnfmmmaaGreatVUfm
import Derived.Deep.QuietTactic
import Derived.BigQuiet
namespace Go.Proofs.YtigkgfdnnfmmmaaGreat
open Go.RowKit

def limB (u : UnfD) : Bool := decide (u.es.length ≤ 60) && decide (u.cs.length ≤ 200)

set_option maxRecDepth 100000 in
set_option maxHeartbeats 1000000 in
theorem l7Limits_any (v : Value) (u : UnfD) (w : World) (lo : Nat) (hv : UnfAt lo w v u) :
    Calls Tryz.prog 28 #[v] w (RetB w (limB u)) := by
  obtain ⟨a0, c0, a1, c1, rfl, _, _⟩ := hv.form
  clear hv
  unfold limB
  generalize u.cs.length = nc
  generalize u.es.length = ne
  go_enter Tryz.func28, Tryz.ntmps28
  have hW : Below w.heap.size w (w.alloc (.cells #[.slice a0 nc c0, .slice a1 ne c1] 38)) := (Below.refl _ _).alloc (Nat.le_refl _) _
  by_cases h1 : ne ≤ 60
  · have t1 : decide ((ne : Int) ≤ 60) = true := decide_eq_true (by omega)
    by_cases h2 : nc ≤ 200
    · have t2 : decide ((nc : Int) ≤ 200) = true := decide_eq_true (by omega)
      rw [decide_eq_true h1, decide_eq_true h2]
      clear h1 h2
      go_wp2_with fail
      go_ret
      exact ⟨rfl, hW⟩
    · have t2 : decide ((nc : Int) ≤ 200) = false := decide_eq_false (by omega)
      rw [decide_eq_true h1, decide_eq_false h2]
      clear h1 h2
      go_wp2_with fail
      go_ret
      exact ⟨rfl, hW⟩
  · have t1 : decide ((ne : Int) ≤ 60) = false := decide_eq_false (by omega)
    rw [decide_eq_false h1, Bool.false_and]
    clear h1
    go_wp2_with fail
    go_ret
    exact ⟨rfl, hW⟩

end Go.Proofs.YtigkgfdnnfmmmaaGreat

namespace Go.Proofs.YtigkgfdnnfmmmaaGreat
open Go.RowKit

set_option maxRecDepth 100000 in
set_option maxHeartbeats 400000 in
theorem l7Asked_any (v : Value) (n : NetD) (s : ByteArray) (w : World) (lo : Nat) (hv : NetAt lo w v n) (hsm : SmallTrs n.ts) (hs : s.size ≤ 1048576) :
    Calls Tryz.prog 53 #[v, .string s] w (RetB w (iuB n s)) := by
  unfold iuB
  generalize hG : goodN n = g
  have HG := Lib.hid hG; clear hG
  generalize hM : markB n s = m
  have HM := Lib.hid hM; clear hM
  have hv' := hv
  obtain ⟨hp0, hp1, u, rfl, ht⟩ := hv'
  obtain ⟨ao, cap, rfl, hc, hz⟩ := ht
  have HV := Lib.hid hv; clear hv hz
  have HS := Lib.hid hsm; clear hsm
  go_enter Tryz.func53, Tryz.ntmps53
  go_wp2_with fail
  refine (l1Good_any _ n _ lo (HV.out.keep ?_) HS.out).mono ?_
  · (repeat' (first | (with_reducible exact Carries.refl _ _) | (with_reducible assumption) | (with_reducible refine Carries.alloc ?_ _) | (with_reducible refine Carries.drew ?_) | (with_reducible refine Carries.drewN ?_ _) | (with_reducible refine Carries.set ?_ ?_ _) | go_size))
  rintro e w1 ⟨rfl, hb⟩
  have hw1 : Below w.heap.size w w1 := by
    refine Below.trans ?_ (hb.mono ?_)
    · (repeat' (first | (with_reducible exact Below.refl _ _) | (with_reducible assumption) | (with_reducible refine Below.alloc ?_ ?_ _) | (with_reducible refine Below.drew ?_) | (with_reducible refine below_drewN ?_ _) | (with_reducible refine Below.setCell ?_ ?_ _) | go_size))
    · simp
  have a0 : w1.cell? ⟨w.heap.size, 0, none⟩ = some (.int .i64 n.places) := cell_carry (by simp) (Carries.of 0 hb)
  have a1 : w1.cell? ⟨w.heap.size, 1, none⟩ = some (.slice ao n.ts.length cap) := cell_carry (by simp) (Carries.of 0 hb)
  clear hb
  rw [HG.out]
  cases g with
  | false =>
    go_wp2_with fail
    go_ret
    exact ⟨rfl, hw1⟩
  | true =>
    go_wp2_with fail
    refine (l1Mark_any _ n s _ lo (HV.out.keep (Carries.of lo hw1)) hs).mono ?_
    rintro e w2 ⟨rfl, hb2⟩
    have hw2 : Below w.heap.size w w2 := hw1.trans (hb2.mono hw1.size)
    rw [HM.out]
    cases m with
    | false =>
      go_wp2_with fail
      go_ret
      exact ⟨rfl, hw2⟩
    | true =>
      go_wp2_with fail
      go_ret
      exact ⟨rfl, hw2⟩

/-- a call returns conditions in a row of its own -/
def RetCnds (w : World) (cs : List Cnd) (e : Ending) (w' : World) : Prop := ∃ v, e = .returned v ∧ CRow w.heap.size w' v cs ∧ Below w.heap.size w w'

set_option maxRecDepth 100000 in
set_option maxHeartbeats 1000000 in
theorem l7Made_nil (vt : Value) (o1 : vt.oneCell' = true) (s : ByteArray) (w : World) (hs : s.size ≤ 1048576) :
    Calls Tryz.prog 54 #[.agg #[.int .i64 (s.size : Int), vt], .string s, .slice none 0 0] w (RetCnds w (bornTo s s.size)) := by
  go_enter Tryz.func54, Tryz.ntmps54
  go_wp2_with fail
  go_loopw [7, 8] (fun o i wr => ∃ (k : Nat) (a : Option Addr) (c : Nat), k ≤ s.size ∧ i = .int .i64 k ∧ o = .slice a (bornTo s k).length c ∧ Hid (CRow w.heap.size wr (.slice a (bornTo s k).length c) (bornTo s k)) ∧ Below w.heap.size w wr ∧ wr.cell? ⟨w.heap.size, 0, none⟩ = some (.int .i64 (s.size : Int)) ∧ TyAt wr w.heap.size 43) (fun _ i _ => s.size - (intOf i).toNat)
  case atStart => exact ⟨0, none, 0, Nat.zero_le _, rfl, rfl, CRow.nil _ _, (Below.refl _ _).alloc (Nat.le_refl _) _, by simp, TyAt.new _ _ _⟩
  case round =>
    obtain ⟨k, a, c, hk, rfl, rfl, hrow, hb1, hbox, hT⟩ := hrel
    have hl30 := bornTo_length s k
    by_cases hlt : k < s.size
    · by_cases h8 : s[k].toNat = 49
      · have t8 : ((s[k].toNat : Int) == 49) = true := by rw [h8]; rfl
        have HB := Lib.hid (bornTo_yes hlt h8)
        clear h8
        have HA : Below wr.heap.size wr (wr.alloc (.cells #[.int .i64 (k : Int), .int .i64 (-1)] 96)) := (Below.refl _ _).alloc (Nat.le_refl _) _
        have hrow1 := Lib.hid (owns_after hrow.out HA)
        have hbox1 := cell_carry hbox (Carries.of 0 HA)
        have hT1 := Lib.hid (hT.keep HA)
        have hw1 := Lib.hid (hb1.trans (HA.mono hb1.size))
        have hzz := hb1.size
        clear HA hrow hT hb1
        go_wp2_with (refine wpList_append_cnd rfl (.tmp 23) (.tmp 26) rfl w.heap.size _ (bornTo s k) rfl hrow1.out wr.heap.size (k : Int) (-1) rfl (cell_new2 rfl).1 (cell_new2 rfl).2 (by omega) (by simp; omega) ?_; intro g kv w' hown hg)
        have hne := owns_ne hrow1.out hT1.out (by decide)
        have hbx := hg.cell hbox1 hne
        have hTx := hT1.out.grown hg hne
        have hwx := below_grown hw1.out (by simp; omega) hrow1.out (Nat.le_refl _) hg
        have H2 : Hid (CRow w.heap.size w' (.slice (some ⟨g, 0, none⟩) (bornTo s (k + 1)).length kv) (bornTo s (k + 1))) := by
          rw [HB.out, List.length_append]; exact hown
        have e2 : (bornTo s k).length + 1 = (bornTo s (k + 1)).length := by rw [HB.out, List.length_append]; rfl
        clear hown hg hrow1 hT1 hw1 hbox hbox1
        go_roundw
        case rel => exact ⟨k + 1, some ⟨g, 0, none⟩, kv, by omega, by go_num, by first | rw [e2] | rfl, H2, hwx, hbx, hTx⟩
        case measure => simp [intOf]; omega
      · have t8 : ((s[k].toNat : Int) == 49) = false := by simp; omega
        have HB := Lib.hid (bornTo_no hlt h8)
        clear h8
        go_wp2_with fail
        go_roundw
        case rel => exact ⟨k + 1, a, c, by omega, by go_num, by rw [HB.out], by rw [HB.out]; exact hrow, hb1, hbox, hT⟩
        case measure => simp [intOf]; omega
    · have hkk : k = s.size := by omega
      subst hkk
      have HRR := Lib.hid hrow.out; clear hrow
      go_wp2_with fail
      go_rounds 1
      go_wp2_with fail
      go_ret
      exact ⟨_, rfl, HRR.out, hb1⟩

end Go.Proofs.YtigkgfdnnfmmmaaGreat

namespace Go.Proofs.YtigkgfdnnfmmmaaGreat
open Go.RowKit

set_option maxRecDepth 100000 in
set_option maxHeartbeats 1000000 in
theorem EqualCnds_any (v v' : Value) (zs ys : List Cnd) (w : World) (lo lo' : Nat) (hv : CndsAt lo w v zs) (hv' : CndsAt lo' w v' ys) (hn : zs.length ≤ 1048576) (hn' : ys.length ≤ 1048576) :
    Calls Tryz.prog 63 #[v, v'] w (RetB w (decide (zs = ys))) := by
  obtain ⟨ao, cap, rfl, hc, hz⟩ := hv
  obtain ⟨ao', cap', rfl, hc', hz'⟩ := hv'
  by_cases hl : zs.length = ys.length
  · have hb : ((zs.length : Int) != (ys.length : Int)) = false := by simp [hl]
    by_cases hzs : 0 < zs.length
    · rcases hz with h0 | ⟨b, off, rfl, hlo, hcell⟩
      · omega
      rcases hz' with h0 | ⟨b', off', rfl, hlo', hcell'⟩
      · omega
      have HC := Lib.hid hcell; clear hcell
      have HC' := Lib.hid hcell'; clear hcell'
      have HL := Lib.hid hl
      have hl1 : zs.length ≤ ys.length := by omega
      have hl2 : ys.length ≤ zs.length := by omega
      clear hl
      go_enter Tryz.func63, Tryz.ntmps63
      go_wp2
      go_loopw [13] (fun i wr => ∃ k : Nat, k ≤ zs.length ∧ i = .int .i64 k ∧ Hid (zs.take k = ys.take k) ∧ Below w.heap.size w wr) (fun i _ => zs.length - (intOf i).toNat)
      case atStart => exact ⟨0, Nat.zero_le _, rfl, rfl, Below.refl _ _⟩
      case round =>
        obtain ⟨k, hk, rfl, ht, hb1⟩ := hrel
        by_cases hlt : k < zs.length
        · have hk2 : k < ys.length := by omega
          obtain ⟨c0, c1⟩ := HC.out k hlt
          obtain ⟨e0, e1⟩ := HC'.out k hk2
          have d0 := Carries.of lo hb1 _ _ hlo c0
          have d1 := Carries.of lo hb1 _ _ hlo c1
          have d2 := Carries.of lo' hb1 _ _ hlo' e0
          have d3 := Carries.of lo' hb1 _ _ hlo' e1
          clear c0 c1 e0 e1
          have HK : Hid ((cnP zs k, cnB zs k) = (cnP ys k, cnB ys k) ↔ zs[k] = ys[k]) := by rw [cn_getD hlt, cn_getD hk2]; exact Iff.rfl
          generalize cnP zs k = x0 at d0 HK
          generalize cnB zs k = x1 at d1 HK
          generalize cnP ys k = y0 at d2 HK
          generalize cnB ys k = y1 at d3 HK
          by_cases hd : (x0, x1) = (y0, y1)
          · have hs := Lib.hid (take_succ_of' hlt hk2 ht.out (HK.out.1 hd))
            injection hd with h0 h1
            subst h0; subst h1
            go_wp2_with fail
            go_quiet (fail)
            go_wp2_with fail
            go_roundw
            case rel => exact ⟨k + 1, by omega, by go_num, hs, by (repeat' (first | (with_reducible exact Below.refl _ _) | (with_reducible assumption) | (with_reducible refine Below.alloc ?_ ?_ _) | (with_reducible refine Below.drew ?_) | (with_reducible refine below_drewN ?_ _) | (with_reducible refine Below.setCell ?_ ?_ _) | go_size))⟩
            case measure => first | (simp [intOf]; omega) | simp [intOf]
          · have hne : ¬ zs[k] = ys[k] := fun q => hd (HK.out.2 q)
            have hfin : Hid (decide (zs = ys) = false) := decide_eq_false (list_ne_of' hlt hk2 hne)
            by_cases h0 : x0 = y0
            · subst h0
              have h1 : (x1 == y1) = false := by rw [beq_eq_false_iff_ne]; intro q; subst q; exact hd rfl
              have h2 : ¬ x1 = y1 := fun q => hd (by rw [q])
              clear hne hd
              go_wp2_with fail
              go_quiet (fail)
              go_wp2_with fail
              go_ret
              refine ⟨?_, by (repeat' (first | (with_reducible exact Below.refl _ _) | (with_reducible assumption) | (with_reducible refine Below.alloc ?_ ?_ _) | (with_reducible refine Below.drew ?_) | (with_reducible refine below_drewN ?_ _) | (with_reducible refine Below.setCell ?_ ?_ _) | go_size))⟩
              rw [hfin.out]; rfl
            · have h1 : (x0 == y0) = false := by rw [beq_eq_false_iff_ne]; exact h0
              clear hne hd
              go_wp2_with fail
              go_quiet (fail)
              go_wp2_with fail
              go_ret
              refine ⟨?_, by (repeat' (first | (with_reducible exact Below.refl _ _) | (with_reducible assumption) | (with_reducible refine Below.alloc ?_ ?_ _) | (with_reducible refine Below.drew ?_) | (with_reducible refine below_drewN ?_ _) | (with_reducible refine Below.setCell ?_ ?_ _) | go_size))⟩
              rw [hfin.out]; rfl
        · go_wp2
          go_ret
          refine ⟨?_, hb1⟩
          have h1 := ht.out
          rw [List.take_of_length_le (by omega), List.take_of_length_le (by omega)] at h1
          simp [h1]
    · have hz0 : zs = [] := List.eq_nil_of_length_eq_zero (by omega)
      have hy0 : ys = [] := List.eq_nil_of_length_eq_zero (by omega)
      subst hz0; subst hy0
      simp only [List.length_nil]
      clear hz hz' hc hc' hb hl hzs hn hn'
      go_enter Tryz.func63, Tryz.ntmps63
      go_wp2
      go_rounds 1
      go_ret
      exact ⟨rfl, Below.refl _ _⟩
  · have hb : ((zs.length : Int) != (ys.length : Int)) = true := by rw [bne_iff_ne]; omega
    have hd : decide (zs = ys) = false := by rw [decide_eq_false_iff_not]; rintro rfl; exact hl rfl
    rw [hd]; clear hd
    clear hz hz'
    go_enter Tryz.func63, Tryz.ntmps63
    go_wp2
    go_ret
    exact ⟨rfl, Below.refl _ _⟩

end Go.Proofs.YtigkgfdnnfmmmaaGreat

namespace Go.Proofs.YtigkgfdnnfmmmaaGreat
open Go.RowKit


set_option maxRecDepth 100000 in
set_option maxHeartbeats 1000000 in
theorem isWithinLimits_any (v : Value) (u : UnfD) (w : World) (lo : Nat) (hv : UnfAt lo w v u) :
    Calls Tryz.prog 37 #[v] w (RetB w (limB u)) := by
  obtain ⟨a0, c0, a1, c1, rfl, _, _⟩ := hv.form
  clear hv
  unfold limB
  generalize u.cs.length = nc
  generalize u.es.length = ne
  go_enter Tryz.func37, Tryz.ntmps37
  have hW : Below w.heap.size w (w.alloc (.cells #[.slice a0 nc c0, .slice a1 ne c1] 38)) := (Below.refl _ _).alloc (Nat.le_refl _) _
  by_cases h1 : ne ≤ 60
  · have t1 : decide ((ne : Int) ≤ 60) = true := decide_eq_true (by omega)
    by_cases h2 : nc ≤ 200
    · have t2 : decide ((nc : Int) ≤ 200) = true := decide_eq_true (by omega)
      rw [decide_eq_true h1, decide_eq_true h2]
      clear h1 h2
      go_wp2_with fail
      go_ret
      exact ⟨rfl, hW⟩
    · have t2 : decide ((nc : Int) ≤ 200) = false := decide_eq_false (by omega)
      rw [decide_eq_true h1, decide_eq_false h2]
      clear h1 h2
      go_wp2_with fail
      go_ret
      exact ⟨rfl, hW⟩
  · have t1 : decide ((ne : Int) ≤ 60) = false := decide_eq_false (by omega)
    rw [decide_eq_false h1, Bool.false_and]
    clear h1
    go_wp2_with fail
    go_ret
    exact ⟨rfl, hW⟩

end Go.Proofs.YtigkgfdnnfmmmaaGreat
