/- WALK: l5Arc of the model. -/
import Derived.Test.YtnmoocgocnjdjaaVSgs
import Derived.Test.YtnmoocgocnjdjaaVSigv
import Derived.Deep.RegionHeld3
namespace Go.Proofs.Ytnmoocgocnjdjaa
open Go.RowKit

theorem l2LabelV_any (a : Int) (u : Bool) (m : Nat) (w : World) (hm : m ≤ 1048576) :
    Calls Try.prog 120 #[.agg #[.int .i64 a, .bool u], .int .i64 m] w (RetB w (labV m a u)) := by
  have h := l2Label_any [(a, u)] 0 m w hm
  rw [labV_eq] at h
  exact h

set_option maxRecDepth 100000 in
set_option maxHeartbeats 4000000 in
theorem l5Arc_any (v : Value) (r : SgD) (f s : Int) (u : Bool) (t : Int) (w : World) (lo : Nat) (hv : SgAt lo w v r) (hs : SmallSg r) (hco : codesB r.sigs.length r.codes = true) :
    Calls Try.prog 91 #[v, .agg #[.int .i64 f, .int .i64 s, .bool u, .int .i64 t]] w (RetB w (arcV r.sigs.length r.codes f s u t)) := by
  obtain ⟨g, hg⟩ : ∃ g, g = arcV r.sigs.length r.codes f s u t := ⟨_, rfl⟩
  rw [← hg]
  obtain ⟨a0, c0, a1, c1, a2, c2, rfl, h_0, hm, h_2⟩ := hv.form
  clear hv h_0 h_2
  obtain ⟨gs, ss, ls⟩ := r
  obtain ⟨k0, k1, k2⟩ := hs
  simp only at hm k0 k1 k2 hg hco ⊢
  have HM := Lib.hid hm; clear hm
  have HG := Lib.hid hg; clear hg
  have HCO := Lib.hid hco; clear hco
  have K0 := k0.1
  have K1 := k1.1
  have HK := Lib.hid k1.2
  clear k0 k1
  obtain ⟨m, hm⟩ : ∃ m, m = gs.length := ⟨_, rfl⟩
  rw [← hm] at HG HCO K0 ⊢
  clear hm
  go_enter Try.func91, Try.ntmps91
  go_wp2_with fail
  refine (l1In_any _ _ _ _).mono ?_
  rintro e w1 ⟨rfl, hb⟩
  have hw1 : Below w.heap.size w w1 := by
    refine Below.trans ?_ (hb.mono ?_)
    · (repeat' (first | (with_reducible exact Below.refl _ _) | (with_reducible assumption) | (with_reducible refine Below.alloc ?_ ?_ _) | (with_reducible refine Below.drew ?_) | (with_reducible refine below_drewN ?_ _) | (with_reducible refine Below.setCell ?_ ?_ _) | go_size))
    · simp; omega
  have x0 : w1.cell? ⟨w.heap.size, 0, none⟩ = some (.slice a0 m c0) := cell_carry (by simp) (Carries.of 0 hb)
  have x1 : w1.cell? ⟨w.heap.size, 1, none⟩ = some (.slice a1 ss.length c1) := cell_carry (by simp) (Carries.of 0 hb)
  have y0 : w1.cell? ⟨w.heap.size + 1, 0, none⟩ = some (.int .i64 f) := cell_carry (by simp) (Carries.of 0 hb)
  have y1 : w1.cell? ⟨w.heap.size + 1, 1, none⟩ = some (.int .i64 s) := cell_carry (by simp) (Carries.of 0 hb)
  have y2 : w1.cell? ⟨w.heap.size + 1, 2, none⟩ = some (.bool u) := cell_carry (by simp) (Carries.of 0 hb)
  have y3 : w1.cell? ⟨w.heap.size + 1, 3, none⟩ = some (.int .i64 t) := cell_carry (by simp) (Carries.of 0 hb)
  have z1 : w.heap.size + 1 < w1.heap.size := by have := hb.size; simp at this; omega
  clear hb
  by_cases h1 : 0 ≤ f ∧ f < ss.length
  case neg =>
    have e := HG.out
    unfold arcV arcIn at e
    rw [decide_eq_false (fun h => h1 h.1), Bool.false_and] at e
    subst e
    have hd : decide ((0 : Int) ≤ f ∧ f ≤ (ss.length : Int) - 1) = false := decide_eq_false (by omega)
    rw [hd]
    clear h1 hd
    go_wp2_with fail
    go_ret
    exact ⟨rfl, hw1⟩
  have hd : decide ((0 : Int) ≤ f ∧ f ≤ (ss.length : Int) - 1) = true := decide_eq_true (by omega)
  rw [hd]; clear hd
  go_wp2_with fail
  refine (l1In_any _ _ _ _).mono ?_
  rintro e w2 ⟨rfl, hb⟩
  have hw2 : Below w.heap.size w w2 := hw1.trans (hb.mono hw1.size)
  have x0 := cell_carry x0 (Carries.of 0 hb)
  have x1 := cell_carry x1 (Carries.of 0 hb)
  have y0 := cell_carry y0 (Carries.of 0 hb)
  have y1 := cell_carry y1 (Carries.of 0 hb)
  have y2 := cell_carry y2 (Carries.of 0 hb)
  have y3 := cell_carry y3 (Carries.of 0 hb)
  have z2 : w.heap.size + 1 < w2.heap.size := by have := hb.size; omega
  clear hb hw1 z1
  by_cases h2 : 0 ≤ t ∧ t < ss.length
  case neg =>
    have e := HG.out
    unfold arcV arcIn at e
    rw [decide_eq_false (fun h => h2 h.2), Bool.false_and] at e
    subst e
    have hd : decide ((0 : Int) ≤ t ∧ t ≤ (ss.length : Int) - 1) = false := decide_eq_false (by omega)
    rw [hd]
    clear h2 hd
    go_wp2_with fail
    go_ret
    exact ⟨rfl, hw2⟩
  have hd : decide ((0 : Int) ≤ t ∧ t ≤ (ss.length : Int) - 1) = true := decide_eq_true (by omega)
  rw [hd]; clear hd
  have e := HG.out
  unfold arcV arcIn at e
  rw [decide_eq_true ⟨h1, h2⟩, Bool.true_and] at e
  have HG2 := Lib.hid e; clear e HG
  obtain ⟨fn, hfn⟩ := Int.eq_ofNat_of_zero_le h1.1
  obtain ⟨tn, htn⟩ := Int.eq_ofNat_of_zero_le h2.1
  subst hfn; subst htn
  have hf1 : fn < ss.length := by omega
  have ht1 : tn < ss.length := by omega
  clear h1 h2
  have HCF := Lib.hid (codesB_at HCO.out hf1)
  have HCT := Lib.hid (codesB_at HCO.out ht1)
  have zf : (stN ss fn).size ≤ 1048576 := HK.out _ hf1
  have zt : (stN ss tn).size ≤ 1048576 := HK.out _ ht1
  have hzf : m ≤ (stN ss fn).size ∧ (stN ss fn).size ≤ m := by have := codeB_size HCF.out; omega
  have hzt : m ≤ (stN ss tn).size ∧ (stN ss tn).size ≤ m := by have := codeB_size HCT.out; omega
  obtain ⟨hzf1, hzf2⟩ := hzf
  obtain ⟨hzt1, hzt2⟩ := hzt
  simp only [Int.toNat_natCast] at HG2
  rcases HM.out with ⟨ao, cap, hvv, hc, hz⟩
  injection hvv with e1 e2 e3
  subst e1; subst e3; clear e2
  rcases hz with h0 | ⟨b, off, rfl, hlo, hcell⟩
  · omega
  have C0 := hcell fn hf1
  have C1 := hcell tn ht1
  clear hcell
  generalize stN ss fn = X at HCF zf hzf1 hzf2 HG2 C0
  generalize stN ss tn = Y at HCT zt hzt1 hzt2 HG2 C1
  go_wp2_with fail
  refine (l2LabelV_any _ _ _ _ K0).mono ?_
  rintro e w3 ⟨rfl, hb⟩
  have hw3 : Below w.heap.size w w3 := hw2.trans (hb.mono hw2.size)
  have x0 := cell_carry x0 (Carries.of 0 hb)
  have x1 := cell_carry x1 (Carries.of 0 hb)
  have y0 := cell_carry y0 (Carries.of 0 hb)
  have y1 := cell_carry y1 (Carries.of 0 hb)
  have y2 := cell_carry y2 (Carries.of 0 hb)
  have y3 := cell_carry y3 (Carries.of 0 hb)
  have z3 : w.heap.size + 1 < w3.heap.size := by have := hb.size; omega
  clear hb hw2 z2
  cases hlab : labV m s u with
  | false =>
    have e := HG2.out
    rw [hlab, Bool.false_and] at e
    subst e
    clear hlab
    go_wp2_with fail
    go_ret
    exact ⟨rfl, hw3⟩
  | true =>
  have e := HG2.out
  rw [hlab, Bool.true_and] at e
  have HG3 := Lib.hid e; clear e HG2
  have D0 := Carries.of lo hw3 _ _ hlo C0
  have D1 := Carries.of lo hw3 _ _ hlo C1
  have hi1 : (fn : Int) < (ss.length : Int) := by omega
  have hi2 : (tn : Int) < (ss.length : Int) := by omega
  have hi3 : (0 : Int) ≤ (fn : Int) := Int.natCast_nonneg _
  have hi4 : (0 : Int) ≤ (tn : Int) := Int.natCast_nonneg _
  by_cases hneg : s < 0
  · have hs1 : s = -1 := by
      unfold labV at hlab
      simp only [Bool.or_eq_true, Bool.and_eq_true, decide_eq_true_eq] at hlab
      omega
    have e := HG3.out
    rw [hs1, ← flip_silent HCF.out HCT.out] at e
    have hcmp : (X.toList == Y.toList) = g := by rw [bytes_toList_beq]; exact e.symm
    have HS1 := Lib.hid hs1
    clear hlab e hs1
    go_wp2_with fail
    go_quiet (fail)
    go_wp2_with fail
    go_ret
    exact ⟨rfl, below_drewN hw3 _⟩
  · obtain ⟨sn, hsn⟩ := Int.eq_ofNat_of_zero_le (by omega : 0 ≤ s)
    subst hsn
    have hsm : sn < m := by
      unfold labV at hlab
      simp only [Bool.or_eq_true, Bool.and_eq_true, decide_eq_true_eq] at hlab
      omega
    have e := HG3.out
    rw [← flip_edge HCF.out HCT.out hsm] at e
    have hs0 : (0 : Int) ≤ (sn : Int) := Int.natCast_nonneg _
    clear hlab hneg
    have b1 := bitS_size u
    have b2 := bitS_size (!u)
    have b1' : (bitS u).size ≤ 1 := by omega
    have b2' : (bitS (!u)).size ≤ 1 := by omega
    have hsX : sn < X.size := by omega
    have hsY : sn < Y.size := by omega
    clear b1 b2
    go_wp2_with fail
    go_quiet (fail)
    go_wp2_with fail
    have y1 : (w3.drewN nq).cell? ⟨w.heap.size + 1, 1, none⟩ = some (.int .i64 (sn : Int)) := y1
    have y2 : (w3.drewN nq).cell? ⟨w.heap.size + 1, 2, none⟩ = some (.bool u) := y2
    have hwq : Below w.heap.size w (w3.drewN nq) := below_drewN hw3 _
    generalize w3.drewN nq = W at y1 y2 hwq ⊢
    have g1 : (X.toList == (setS Y sn (bitS (!u))).toList) = decide (X = setS Y sn (bitS (!u))) := bytes_toList_beq _ _
    have g2 : (Y.toList == (setS X sn (bitS u)).toList) = decide (Y = setS X sn (bitS u)) := bytes_toList_beq _ _
    cases hd1 : decide (X = setS Y sn (bitS (!u))) with
    | false =>
      rw [hd1] at g1 e
      rw [Bool.false_and] at e
      subst e
      clear hd1 g2
      go_quiet (first | with_reducible refine Calls.quiet_of_same (l5Bit_q _ _) | with_reducible refine Calls.quiet_of (l5Set_q _ _ _ _ zt b2' hsY))
      go_wp2_with fail
      go_ret
      exact ⟨rfl, below_drewN hwq _⟩
    | true =>
      rw [hd1] at g1 e
      rw [Bool.true_and] at e
      rw [← e] at g2
      clear hd1 e
      go_quiet (first | with_reducible refine Calls.quiet_of_same (l5Bit_q _ _) | with_reducible refine Calls.quiet_of (l5Set_q _ _ _ _ zt b2' hsY) | with_reducible refine Calls.quiet_of (l5Set_q _ _ _ _ zf b1' hsX))
      go_wp2_with fail
      go_ret
      exact ⟨rfl, below_drewN hwq _⟩

end Go.Proofs.Ytnmoocgocnjdjaa
