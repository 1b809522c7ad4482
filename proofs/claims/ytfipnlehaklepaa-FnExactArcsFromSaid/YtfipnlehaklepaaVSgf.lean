/- WALKS: arcsFrom, ArcsFrom of the program; l5From, ArcsFrom of the model. -/
import Derived.Test.YtfipnlehaklepaaVAro
import Derived.Test.YtfipnlehaklepaaVSgv
import Derived.Test.YtfipnlehaklepaaVSgw
namespace Go.Proofs.Ytfipnlehaklepaa
open Go.RowKit

set_option maxRecDepth 100000 in
set_option maxHeartbeats 2000000 in
theorem arcsFrom_any (v : Value) (r : SgD) (k : Int) (w : World) (lo : Nat) (hv : SgAt lo w v r) (hs : SmallSg r) :
    Calls Try.prog 65 #[v, .int .i64 k] w (RetArO w (leL r k)) := by
  obtain ⟨a0, c0, a1, c1, a2, c2, rfl, h_0, h_1, hl⟩ := hv.form
  clear hv h_0 h_1
  have K2 := hs.2.2
  clear hs
  obtain ⟨gs, ss, ls⟩ := r
  simp only at hl K2 ⊢
  obtain ⟨LL, hL⟩ : ∃ L, L = leL ⟨gs, ss, ls⟩ k := ⟨_, rfl⟩
  rw [← hL]
  have hL2 : LL = leTo ls k ls.length := hL
  have HE := Lib.hid hL2; clear hL hL2
  obtain ⟨ao, cap, hvv, hc, hz⟩ := hl
  injection hvv with e1 e2 e3
  subst e1; subst e3; clear e2
  have HF := Lib.hid hz; clear hz
  go_enter Try.func65, Try.ntmps65
  go_wp2_with fail
  have hw0 : Below w.heap.size w (w.alloc (.cells #[.slice a0 gs.length c0, .slice a1 ss.length c1, .slice a2 ls.length c2] 32)) := by (repeat' (first | (with_reducible exact Below.refl _ _) | (with_reducible assumption) | (with_reducible refine Below.alloc ?_ ?_ _) | (with_reducible refine Below.drew ?_) | (with_reducible refine below_drewN ?_ _) | (with_reducible refine Below.setCell ?_ ?_ _) | go_size))
  generalize w.alloc (.cells #[.slice a0 gs.length c0, .slice a1 ss.length c1, .slice a2 ls.length c2] 32) = W at hw0 ⊢
  go_loopw [5, 11] (fun l iv wr => ∃ i : Nat, i ≤ ls.length ∧ iv = .int .i64 i ∧ Hid (ARow w.heap.size wr l (leTo ls k i)) ∧ Below w.heap.size w wr) (fun _ iv _ => ls.length - (intOf iv).toNat)
  case atStart => exact ⟨0, Nat.zero_le _, rfl, by rw [leTo_zero]; exact ARow.nil _ _, hw0⟩
  case round =>
    obtain ⟨i, hi, rfl, hown, hb1⟩ := hrel
    have zr : w.heap.size ≤ wr.heap.size := hb1.size
    by_cases hlt : i < ls.length
    · rcases HF.out with h0 | ⟨b, off, rfl, hlo, hcell⟩
      · omega
      obtain ⟨q0, q1, q2, q3⟩ := hcell i hlt
      have d0 := Carries.of lo hb1 _ _ hlo q0
      have d1 := Carries.of lo hb1 _ _ hlo q1
      have d2 := Carries.of lo hb1 _ _ hlo q2
      have d3 := Carries.of lo hb1 _ _ hlo q3
      clear hcell q0 q1 q2 q3
      try dsimp only at d0 d1 d2 d3
      have hle := leTo_length ls k i
      have hyes := fun h => leTo_yes (ms := ls) (x := k) (j := i) hlt h
      have hno := fun h => leTo_no (ms := ls) (x := k) (j := i) hlt h
      generalize arF ls i = xf at d0 hyes hno
      generalize arS ls i = xs at d1 hyes
      generalize arU ls i = xu at d2 hyes
      generalize arT ls i = xt at d3 hyes
      have HY := Lib.hid hyes; clear hyes
      have HN := Lib.hid hno; clear hno
      by_cases h : xf = k
      · have t0 : (xf == k) = true := by simpa using h
        have HEN := Lib.hid (HY.out h)
        clear h
        go_wp2_with (refine wpList_append_ar rfl (.tmp 19) (.tmp 21) rfl w.heap.size _ _ rfl ((World.ownsRow.alloc hown.out _).alloc _) (wr.heap.size + 1) (xf, xs, xu, xt) rfl (by simp) (by simp) (by simp) (by simp) (by omega) (by simp; omega) ?_; intro v' w' hown' hgrow)
        have hw4 : Below w.heap.size w w' := ((hb1.alloc zr _).alloc (by simp; omega) _).grown hgrow (by simp; omega) (fun g hg => (hown.out.lt g hg).1)
        have HO4 := Lib.hid (show ARow w.heap.size w' v' (leTo ls k (i + 1)) by rw [HEN.out]; exact hown')
        clear hown' hgrow hown
        go_wp2_with fail
        go_roundw
        case rel => exact ⟨i + 1, by omega, by go_num, HO4, hw4⟩
        case measure => simp [intOf]; omega
      · have t0 : (xf == k) = false := by simpa using h
        have HO4 : Hid (∀ o, ARow w.heap.size (wr.alloc o) u5 (leTo ls k (i + 1))) := fun o => by rw [HN.out h]; exact World.ownsRow.alloc hown.out o
        clear h hown
        go_wp2_with fail
        go_roundw
        case rel => exact ⟨i + 1, by omega, by go_num, HO4.out _, by (repeat' (first | (with_reducible exact Below.refl _ _) | (with_reducible assumption) | (with_reducible refine Below.alloc ?_ ?_ _) | (with_reducible refine Below.drew ?_) | (with_reducible refine below_drewN ?_ _) | (with_reducible refine Below.setCell ?_ ?_ _) | go_size))⟩
        case measure => simp [intOf]; omega
    · have hii : i = ls.length := by omega
      subst hii
      have HO2 : Hid (ARow w.heap.size wr u5 LL) := by unfold Hid; rw [HE.out]; exact hown.out
      clear hown
      go_wp2_with fail
      go_ret
      exact ⟨_, rfl, HO2.out, hb1⟩

set_option maxRecDepth 100000 in
set_option maxHeartbeats 2000000 in
theorem l5From_any (v : Value) (r : SgD) (k : Int) (w : World) (lo : Nat) (hv : SgAt lo w v r) (hs : SmallSg r) :
    Calls Try.prog 63 #[v, .int .i64 k] w (RetArO w (leL r k)) := by
  obtain ⟨a0, c0, a1, c1, a2, c2, rfl, h_0, h_1, hl⟩ := hv.form
  clear hv h_0 h_1
  have K2 := hs.2.2
  clear hs
  obtain ⟨gs, ss, ls⟩ := r
  simp only at hl K2 ⊢
  obtain ⟨LL, hL⟩ : ∃ L, L = leL ⟨gs, ss, ls⟩ k := ⟨_, rfl⟩
  rw [← hL]
  have hL2 : LL = leTo ls k ls.length := hL
  have HE := Lib.hid hL2; clear hL hL2
  obtain ⟨ao, cap, hvv, hc, hz⟩ := hl
  injection hvv with e1 e2 e3
  subst e1; subst e3; clear e2
  have HF := Lib.hid hz; clear hz
  go_enter Try.func63, Try.ntmps63
  go_wp2_with fail
  have hw0 : Below w.heap.size w (w.alloc (.cells #[.slice a0 gs.length c0, .slice a1 ss.length c1, .slice a2 ls.length c2] 32)) := by (repeat' (first | (with_reducible exact Below.refl _ _) | (with_reducible assumption) | (with_reducible refine Below.alloc ?_ ?_ _) | (with_reducible refine Below.drew ?_) | (with_reducible refine below_drewN ?_ _) | (with_reducible refine Below.setCell ?_ ?_ _) | go_size))
  generalize w.alloc (.cells #[.slice a0 gs.length c0, .slice a1 ss.length c1, .slice a2 ls.length c2] 32) = W at hw0 ⊢
  go_loopw [5, 11] (fun l iv wr => ∃ i : Nat, i ≤ ls.length ∧ iv = .int .i64 i ∧ Hid (ARow w.heap.size wr l (leTo ls k i)) ∧ Below w.heap.size w wr) (fun _ iv _ => ls.length - (intOf iv).toNat)
  case atStart => exact ⟨0, Nat.zero_le _, rfl, by rw [leTo_zero]; exact ARow.nil _ _, hw0⟩
  case round =>
    obtain ⟨i, hi, rfl, hown, hb1⟩ := hrel
    have zr : w.heap.size ≤ wr.heap.size := hb1.size
    by_cases hlt : i < ls.length
    · rcases HF.out with h0 | ⟨b, off, rfl, hlo, hcell⟩
      · omega
      obtain ⟨q0, q1, q2, q3⟩ := hcell i hlt
      have d0 := Carries.of lo hb1 _ _ hlo q0
      have d1 := Carries.of lo hb1 _ _ hlo q1
      have d2 := Carries.of lo hb1 _ _ hlo q2
      have d3 := Carries.of lo hb1 _ _ hlo q3
      clear hcell q0 q1 q2 q3
      try dsimp only at d0 d1 d2 d3
      have hle := leTo_length ls k i
      have hyes := fun h => leTo_yes (ms := ls) (x := k) (j := i) hlt h
      have hno := fun h => leTo_no (ms := ls) (x := k) (j := i) hlt h
      generalize arF ls i = xf at d0 hyes hno
      generalize arS ls i = xs at d1 hyes
      generalize arU ls i = xu at d2 hyes
      generalize arT ls i = xt at d3 hyes
      have HY := Lib.hid hyes; clear hyes
      have HN := Lib.hid hno; clear hno
      by_cases h : xf = k
      · have t0 : (xf == k) = true := by simpa using h
        have HEN := Lib.hid (HY.out h)
        clear h
        go_wp2_with (refine wpList_append_ar rfl (.tmp 19) (.tmp 21) rfl w.heap.size _ _ rfl ((World.ownsRow.alloc hown.out _).alloc _) (wr.heap.size + 1) (xf, xs, xu, xt) rfl (by simp) (by simp) (by simp) (by simp) (by omega) (by simp; omega) ?_; intro v' w' hown' hgrow)
        have hw4 : Below w.heap.size w w' := ((hb1.alloc zr _).alloc (by simp; omega) _).grown hgrow (by simp; omega) (fun g hg => (hown.out.lt g hg).1)
        have HO4 := Lib.hid (show ARow w.heap.size w' v' (leTo ls k (i + 1)) by rw [HEN.out]; exact hown')
        clear hown' hgrow hown
        go_wp2_with fail
        go_roundw
        case rel => exact ⟨i + 1, by omega, by go_num, HO4, hw4⟩
        case measure => simp [intOf]; omega
      · have t0 : (xf == k) = false := by simpa using h
        have HO4 : Hid (∀ o, ARow w.heap.size (wr.alloc o) u5 (leTo ls k (i + 1))) := fun o => by rw [HN.out h]; exact World.ownsRow.alloc hown.out o
        clear h hown
        go_wp2_with fail
        go_roundw
        case rel => exact ⟨i + 1, by omega, by go_num, HO4.out _, by (repeat' (first | (with_reducible exact Below.refl _ _) | (with_reducible assumption) | (with_reducible refine Below.alloc ?_ ?_ _) | (with_reducible refine Below.drew ?_) | (with_reducible refine below_drewN ?_ _) | (with_reducible refine Below.setCell ?_ ?_ _) | go_size))⟩
        case measure => simp [intOf]; omega
    · have hii : i = ls.length := by omega
      subst hii
      have HO2 : Hid (ARow w.heap.size wr u5 LL) := by unfold Hid; rw [HE.out]; exact hown.out
      clear hown
      go_wp2_with fail
      go_ret
      exact ⟨_, rfl, HO2.out, hb1⟩

set_option maxRecDepth 100000 in
set_option maxHeartbeats 2000000 in
theorem ArcsFrom_any (v : Value) (r : SgD) (k : Int) (w : World) (lo : Nat) (hv : SgAt lo w v r) (hs : SmallSg r) :
    Calls Try.prog 18 #[v, .int .i64 k] w (RetAr w (afL r k) (afB r k)) := by
  obtain ⟨LL, hL⟩ : ∃ q, q = afL r k := ⟨_, rfl⟩
  obtain ⟨qo, hqo⟩ : ∃ q, q = afB r k := ⟨_, rfl⟩
  rw [← hL, ← hqo]
  have HV := Lib.hid hv
  obtain ⟨a0, c0, a1, c1, a2, c2, rfl, h_0, h_1, h_2⟩ := hv.form
  clear hv h_0 h_1 h_2
  have KC := hs.2.1.1
  have HS := Lib.hid hs; clear hs
  obtain ⟨ng, hng⟩ : ∃ n, n = r.sigs.length := ⟨_, rfl⟩
  obtain ⟨nc, hnc⟩ : ∃ n, n = r.codes.length := ⟨_, rfl⟩
  obtain ⟨na, hna⟩ : ∃ n, n = r.arcs.length := ⟨_, rfl⟩
  have E0 : Hid (afB r k = false → qo = false ∧ LL = []) := fun h => by rw [hL, hqo, h]; exact ⟨rfl, afL_no h⟩
  have E1 : Hid (afB r k = true → qo = true ∧ LL = leL r k) := fun h => by rw [hL, hqo, h]; exact ⟨rfl, afL_yes h⟩
  have HNC := Lib.hid hnc
  rw [← hng, ← hnc, ← hna] at HV ⊢
  rw [← hnc] at KC
  clear hng hnc hna hL hqo
  have x0 : (w.alloc (.cells #[.slice a0 ng c0, .slice a1 nc c1, .slice a2 na c2] 32)).cell? ⟨w.heap.size, 0, none⟩ = some (.slice a0 ng c0) := by simp
  have x1 : (w.alloc (.cells #[.slice a0 ng c0, .slice a1 nc c1, .slice a2 na c2] 32)).cell? ⟨w.heap.size, 1, none⟩ = some (.slice a1 nc c1) := by simp
  have x2 : (w.alloc (.cells #[.slice a0 ng c0, .slice a1 nc c1, .slice a2 na c2] 32)).cell? ⟨w.heap.size, 2, none⟩ = some (.slice a2 na c2) := by simp
  have hal : Below w.heap.size w (w.alloc (.cells #[.slice a0 ng c0, .slice a1 nc c1, .slice a2 na c2] 32)) := (Below.refl _ _).alloc (Nat.le_refl _) _
  go_enter Try.func18, Try.ntmps18
  go_wp2_with fail
  generalize w.alloc (.cells #[.slice a0 ng c0, .slice a1 nc c1, .slice a2 na c2] 32) = W0 at x0 x1 x2 hal ⊢
  refine (IsValidSg_any _ r _ lo (HV.out.keep (Carries.of lo hal)) HS.out).mono ?_
  rintro e w1 ⟨rfl, hb⟩
  have hw : Below w.heap.size w w1 := hal.trans (hb.mono hal.size)
  have x0 := cell_carry x0 (Carries.of 0 hb)
  have x1 := cell_carry x1 (Carries.of 0 hb)
  have x2 := cell_carry x2 (Carries.of 0 hb)
  clear hb hal
  cases hg : goodG r with
  | false =>
    obtain ⟨rfl, rfl⟩ := E0.out (by unfold afB; rw [hg]; rfl)
    clear hg
    go_wp2_with fail
    go_ret2
    exact ⟨_, rfl, ARow.nil _ _, hw⟩
  | true =>
  have HGG := Lib.hid hg; clear hg
  have hwp := hw; clear hw
  go_wp2_with fail
  refine (hasState_any _ _ _ _ _ _ _ _ _ _ _ KC).mono ?_
  rintro e w2 ⟨rfl, hb⟩
  have hw : Below w.heap.size w w2 := hwp.trans (hb.mono hwp.size)
  have x0 := cell_carry x0 (Carries.of 0 hb)
  have x1 := cell_carry x1 (Carries.of 0 hb)
  have x2 := cell_carry x2 (Carries.of 0 hb)
  clear hb hwp
  by_cases h1 : 0 ≤ k ∧ k < (nc : Int)
  case neg =>
    obtain ⟨rfl, rfl⟩ := E0.out (by unfold afB; rw [← HNC.out, decide_eq_false h1, Bool.and_false])
    rw [decide_eq_false h1]
    clear h1
    go_wp2_with fail
    go_ret2
    exact ⟨_, rfl, ARow.nil _ _, hw⟩
  rw [decide_eq_true h1]
  obtain ⟨rfl, rfl⟩ := E1.out (by unfold afB; rw [← HNC.out, HGG.out, decide_eq_true h1]; rfl)
  clear h1
  go_wp2_with fail
  refine (arcsFrom_any _ r k _ lo (HV.out.keep (Carries.of lo hw)) HS.out).mono ?_
  rintro e w5 ⟨u, rfl, hu, hb⟩
  have hw5 : Below w.heap.size w w5 := hw.trans (hb.mono hw.size)
  obtain ⟨ua, uc, rfl⟩ := hu.form
  have HU := Lib.hid (hu.low hw.size)
  clear hb hu
  go_wp2_with fail
  go_ret2
  exact ⟨_, rfl, HU.out, hw5⟩

set_option maxRecDepth 100000 in
set_option maxHeartbeats 2000000 in
theorem ArcsFromSpec_any (v : Value) (r : SgD) (k : Int) (w : World) (lo : Nat) (hv : SgAt lo w v r) (hs : SmallSg r) :
    Calls Try.prog 17 #[v, .int .i64 k] w (RetAr w (afL r k) (afB r k)) := by
  obtain ⟨LL, hL⟩ : ∃ q, q = afL r k := ⟨_, rfl⟩
  obtain ⟨qo, hqo⟩ : ∃ q, q = afB r k := ⟨_, rfl⟩
  rw [← hL, ← hqo]
  have HV := Lib.hid hv
  obtain ⟨a0, c0, a1, c1, a2, c2, rfl, h_0, h_1, h_2⟩ := hv.form
  clear hv h_0 h_1 h_2
  have KC := hs.2.1.1
  have HS := Lib.hid hs; clear hs
  obtain ⟨ng, hng⟩ : ∃ n, n = r.sigs.length := ⟨_, rfl⟩
  obtain ⟨nc, hnc⟩ : ∃ n, n = r.codes.length := ⟨_, rfl⟩
  obtain ⟨na, hna⟩ : ∃ n, n = r.arcs.length := ⟨_, rfl⟩
  have E0 : Hid (afB r k = false → qo = false ∧ LL = []) := fun h => by rw [hL, hqo, h]; exact ⟨rfl, afL_no h⟩
  have E1 : Hid (afB r k = true → qo = true ∧ LL = leL r k) := fun h => by rw [hL, hqo, h]; exact ⟨rfl, afL_yes h⟩
  have HNC := Lib.hid hnc
  rw [← hng, ← hnc, ← hna] at HV ⊢
  rw [← hnc] at KC
  clear hng hnc hna hL hqo
  have x0 : (w.alloc (.cells #[.slice a0 ng c0, .slice a1 nc c1, .slice a2 na c2] 32)).cell? ⟨w.heap.size, 0, none⟩ = some (.slice a0 ng c0) := by simp
  have x1 : (w.alloc (.cells #[.slice a0 ng c0, .slice a1 nc c1, .slice a2 na c2] 32)).cell? ⟨w.heap.size, 1, none⟩ = some (.slice a1 nc c1) := by simp
  have x2 : (w.alloc (.cells #[.slice a0 ng c0, .slice a1 nc c1, .slice a2 na c2] 32)).cell? ⟨w.heap.size, 2, none⟩ = some (.slice a2 na c2) := by simp
  have hal : Below w.heap.size w (w.alloc (.cells #[.slice a0 ng c0, .slice a1 nc c1, .slice a2 na c2] 32)) := (Below.refl _ _).alloc (Nat.le_refl _) _
  go_enter Try.func17, Try.ntmps17
  go_wp2_with fail
  generalize w.alloc (.cells #[.slice a0 ng c0, .slice a1 nc c1, .slice a2 na c2] 32) = W0 at x0 x1 x2 hal ⊢
  refine (l5State_any _ r k _ lo (HV.out.keep (Carries.of lo hal)) HS.out).mono ?_
  rintro e w1 ⟨rfl, hb⟩
  have hw : Below w.heap.size w w1 := hal.trans (hb.mono hal.size)
  have x0 := cell_carry x0 (Carries.of 0 hb)
  have x1 := cell_carry x1 (Carries.of 0 hb)
  have x2 := cell_carry x2 (Carries.of 0 hb)
  clear hb hal
  have haf : (goodG r && decide (0 ≤ k ∧ k < (r.codes.length : Int))) = afB r k := rfl
  rw [haf]
  clear haf
  cases hg : afB r k with
  | false =>
    obtain ⟨rfl, rfl⟩ := E0.out hg
    clear hg
    go_wp2_with fail
    go_ret2
    exact ⟨_, rfl, ARow.nil _ _, hw⟩
  | true =>
  obtain ⟨rfl, rfl⟩ := E1.out hg
  clear hg
  go_wp2_with fail
  refine (l5From_any _ r k _ lo (HV.out.keep (Carries.of lo hw)) HS.out).mono ?_
  rintro e w5 ⟨u, rfl, hu, hb⟩
  have hw5 : Below w.heap.size w w5 := hw.trans (hb.mono hw.size)
  obtain ⟨ua, uc, rfl⟩ := hu.form
  have HU := Lib.hid (hu.low hw.size)
  clear hb hu
  go_wp2_with fail
  go_ret2
  exact ⟨_, rfl, HU.out, hw5⟩

end Go.Proofs.Ytfipnlehaklepaa
