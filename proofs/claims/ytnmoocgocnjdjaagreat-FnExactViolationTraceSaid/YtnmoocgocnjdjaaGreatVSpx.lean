/- WALKS: l5Way, ShortestPath of the model. -/
import Derived.Test.YtnmoocgocnjdjaaGreatVSpw
namespace Go.Proofs.YtnmoocgocnjdjaaGreat
open Go.RowKit

set_option maxRecDepth 100000 in
set_option maxHeartbeats 4000000 in
theorem l5Way_any (v : Value) (r : SgD) (tn : Nat) (w : World) (lo : Nat) (hv : SgAt lo w v r) (hs : SmallSg r) (hg : goodG r = true) (ht : tn < r.codes.length) :
    Calls Tryz.prog 87 #[v, .int .i64 (tn : Int)] w (RetArO w (spL r (tn : Int))) := by
  obtain ⟨LL, hL⟩ : ∃ q, q = spL r (tn : Int) := ⟨_, rfl⟩
  rw [← hL]
  have HLL0 := Lib.hid hL; clear hL
  have HV := Lib.hid hv
  obtain ⟨a0, c0, a1, c1, a2, c2, rfl, h_0, h_1, h_2⟩ := hv.form
  have HL := Lib.hid h_2
  clear hv h_0 h_1 h_2
  have KC := hs.2.1.1
  have KA := hs.2.2
  have HS := Lib.hid hs; clear hs
  have HG := Lib.hid hg; clear hg
  obtain ⟨ng, hng⟩ : ∃ n, n = r.sigs.length := ⟨_, rfl⟩
  obtain ⟨nc, hnc⟩ : ∃ n, n = r.codes.length := ⟨_, rfl⟩
  obtain ⟨na, hna⟩ : ∃ n, n = r.arcs.length := ⟨_, rfl⟩
  have HNC := Lib.hid hnc
  have HNA := Lib.hid hna
  rw [← hng, ← hnc, ← hna] at HV ⊢
  rw [← hnc] at KC ht
  rw [← hna] at KA HL
  clear hng hnc hna
  have htn1 : (tn : Int) < (nc : Int) := by omega
  have htn0 : (0 : Int) ≤ (tn : Int) := Int.natCast_nonneg _
  have HIN : Hid (MvIn (mvsOf r.arcs) nc) := by rw [HNC.out]; exact mvsOf_in (goodG_arcIn HG.out)
  have HML := Lib.hid (mvsOf_length r.arcs)
  have HRL := Lib.hid (rgOf_len r)
  have x2 : (w.alloc (.cells #[.slice a0 ng c0, .slice a1 nc c1, .slice a2 na c2] 80)).cell? ⟨w.heap.size, 2, none⟩ = some (.slice a2 na c2) := by simp
  have hal : Below w.heap.size w (w.alloc (.cells #[.slice a0 ng c0, .slice a1 nc c1, .slice a2 na c2] 80)) := (Below.refl _ _).alloc (Nat.le_refl _) _
  have x0 : (w.alloc (.cells #[.slice a0 ng c0, .slice a1 nc c1, .slice a2 na c2] 80)).cell? ⟨w.heap.size, 0, none⟩ = some (.slice a0 ng c0) := by simp
  have x1 : (w.alloc (.cells #[.slice a0 ng c0, .slice a1 nc c1, .slice a2 na c2] 80)).cell? ⟨w.heap.size, 1, none⟩ = some (.slice a1 nc c1) := by simp
  go_enter Tryz.func87, Tryz.ntmps87
  go_wp2_with fail
  generalize w.alloc (.cells #[.slice a0 ng c0, .slice a1 nc c1, .slice a2 na c2] 80) = W0 at x0 x1 x2 hal ⊢
  refine (l5Moves_any _ r _ lo (HV.out.keep (Carries.of lo hal)) HS.out).mono ?_
  rintro e w1 ⟨vr, rfl, hvr, hb⟩
  have hw1 : Below w.heap.size w w1 := hal.trans (hb.mono hal.size)
  have x2 := cell_carry x2 (Carries.of 0 hb)
  have HVR := Lib.hid hvr
  obtain ⟨b0, m0, b1, m1, rfl, k_0, k_1⟩ := hvr.form
  have hk1 := k_1
  rw [show (rgOf r).moves.length = na from HML.out.trans HNA.out.symm] at hk1 HVR ⊢
  rw [HRL.out, ← HNC.out] at HVR ⊢
  have hk2 : MovesAt W0.heap.size w1 (.slice b1 na m1) (mvsOf r.arcs) := hk1
  have HMV := Lib.hid hk2
  have zW1 : w.heap.size < w1.heap.size := cell_old x2
  have hbA : Below w1.heap.size w1 (w1.alloc (.cells #[.slice b0 nc m0, .slice b1 na m1] 185)) := (Below.refl _ _).alloc (Nat.le_refl _) _
  have y2 := cell_carry x2 (Carries.of 0 hbA)
  have u1 : (w1.alloc (.cells #[.slice b0 nc m0, .slice b1 na m1] 185)).cell? ⟨w1.heap.size, 1, none⟩ = some (.slice b1 na m1) := by simp
  clear hb hal x0 x1 hvr k_0 k_1 hk1 hk2
  go_wp2_with fail
  generalize w1.alloc (.cells #[.slice b0 nc m0, .slice b1 na m1] 185) = WB at y2 u1 hbA ⊢
  refine (l4Far_any _ (rgOf r) 0 WB _ (HVR.out.keep (Carries.of _ hbA)) (rgOf_small HS.out) (by rw [HRL.out, ← HNC.out]; omega) (by rw [HRL.out, ← HNC.out]; exact HIN.out)).mono ?_
  rintro e w3 ⟨db, D, rfl, hd0, hd1, hrow, hD, hb⟩
  rw [HRL.out, ← HNC.out] at hrow hD ⊢
  have hD : Dist nc (tgL (mvsOf r.arcs)) 0 D := hD
  have h13 : Below w1.heap.size w1 w3 := hbA.trans (hb.mono hbA.size)
  have hw3 : Below w.heap.size w w3 := hw1.trans (h13.mono hw1.size)
  have y2 := cell_carry y2 (Carries.of 0 hb)
  have u1 := cell_carry u1 (Carries.of 0 hb)
  have z3 := hw3.size
  have z13 := h13.size
  have zdb := hrow.lt
  have HD := Lib.hid hD
  have HD2 : Hid (Dist r.codes.length (tgL (mvsOf r.arcs)) 0 D) := by rw [← HNC.out]; exact hD
  have HR := Lib.hid hrow
  clear hb hrow hD hbA
  have hpos := goodG_far HG.out HD2.out tn (by rw [← HNC.out]; exact ht)
  obtain ⟨d, hd⟩ : ∃ d : Nat, D tn = (d : Int) := ⟨(D tn).toNat, by omega⟩
  have hdn := (HD.out tn ht).2.1
  have e2 := HLL0.out.trans (spL_yes HG.out HD2.out (by rw [← HNC.out]; exact ht)).2
  rw [hd] at e2 hdn
  rw [Int.toNat_natCast] at e2
  obtain ⟨WW, hWW⟩ : ∃ W, W = wayTo (mvsOf r.arcs) D d tn := ⟨_, rfl⟩
  rw [← hWW] at e2
  have HE := Lib.hid e2
  have HW0 : Hid (WayR (mvsOf r.arcs) D WW d tn []) := by unfold Hid WayR; rw [hWW, List.append_nil]
  have HDT := Lib.hid hd
  have hD0 := Lib.hid (dist_zero HD.out (by omega))
  clear hWW e2 hd hpos
  go_wp2_with fail
  go_loopw [1, 7] (fun av lv wr => ∃ (a e : Nat) (suf : List Nat), a < nc ∧ av = .int .i64 (a : Int) ∧ Hid (D a = (e : Int)) ∧ e + suf.length = d ∧ Hid (WayR (mvsOf r.arcs) D WW e a suf) ∧ Hid (ARow w3.heap.size wr lv (arBy r.arcs suf)) ∧ Below w3.heap.size w3 wr) (fun av _ _ => (D (intOf av).toNat).toNat)
  case atStart => exact ⟨tn, d, [], ht, rfl, HDT.out, rfl, HW0.out, ARow.nil _ _, Below.refl _ _⟩
  case round =>
    clear HW0 HDT
    obtain ⟨a, e, suf, ha, rfl, hDa, hed, hway, hown, hb1⟩ := hrel
    have zz1 := hb1.size
    have s2 := cell_keep y2 hb1 (Nat.le_refl _)
    have s1 := cell_keep u1 hb1 (Nat.le_refl _)
    have HRW := Lib.hid (HR.out.of_block (hb1.block _ zdb))
    by_cases ha0 : a = 0
    · subst ha0
      have he0 : e = 0 := by have h1 := hDa.out; have h2 := hD0.out; omega
      subst he0
      have hWs : WW = suf := by have h := hway.out; unfold WayR at h; rw [h]; rfl
      have HO : Hid (ARow w.heap.size wr u7 LL) := by
        rw [HE.out, hWs]
        exact hown.out.low z3
      clear hway hown
      go_wp2_with fail
      go_ret
      exact ⟨_, rfl, HO.out, hw3.trans (hb1.mono z3)⟩
    obtain ⟨e', rfl⟩ : ∃ e', e = e' + 1 := by
      refine ⟨e - 1, ?_⟩
      false_or_by_contra
      have h1 := hDa.out
      exact ha0 (dist_self HD.out ha (by omega))
    have hD1 : D a = (e' : Int) + 1 := by rw [hDa.out]; omega
    have hst := stepAt_some HD.out HIN.out (by omega) ha hD1
    have hnx := hway.out.next
    have hbf : ∀ j, j < (mvsOf r.arcs).length → (∀ i, i < j → stepOk (mvsOf r.arcs) D a e' i = false) → stepOk (mvsOf r.arcs) D a e' j = true → stepAt (mvsOf r.arcs) D a e' = j := fun j hj h1 h2 => stepAt_eq hj h1 h2
    have HST := Lib.hid hst
    have HNX := Lib.hid hnx
    have HBF := Lib.hid hbf
    have ca := HRW.out.cell ha
    unfold dV at ca
    rw [hD1] at ca
    have ha1 : (a : Int) < (nc : Int) := by omega
    have ha2 : (0 : Int) ≤ (a : Int) := Int.natCast_nonneg _
    have hwa : Below w.heap.size w wr := hw3.trans (hb1.mono z3)
    have hwb : Below w1.heap.size w1 wr := h13.trans (hb1.mono z13)
    clear hst hnx hbf hway hD1
    go_wp2_with fail
    obtain ⟨wo, rfl⟩ : ∃ wo, wo = wr := ⟨_, rfl⟩
    go_loopw [1, 7, 19] (fun av lv jv wr => ∃ j : Nat, j ≤ na ∧ av = .int .i64 (a : Int) ∧ lv = u7 ∧ jv = .int .i64 j ∧ Hid (∀ i, i < j → stepOk (mvsOf r.arcs) D a e' i = false) ∧ Below wo.heap.size wo wr) (fun _ _ jv _ => na - (intOf jv).toNat)
    case atStart => exact ⟨0, Nat.zero_le _, rfl, rfl, rfl, fun i hi => absurd hi (Nat.not_lt_zero _), Below.refl _ _⟩
    case round =>
      obtain ⟨j, hj, rfl, rfl, rfl, hall, hb2⟩ := hrel
      have zz2 := hb2.size
      by_cases hjl : j < na
      case neg =>
        exfalso
        have h1 := HST.out
        have h2 := hall.out _ (show stepAt (mvsOf r.arcs) D a e' < j by rw [HML.out, ← HNA.out] at h1; omega)
        rw [h1.2] at h2
        cases h2
      have hja : j < r.arcs.length := by rw [← HNA.out]; exact hjl
      have hjr : j < (mvsOf r.arcs).length := by rw [HML.out]; exact hja
      have hin := HIN.out j hjr
      have hso := stepOk_iff (ms := mvsOf r.arcs) (D := D) (at_ := a) (d := e') (i := j)
      have HALL := Lib.hid hall; clear hall
      have hnw : stepOk (mvsOf r.arcs) D a e' j = false → ∀ i, i < j + 1 → stepOk (mvsOf r.arcs) D a e' i = false := fun h i hi => by
        by_cases ei : i = j
        · subst ei; exact h
        · exact HALL.out i (by omega)
      have hwj : Below w.heap.size w wr := hwa.trans (hb2.mono hwa.size)
      have hwj1 : Below w1.heap.size w1 wr := hwb.trans (hb2.mono hwb.size)
      obtain ⟨ao, cap, hvv, hc, hz⟩ := HMV.out
      injection hvv with e1 e2 e3
      subst e1; subst e3
      clear e2 hc
      rcases hz with h0 | ⟨b, off, rfl, hlo, hcell⟩
      · omega
      obtain ⟨q0, q1, q2⟩ := hcell j hjr
      have d0 := cell_carry q0 (Carries.of 0 hwj1)
      have d1 := cell_carry q1 (Carries.of 0 hwj1)
      have d2 := cell_carry q2 (Carries.of 0 hwj1)
      clear hcell q0 q1 q2
      try dsimp only at d0 d1 d2
      rw [(mvsOf_get hja).2.1] at d1
      obtain ⟨aq, cq, hvv, hc, hz⟩ := HL.out
      injection hvv with e1 e2 e3
      subst e1; subst e3
      clear e2 hc
      rcases hz with h0 | ⟨ba, offa, rfl, hloa, hcella⟩
      · omega
      obtain ⟨q0, q1, q2, q3⟩ := hcella j hja
      have g0 := Carries.of lo hwj _ _ hloa q0
      have g1 := Carries.of lo hwj _ _ hloa q1
      have g2 := Carries.of lo hwj _ _ hloa q2
      have g3 := Carries.of lo hwj _ _ hloa q3
      clear hcella q0 q1 q2 q3
      try dsimp only at g0 g1 g2 g3
      obtain ⟨fn, hfn⟩ := Int.eq_ofNat_of_zero_le hin.1.1
      have hfl := hin.1.2
      rw [hfn] at d0 hfl
      rw [hfn, Int.toNat_natCast] at hso
      have hfn1 : fn < nc := by omega
      have hf0 : (0 : Int) ≤ (fn : Int) := Int.natCast_nonneg _
      have HFN := Lib.hid hfn
      clear hin hfn
      have HRJ := Lib.hid (HRW.out.of_block (hb2.block _ HRW.out.lt))
      have cf := HRJ.out.cell hfn1
      unfold dV at cf
      have ca := cell_carry ca (Carries.of 0 hb2)
      have s2 := cell_carry s2 (Carries.of 0 hb2)
      have HB3 := Lib.hid (hb1.trans (hb2.mono hb1.size))
      have HO1 := Lib.hid (owns_after hown.out hb2)
      obtain ⟨df, hdf⟩ : ∃ x, x = D fn := ⟨_, rfl⟩
      rw [← hdf] at cf hso
      have HDF := Lib.hid hdf; clear hdf
      obtain ⟨xt, hxt⟩ : ∃ x, x = mvT (mvsOf r.arcs) j := ⟨_, rfl⟩
      rw [← hxt] at d2 hso
      clear hxt
      have HSO := Lib.hid hso
      have HNW := Lib.hid hnw
      have hj0 : (0 : Int) ≤ (j : Int) := Int.natCast_nonneg _
      have hj1 : (j : Int) < (na : Int) := by omega
      clear hso hnw hb1 hown
      have hbA : Below wr.heap.size wr (wr.alloc (.cells #[.int .i64 (fn : Int), .int .i64 (j : Int), .int .i64 xt] 189)) := (Below.refl _ _).alloc (Nat.le_refl _) _
      have ca := cell_carry ca (Carries.of 0 hbA)
      have cf := cell_carry cf (Carries.of 0 hbA)
      have s2 := cell_carry s2 (Carries.of 0 hbA)
      have g0 := cell_carry g0 (Carries.of 0 hbA)
      have g1 := cell_carry g1 (Carries.of 0 hbA)
      have g2 := cell_carry g2 (Carries.of 0 hbA)
      have g3 := cell_carry g3 (Carries.of 0 hbA)
      have b0 : (wr.alloc (.cells #[.int .i64 (fn : Int), .int .i64 (j : Int), .int .i64 xt] 189)).cell? ⟨wr.heap.size, 0, none⟩ = some (.int .i64 (fn : Int)) := by simp
      have b1 : (wr.alloc (.cells #[.int .i64 (fn : Int), .int .i64 (j : Int), .int .i64 xt] 189)).cell? ⟨wr.heap.size, 1, none⟩ = some (.int .i64 (j : Int)) := by simp
      have b2 : (wr.alloc (.cells #[.int .i64 (fn : Int), .int .i64 (j : Int), .int .i64 xt] 189)).cell? ⟨wr.heap.size, 2, none⟩ = some (.int .i64 xt) := by simp
      have zA : wr.heap.size < (wr.alloc (.cells #[.int .i64 (fn : Int), .int .i64 (j : Int), .int .i64 xt] 189)).heap.size := by simp
      go_wp2_with fail
      generalize wr.alloc (.cells #[.int .i64 (fn : Int), .int .i64 (j : Int), .int .i64 xt] 189) = WA at ca cf s2 g0 g1 g2 g3 b0 b1 b2 zA hbA ⊢
      have hb4 : Below wo.heap.size wo WA := hb2.trans (hbA.mono zz2)
      have HO2 := Lib.hid (owns_after HO1.out hbA)
      clear d0 d1 d2 HO1
      by_cases h1 : xt = (a : Int)
      case neg =>
        have t1 : decide (xt = (a : Int)) = false := decide_eq_false h1
        have t2 : (xt == (a : Int)) = false := by rw [beq_eq_false_iff_ne]; exact h1
        have HN := Lib.hid (HNW.out (Bool.eq_false_iff.2 (fun h => h1 (HSO.out.1 h).1)))
        go_quiet (fail)
        go_wp2_with fail
        go_roundw
        case rel => exact ⟨j + 1, by omega, rfl, rfl, by go_num, HN, below_drewN hb4 _⟩
        case measure => simp [intOf]; omega
      subst h1
      by_cases h2 : 0 ≤ df
      case neg =>
        have t1 : decide (0 ≤ df) = false := decide_eq_false h2
        have HN := Lib.hid (HNW.out (Bool.eq_false_iff.2 (fun h => h2 (by rw [(HSO.out.1 h).2]; exact Int.natCast_nonneg _))))
        go_quiet (fail)
        go_wp2_with fail
        go_roundw
        case rel => exact ⟨j + 1, by omega, rfl, rfl, by go_num, HN, below_drewN hb4 _⟩
        case measure => simp [intOf]; omega
      by_cases h3 : df = (e' : Int)
      case neg =>
        have t0 : decide (0 ≤ df) = true := decide_eq_true h2
        have t1 : decide (df = (e' : Int)) = false := decide_eq_false h3
        have t2 : (df == (e' : Int)) = false := by rw [beq_eq_false_iff_ne]; exact h3
        have t3 : decide (df = (e' : Int) + 1 - 1) = false := decide_eq_false (by omega)
        have HN := Lib.hid (HNW.out (Bool.eq_false_iff.2 (fun h => h3 (HSO.out.1 h).2)))
        go_quiet (fail)
        go_wp2_with fail
        go_roundw
        case rel => exact ⟨j + 1, by omega, rfl, rfl, by go_num, HN, below_drewN hb4 _⟩
        case measure => simp [intOf]; omega
      have hk := HBF.out j hjr (fun i hi => HALL.out i hi) (HSO.out.2 ⟨rfl, h3⟩)
      subst h3
      have t0 : decide ((0 : Int) ≤ (e' : Int)) = true := decide_eq_true (by omega)
      have t3 : decide ((e' : Int) = (e' : Int) + 1 - 1) = true := decide_eq_true (by omega)
      have hnx := HNX.out
      rw [hk, HFN.out, Int.toNat_natCast] at hnx
      have HN := Lib.hid hnx
      clear hnx hk
      go_quiet (fail)
      have zo := hb4.size
      have zo3 : w3.heap.size ≤ WA.heap.size := Nat.le_trans zz1 zo
      have hsl : suf.length ≤ 1048576 := by omega
      have HIA : Hid (∀ n o, ArcsAt w3.heap.size ((WA.drewN n).alloc o) u7 (arBy r.arcs suf)) := fun n o => (ARow.at (owns_after HO2.out ((below_drewN (Below.refl _ _) n).alloc (Nat.le_refl _) o)))
      have HBL := Lib.hid (arBy_length r.arcs suf)
      have HIC : Hid ([Value.int .i64 (arF r.arcs j), .int .i64 (arS r.arcs j), .bool (arU r.arcs j), .int .i64 (arT r.arcs j)] ++ arCells (arBy r.arcs suf) = arCells (arBy r.arcs (j :: suf))) := rfl
      have HLC : Hid ((arBy r.arcs (j :: suf)).length = suf.length + 1) := by unfold Hid; rw [arBy_length]; rfl
      generalize arF r.arcs j = af at g0 HIC
      generalize arS r.arcs j = as_ at g1 HIC
      generalize arU r.arcs j = au at g2 HIC
      generalize arT r.arcs j = at_ at g3 HIC
      have b0A : Hid (∀ n o, ((WA.drewN n).alloc o).cell? ⟨wr.heap.size, 0, none⟩ = some (.int .i64 (fn : Int))) := fun n o => cell_carry b0 (Carries.of 0 ((below_drewN (Below.refl _ _) n).alloc (Nat.le_refl _) o))
      have HBA : Hid (∀ n o, Below w3.heap.size w3 ((WA.drewN n).alloc o)) := fun n o => (below_drewN (HB3.out.trans (hbA.mono (by have := HB3.out.size; omega))) n).alloc (by simp; omega) o
      go_wp2_with (refine wpList_append_ars rfl (.tmp 54) (.tmp 55) rfl w3.heap.size w3.heap.size _ 1 _ rfl (ownsRow_low (arOne_owns _ af as_ au at_) (by simp; omega)) _ (arBy r.arcs suf) rfl (HIA.out _ _) (by rw [HBL.out]; omega) (by simp; omega) ?_; intro v' w' hown' hgrow; have hgr2 : World.grownBy _ w' (some WA.heap.size) := hgrow; have bx := grown_cell hgr2 (fun h => by have h2 : wr.heap.size = WA.heap.size := Option.some.inj h; omega) (b0A.out _ _))
      have hw6 : Below w3.heap.size w3 w' := (HBA.out _ _).grown hgr2 (by simp; omega) (fun g hg => by have h2 : WA.heap.size = g := Option.some.inj hg; omega)
      have HO6 : Hid (ARow w3.heap.size w' v' (arBy r.arcs (j :: suf))) := by
        unfold Hid ARow
        rw [HLC.out, ← HIC.out, Nat.add_comm suf.length 1, ← HBL.out]
        exact hown'
      clear hown' hgrow hgr2 HIA HBA b0A
      go_wp2_with fail
      go_roundw
      case rel => exact ⟨fn, e', j :: suf, hfn1, rfl, HDF.out.symm, by simp; omega, HN.out, HO6.out, hw6⟩
      case measure =>
        have h1 := HDF.out
        have h2 := hDa.out
        simp [intOf, ← h1, h2]

end Go.Proofs.YtnmoocgocnjdjaaGreat
