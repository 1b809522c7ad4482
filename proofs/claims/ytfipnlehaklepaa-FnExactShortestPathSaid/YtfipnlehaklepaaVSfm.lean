/- WALK: ShortestFiringSequence of the model. -/
import Derived.Test.YtfipnlehaklepaaVSfs
import Derived.Test.YtfipnlehaklepaaVOvk
import Derived.Test.YtfipnlehaklepaaVL1in
namespace Go.Proofs.Ytfipnlehaklepaa
open Go.RowKit

/-- the way from the place a on is laid -/
def WayR (ms : List Mv) (D : Nat → Int) (WW : List Nat) (e a : Nat) (suf : List Nat) : Prop := WW = wayTo ms D e a ++ suf
theorem WayR.next {ms : List Mv} {D : Nat → Int} {WW : List Nat} {e a : Nat} {suf : List Nat} (h : WayR ms D WW (e + 1) a suf) : WayR ms D WW e (mvF ms (stepAt ms D a e)).toNat (stepAt ms D a e :: suf) := by
  unfold WayR at h ⊢
  rw [h]
  conv => lhs; unfold wayTo
  rw [List.append_assoc]
  rfl
theorem dist_zero {n : Nat} {L : Nat → List Int} {s : Nat} {D : Nat → Int} (h : Dist n L s D) (hs : s < n) : D s = 0 := by
  have := (h s hs).2.2.2 0 rfl
  omega
theorem dist_self {n : Nat} {L : Nat → List Int} {s k : Nat} {D : Nat → Int} (h : Dist n L s D) (hk : k < n) (h0 : D k = 0) : k = s := by
  have := (h k hk).2.2.1 (by omega)
  rw [h0] at this
  exact this

set_option maxRecDepth 100000 in
set_option maxHeartbeats 4000000 in
theorem specShortestFiringSequence_any (v : Value) (r : RgD) (t : Int) (w : World) (lo : Nat) (hv : RgAt lo w v r) (hs : SmallRg r) :
    Calls Try.prog 40 #[v, .int .i64 t] w (RetOv w (sfL r t) (sfB r t)) := by
  have HV := Lib.hid hv
  obtain ⟨a0, c0, a1, c1, rfl, h_0, h_1⟩ := hv.form
  have HM := Lib.hid h_1
  clear hv h_0 h_1
  have KC := hs.1.1
  have KM := Lib.hid hs.2
  have HS := Lib.hid hs; clear hs
  have E1 := Lib.hid (fun h : goodR r = false => sfB_bad (t := t) h)
  have E2 := Lib.hid (fun h : ¬ (0 ≤ t ∧ t < r.marks.length) => sfB_out h)
  have E3 := Lib.hid (fun h : sfB r t = false => sf_no h)
  obtain ⟨nc, hnc⟩ : ∃ n, n = r.marks.length := ⟨_, rfl⟩
  obtain ⟨na, hna⟩ : ∃ n, n = r.moves.length := ⟨_, rfl⟩
  obtain ⟨LL, hL⟩ : ∃ L, L = sfL r t := ⟨_, rfl⟩
  obtain ⟨BB, hB⟩ : ∃ B, B = sfB r t := ⟨_, rfl⟩
  rw [← hL, ← hB]
  have HL := Lib.hid hL
  have HB := Lib.hid hB
  rw [← hna] at HM
  rw [← hnc, ← hna] at HV ⊢
  rw [← hnc] at KC
  have HNC := Lib.hid hnc
  have HNA := Lib.hid hna
  have hnp : goodR r = true → 1 ≤ nc := fun h => by rw [hnc]; exact (goodR_len h).1
  have HNP := Lib.hid hnp
  have hna2 : na ≤ 1048576 := by rw [hna]; exact KM.out
  clear hL hB hnc hna hnp
  have x0 : (w.alloc (.cells #[.slice a0 nc c0, .slice a1 na c1] 59)).cell? ⟨w.heap.size, 0, none⟩ = some (.slice a0 nc c0) := by simp
  have x1 : (w.alloc (.cells #[.slice a0 nc c0, .slice a1 na c1] 59)).cell? ⟨w.heap.size, 1, none⟩ = some (.slice a1 na c1) := by simp
  have hal : Below w.heap.size w (w.alloc (.cells #[.slice a0 nc c0, .slice a1 na c1] 59)) := (Below.refl _ _).alloc (Nat.le_refl _) _
  go_enter Try.func40, Try.ntmps40
  go_wp2_with fail
  generalize w.alloc (.cells #[.slice a0 nc c0, .slice a1 na c1] 59) = W0 at x0 x1 hal ⊢
  refine (l4Good_any _ r _ lo (HV.out.keep (Carries.of lo hal)) HS.out).mono ?_
  rintro e w1 ⟨rfl, hb⟩
  have hw1 : Below w.heap.size w w1 := hal.trans (hb.mono hal.size)
  have x0 := cell_carry x0 (Carries.of 0 hb)
  have x1 := cell_carry x1 (Carries.of 0 hb)
  clear hb hal
  cases hg : goodR r with
  | false =>
    have e1 := HB.out.trans (E1.out hg)
    have e2 := HL.out.trans (E3.out (E1.out hg))
    subst e1
    subst e2
    clear hg
    go_wp2_with fail
    go_ret2
    exact ⟨_, rfl, ow_nil _ _, hw1⟩
  | true =>
  have hnp := HNP.out hg
  have HG := Lib.hid hg; clear hg
  go_wp2_with fail
  refine (l1In_any _ _ _ _).mono ?_
  rintro e w2 ⟨rfl, hb⟩
  have hw2 : Below w.heap.size w w2 := hw1.trans (hb.mono hw1.size)
  have x0 := cell_carry x0 (Carries.of 0 hb)
  have x1 := cell_carry x1 (Carries.of 0 hb)
  clear hb hw1
  by_cases ht : 0 ≤ t ∧ t < nc
  case neg =>
    have e0 : sfB r t = false := E2.out (by rw [← HNC.out]; exact ht)
    have e1 := HB.out.trans e0
    have e2 := HL.out.trans (E3.out e0)
    subst e1
    subst e2
    rw [decide_eq_false (show ¬ ((0 : Int) ≤ t ∧ t ≤ (nc : Int) - 1) by omega)]
    clear ht e0
    go_wp2_with fail
    go_ret2
    exact ⟨_, rfl, ow_nil _ _, hw2⟩
  rw [decide_eq_true (show ((0 : Int) ≤ t ∧ t ≤ (nc : Int) - 1) by omega)]
  obtain ⟨tn, rfl⟩ := Int.eq_ofNat_of_zero_le ht.1
  have htn : tn < nc := by omega
  have htn1 : (tn : Int) < (nc : Int) := ht.2
  have htn0 : (0 : Int) ≤ (tn : Int) := ht.1
  clear ht
  have HIN : Hid (MvIn r.moves nc) := by rw [HNC.out]; exact goodR_in HG.out
  go_wp2_with fail
  refine (l4Far_any _ r 0 w2 lo (HV.out.keep (Carries.of lo hw2)) HS.out (by rw [← HNC.out]; omega) (by rw [← HNC.out]; exact HIN.out)).mono ?_
  rintro e w3 ⟨db, D, rfl, hd0, hd1, hrow, hD, hb⟩
  rw [← HNC.out] at hrow hD
  rw [← HNC.out]
  have hw3 : Below w.heap.size w w3 := hw2.trans (hb.mono hw2.size)
  have x0 := cell_carry x0 (Carries.of 0 hb)
  have x1 := cell_carry x1 (Carries.of 0 hb)
  have z3 := hw3.size
  have zB : w.heap.size < w3.heap.size := cell_old x0
  have zdb := hrow.lt
  have HD := Lib.hid hD
  have HD2 : Hid (Dist r.marks.length (tgL r.moves) 0 D) := by rw [← HNC.out]; exact hD
  have cdt := hrow.cell htn
  unfold dV at cdt
  have HR := Lib.hid hrow
  clear hb hrow hD hw2
  by_cases h0 : D tn < 0
  · have e0 : sfB r (tn : Int) = false := sfB_far HD2.out (by rw [← HNC.out]; exact htn) h0
    have e1 := HB.out.trans e0
    have e2 := HL.out.trans (E3.out e0)
    subst e1
    subst e2
    generalize D tn = x at cdt h0
    clear e0
    go_wp2_with fail
    go_ret2
    exact ⟨_, rfl, ow_nil _ _, hw3⟩
  have e1 := HB.out.trans (sfB_yes HG.out HD2.out (by rw [← HNC.out]; exact htn) (by omega))
  have e2 := HL.out.trans (sfL_yes HG.out HD2.out (goodR_in HG.out) (by rw [← HNC.out]; exact htn) (by omega))
  subst e1
  obtain ⟨d, hd⟩ : ∃ d : Nat, D tn = (d : Int) := ⟨(D tn).toNat, by omega⟩
  have hdn := (HD.out tn htn).2.1
  rw [hd] at cdt e2 hdn
  rw [Int.toNat_natCast] at e2
  obtain ⟨WW, hWW⟩ : ∃ W, W = wayTo r.moves D d tn := ⟨_, rfl⟩
  rw [← hWW] at e2
  have HE := Lib.hid e2
  have HW0 : Hid (WayR r.moves D WW d tn []) := by unfold Hid WayR; rw [hWW, List.append_nil]
  have HWL : Hid (WW.length = d) := by unfold Hid; rw [hWW, wayTo_length]
  have HDT := Lib.hid hd
  have hD0 := Lib.hid (dist_zero HD.out (by omega))
  clear hWW e2 hd h0
  go_wp2_with fail
  clear cdt
  go_loopw [1, 7] (fun av lv wr => ∃ (a e : Nat) (suf : List Nat), a < nc ∧ av = .int .i64 (a : Int) ∧ Hid (D a = (e : Int)) ∧ e + suf.length = d ∧ Hid (WayR r.moves D WW e a suf) ∧ Hid (wr.ownsRow w3.heap.size 3 1 lv suf.length (intCells (byL r.moves suf))) ∧ Below w3.heap.size w3 wr) (fun av _ _ => (D (intOf av).toNat).toNat)
  case atStart => exact ⟨tn, d, [], htn, rfl, HDT.out, rfl, HW0.out, World.ownsRow_nil _ _ _ _, Below.refl _ _⟩
  case round =>
    clear HW0 HDT
    obtain ⟨a, e, suf, ha, rfl, hDa, hed, hway, hown, hb1⟩ := hrel
    have zz1 := hb1.size
    have y0 := cell_keep x0 hb1 (Nat.le_refl _)
    have y1 := cell_keep x1 hb1 (Nat.le_refl _)
    have HRW := Lib.hid (HR.out.of_block (hb1.block _ zdb))
    by_cases ha0 : a = 0
    · subst ha0
      have he0 : e = 0 := by have h1 := hDa.out; have h2 := hD0.out; omega
      subst he0
      have hWs : WW = suf := by have h := hway.out; unfold WayR at h; rw [h]; rfl
      have HO : Hid (IntsOw w.heap.size wr u7 LL) := by
        have h := hown.out
        rw [← byL_length r.moves suf] at h
        have h2 := ow_of_owns (ownsRow_low h z3)
        rw [HE.out, hWs]
        exact h2
      clear hway hown
      go_wp2_with fail
      go_ret2
      exact ⟨_, rfl, HO.out, hw3.trans (hb1.mono z3)⟩
    obtain ⟨e', rfl⟩ : ∃ e', e = e' + 1 := by
      refine ⟨e - 1, ?_⟩
      false_or_by_contra
      have h1 := hDa.out
      exact ha0 (dist_self HD.out ha (by omega))
    have hD1 : D a = (e' : Int) + 1 := by rw [hDa.out]; omega
    have hst := stepAt_some HD.out HIN.out (by omega) ha hD1
    have hnx := hway.out.next
    have hbf : ∀ j, j < r.moves.length → (∀ i, i < j → stepOk r.moves D a e' i = false) → stepOk r.moves D a e' j = true → stepAt r.moves D a e' = j := fun j hj h1 h2 => stepAt_eq hj h1 h2
    have HST := Lib.hid hst
    have HNX := Lib.hid hnx
    have HBF := Lib.hid hbf
    have ca := HRW.out.cell ha
    unfold dV at ca
    rw [hD1] at ca
    have ha1 : (a : Int) < (nc : Int) := by omega
    have ha2 : (0 : Int) ≤ (a : Int) := Int.natCast_nonneg _
    have hwa : Below w.heap.size w wr := hw3.trans (hb1.mono z3)
    clear hst hnx hbf hway hD1
    go_wp2_with fail
    obtain ⟨wo, rfl⟩ : ∃ wo, wo = wr := ⟨_, rfl⟩
    go_loopw [1, 7, 34] (fun av lv jv wr => ∃ j : Nat, j ≤ na ∧ av = .int .i64 (a : Int) ∧ lv = u7 ∧ jv = .int .i64 j ∧ Hid (∀ i, i < j → stepOk r.moves D a e' i = false) ∧ Below wo.heap.size wo wr) (fun _ _ jv _ => na - (intOf jv).toNat)
    case atStart => exact ⟨0, Nat.zero_le _, rfl, rfl, rfl, fun i hi => absurd hi (Nat.not_lt_zero _), Below.refl _ _⟩
    case round =>
      obtain ⟨j, hj, rfl, rfl, rfl, hall, hb2⟩ := hrel
      have zz2 := hb2.size
      by_cases hjl : j < na
      case neg =>
        exfalso
        have h1 := HST.out
        have h2 := hall.out _ (show stepAt r.moves D a e' < j by rw [← HNA.out] at h1; omega)
        rw [h1.2] at h2
        cases h2
      have hjr : j < r.moves.length := by rw [← HNA.out]; exact hjl
      have hin := HIN.out j hjr
      have hso := stepOk_iff (ms := r.moves) (D := D) (at_ := a) (d := e') (i := j)
      have HALL := Lib.hid hall; clear hall
      have hnw : stepOk r.moves D a e' j = false → ∀ i, i < j + 1 → stepOk r.moves D a e' i = false := fun h i hi => by
        by_cases ei : i = j
        · subst ei; exact h
        · exact HALL.out i (by omega)
      have hwj : Below w.heap.size w wr := hwa.trans (hb2.mono hwa.size)
      obtain ⟨ao, cap, hvv, hc, hz⟩ := HM.out
      injection hvv with e1 e2 e3
      subst e1; subst e3
      clear e2 hc
      rcases hz with h0 | ⟨b, off, rfl, hlo, hcell⟩
      · omega
      obtain ⟨q0, q1, q2⟩ := hcell j hjr
      have d0 := Carries.of lo hwj _ _ hlo q0
      have d1 := Carries.of lo hwj _ _ hlo q1
      have d2 := Carries.of lo hwj _ _ hlo q2
      clear hcell q0 q1 q2
      try dsimp only at d0 d1 d2
      obtain ⟨fn, hfn⟩ := Int.eq_ofNat_of_zero_le hin.1.1
      have hfl := hin.1.2
      rw [hfn] at d0 hfl
      rw [hfn, Int.toNat_natCast] at hso
      have hfn1 : fn < nc := by omega
      have hf0 : (0 : Int) ≤ (fn : Int) := Int.natCast_nonneg _
      have HFN := Lib.hid hfn
      clear hin hfn
      have HRJ := Lib.hid (HRW.out.of_block (hb2.block _ HRW.out.lt))
      have cf := HRJ.out.cell hfn1
      unfold dV at cf
      have ca := cell_carry ca (Carries.of 0 hb2)
      have HB3 := Lib.hid (hb1.trans (hb2.mono hb1.size))
      have HO1 := Lib.hid (owns_after hown.out hb2)
      obtain ⟨df, hdf⟩ : ∃ x, x = D fn := ⟨_, rfl⟩
      rw [← hdf] at cf hso
      have HDF := Lib.hid hdf; clear hdf
      obtain ⟨xt, hxt⟩ : ∃ x, x = mvT r.moves j := ⟨_, rfl⟩
      rw [← hxt] at d2 hso
      obtain ⟨xb, hxb⟩ : ∃ x, x = mvB r.moves j := ⟨_, rfl⟩
      rw [← hxb] at d1
      have HXB := Lib.hid hxb
      clear hxt hxb
      have HSO := Lib.hid hso
      have HNW := Lib.hid hnw
      clear hso hnw hb1 hown
      have hbA : Below wr.heap.size wr (wr.alloc (.cells #[.int .i64 (fn : Int), .int .i64 xb, .int .i64 xt] 112)) := (Below.refl _ _).alloc (Nat.le_refl _) _
      have ca := cell_carry ca (Carries.of 0 hbA)
      have cf := cell_carry cf (Carries.of 0 hbA)
      have b0 : (wr.alloc (.cells #[.int .i64 (fn : Int), .int .i64 xb, .int .i64 xt] 112)).cell? ⟨wr.heap.size, 0, none⟩ = some (.int .i64 (fn : Int)) := by simp
      have b1 : (wr.alloc (.cells #[.int .i64 (fn : Int), .int .i64 xb, .int .i64 xt] 112)).cell? ⟨wr.heap.size, 1, none⟩ = some (.int .i64 xb) := by simp
      have b2 : (wr.alloc (.cells #[.int .i64 (fn : Int), .int .i64 xb, .int .i64 xt] 112)).cell? ⟨wr.heap.size, 2, none⟩ = some (.int .i64 xt) := by simp
      have zA : wr.heap.size < (wr.alloc (.cells #[.int .i64 (fn : Int), .int .i64 xb, .int .i64 xt] 112)).heap.size := by simp
      go_wp2_with fail
      generalize wr.alloc (.cells #[.int .i64 (fn : Int), .int .i64 xb, .int .i64 xt] 112) = WA at ca cf b0 b1 b2 zA hbA ⊢
      have hb4 : Below wo.heap.size wo WA := hb2.trans (hbA.mono zz2)
      have HO2 := Lib.hid (owns_after HO1.out hbA)
      clear d0 d1 d2 HO1
      by_cases h1 : xt = (a : Int)
      case neg =>
        have t1 : decide (xt = (a : Int)) = false := decide_eq_false h1
        have t2 : (xt == (a : Int)) = false := by rw [beq_eq_false_iff_ne]; exact h1
        have HN := Lib.hid (HNW.out (Bool.eq_false_iff.2 (fun h => h1 (HSO.out.1 h).1)))
        go_quiet (fail)
        go_wp2_with fail
        go_roundw
        case rel => exact ⟨j + 1, by omega, rfl, rfl, by go_num, HN, below_drewN hb4 _⟩
        case measure => simp [intOf]; omega
      subst h1
      by_cases h2 : 0 ≤ df
      case neg =>
        have t1 : decide (0 ≤ df) = false := decide_eq_false h2
        have HN := Lib.hid (HNW.out (Bool.eq_false_iff.2 (fun h => h2 (by rw [(HSO.out.1 h).2]; exact Int.natCast_nonneg _))))
        go_quiet (fail)
        go_wp2_with fail
        go_roundw
        case rel => exact ⟨j + 1, by omega, rfl, rfl, by go_num, HN, below_drewN hb4 _⟩
        case measure => simp [intOf]; omega
      by_cases h3 : df = (e' : Int)
      case neg =>
        have t0 : decide (0 ≤ df) = true := decide_eq_true h2
        have t1 : decide (df = (e' : Int)) = false := decide_eq_false h3
        have t2 : (df == (e' : Int)) = false := by rw [beq_eq_false_iff_ne]; exact h3
        have t3 : decide (df = (e' : Int) + 1 - 1) = false := decide_eq_false (by omega)
        have HN := Lib.hid (HNW.out (Bool.eq_false_iff.2 (fun h => h3 (HSO.out.1 h).2)))
        go_quiet (fail)
        go_wp2_with fail
        go_roundw
        case rel => exact ⟨j + 1, by omega, rfl, rfl, by go_num, HN, below_drewN hb4 _⟩
        case measure => simp [intOf]; omega
      have hk := HBF.out j hjr (fun i hi => HALL.out i hi) (HSO.out.2 ⟨rfl, h3⟩)
      subst h3
      have t0 : decide ((0 : Int) ≤ (e' : Int)) = true := decide_eq_true (by omega)
      have t3 : decide ((e' : Int) = (e' : Int) + 1 - 1) = true := decide_eq_true (by omega)
      have hnx := HNX.out
      rw [hk, HFN.out, Int.toNat_natCast] at hnx
      have HN := Lib.hid hnx
      clear hnx hk
      go_quiet (fail)
      have zo := hb4.size
      have zo3 : w3.heap.size ≤ WA.heap.size := Nat.le_trans zz1 zo
      have hsl : suf.length ≤ 1048576 := by omega
      have HIA : Hid (∀ n o, IntsAt w3.heap.size ((WA.drewN n).alloc o) u7 (byL r.moves suf)) := fun n o => by
        have h := HO2.out
        rw [← byL_length r.moves suf] at h
        exact ((ow_of_owns h).after ((below_drewN (Below.refl _ _) n).alloc (Nat.le_refl _) o)).at
      have HBL := Lib.hid (byL_length r.moves suf)
      have HIC : Hid ([Value.int .i64 xb] ++ intCells (byL r.moves suf) = intCells (byL r.moves (j :: suf))) := by
        unfold Hid
        rw [HXB.out]
        simp [byL, intCells]
      have b0A : Hid (∀ n o, ((WA.drewN n).alloc o).cell? ⟨wr.heap.size, 0, none⟩ = some (.int .i64 (fn : Int))) := fun n o => cell_carry b0 (Carries.of 0 ((below_drewN (Below.refl _ _) n).alloc (Nat.le_refl _) o))
      have HBA : Hid (∀ n o, Below w3.heap.size w3 ((WA.drewN n).alloc o)) := fun n o => (below_drewN (HB3.out.trans (hbA.mono (by have := HB3.out.size; omega))) n).alloc (by simp; omega) o
      go_wp2_with (refine wpList_append_ints rfl (.tmp 65) (.tmp 66) rfl w3.heap.size w3.heap.size _ 1 _ rfl (ownsRow_low (owns_one _ xb) (by simp; omega)) _ (byL r.moves suf) rfl (HIA.out _ _) (by rw [HBL.out]; omega) (by simp; omega) ?_; intro v' w' hown' hgrow; have hgr2 : World.grownBy _ w' (some WA.heap.size) := hgrow; have bx := grown_cell hgr2 (fun h => by have h2 : wr.heap.size = WA.heap.size := Option.some.inj h; omega) (b0A.out _ _))
      have hw6 : Below w3.heap.size w3 w' := (HBA.out _ _).grown hgr2 (by simp; omega) (fun g hg => by have h2 : WA.heap.size = g := Option.some.inj hg; omega)
      have HO6 : Hid (w'.ownsRow w3.heap.size 3 1 v' (j :: suf).length (intCells (byL r.moves (j :: suf)))) := by
        rw [HIC.out, HBL.out, Nat.add_comm] at hown'
        exact hown'
      clear hown' hgrow hgr2 HIA HBA b0A
      go_wp2_with fail
      go_roundw
      case rel => exact ⟨fn, e', j :: suf, hfn1, rfl, HDF.out.symm, by simp; omega, HN.out, HO6.out, hw6⟩
      case measure =>
        have h1 := HDF.out
        have h2 := hDa.out
        simp [intOf, ← h1, h2]

end Go.Proofs.Ytfipnlehaklepaa
