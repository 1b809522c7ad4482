/- WALK: HomeStates of the program. -/
import Derived.Test.YtfipnlehaklepaaVHsm
import Derived.Test.YtfipnlehaklepaaVRgi
import Derived.Test.YtfipnlehaklepaaVTgt
import Derived.BigQuiet
namespace Go.Proofs.Ytfipnlehaklepaa
open Go.RowKit

/-- how many of the first places come to k; the places before j count one place more -/
def srcV (g : Nat → Nat → Bool) (st j : Nat) : Nat → Value := fun k => .int .i64 ((cntB (if k < j then st + 1 else st) (g k) : Nat) : Int)
theorem srcV_at (g : Nat → Nat → Bool) (st j : Nat) : srcV g st j j = .int .i64 ((cntB st (g j) : Nat) : Int) := by
  unfold srcV; rw [if_neg (Nat.lt_irrefl j)]
theorem srcV_zero (g : Nat → Nat → Bool) (k : Nat) : srcV g 0 0 k = .int .i64 0 := by
  unfold srcV; rw [if_neg (Nat.not_lt_zero _)]; rfl
theorem srcV_base (g : Nat → Nat → Bool) (st k : Nat) : srcV g st 0 k = .int .i64 ((cntB st (g k) : Nat) : Int) := by
  unfold srcV; rw [if_neg (Nat.not_lt_zero _)]
theorem srcV_next (g : Nat → Nat → Bool) {st n k : Nat} (h : k < n) : srcV g st n k = srcV g (st + 1) 0 k := by
  unfold srcV; rw [if_pos h, if_neg (Nat.not_lt_zero _)]
theorem srcV_hit {g : Nat → Nat → Bool} {st j : Nat} (h : g j st = true) : (fun k => if k = j then Value.int .i64 (((cntB st (g j) : Nat) : Int) + 1) else srcV g st j k) = srcV g st (j + 1) := by
  funext k
  unfold srcV
  by_cases e : k = j
  · subst e
    rw [if_pos rfl, if_pos (Nat.lt_succ_self k), cntB_succ, if_pos h]
    simp
  · rw [if_neg e]
    by_cases e2 : k < j
    · rw [if_pos e2, if_pos (by omega)]
    · rw [if_neg e2, if_neg (by omega)]
theorem srcV_miss {g : Nat → Nat → Bool} {st j : Nat} (h : g j st = false) : srcV g st j = srcV g st (j + 1) := by
  funext k
  unfold srcV
  by_cases e : k = j
  · subst e
    rw [if_neg (Nat.lt_irrefl k), if_pos (Nat.lt_succ_self k), cntB_succ, h]
    simp
  · by_cases e2 : k < j
    · rw [if_pos e2, if_pos (by omega)]
    · rw [if_neg e2, if_neg (by omega)]

theorem tgL_inM {ls : List Mv} {n : Nat} (h : ∀ i, i < ls.length → (0 ≤ mvF ls i ∧ mvF ls i < n) ∧ (0 ≤ mvT ls i ∧ mvT ls i < n)) : InB n (tgL ls) := by
  intro p _ x hx
  obtain ⟨i, hi, _, h2⟩ := (mem_tgTo _).1 hx
  have := (h i hi).2
  omega

set_option maxRecDepth 100000 in
set_option maxHeartbeats 4000000 in
theorem HomeStates_any (v : Value) (r : RgD) (w : World) (lo : Nat) (hv : RgAt lo w v r) (hs : SmallRg r) :
    Calls Try.prog 37 #[v] w (RetOv w (hmL r) (goodR r)) := by
  have HV := Lib.hid hv
  obtain ⟨a0, c0, a1, c1, rfl, h_0, h_1⟩ := hv.form
  have HM := Lib.hid h_1
  clear hv h_0 h_1
  have KC := hs.1.1
  have KM := Lib.hid hs.2
  have HS := Lib.hid hs; clear hs
  obtain ⟨nc, hnc⟩ : ∃ n, n = r.marks.length := ⟨_, rfl⟩
  obtain ⟨na, hna⟩ : ∃ n, n = r.moves.length := ⟨_, rfl⟩
  have e4 : goodR r = false → hmL r = [] := hmL_no
  have e5 : goodR r = true → hmL r = enTo (hmF r) nc := fun h => by rw [hnc]; exact hmL_yes h
  have e6 : goodR r = true → ∀ i, i < r.moves.length → (0 ≤ mvF r.moves i ∧ mvF r.moves i < nc) ∧ (0 ≤ mvT r.moves i ∧ mvT r.moves i < nc) := fun h i hi => by rw [hnc]; exact ⟨(goodR_moves h hi).1, (goodR_moves h hi).2.1⟩
  obtain ⟨g, hgd⟩ : ∃ g, g = bk r.moves nc := ⟨_, rfl⟩
  obtain ⟨f, hf⟩ : ∃ f, f = hmF r := ⟨_, rfl⟩
  have hfk : ∀ k : Nat, f k = decide (cntB nc (g k) = nc) := fun k => by rw [hf, hgd, hnc, cntB_full]; rfl
  have hgk : ∀ k : Nat, bk r.moves nc k = g k := fun k => by rw [hgd]
  rw [← hf] at e5
  obtain ⟨LL, hL⟩ : ∃ L, L = hmL r := ⟨_, rfl⟩
  rw [← hL] at e4 e5 ⊢
  obtain ⟨G, hG⟩ : ∃ G, G = goodR r := ⟨_, rfl⟩
  rw [← hG] at e4 e5 e6 ⊢
  have HGG := Lib.hid hG
  have E4 := Lib.hid e4
  have E5 := Lib.hid e5
  have E6 := Lib.hid e6
  have HFK := Lib.hid hfk
  have HGK := Lib.hid hgk
  rw [← hna] at HM
  rw [← hnc, ← hna] at HV ⊢
  rw [← hnc] at KC
  clear hG e4 e5 e6 hfk hgk hgd hf hL hnc hna
  have x0 : (w.alloc (.cells #[.slice a0 nc c0, .slice a1 na c1] 59)).cell? ⟨w.heap.size, 0, none⟩ = some (.slice a0 nc c0) := by simp
  have x1 : (w.alloc (.cells #[.slice a0 nc c0, .slice a1 na c1] 59)).cell? ⟨w.heap.size, 1, none⟩ = some (.slice a1 na c1) := by simp
  have hal : Below w.heap.size w (w.alloc (.cells #[.slice a0 nc c0, .slice a1 na c1] 59)) := (Below.refl _ _).alloc (Nat.le_refl _) _
  have hmk := run_make_row' (P := Try.prog) 45 3 (.int .i64 0) 8 Try.underlying45 Try.infoInt rfl .i64 .i64 nc (by omega) (by omega)
  go_enter Try.func37, Try.ntmps37
  go_wp2_with fail
  generalize w.alloc (.cells #[.slice a0 nc c0, .slice a1 na c1] 59) = W0 at x0 x1 hal ⊢
  refine (isReach_any _ r _ lo (HV.out.keep (Carries.of lo hal)) HS.out).mono ?_
  rintro e w1 ⟨rfl, hb⟩
  have hw1 : Below w.heap.size w w1 := hal.trans (hb.mono hal.size)
  have x0 := cell_carry x0 (Carries.of 0 hb)
  have x1 := cell_carry x1 (Carries.of 0 hb)
  clear hb hal
  rw [← HGG.out]
  cases hg : G with
  | false =>
    have el := E4.out hg
    subst el
    subst hg
    go_wp2_with fail
    go_ret2
    exact ⟨_, rfl, ow_nil _ _, hw1⟩
  | true =>
  have HE := Lib.hid (E5.out hg)
  have HIN := Lib.hid (E6.out hg)
  subst hg
  go_wp2_with fail
  refine (targets_any nc _ r.moves w1 lo (HM.out.keep (Carries.of lo hw1)) KC KM.out (fun i hi => (HIN.out i hi).1)).mono ?_
  rintro e w2 ⟨vt, rfl, ht, hb⟩
  have hw2 : Below w.heap.size w w2 := hw1.trans (hb.mono hw1.size)
  have x0 := cell_carry x0 (Carries.of 0 hb)
  have x1 := cell_carry x1 (Carries.of 0 hb)
  have HT := Lib.hid ht
  obtain ⟨bt, ot, ct, rfl, _, _, _⟩ := id ht
  have zW := hw2.size
  have zB : w.heap.size < w2.heap.size := cell_old x0
  clear hb ht hw1
  go_wp2_with fail
  have hrow0 := (World.rowIs_made w2 (.int .i64 0) nc 3).congr (g := srcV g 0 0) (fun i _ => (srcV_zero g i).symm)
  have HR := Lib.hid hrow0
  have hW : Below w2.heap.size w2 (w2.alloc (.cells (madeCells #[.int .i64 0] nc) 3)) := (Below.refl _ _).alloc (Nat.le_refl _) _
  clear hrow0
  generalize w2.alloc (.cells (madeCells #[.int .i64 0] nc) 3) = W at HR hW ⊢
  go_loopw [27] (fun iv wr => ∃ st : Nat, st ≤ nc ∧ iv = .int .i64 st ∧ Hid (wr.rowIs w2.heap.size 3 nc (srcV g st 0)) ∧ Below w2.heap.size w2 wr) (fun iv _ => nc - (intOf iv).toNat)
  case atStart => exact ⟨0, Nat.zero_le _, rfl, HR.out, hW⟩
  case round =>
    obtain ⟨st, hst, rfl, hrow, hbr⟩ := hrel
    have y0 := cell_keep x0 hbr (Nat.le_refl _)
    have y1 := cell_keep x1 hbr (Nat.le_refl _)
    by_cases hlt : st < nc
    · clear y0 y1
      go_wp2_with fail
      refine (distancesFrom_any _ nc (tgL r.moves) st wr _ (HT.out.keep (Carries.of _ hbr)) hlt KC (tgL_inM HIN.out) (fun k _ => Nat.le_trans (tgTo_length r.moves r.moves.length k) KM.out)).mono ?_
      rintro e w3 ⟨db, D, rfl, hd0, hd1, hrowd, hD, hb⟩
      have hw3 : Below w2.heap.size w2 w3 := hbr.trans (hb.mono hbr.size)
      have HRS := Lib.hid (hrow.out.of_block (hb.block _ hrow.out.lt))
      have HDR := Lib.hid hrowd
      have zs := hrow.out.lt
      have HDI : Hid (∀ j, j < nc → g j st = decide (0 ≤ D j)) := fun j hj => by rw [← HGK.out j]; exact dist_bk hj HIN.out hD
      have hdne : db ≠ w2.heap.size := by omega
      clear hb hrow hrowd hD
      go_wp2_with fail
      go_loopw [34] (fun jv wr => ∃ j : Nat, j ≤ nc ∧ jv = .int .i64 j ∧ Hid (wr.rowIs w2.heap.size 3 nc (srcV g st j)) ∧ Hid (wr.rowIs db 3 nc (dV D)) ∧ Below w2.heap.size w2 wr) (fun jv _ => nc - (intOf jv).toNat)
      case atStart => exact ⟨0, Nat.zero_le _, rfl, HRS.out, HDR.out, hw3⟩
      case round =>
        clear HRS HDR hw3 hbr
        obtain ⟨j, hj, rfl, hrow, hrowd, hbr⟩ := hrel
        by_cases hjl : j < nc
        · have cd : wr.cell? ⟨db, j, none⟩ = some (.int .i64 (D j)) := hrowd.out.cell hjl
          have cs := hrow.out.cell hjl
          rw [srcV_at] at cs
          have fs := hrow.out.frozen j
          have hgj := HDI.out j hjl
          have hcb : cntB st (g j) ≤ 1048576 := Nat.le_trans (cntB_le _ _) (by omega)
          by_cases h0 : 0 ≤ D j
          · rw [decide_eq_true h0] at hgj
            have HR2 : Hid ((wr.setCell ⟨w2.heap.size, j, none⟩ (.int .i64 (((cntB st (g j) : Nat) : Int) + 1))).rowIs w2.heap.size 3 nc (srcV g st (j + 1))) := by
              unfold Hid
              rw [← srcV_hit hgj]
              exact hrow.out.set j _
            have HD2 : Hid ((wr.setCell ⟨w2.heap.size, j, none⟩ (.int .i64 (((cntB st (g j) : Nat) : Int) + 1))).rowIs db 3 nc (dV D)) := hrowd.out.setOther (a := ⟨w2.heap.size, j, none⟩) hdne _
            have hb2 : Below w2.heap.size w2 (wr.setCell ⟨w2.heap.size, j, none⟩ (.int .i64 (((cntB st (g j) : Nat) : Int) + 1))) := hbr.setCell (p := ⟨w2.heap.size, j, none⟩) (Nat.le_refl _) _
            have HB2 := Lib.hid hb2
            clear hrow hrowd hb2 hgj
            generalize cntB st (g j) = c at cs HR2 HD2 HB2 hcb
            generalize D j = dj at cd h0
            go_wp2_with fail
            go_roundw
            case rel => exact ⟨j + 1, by omega, by go_num, HR2, HD2, HB2.out⟩
            case measure => simp [intOf]; omega
          · rw [decide_eq_false h0] at hgj
            have HR2 : Hid (wr.rowIs w2.heap.size 3 nc (srcV g st (j + 1))) := by rw [← srcV_miss hgj]; exact hrow
            clear hrow hgj cs fs
            generalize D j = dj at cd h0
            go_wp2_with fail
            go_roundw
            case rel => exact ⟨j + 1, by omega, by go_num, HR2, hrowd, hbr⟩
            case measure => simp [intOf]; omega
        · have hjj : j = nc := by omega
          subst hjj
          have HR2 : Hid (wr.rowIs w2.heap.size 3 j (srcV g (st + 1) 0)) := hrow.out.congr (fun i hi => srcV_next g hi)
          clear hrow hrowd
          go_wp2_with fail
          go_roundw
          case rel => exact ⟨st + 1, by omega, by go_num, HR2, hbr⟩
          case measure => simp [intOf]; omega
    · have hss : st = nc := by omega
      subst hss
      obtain ⟨wo, rfl⟩ : ∃ wo, wo = wr := ⟨_, rfl⟩
      have zo := hrow.out.lt
      go_wp2_with fail
      go_loopw [9, 52] (fun l i wr => ∃ k : Nat, k ≤ st ∧ i = .int .i64 k ∧ Hid (wr.ownsRow wo.heap.size 3 1 l (enTo f k).length (intCells (enTo f k))) ∧ Below wo.heap.size wo wr) (fun _ i _ => st - (intOf i).toNat)
      case atStart => exact ⟨0, Nat.zero_le _, rfl, World.ownsRow_nil _ _ _ _, Below.refl _ _⟩
      case round =>
        obtain ⟨k, hk, rfl, hown, hb1⟩ := hrel
        have zz1 := hb1.size
        have u0 := cell_keep y0 hb1 (Nat.le_refl _)
        have u1 := cell_keep y1 hb1 (Nat.le_refl _)
        by_cases hlt2 : k < st
        · have hle := enTo_length f k
          have hkk := HFK.out k
          have ck := hrow.out.cell hlt2
          rw [srcV_base] at ck
          have ck := cell_keep ck hb1 (Nat.le_refl _)
          by_cases hfull : cntB st (g k) = st
          · rw [decide_eq_true hfull] at hkk
            rw [hfull] at ck
            have HEN := Lib.hid (enTo_true (f := f) (k := k) hkk)
            clear hkk hfull
            go_wp2_with fail
            go_quiet (fail)
            go_wp2_with (refine wpList_append_ints rfl (.tmp 63) (.tmp 65) rfl wo.heap.size 0 _ _ _ rfl (World.ownsRow.alloc hown.out _) _ [(k : Int)] rfl (ints_one _ _ _) (by simp; omega) (by simp; omega) ?_; intro v' w' hown' hgrow)
            have hw4 : Below wo.heap.size wo w' := ((below_drewN hb1 _).alloc zz1 _).grown hgrow (by simp; omega) (fun g hg => (hown.out.lt g hg).1)
            have HO4 := Lib.hid (show w'.ownsRow wo.heap.size 3 1 v' (enTo f (k + 1)).length (intCells (enTo f (k + 1))) by rw [HEN.out, List.length_append, intCells_append]; exact hown')
            clear hown' hgrow
            go_wp2_with fail
            go_roundw
            case rel => exact ⟨k + 1, by omega, by go_num, HO4, hw4⟩
            case measure => simp [intOf]; omega
          · rw [decide_eq_false hfull] at hkk
            have HO4 := Lib.hid (show wr.ownsRow wo.heap.size 3 1 u9 (enTo f (k + 1)).length (intCells (enTo f (k + 1))) by rw [enTo_false hkk]; exact hown.out)
            clear hkk hown
            generalize cntB st (g k) = c at ck hfull
            go_wp2_with fail
            go_quiet (fail)
            go_wp2_with fail
            go_roundw
            case rel => exact ⟨k + 1, by omega, by go_num, HO4, below_drewN hb1 _⟩
            case measure => simp [intOf]; omega
        · have hkk : k = st := by omega
          subst hkk
          have HO2 : Hid (IntsOw w.heap.size wr u9 LL) := by
            have h := ow_of_owns (ownsRow_low hown.out (Nat.le_trans zW hbr.size))
            rw [← HE.out] at h
            exact h
          clear hown
          go_wp2_with fail
          go_ret2
          exact ⟨_, rfl, HO2.out, hw2.trans ((hbr.trans (hb1.mono hbr.size)).mono zW)⟩

end Go.Proofs.Ytfipnlehaklepaa
