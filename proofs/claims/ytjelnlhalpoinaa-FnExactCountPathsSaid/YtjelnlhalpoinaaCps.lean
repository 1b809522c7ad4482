/-
  WALK: CountPaths of the model.
-/
import Derived.Test.YtjelnlhalpoinaaCp
namespace Go.Proofs.Ytjelnlhalpoinaa
open Go.RowKit

theorem l1Least_same (x : Int) (w : World) :
    Calls Try.prog 109 #[.int .i64 1000001, .int .i64 x] w (fun e w' => e = .returned (.int .i64 (lim x)) ∧ w' = w) := by
  by_cases h : 1000001 < x
  · have e : lim x = 1000001 := by unfold lim; rw [if_pos h]
    rw [e]; clear e
    go_enter Try.func109, Try.ntmps109
    go_wp2_with fail
    go_ret
    exact ⟨rfl, rfl⟩
  · have e : lim x = x := by unfold lim; rw [if_neg h]
    rw [e]; clear e
    go_enter Try.func109, Try.ntmps109
    go_wp2_with fail
    go_ret
    exact ⟨rfl, rfl⟩

set_option maxRecDepth 100000 in
set_option maxHeartbeats 8000000 in
theorem specCountPaths_any (v : Value) (s : RgD) (st : Int) (w : World) (lo : Nat) (hv : RgAt lo w v s) (hs : SmallRg s) :
    Calls Try.prog 50 #[v, .int .i64 st] w (RetV w (.tuple #[.int .i64 (cpI s st), .bool (cpB s st)])) := by
  obtain ⟨a0, c0, a1, c1, rfl, hm, hl⟩ := hv.form
  clear hm
  have e1 : goodR s = false → cpI s st = 0 ∧ cpB s st = false := cp_bad
  have e2 : ¬ (0 ≤ st ∧ st ≤ 12) → cpI s st = 0 ∧ cpB s st = false := cp_out
  have e3 : ¬ cpT s st ≤ 1000000 → cpI s st = 0 ∧ cpB s st = false := cp_many
  have e4 : goodR s = true → (0 ≤ st ∧ st ≤ 12) → cpT s st ≤ 1000000 → cpI s st = cpT s st ∧ cpB s st = true := cp_yes
  have e5 : cpT s st = totF (stF s.moves st.toNat) s.marks.length := rfl
  have e6 : goodR s = true → 1 ≤ s.marks.length ∧ s.marks.length ≤ 300 ∧ s.moves.length ≤ 4000 := goodR_len
  have e7 : goodR s = true → ∀ k, k < s.moves.length → (0 ≤ mvF s.moves k ∧ mvF s.moves k < s.marks.length) ∧ (0 ≤ mvT s.moves k ∧ mvT s.moves k < s.marks.length) := fun h k hk => ⟨(goodR_moves h hk).1, (goodR_moves h hk).2.1⟩
  obtain ⟨I, hI⟩ : ∃ x, x = cpI s st := ⟨_, rfl⟩
  obtain ⟨B, hB⟩ : ∃ x, x = cpB s st := ⟨_, rfl⟩
  obtain ⟨T, hT⟩ : ∃ x, x = cpT s st := ⟨_, rfl⟩
  rw [← hI, ← hB] at e1 e2 e3 e4 ⊢
  rw [← hT] at e3 e4 e5
  clear hI hB hT
  obtain ⟨G, hG⟩ : ∃ G, G = goodR s := ⟨_, rfl⟩
  rw [← hG] at e1 e4 e6 e7
  have HGG := Lib.hid hG; clear hG
  have E1 := Lib.hid e1; clear e1
  have E2 := Lib.hid e2; clear e2
  have E3 := Lib.hid e3; clear e3
  have E4 := Lib.hid e4; clear e4
  have HV := Lib.hid hv; clear hv
  have HS := Lib.hid hs; clear hs
  obtain ⟨nm, hnm⟩ : ∃ x, x = s.marks.length := ⟨_, rfl⟩
  obtain ⟨ms, hms⟩ : ∃ x, x = s.moves := ⟨_, rfl⟩
  rw [← hnm, ← hms] at HV ⊢
  rw [← hms] at hl
  rw [← hnm, ← hms] at e5 e6 e7
  have E5 := Lib.hid e5; clear e5
  have E6 := Lib.hid e6; clear e6
  have E7 := Lib.hid e7; clear e7
  clear hnm hms
  have HL := Lib.hid hl; clear hl
  go_enter Try.func50, Try.ntmps50
  go_wp2_with fail
  refine (l4Good_any _ s _ lo (HV.out.keep ?_) HS.out).mono ?_
  · (repeat' (first | (with_reducible exact Carries.refl _ _) | (with_reducible assumption) | (with_reducible refine Carries.alloc ?_ _) | (with_reducible refine Carries.drew ?_) | (with_reducible refine Carries.drewN ?_ _) | (with_reducible refine Carries.set ?_ ?_ _) | go_size))
  rintro e W0 ⟨rfl, hb⟩
  have hW0 : Below w.heap.size w W0 := by
    refine Below.trans ?_ (hb.mono ?_)
    · (repeat' (first | (with_reducible exact Below.refl _ _) | (with_reducible assumption) | (with_reducible refine Below.alloc ?_ ?_ _) | (with_reducible refine Below.drew ?_) | (with_reducible refine below_drewN ?_ _) | (with_reducible refine Below.setCell ?_ ?_ _) | go_size))
    · simp
  have x0 : W0.cell? ⟨w.heap.size, 0, none⟩ = some (.slice a0 nm c0) := cell_carry (by simp) (Carries.of 0 hb)
  have x1 : W0.cell? ⟨w.heap.size, 1, none⟩ = some (.slice a1 ms.length c1) := cell_carry (by simp) (Carries.of 0 hb)
  clear hb
  rw [← HGG.out]
  cases hg : G with
  | false =>
    obtain ⟨rfl, rfl⟩ := E1.out hg
    subst hg
    go_wp2_with fail
    go_ret2
    exact ⟨rfl, hW0⟩
  | true =>
  obtain ⟨l1, l2, l3⟩ := E6.out hg
  have F4 := Lib.hid (E4.out hg)
  have F7 := Lib.hid (E7.out hg)
  clear E1 E4 E6 E7 HGG
  subst hg
  go_wp2_with fail
  refine (l1In_any _ _ _ _).mono ?_
  rintro e W ⟨rfl, hb⟩
  have hW : Below w.heap.size w W := hW0.trans (hb.mono hW0.size)
  have zW := hW.size
  have x0 := cell_carry x0 (Carries.of 0 hb)
  have x1 := cell_carry x1 (Carries.of 0 hb)
  clear hb hW0
  by_cases hin : 0 ≤ st ∧ st ≤ 12
  case neg =>
    obtain ⟨rfl, rfl⟩ := E2.out hin
    rw [decide_eq_false hin]
    clear hin
    go_wp2_with fail
    go_ret2
    exact ⟨rfl, hW⟩
  have F4b := Lib.hid (F4.out hin)
  rw [decide_eq_true hin]
  clear E2 F4
  obtain ⟨hs0, hs1⟩ := hin
  obtain ⟨sn, rfl⟩ : ∃ n : Nat, st = (n : Int) := ⟨st.toNat, by omega⟩
  have hsn : sn ≤ 12 := by omega
  have e5 := E5.out
  simp only [Int.toNat_natCast] at e5
  have E5 := Lib.hid e5; clear e5
  have hmk := run_make_row' (P := Try.prog) 51 3 (.int .i64 0) 8 Try.underlying51 Try.infoInt rfl .i64 .i64 nm (by omega) (by omega)
  have hrow := World.rowIs_made W (.int .i64 0) nm 3
  have c0_ := hrow.cell (i := 0) (by omega)
  have f0_ := hrow.frozen 0
  have hrow1 := hrow.set 0 (.int .i64 1)
  rw [World.setCell_alloc_at (hn := rfl)] at hrow1
  have HROW : Hid ((W.alloc (.cells ((madeCells #[.int .i64 0] nm).setIfInBounds 0 (.int .i64 1)) 3)).rowIs W.heap.size 3 nm (vals (stF ms 0))) := by
    rw [← stF_zero]; exact hrow1
  clear hrow hrow1
  go_wp2_with fail
  go_loopw [1, 6] (fun sv v wr => ∃ k : Nat, k ≤ sn ∧ sv = .int .i64 ((sn : Int) - (k : Int)) ∧ Hid (FnAt W.heap.size wr v nm (stF ms k)) ∧ Below W.heap.size W wr) (fun sv _ _ => (intOf sv).toNat)
  case atStart => exact ⟨0, Nat.zero_le _, by simp, ⟨_, rfl, Nat.le_refl _, HROW.out⟩, by (repeat' (first | (with_reducible exact Below.refl _ _) | (with_reducible assumption) | (with_reducible refine Below.alloc ?_ ?_ _) | (with_reducible refine Below.drew ?_) | (with_reducible refine below_drewN ?_ _) | (with_reducible refine Below.setCell ?_ ?_ _) | go_size))⟩
  case round =>
    obtain ⟨k, hk, rfl, hfn, hb1⟩ := hrel
    have zz1 := hb1.size
    obtain ⟨b, rfl, hbl, hrw⟩ := hfn.out
    have HRW := Lib.hid hrw; clear hrw hfn
    by_cases hlt : k < sn
    · have x0 := cell_keep x0 hb1 (Nat.le_refl _)
      have x1 := cell_keep x1 hb1 (Nat.le_refl _)
      have hpos : 0 < (sn : Int) - (k : Int) := by omega
      have zb : b < wr.heap.size := HRW.out.lt
      have zo : w.heap.size < wr.heap.size := by have := cell_old x0; simpa using this
      obtain ⟨Wo, hWo⟩ : ∃ W2, W2 = wr := ⟨_, rfl⟩
      subst hWo
      obtain ⟨gg, hgg⟩ : ∃ g, g = stF ms k := ⟨_, rfl⟩
      have HLM : Hid (Lim gg) := by unfold Hid; rw [hgg]; exact stF_bd ms k
      have HNX : Hid (stF ms (k + 1) = nxF ms gg ms.length) := by unfold Hid; rw [hgg]; rfl
      rw [← hgg] at HRW
      clear hgg
      go_wp2_with fail
      go_loopw [37] (fun i wr => ∃ j : Nat, j ≤ ms.length ∧ i = .int .i64 j ∧ Hid (wr.rowIs Wo.heap.size 3 nm (vals (nxF ms gg j))) ∧ Below Wo.heap.size Wo wr ∧ Wo.heap.size < wr.heap.size) (fun i _ => ms.length - (intOf i).toNat)
      case atStart => exact ⟨0, Nat.zero_le _, rfl, (World.rowIs_made _ _ _ _).congr (fun i _ => rfl), by (repeat' (first | (with_reducible exact Below.refl _ _) | (with_reducible assumption) | (with_reducible refine Below.alloc ?_ ?_ _) | (with_reducible refine Below.drew ?_) | (with_reducible refine below_drewN ?_ _) | (with_reducible refine Below.setCell ?_ ?_ _) | go_size)), by simp⟩
      case round =>
        obtain ⟨j, hj, rfl, hrow, hb2, zz⟩ := hrel
        by_cases hlt2 : j < ms.length
        · have hl0 := HL.out
          obtain ⟨ao, cap, hvv, hc, hz⟩ := hl0
          injection hvv with e1 e2 e3
          subst e1; subst e3; clear e2
          rcases hz with h0 | ⟨bm, off, rfl, hlo, hcell⟩
          · omega
          obtain ⟨q0, q1, q2⟩ := hcell j hlt2
          have hbw := (hW.trans (hb1.mono zW)).trans (hb2.mono (Nat.le_trans zW zz1))
          have d0 := Carries.of lo hbw _ _ hlo q0
          have d1 := Carries.of lo hbw _ _ hlo q1
          have d2 := Carries.of lo hbw _ _ hlo q2
          clear hcell q0 q1 q2 hbw
          try dsimp only at d0 d1 d2
          obtain ⟨⟨i0, i1⟩, i2, i3⟩ := F7.out j hlt2
          have hset := vals_set ms gg j
          generalize mvB ms j = by_ at d1
          generalize mvF ms j = f at d0 i0 i1 hset
          generalize mvT ms j = t at d2 i2 i3 hset
          obtain ⟨fn, rfl⟩ : ∃ x : Nat, f = (x : Int) := ⟨f.toNat, by omega⟩
          obtain ⟨tn, rfl⟩ : ∃ x : Nat, t = (x : Int) := ⟨t.toNat, by omega⟩
          have i1 : fn < nm := by omega
          have i3 : tn < nm := by omega
          simp only [Int.toNat_natCast] at hset
          have hrow0 := hrow.out
          have r0 : wr.cell? ⟨Wo.heap.size, tn, none⟩ = some (.int .i64 (nxF ms gg j tn)) := hrow0.cell i3
          have r1 : wr.cell? ⟨b, fn, none⟩ = some (.int .i64 (gg fn)) := Carries.of 0 hb2 _ _ (Nat.zero_le _) (HRW.out.cell i1)
          have r2 := hrow0.frozen tn
          have b0 := nxF_bd (ms := ms) HLM.out j tn
          have b1 := HLM.out fn
          generalize nxF ms gg j tn = x at r0 b0 hset
          generalize gg fn = y at r1 b1 hset
          obtain ⟨p0, p1⟩ := b0
          obtain ⟨y0, y1⟩ := b1
          have HST := Lib.hid hset; clear hset hrow0
          have HR0 := Lib.hid hrow.out; clear hrow
          have hbA : Below wr.heap.size wr (wr.alloc (.cells #[.int .i64 fn, .int .i64 by_, .int .i64 tn] 142)) := (Below.refl _ _).alloc (Nat.le_refl _) _
          have r0 := cell_carry r0 (Carries.of 0 hbA)
          have r1 := cell_carry r1 (Carries.of 0 hbA)
          have r2 := (hbA.frozen (p := ⟨Wo.heap.size, tn, none⟩) zz).trans r2
          have HA := Lib.hid (hb2.trans (hbA.mono hb2.size))
          have HR3 := Lib.hid (fun v => (HR0.out.of_block (hbA.block _ zz)).set tn v)
          go_wp2_with fail
          have y0' : (wr.alloc (.cells #[.int .i64 fn, .int .i64 by_, .int .i64 tn] 142)).cell? ⟨wr.heap.size, 0, none⟩ = some (.int .i64 fn) := by simp
          have y2' : (wr.alloc (.cells #[.int .i64 fn, .int .i64 by_, .int .i64 tn] 142)).cell? ⟨wr.heap.size, 2, none⟩ = some (.int .i64 tn) := by simp
          have zA : wr.heap.size < (wr.alloc (.cells #[.int .i64 fn, .int .i64 by_, .int .i64 tn] 142)).heap.size := by simp
          generalize wr.alloc (.cells #[.int .i64 fn, .int .i64 by_, .int .i64 tn] 142) = W1 at r0 r1 r2 y0' y2' zA HA HR3 ⊢
          have zW1 : Wo.heap.size < W1.heap.size := by omega
          have HR4 : Hid (((W1.setCell ⟨Wo.heap.size, tn, none⟩ (.int .i64 (lim (x + y)))).drew).rowIs Wo.heap.size 3 nm (vals (nxF ms gg (j + 1)))) := by
            have h := HR3.out (.int .i64 (lim (x + y)))
            rw [HST.out] at h
            exact h.drew
          have HBF : Hid (Below Wo.heap.size Wo ((W1.setCell ⟨Wo.heap.size, tn, none⟩ (.int .i64 (lim (x + y)))).drew)) := (HA.out.setCell (p := ⟨Wo.heap.size, tn, none⟩) (Nat.le_refl _) _).drew
          refine wp_region_still_tail 16 (by kernel_rfl) (by kernel_rfl) ?_
          simp only [List.take_succ_cons, List.take_zero, List.drop_succ_cons, List.drop_zero]
          repeat still_step
          still_call (l1Least_same _ _)
          repeat still_step
          try refine wpStill_nil ?_
          change wpList _ _ _ _ _ W1.drew
          go_wp2_with fail
          go_roundw
          case rel => exact ⟨j + 1, by omega, by go_num, HR4, HBF.out, by simp; omega⟩
          case measure => simp [intOf]; omega
        · have hjj : j = ms.length := by omega
          subst hjj
          have HF2 : Hid (FnAt W.heap.size wr (.slice (some ⟨Wo.heap.size, 0, none⟩) nm nm) nm (stF ms (k + 1))) := by
            rw [HNX.out]; exact ⟨_, rfl, zz1, hrow.out⟩
          have HB2 := Lib.hid (hb1.trans (hb2.mono zz1))
          clear hrow
          go_wp2_with fail
          go_roundw
          case rel => exact ⟨k + 1, by omega, congrArg (Value.int .i64) (by omega), HF2, HB2.out⟩
          case measure => simp [intOf]; omega
    · have hkk : k = sn := by omega
      subst hkk
      have hpos : (k : Int) - (k : Int) = 0 := by omega
      rw [hpos]
      clear hpos x0 x1
      obtain ⟨gg, hgg⟩ : ∃ g, g = stF ms k := ⟨_, rfl⟩
      have HLM : Hid (Lim gg) := by unfold Hid; rw [hgg]; exact stF_bd ms k
      rw [← hgg] at E5 HRW
      clear hgg
      obtain ⟨W2, hW2⟩ : ∃ W2, W2 = wr := ⟨_, rfl⟩
      subst hW2
      go_wp2_with fail
      go_loopw [10, 61] (fun tv i wr => ∃ j : Nat, j ≤ nm ∧ i = .int .i64 j ∧ tv = .int .i64 (limF gg j) ∧ Below W2.heap.size W2 wr) (fun _ i _ => nm - (intOf i).toNat)
      case atStart => exact ⟨0, Nat.zero_le _, rfl, rfl, Below.refl _ _⟩
      case round =>
        obtain ⟨j, hj, rfl, rfl, hb2⟩ := hrel
        have ht := limF_bd HLM.out j
        have hte : limF gg (j + 1) = lim (limF gg j + gg j) := rfl
        have hgj := HLM.out j
        by_cases hlt2 : j < nm
        · have d0 : wr.cell? ⟨b, j, none⟩ = some (.int .i64 (gg j)) := Carries.of 0 hb2 _ _ (Nat.zero_le _) (HRW.out.cell hlt2)
          generalize gg j = y at d0 hte hgj
          obtain ⟨t0, t1⟩ := ht
          obtain ⟨y0, y1⟩ := hgj
          have HTE := Lib.hid hte; clear hte
          generalize limF gg j = x at t0 t1 HTE
          go_wp2_with fail
          refine (l1Least_same _ _).mono ?_
          rintro e w3 ⟨rfl, rfl⟩
          go_wp2_with fail
          go_roundw
          case rel => exact ⟨j + 1, by omega, by go_num, by rw [HTE.out], by (repeat' (first | (with_reducible exact Below.refl _ _) | (with_reducible assumption) | (with_reducible refine Below.alloc ?_ ?_ _) | (with_reducible refine Below.drew ?_) | (with_reducible refine below_drewN ?_ _) | (with_reducible refine Below.setCell ?_ ?_ _) | go_size))⟩
          case measure => simp [intOf]; omega
        · have hjj : j = nm := by omega
          subst hjj
          have e5 := E5.out
          have hq := limF_eq HLM.out j
          rw [← e5] at hq
          obtain ⟨t0, t1⟩ := ht
          generalize limF gg j = q at t0 t1 hq
          clear e5 hgj hte
          have HQ := Lib.hid hq; clear hq
          have hwr := hW.trans ((hb1.trans (hb2.mono zz1)).mono zW)
          by_cases hT : T ≤ 1000000
          · obtain ⟨rfl, rfl⟩ := F4b.out hT
            have hq := HQ.out
            unfold lim at hq
            rw [if_neg (by omega)] at hq
            subst hq
            go_wp2_with fail
            go_ret2
            exact ⟨rfl, hwr⟩
          · obtain ⟨rfl, rfl⟩ := E3.out (by omega)
            have hq : 1000000 < q := by have := HQ.out; unfold lim at this; split at this <;> omega
            go_wp2_with fail
            go_ret2
            exact ⟨rfl, hwr⟩

end Go.Proofs.Ytjelnlhalpoinaa
