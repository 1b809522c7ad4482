/- WALK: l7Together of the model. -/
import Derived.Test.YtigkgfdnnfmmmaaGreatVLpa
import Derived.Test.YtigkgfdnnfmmmaaGreatVHhe
namespace Go.Proofs.YtigkgfdnnfmmmaaGreat
open Go.RowKit

def byL (cs : List Cnd) (L : List Int) : List Int := L.map fun c => cnB cs c.toNat
theorem inL_byL (cs : List Cnd) (L : List Int) : inL (byL cs L) = byAny cs L := by
  funext f
  unfold inL byL byAny
  rw [Bool.eq_iff_iff, decide_eq_true_iff, List.any_eq_true, List.mem_map]
  constructor
  · rintro ⟨c, hc, h⟩; exact ⟨c, hc, decide_eq_true h⟩
  · rintro ⟨c, hc, h⟩; exact ⟨c, hc, of_decide_eq_true h⟩
theorem out_pastE (cs : List Cnd) (es : List Ev) (L : List Int) : outTo (pastM cs es (inL (byL cs L)) es.length) es.length = (pastE cs es L).map fun (e : Nat) => (e : Int) := by
  rw [inL_byL]; rfl
theorem byL_length (cs : List Cnd) (L : List Int) : (byL cs L).length = L.length := by simp [byL]
theorem byL_get {cs : List Cnd} {L : List Int} {k : Nat} (h : k < L.length) : (byL cs L).getD k 0 = cnB cs (L.getD k 0).toNat := by simp [byL, List.getD, h]
theorem byL_step {cs : List Cnd} {L : List Int} {k : Nat} (hk : k < L.length) : (byL cs L).take (k + 1) = (byL cs L).take k ++ [cnB cs (L.getD k 0).toNat] := by
  have hk2 : k < (byL cs L).length := by rw [byL_length]; exact hk
  rw [List.take_succ_eq_append_getElem hk2, ← byL_get hk]
  simp only [List.getD, List.getElem?_eq_getElem hk2, Option.getD_some]
theorem pastE_get {cs : List Cnd} {es : List Ev} {L : List Int} {k : Nat} (h : k < (pastE cs es L).length) : (pastE cs es L).getD k 0 < es.length := by
  have h1 : (pastE cs es L).getD k 0 = (pastE cs es L)[k] := by simp [List.getD, h]
  rw [h1]
  have h2 := List.getElem_mem h
  unfold pastE at h2
  rw [List.mem_filter, List.mem_range] at h2
  exact h2.1
theorem pastE_len (cs : List Cnd) (es : List Ev) (L : List Int) : (pastE cs es L).length ≤ es.length := by
  unfold pastE
  exact Nat.le_trans (List.length_filter_le _ _) (by rw [List.length_range]; exact Nat.le_refl _)
theorem togB_no {cs : List Cnd} {es : List Ev} {L : List Int} {k : Nat} (hk : k < L.length) (h : usedB es (pastE cs es L) (L.getD k 0) = true) : togB cs es L = false := by
  unfold togB
  have : L.any (usedB es (pastE cs es L)) = true := by
    rw [List.any_eq_true]
    refine ⟨L.getD k 0, ?_, h⟩
    simp only [List.getD, List.getElem?_eq_getElem hk, Option.getD_some]
    exact List.getElem_mem hk
  rw [this]; rfl
theorem togB_yes {cs : List Cnd} {es : List Ev} {L : List Int} (h : ∀ k, k < L.length → usedB es (pastE cs es L) (L.getD k 0) = false) : togB cs es L = freeB es (pastE cs es L) := by
  unfold togB
  have : L.any (usedB es (pastE cs es L)) = false := by
    rw [List.any_eq_false]
    intro c hc
    obtain ⟨k, hk, rfl⟩ := List.getElem_of_mem hc
    have := h k hk
    simp only [List.getD, List.getElem?_eq_getElem hk, Option.getD_some] at this
    rw [this]; simp
  rw [this]; rfl

set_option maxRecDepth 100000 in
set_option maxHeartbeats 4000000 in
theorem l7Together_any (v vl : Value) (cs : List Cnd) (es : List Ev) (L : List Int) (w : World) (lo lo' : Nat) (hv : UnfAt lo w v ⟨cs, es⟩) (hvl : IntsAt lo' w vl L) (hl : L.length ≤ 1048576) (hc : cs.length ≤ 1048576) (he : es.length ≤ 1048576) (hev : ∀ k, k < es.length → (evP es k).length ≤ 1048576) (hin : ∀ k, k < L.length → 0 ≤ L.getD k 0 ∧ L.getD k 0 < (cs.length : Int)) (hby : ByIn cs es.length) (hwf : WfU cs es) :
    Calls Tryz.prog 58 #[v, vl] w (RetB w (togB cs es L)) := by
  obtain ⟨G, hG⟩ : ∃ x, x = togB cs es L := ⟨_, rfl⟩
  rw [← hG]
  have HG := Lib.hid hG; clear hG
  have HV := Lib.hid hv
  have HVL := Lib.hid hvl
  obtain ⟨a0, c0, a1, c1, rfl, hcn, _⟩ := hv.form
  clear hv
  obtain ⟨ac2, kc2, e0, hkc2, hcz2⟩ := hcn
  injection e0 with e1 e2 e3
  subst e1; subst e3; clear e2
  simp only at hkc2 hcz2 ⊢
  have HD := Lib.hid hcz2; clear hcz2 hkc2
  have HEV := Lib.hid hev; clear hev
  have HWF := Lib.hid hwf; clear hwf
  have HBY := Lib.hid hby; clear hby
  have HIN := Lib.hid hin; clear hin
  obtain ⟨ao, cap, rfl, hxa, hxb⟩ := hvl
  have HF := Lib.hid hxb; clear hxb hxa
  obtain ⟨nc, hnc⟩ : ∃ x, x = cs.length := ⟨_, rfl⟩
  rw [← hnc] at HD HIN hc
  have HNC := Lib.hid hnc
  obtain ⟨ne, hne⟩ : ∃ x, x = es.length := ⟨_, rfl⟩
  have HNE := Lib.hid hne
  have HV' : Hid (UnfAt lo w (.agg #[.slice a0 nc c0, .slice a1 ne c1]) ⟨cs, es⟩) := by unfold Hid; rw [hnc, hne]; exact HV.out
  rw [← hnc, ← hne]
  clear hnc hne HV
  go_enter Tryz.func58, Tryz.ntmps58
  have hW : Below w.heap.size w (w.alloc (.cells #[.slice a0 nc c0, .slice a1 ne c1] 38)) := (Below.refl _ _).alloc (Nat.le_refl _) _
  have x0 : (w.alloc (.cells #[.slice a0 nc c0, .slice a1 ne c1] 38)).cell? ⟨w.heap.size, 0, none⟩ = some (.slice a0 nc c0) := by simp
  have x1 : (w.alloc (.cells #[.slice a0 nc c0, .slice a1 ne c1] 38)).cell? ⟨w.heap.size, 1, none⟩ = some (.slice a1 ne c1) := by simp
  have zW : w.heap.size < (w.alloc (.cells #[.slice a0 nc c0, .slice a1 ne c1] 38)).heap.size := by simp
  go_wp2_with fail
  generalize w.alloc (.cells #[.slice a0 nc c0, .slice a1 ne c1] 38) = W at hW x0 x1 zW ⊢
  go_loopw [5, 13] (fun o i wr => ∃ k : Nat, k ≤ L.length ∧ i = .int .i64 k ∧ Hid (IRow W.heap.size wr o ((byL cs L).take k)) ∧ Below W.heap.size W wr) (fun _ i _ => L.length - (intOf i).toNat)
  case atStart => exact ⟨0, Nat.zero_le _, rfl, World.ownsRow_nil _ _ _ _, Below.refl _ _⟩
  case round =>
    obtain ⟨k, hk, rfl, hrow, hb1⟩ := hrel
    have hw1 : Below w.heap.size w wr := hW.trans (hb1.mono hW.size)
    have x0 := cell_keep x0 hb1 (Nat.le_refl _)
    have x1 := cell_keep x1 hb1 (Nat.le_refl _)
    by_cases hlt : k < L.length
    · rcases HF.out with h0 | ⟨b, off, rfl, hlo, hcell⟩
      · exact absurd hlt (by have h1 : L.length = 0 := (by simpa using h0); omega)
      have q0 := hcell k hlt
      have d0 := Carries.of lo' hw1 _ _ hlo q0
      clear hcell q0
      have hin := HIN.out k hlt
      have HST := Lib.hid (byL_step (cs := cs) hlt)
      have hlen : ((byL cs L).take k).length ≤ k := List.length_take_le _ _
      generalize L.getD k 0 = c at d0 hin HST
      obtain ⟨cn, rfl⟩ := Int.eq_ofNat_of_zero_le hin.1
      rw [Int.toNat_natCast] at HST
      have i1 := hin.1
      have i2 := hin.2
      have i5 : cn < nc := by omega
      clear hin
      rcases HD.out with h0 | ⟨b2, off2, rfl, hlo2, hcell2⟩
      · exact absurd i5 (by rw [h0]; exact Nat.not_lt_zero _)
      obtain ⟨q0, q1⟩ := hcell2 cn i5
      have g0 := Carries.of lo hw1 _ _ hlo2 q1
      clear hcell2 q0 q1
      try dsimp only at g0
      generalize cnB cs cn = p at g0 HST
      have zr := hb1.size
      have HAL := Lib.hid (World.ownsRow.alloc hrow.out (.cells #[.int .i64 p] 3))
      have hba : Below W.heap.size W (wr.alloc (.cells #[.int .i64 p] 3)) := hb1.alloc hb1.size _
      go_wp2_with (refine wpList_append_ints rfl (.tmp 17) (.tmp 24) rfl W.heap.size 0 _ _ _ rfl HAL.out _ [p] rfl (ints_one _ _ _) (by simp; omega) (by simp; omega) ?_; intro v2 w2 ho2 hg2)
      have hb2 : Below W.heap.size W w2 := hba.grown hg2 (by simp; omega) (fun q hq => (HAL.out.lt q hq).1)
      have HR2 : Hid (IRow W.heap.size w2 v2 ((byL cs L).take (k + 1))) := by
        unfold Hid
        rw [HST.out]
        simpa [IRow, intCells] using ho2
      clear ho2 hg2 hrow
      go_wp2_with fail
      go_roundw
      case rel => exact ⟨k + 1, by omega, by go_num, HR2, hb2⟩
      case measure => first | (simp [intOf]; omega) | simp [intOf]
    · have hkk : k = L.length := by omega
      subst hkk
      have hr := hrow.out
      rw [List.take_of_length_le (by rw [byL_length]; exact Nat.le_refl _)] at hr
      have HB := Lib.hid (ints_of_owns hr)
      clear hr hrow
      have hbl : ∀ k, k < (byL cs L).length → (byL cs L).getD k 0 < (es.length : Int) := fun k hk => by
        rw [byL_length] at hk
        rw [byL_get hk]
        have := HBY.out (L.getD k 0).toNat (by have := HIN.out k hk; have := HNC.out; omega)
        omega
      go_wp2_with fail
      refine (l7Past_any _ _ cs es (byL cs L) wr lo _ (HV'.out.keep (Carries.of lo hw1)) HB.out (by rw [byL_length]; exact hl) he HEV.out hbl HWF.out).mono ?_
      rintro e w2 ⟨vp, rfl, hrp, hb2⟩
      rw [out_pastE] at hrp
      have hb3 : Below W.heap.size W w2 := hb1.trans (hb2.mono hb1.size)
      have HP := Lib.hid (ints_of_owns hrp)
      obtain ⟨ap, kp, rfl, _, _⟩ := id (ints_of_owns hrp)
      rw [List.length_map] at HP ⊢
      have x0 := cell_carry x0 (Carries.of 0 hb2)
      have x1 := cell_carry x1 (Carries.of 0 hb2)
      clear hrp hb2 hbl HB
      go_wp2_with fail
      have z2 : w.heap.size < w2.heap.size := cell_old x0
      have HW2 := Lib.hid (hW.trans (hb3.mono hW.size))
      have hpl := pastE_len cs es L
      go_loopw [32] (fun i wi => ∃ k : Nat, k ≤ L.length ∧ i = .int .i64 k ∧ Hid (∀ j, j < k → usedB es (pastE cs es L) (L.getD j 0) = false) ∧ Below w2.heap.size w2 wi) (fun i _ => L.length - (intOf i).toNat)
      case atStart => exact ⟨0, Nat.zero_le _, rfl, fun j hj => absurd hj (Nat.not_lt_zero _), Below.refl _ _⟩
      case round =>
        obtain ⟨k, hk, rfl, hall, hbi⟩ := hrel
        have hwi : Below w.heap.size w wr := HW2.out.trans (hbi.mono (by omega))
        have x0 := cell_keep x0 hbi (by omega)
        have x1 := cell_keep x1 hbi (by omega)
        by_cases hlt : k < L.length
        · rcases HF.out with h0 | ⟨b, off, rfl, hlo, hcell⟩
          · exact absurd hlt (by have h1 : L.length = 0 := (by simpa using h0); omega)
          have q0 := hcell k hlt
          have d0 := Carries.of lo' hwi _ _ hlo q0
          clear hcell q0
          have HNO := Lib.hid (fun h => togB_no (cs := cs) (es := es) hlt h)
          have H2' : Hid (usedB es (pastE cs es L) (L.getD k 0) = false → ∀ j, j < k + 1 → usedB es (pastE cs es L) (L.getD j 0) = false) := fun h j hj => by
            by_cases ej : j = k
            · subst ej; exact h
            · exact hall.out j (by omega)
          generalize L.getD k 0 = c at d0 HNO H2'
          go_wp2_with fail
          refine (l7Used_any _ _ cs es (pastE cs es L) c wr lo _ (HV'.out.keep (Carries.of lo hwi)) (by rw [List.length_map] at *; exact HP.out.keep (Carries.of _ hbi)) (by omega) HEV.out (fun q hq => pastE_get hq)).mono ?_
          rintro e w3 ⟨rfl, hb⟩
          have hbj : Below w2.heap.size w2 w3 := hbi.trans (hb.mono hbi.size)
          clear hb
          cases hh : usedB es (pastE cs es L) c with
          | true =>
            have hg := HG.out
            rw [HNO.out hh] at hg
            subst hg
            clear hh
            go_wp2_with fail
            go_ret
            exact ⟨rfl, HW2.out.trans (hbj.mono (by omega))⟩
          | false =>
            have H2 := Lib.hid (H2'.out hh)
            clear hh
            go_wp2_with fail
            go_roundw
            case rel => exact ⟨k + 1, by omega, by go_num, H2, hbj⟩
            case measure => first | (simp [intOf]; omega) | simp [intOf]
        · have hkk : k = L.length := by omega
          subst hkk
          have hg := HG.out
          rw [togB_yes hall.out] at hg
          have HGG := Lib.hid hg; clear hg
          have hci : ∀ e, e < es.length → ∀ q, q < (evP es e).length → 0 ≤ (evP es e).getD q 0 ∧ (evP es e).getD q 0 < (cs.length : Int) := fun e he q hq => (HWF.out e he q hq).1
          go_wp2_with fail
          refine (l7Free_any _ _ cs es (pastE cs es L) wr lo _ (HV'.out.keep (Carries.of lo hwi)) (HP.out.keep (Carries.of _ hbi)) (by omega) (by rw [← HNC.out]; exact hc) HEV.out (fun q hq => pastE_get hq) hci).mono ?_
          rintro e w3 ⟨rfl, hb⟩
          rw [← HGG.out]
          have hw3 := hwi.trans (hb.mono hwi.size)
          clear hb
          go_wp2_with fail
          go_ret
          exact ⟨rfl, hw3⟩

end Go.Proofs.YtigkgfdnnfmmmaaGreat
