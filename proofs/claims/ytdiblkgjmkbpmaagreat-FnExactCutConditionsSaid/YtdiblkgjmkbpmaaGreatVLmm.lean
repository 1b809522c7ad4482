/- WALK: l7Cut of the model (written by gen8/glmm.py).
   WALKS: l7Mark, l8Local, l8Asked, LocalMarking of the model (written by gen8/glmm.py). -/
import Derived.Test.YtdiblkgjmkbpmaaGreatVLmp
import Derived.Test.YtdiblkgjmkbpmaaGreatVErm
import Derived.Test.YtdiblkgjmkbpmaaGreatVLpl
namespace Go.Proofs.YtdiblkgjmkbpmaaGreat
open Go.RowKit

set_option maxRecDepth 100000 in
set_option maxHeartbeats 2000000 in
theorem l7Cut_any (vu : Value) (cs : List Cnd) (es : List Ev) (vl : Value) (P : List Nat) (w : World) (lo lo2 : Nat) (hvu : UnfAt lo w vu ⟨cs, es⟩) (hvl : IntsAt lo2 w vl (P.map fun (e : Nat) => (e : Int))) (hpl : P.length ≤ 1048576) (hcl : cs.length ≤ 1048576) (hev : ∀ k, k < es.length → (evP es k).length ≤ 1048576) (hpi : ∀ k, k < P.length → P.getD k 0 < es.length) :
    Calls Tryz.prog 61 #[vu, vl] w (fun e w' => ∃ v', e = .returned v' ∧ IRow w.heap.size w' v' (cutM cs es P) ∧ Below w.heap.size w w') := by
  have HL := Lib.hid hvl
  obtain ⟨al, kl, rfl, hxa, hxb⟩ := hvl
  obtain ⟨nl, hnl⟩ : ∃ y, y = (P.map fun (e : Nat) => (e : Int)).length := ⟨_, rfl⟩
  rw [← hnl] at HL ⊢
  have hnl2 : nl = P.length := by rw [hnl, List.length_map]
  have HNL := Lib.hid hnl2
  have HEV := Lib.hid hev; have HPI := Lib.hid hpi
  clear hxa hxb hnl hnl2 hev hpi
  obtain ⟨C, hC⟩ : ∃ y, y = cutM cs es P := ⟨_, rfl⟩
  rw [← hC]
  have HC := Lib.hid hC; clear hC
  obtain ⟨a0, k0, a1, k1, rfl, hcc, hee⟩ := hvu.form
  have HU := Lib.hid hvu
  simp only at hcc hee ⊢
  have HCN := Lib.hid hcc
  obtain ⟨nc, hnc⟩ : ∃ m, m = cs.length := ⟨_, rfl⟩
  obtain ⟨ne, hne⟩ : ∃ m, m = es.length := ⟨_, rfl⟩
  rw [← hnc, ← hne] at HU
  rw [← hnc] at HCN
  rw [← hnc, ← hne]
  have HNC := Lib.hid hnc; have HNE := Lib.hid hne
  clear hcc hee hnc hne hvu
  obtain ⟨ac2, kc2, e0, _, hzc⟩ := id HCN.out
  rw [← HNC.out] at e0
  injection e0 with e1 e2 e3
  subst e1; subst e3; clear e2
  have HZC := Lib.hid hzc; clear hzc
  go_enter Tryz.func61, Tryz.ntmps61
  have hW : Below w.heap.size w (w.alloc (.cells #[.slice a0 nc k0, .slice a1 ne k1] 39)) := (Below.refl _ _).alloc (Nat.le_refl _) _
  have x0 : (w.alloc (.cells #[.slice a0 nc k0, .slice a1 ne k1] 39)).cell? ⟨w.heap.size, 0, none⟩ = some (.slice a0 nc k0) := by simp
  have x1 : (w.alloc (.cells #[.slice a0 nc k0, .slice a1 ne k1] 39)).cell? ⟨w.heap.size, 1, none⟩ = some (.slice a1 ne k1) := by simp
  go_upto_region 1 with fail
  generalize w.alloc (.cells #[.slice a0 nc k0, .slice a1 ne k1] 39) = W at hW x0 x1 ⊢
  have HX0 := Lib.hid x0; have HX1 := Lib.hid x1; have HW := Lib.hid hW
  have z0 : w.heap.size < W.heap.size := cell_old x0
  clear x1 hW
  go_wp2_with fail
  clear x0
  go_loopw [5, 11] (fun o i wr => ∃ k : Nat, k ≤ nc ∧ i = .int .i64 k ∧ Hid (IRow W.heap.size wr o (outTo (thM cs es P) k)) ∧ Below W.heap.size W wr) (fun _ i _ => nc - (intOf i).toNat)
  case atStart => exact ⟨0, Nat.zero_le _, rfl, World.ownsRow_nil _ _ _ _, Below.refl _ _⟩
  case round =>
    obtain ⟨k, hk, rfl, hrow, hbW⟩ := hrel
    have hb1 : Below w.heap.size w wr := HW.out.trans (hbW.mono HW.out.size)
    have x0 := cell_carry HX0.out (Carries.of 0 hbW)
    have x1 := cell_carry HX1.out (Carries.of 0 hbW)
    by_cases hlt : k < nc
    · have hkl : k < cs.length := by rw [← HNC.out]; exact hlt
      rcases HZC.out with h0 | ⟨b, off, rfl, hlo, hcell⟩
      · exact absurd hkl (by rw [h0]; exact Nat.not_lt_zero _)
      obtain ⟨q0, q1⟩ := hcell k hkl
      have d0 := Carries.of lo hb1 _ _ hlo q0
      have d1 := Carries.of lo hb1 _ _ hlo q1
      have hth : thM cs es P k = ((decide (cnB cs k < 0) || hasB (P.map fun (e : Nat) => (e : Int)) (cnB cs k)) && !usedB es P (k : Int)) := rfl
      clear hcell q0 q1
      try dsimp only at d0 d1
      generalize cnP cs k = pz at d0
      generalize cnB cs k = y at d1 hth
      have HTH0 := Lib.hid hth; clear hth
      go_upto_region 5 with fail
      have hba : Below wr.heap.size wr (wr.alloc (.cells #[.int .i64 pz, .int .i64 y] 121)) := (Below.refl _ _).alloc (Nat.le_refl _) _
      have g1 : (wr.alloc (.cells #[.int .i64 pz, .int .i64 y] 121)).cell? ⟨wr.heap.size, 1, none⟩ = some (.int .i64 y) := (cell_new2 rfl).2
      have x0 := cell_carry x0 (Carries.of 0 hba)
      have x1 := cell_carry x1 (Carries.of 0 hba)
      have HROW := Lib.hid (owns_after hrow.out hba)
      have HWZ := Lib.hid (hbW.trans (hba.mono hbW.size))
      generalize wr.alloc (.cells #[.int .i64 pz, .int .i64 y] 121) = wz at g1 x0 x1 HROW HWZ ⊢
      generalize wr.heap.size = EB at g1 ⊢
      clear hba hrow hbW hb1 d0 d1
      by_cases hy : y < 0
      · have t1 : decide (y < 0) = true := decide_eq_true hy
        have HTH : Hid (thM cs es P k = (true && !usedB es P (k : Int))) := by unfold Hid; rw [HTH0.out, t1]; rfl
        go_wp2_with fail
        refine (l7Used_any _ _ cs es P (k : Int) wz lo lo2 (HU.out.keep (Carries.of lo (HW.out.trans (HWZ.out.mono HW.out.size)))) (HL.out.keep (Carries.of lo2 (HW.out.trans (HWZ.out.mono HW.out.size)))) hpl HEV.out HPI.out).mono ?_
        rintro e w8 ⟨rfl, hb8⟩
        have HROW := Lib.hid (owns_after HROW.out hb8)
        have HWZ := Lib.hid (HWZ.out.trans (hb8.mono HWZ.out.size))
        clear hb8
        cases hus : usedB es P (k : Int) with
        | true =>
          have htn : thM cs es P k = false := by rw [HTH.out, hus]; simp
          have hst := outTo_no htn
          have HR2 : Hid (IRow W.heap.size w8 u5 (outTo (thM cs es P) (k + 1))) := by unfold Hid; rw [hst]; exact HROW.out
          clear htn hst
          go_wp2_with fail
          go_roundw
          case rel => first | exact ⟨k + 1, by omega, by go_num, HR2, HWZ.out⟩ | ((repeat apply Exists.intro); exact ⟨⟨k + 1, by omega, by go_num, HR2, HWZ.out⟩, rfl⟩)
          case measure => first | (simp [intOf]; omega) | simp [intOf]
        | false =>
          have hty : thM cs es P k = true := by rw [HTH.out, hus]; rfl
          have hst := outTo_yes hty
          have HST := Lib.hid hst
          have hlen := outTo_len (thM cs es P) k
          have HAL := Lib.hid (World.ownsRow.alloc HROW.out (.cells #[.int .i64 (k : Int)] 3))
          have hba : Below W.heap.size W (w8.alloc (.cells #[.int .i64 (k : Int)] 3)) := HWZ.out.alloc HWZ.out.size _
          clear hty hst hus
          go_wp2_with (refine wpList_append_ints rfl (.tmp 32) (.tmp 34) rfl W.heap.size 0 _ _ _ rfl HAL.out _ [(k : Int)] rfl (ints_one _ _ _) (by simp; omega) (by have := HWZ.out.size; simp; omega) ?_; intro v2 w2 ho2 hg2)
          have hb2 : Below W.heap.size W w2 := hba.grown hg2 (by have := HWZ.out.size; simp; omega) (fun q hq => (HAL.out.lt q hq).1)
          have HR2 : Hid (IRow W.heap.size w2 v2 (outTo (thM cs es P) (k + 1))) := by
            unfold Hid
            rw [HST.out]
            simpa [IRow, intCells] using ho2
          clear ho2 hg2
          go_wp2_with fail
          go_roundw
          case rel => first | exact ⟨k + 1, by omega, by go_num, HR2, hb2⟩ | ((repeat apply Exists.intro); exact ⟨⟨k + 1, by omega, by go_num, HR2, hb2⟩, rfl⟩)
          case measure => first | (simp [intOf]; omega) | simp [intOf]
      · have t1 : decide (y < 0) = false := decide_eq_false hy
        go_wp2_with fail
        refine (l1Has_any _ (P.map fun (e : Nat) => (e : Int)) y wz lo2 (HL.out.keep (Carries.of lo2 (HW.out.trans (HWZ.out.mono HW.out.size)))) (by rw [List.length_map]; omega)).mono ?_
        rintro e w6 ⟨rfl, hb6⟩
        have g1 := cell_carry g1 (Carries.of 0 hb6)
        have x0 := cell_carry x0 (Carries.of 0 hb6)
        have x1 := cell_carry x1 (Carries.of 0 hb6)
        have HROW := Lib.hid (owns_after HROW.out hb6)
        have HWZ := Lib.hid (HWZ.out.trans (hb6.mono HWZ.out.size))
        clear hb6
        cases hh : hasB (P.map fun (e : Nat) => (e : Int)) y with
        | false =>
          have htn : thM cs es P k = false := by rw [HTH0.out, t1, hh]; rfl
          clear hh
          have hst := outTo_no htn
          have HR2 : Hid (IRow W.heap.size w6 u5 (outTo (thM cs es P) (k + 1))) := by unfold Hid; rw [hst]; exact HROW.out
          clear htn hst
          go_wp2_with fail
          go_roundw
          case rel => first | exact ⟨k + 1, by omega, by go_num, HR2, HWZ.out⟩ | ((repeat apply Exists.intro); exact ⟨⟨k + 1, by omega, by go_num, HR2, HWZ.out⟩, rfl⟩)
          case measure => first | (simp [intOf]; omega) | simp [intOf]
        | true =>
          have HTH : Hid (thM cs es P k = (true && !usedB es P (k : Int))) := by unfold Hid; rw [HTH0.out, hh, Bool.or_true]
          clear hh
          go_wp2_with fail
          refine (l7Used_any _ _ cs es P (k : Int) w6 lo lo2 (HU.out.keep (Carries.of lo (HW.out.trans (HWZ.out.mono HW.out.size)))) (HL.out.keep (Carries.of lo2 (HW.out.trans (HWZ.out.mono HW.out.size)))) hpl HEV.out HPI.out).mono ?_
          rintro e w8 ⟨rfl, hb8⟩
          have HROW := Lib.hid (owns_after HROW.out hb8)
          have HWZ := Lib.hid (HWZ.out.trans (hb8.mono HWZ.out.size))
          clear hb8
          cases hus : usedB es P (k : Int) with
          | true =>
            have htn : thM cs es P k = false := by rw [HTH.out, hus]; simp
            have hst := outTo_no htn
            have HR2 : Hid (IRow W.heap.size w8 u5 (outTo (thM cs es P) (k + 1))) := by unfold Hid; rw [hst]; exact HROW.out
            clear htn hst
            go_wp2_with fail
            go_roundw
            case rel => first | exact ⟨k + 1, by omega, by go_num, HR2, HWZ.out⟩ | ((repeat apply Exists.intro); exact ⟨⟨k + 1, by omega, by go_num, HR2, HWZ.out⟩, rfl⟩)
            case measure => first | (simp [intOf]; omega) | simp [intOf]
          | false =>
            have hty : thM cs es P k = true := by rw [HTH.out, hus]; rfl
            have hst := outTo_yes hty
            have HST := Lib.hid hst
            have hlen := outTo_len (thM cs es P) k
            have HAL := Lib.hid (World.ownsRow.alloc HROW.out (.cells #[.int .i64 (k : Int)] 3))
            have hba : Below W.heap.size W (w8.alloc (.cells #[.int .i64 (k : Int)] 3)) := HWZ.out.alloc HWZ.out.size _
            clear hty hst hus
            go_wp2_with (refine wpList_append_ints rfl (.tmp 32) (.tmp 34) rfl W.heap.size 0 _ _ _ rfl HAL.out _ [(k : Int)] rfl (ints_one _ _ _) (by simp; omega) (by have := HWZ.out.size; simp; omega) ?_; intro v2 w2 ho2 hg2)
            have hb2 : Below W.heap.size W w2 := hba.grown hg2 (by have := HWZ.out.size; simp; omega) (fun q hq => (HAL.out.lt q hq).1)
            have HR2 : Hid (IRow W.heap.size w2 v2 (outTo (thM cs es P) (k + 1))) := by
              unfold Hid
              rw [HST.out]
              simpa [IRow, intCells] using ho2
            clear ho2 hg2
            go_wp2_with fail
            go_roundw
            case rel => first | exact ⟨k + 1, by omega, by go_num, HR2, hb2⟩ | ((repeat apply Exists.intro); exact ⟨⟨k + 1, by omega, by go_num, HR2, hb2⟩, rfl⟩)
            case measure => first | (simp [intOf]; omega) | simp [intOf]
    · have hkk : k = nc := by omega
      subst hkk
      have hr := hrow.out
      rw [HNC.out] at hr
      have hCC : outTo (thM cs es P) cs.length = C := HC.out.symm
      rw [hCC] at hr
      have HR := Lib.hid hr
      clear hr hrow
      go_wp2_with fail
      go_ret
      exact ⟨_, rfl, Go.Joins.ownsRow_le HR.out (by omega), hb1⟩

end Go.Proofs.YtdiblkgjmkbpmaaGreat

namespace Go.Proofs.YtdiblkgjmkbpmaaGreat
open Go.RowKit

/-- the first k bytes of the marking -/
def mkTo (Q : List Int) (k : Nat) : ByteArray := bstr ((List.range k).map fun (q : Nat) => if (q : Int) ∈ Q then (49 : UInt8) else 48)
theorem bstr_snoc (l : List UInt8) (b : UInt8) : bstr (l ++ [b]) = bstr l ++ bstr [b] := by
  unfold bstr
  apply ByteArray.ext
  simp
theorem mkTo_yes {Q : List Int} {k : Nat} (h : hasB Q (k : Int) = true) : mkTo Q (k + 1) = mkTo Q k ++ bstr [49] := by
  unfold mkTo
  rw [List.range_succ, List.map_append, ← bstr_snoc]
  have h := of_decide_eq_true h
  simp [h]
theorem mkTo_no {Q : List Int} {k : Nat} (h : hasB Q (k : Int) = false) : mkTo Q (k + 1) = mkTo Q k ++ bstr [48] := by
  unfold mkTo
  rw [List.range_succ, List.map_append, ← bstr_snoc]
  have h := of_decide_eq_false h
  simp [h]
theorem mkTo_size (Q : List Int) (k : Nat) : (mkTo Q k).size = k := by unfold mkTo; rw [bstr_size, List.length_map, List.length_range]
theorem mk_model {p : Nat} {cs : List Cnd} {C : List Int} : mkTo (plM cs C) p = mkS p cs C := by
  unfold mkTo mkS
  congr 1
  apply List.map_congr_left
  intro q _
  by_cases h : (q : Int) ∈ plL cs C
  · rw [if_pos h, if_pos (mem_plM.2 h)]
  · rw [if_neg h, if_neg (fun z => h (mem_plM.1 z))]

set_option maxRecDepth 100000 in
set_option maxHeartbeats 2000000 in
theorem l7Mark_any (p : Nat) (vt : Value) (hvt : ∃ a m c, vt = .slice a m c) (vu : Value) (cs : List Cnd) (es : List Ev) (vl : Value) (P : List Nat) (w : World) (lo lo2 : Nat) (hp : p ≤ 30) (hvu : UnfAt lo w vu ⟨cs, es⟩) (hvl : IntsAt lo2 w vl (P.map fun (e : Nat) => (e : Int))) (hpl : P.length ≤ 1048576) (hcl : cs.length ≤ 1048576) (hev : ∀ k, k < es.length → (evP es k).length ≤ 1048576) (hpi : ∀ k, k < P.length → P.getD k 0 < es.length) :
    Calls Tryz.prog 67 #[.agg #[.int .i64 (p : Int), vt], vu, vl] w (RetV w (.string (mkS p cs (cutM cs es P)))) := by
  obtain ⟨at_, m, ct, rfl⟩ := hvt
  have HL := Lib.hid hvl
  obtain ⟨al, kl, rfl, hxa, hxb⟩ := hvl
  obtain ⟨nl, hnl⟩ : ∃ y, y = (P.map fun (e : Nat) => (e : Int)).length := ⟨_, rfl⟩
  rw [← hnl] at HL ⊢
  have HEV := Lib.hid hev; have HPI := Lib.hid hpi
  clear hxa hxb hnl hev hpi
  obtain ⟨M, hM⟩ : ∃ y, y = mkS p cs (cutM cs es P) := ⟨_, rfl⟩
  rw [← hM]
  have HM := Lib.hid hM; clear hM
  obtain ⟨a0, k0, a1, k1, rfl, hcc, hee⟩ := hvu.form
  have HU := Lib.hid hvu
  simp only at hcc hee ⊢
  have HCN := Lib.hid hcc
  obtain ⟨nc, hnc⟩ : ∃ m, m = cs.length := ⟨_, rfl⟩
  obtain ⟨ne, hne⟩ : ∃ m, m = es.length := ⟨_, rfl⟩
  rw [← hnc, ← hne] at HU
  rw [← hnc] at HCN
  rw [← hnc, ← hne]
  have HNC := Lib.hid hnc; have HNE := Lib.hid hne
  clear hcc hee hnc hne hvu
  have hW0 : Below w.heap.size w ((w.alloc (.cells #[.int .i64 (p : Int), .slice at_ m ct] 34)).alloc (.cells #[.slice a0 nc k0, .slice a1 ne k1] 39)) := by (repeat' (first | (with_reducible exact Below.refl _ _) | (with_reducible assumption) | (with_reducible refine Below.alloc ?_ ?_ _) | (with_reducible refine Below.drew ?_) | (with_reducible refine below_drewN ?_ _) | (with_reducible refine Below.setCell ?_ ?_ _) | go_size))
  have n0 : ((w.alloc (.cells #[.int .i64 (p : Int), .slice at_ m ct] 34)).alloc (.cells #[.slice a0 nc k0, .slice a1 ne k1] 39)).cell? ⟨w.heap.size, 0, none⟩ = some (.int .i64 (p : Int)) := cell_carry (w := w.alloc (.cells #[.int .i64 (p : Int), .slice at_ m ct] 34)) (cell_new2 rfl).1 ((Carries.refl 0 _).alloc _)
  have x0 : ((w.alloc (.cells #[.int .i64 (p : Int), .slice at_ m ct] 34)).alloc (.cells #[.slice a0 nc k0, .slice a1 ne k1] 39)).cell? ⟨w.heap.size + 1, 0, none⟩ = some (.slice a0 nc k0) := (cell_new2 (by simp)).1
  have x1 : ((w.alloc (.cells #[.int .i64 (p : Int), .slice at_ m ct] 34)).alloc (.cells #[.slice a0 nc k0, .slice a1 ne k1] 39)).cell? ⟨w.heap.size + 1, 1, none⟩ = some (.slice a1 ne k1) := (cell_new2 (by simp)).2
  go_enter Tryz.func67, Tryz.ntmps67
  go_upto_region 1 with fail
  generalize (w.alloc (.cells #[.int .i64 (p : Int), .slice at_ m ct] 34)).alloc (.cells #[.slice a0 nc k0, .slice a1 ne k1] 39) = W at hW0 n0 x0 x1 ⊢
  have HW := Lib.hid hW0; clear hW0
  have hclen : (cutM cs es P).length ≤ 1048576 := Nat.le_trans (outTo_len _ _) hcl
  have hcin : ∀ k, k < (cutM cs es P).length → 0 ≤ (cutM cs es P).getD k 0 ∧ (cutM cs es P).getD k 0 < (cs.length : Int) := outTo_in
  have HCI := Lib.hid hcin; clear hcin
  refine wp_region_held_drew (S := fun w' => w'.cell? ⟨w.heap.size + 1, 0, none⟩ = some (.slice a0 nc k0) ∧ w'.cell? ⟨w.heap.size + 1, 1, none⟩ = some (.slice a1 ne k1)) (by kernel_rfl) ⟨x0, x1⟩ (fun hHeld => ?_)
  refine tk0 (v := ?_) (by kernel_rfl) (by kernel_rfl) (by kernel_rfl) (by first | exact fun _ _ _ h => h | exact fun _ _ _ h => absurd h.1 (by simp)) (Or.inl ⟨by rfl, ?_⟩) (by assumption) ?_
  rotate_left 1
  focus (intro wx hSw; (try dsimp only at hSw); go_simp; try (with_reducible rfl))
  try simp only [Act.put, List.setIfInBounds_toArray, List.set_cons_zero, List.set_cons_succ]
  refine tk1 (v := ?_) (by kernel_rfl) (by kernel_rfl) (by kernel_rfl) (by first | exact fun _ _ _ h => h | exact fun _ _ _ h => absurd h.1 (by simp)) (Or.inl ⟨by rfl, ?_⟩) (by assumption) ?_
  rotate_left 1
  focus (intro wx hSw; (try dsimp only at hSw); go_simp; try (with_reducible rfl))
  try simp only [Act.put, List.setIfInBounds_toArray, List.set_cons_zero, List.set_cons_succ]
  refine tk2 (v := ?_) (by kernel_rfl) (by kernel_rfl) (by kernel_rfl) (by first | exact fun _ _ _ h => h | exact fun _ _ _ h => absurd h.1 (by simp)) (Or.inl ⟨by rfl, ?_⟩) (by assumption) ?_
  rotate_left 1
  focus (intro wx hSw; (try dsimp only at hSw); go_simp; try (with_reducible rfl))
  try simp only [Act.put, List.setIfInBounds_toArray, List.set_cons_zero, List.set_cons_succ]
  refine rd3 (by kernel_rfl) (fun K hK => ?_)
  go_simp
  refine (l7Cut_any _ cs es _ P W.drew lo lo2 (HU.out.keep (Carries.of lo HW.out.drew)) (HL.out.keep (Carries.of lo2 HW.out.drew)) hpl hcl HEV.out HPI.out).mono ?_
  rintro e w1 ⟨vq, rfl, hrow, hb1⟩
  have hb1 : Below W.heap.size W w1 := Below.trans (b := W.drew) (Below.refl _ _).drew (hb1.mono (by simp))
  have HQ := Lib.hid (ints_of_owns hrow)
  obtain ⟨aq, kq, rfl⟩ := owns_form hrow
  obtain ⟨C, hC⟩ : ∃ y, y = cutM cs es P := ⟨_, rfl⟩
  rw [← hC] at HQ hclen HCI ⊢
  have HM2 : Hid (M = mkS p cs C) := by unfold Hid; rw [HM.out, hC]
  clear hC hrow
  obtain ⟨nq, hnq⟩ : ∃ y, y = C.length := ⟨_, rfl⟩
  rw [← hnq] at HQ ⊢
  clear hnq
  have y0 := cell_carry x0 (Carries.of 0 hb1)
  have y1 := cell_carry x1 (Carries.of 0 hb1)
  refine hK.out _ _ ⟨y0, y1⟩ (fun hHeld => ?_)
  clear hK K
  try simp only [Act.put, List.setIfInBounds_toArray, List.set_cons_zero, List.set_cons_succ]
  refine rd4 (by kernel_rfl) (fun K hK => ?_)
  go_simp
  refine (l7Places_any _ _ cs es C w1 lo _ (HU.out.keep (Carries.of lo (HW.out.trans (hb1.mono HW.out.size)))) HQ.out hclen HCI.out).mono ?_
  rintro e w2 ⟨vr, rfl, hr2, hb2⟩
  have hb2' : Below W.heap.size W w2 := hb1.trans (hb2.mono hb1.size)
  have HP := Lib.hid (ints_of_owns hr2)
  obtain ⟨ar, kr, rfl⟩ := owns_form hr2
  have hplen : (plM cs C).length ≤ 1048576 := by
    have := puts_len (plL cs C) []
    rw [plL_length] at this
    unfold plM
    simp only [List.length_nil] at this
    omega
  have HM3 : Hid (M = mkTo (plM cs C) p) := by unfold Hid; rw [HM2.out, mk_model]
  clear hr2
  generalize plM cs C = Q at HP hplen HM3 ⊢
  obtain ⟨nQ, hnQ⟩ : ∃ y, y = Q.length := ⟨_, rfl⟩
  rw [← hnQ] at HP ⊢
  clear hnQ
  have z0 := cell_carry y0 (Carries.of 0 hb2)
  have z1 := cell_carry y1 (Carries.of 0 hb2)
  have n0 := cell_carry n0 (Carries.of 0 hb2')
  have HB2 := Lib.hid (HW.out.trans (hb2'.mono HW.out.size))
  clear hb1 hb2 hb2' x0 x1 y0 y1
  refine hK.out _ _ ⟨z0, z1⟩ (fun hHeld => ?_)
  clear hK K
  try simp only [Act.put, List.setIfInBounds_toArray, List.set_cons_zero, List.set_cons_succ]
  refine tk5 (v := ?_) (by kernel_rfl) (by kernel_rfl) (by kernel_rfl) (by first | exact fun _ _ _ h => h | exact fun _ _ _ h => absurd h.1 (by simp)) (Or.inl ⟨by rfl, ?_⟩) (by assumption) ?_
  rotate_left 1
  focus (intro wx hSw; (try dsimp only at hSw); go_simp; try (with_reducible rfl))
  try simp only [Act.put, List.setIfInBounds_toArray, List.set_cons_zero, List.set_cons_succ]
  refine wpAnyH_done (by kernel_rfl) ?_ _
  have HN0 := Lib.hid n0
  clear z0 z1 n0 hHeld
  go_wp2_with fail
  go_loopw [8, 9] (fun o i wr => ∃ k : Nat, k ≤ p ∧ i = .int .i64 k ∧ o = .string (mkTo Q k) ∧ Below w2.heap.size w2 wr) (fun _ i _ => p - (intOf i).toNat)
  case atStart => exact ⟨0, Nat.zero_le _, rfl, rfl, Below.refl _ _⟩
  case round =>
    obtain ⟨k, hk, rfl, rfl, hbr⟩ := hrel
    have n0 := cell_carry HN0.out (Carries.of 0 hbr)
    by_cases hlt : k < p
    · go_wp2_with fail
      refine (l1Has_any _ Q (k : Int) wr _ (HP.out.keep (Carries.of _ hbr)) (by omega)).mono ?_
      rintro e w6 ⟨rfl, hb6⟩
      have hb7 := hbr.trans (hb6.mono hbr.size)
      have n0 := cell_carry n0 (Carries.of 0 hb6)
      clear hb6
      cases hh : hasB Q (k : Int) with
      | false =>
        have hst := mkTo_no hh
        have HST := Lib.hid hst
        have hsz : (mkTo Q k).size ≤ 30 := by rw [mkTo_size]; omega
        clear hst hh
        go_wp2_with fail
        go_roundw
        case rel => first | exact ⟨k + 1, by omega, by go_num, by rw [HST.out]; rfl, hb7⟩ | ((repeat apply Exists.intro); exact ⟨⟨k + 1, by omega, by go_num, by rw [HST.out]; rfl, hb7⟩, rfl⟩)
        case measure => first | (simp [intOf]; omega) | simp [intOf]
      | true =>
        have hst := mkTo_yes hh
        have HST := Lib.hid hst
        have hsz : (mkTo Q k).size ≤ 30 := by rw [mkTo_size]; omega
        clear hst hh
        go_wp2_with fail
        go_roundw
        case rel => first | exact ⟨k + 1, by omega, by go_num, by rw [HST.out]; rfl, hb7⟩ | ((repeat apply Exists.intro); exact ⟨⟨k + 1, by omega, by go_num, by rw [HST.out]; rfl, hb7⟩, rfl⟩)
        case measure => first | (simp [intOf]; omega) | simp [intOf]
    · have hkk : k = p := by omega
      subst hkk
      rw [← HM3.out]
      go_wp2_with fail
      go_ret
      exact ⟨rfl, HB2.out.trans (hbr.mono HB2.out.size)⟩

end Go.Proofs.YtdiblkgjmkbpmaaGreat
