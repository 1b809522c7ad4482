/- WALK: writeMarking (out of Read).
   WALKS: onlyPlaces, isEnabled, isTransition.
   WALKS: cut, finalMarking, localMarking, LocalMarking of the program (written by gen8/gmkp.py). -/
import Derived.Test.YtdiblkgjmkbpmaaGreatVHmk
import Derived.Test.YtdiblkgjmkbpmaaGreatVTrn
import Derived.Test.YtdiblkgjmkbpmaaGreatVSteps
import Derived.Test.YtdiblkgjmkbpmaaGreatVOwnt
namespace Go.Proofs.YtdiblkgjmkbpmaaGreat
open Go.RowKit

theorem ArrAt.string {w : World} {g : Nat} {xs : List UInt8} (h : ArrAt w g xs) (n cap : Nat) (hn : n ≤ 30) : (convert 148 9 (.slice (some ⟨g, 0, none⟩) n cap)).run Tryz.prog w = .ok (.string (bstr (xs.take n))) w := by
  rw [run_convert_bytes_string w 148 9 5 _ _ _ Tryz.underlying148 Tryz.underlying5 Tryz.underlying9]
  have hlen : ((xs.take n).map (fun b => (b.toNat : Int))).length = n := by simp; have := h.2; omega
  have hl := run_loadCells_list (P := Tryz.prog) w ⟨g, 0, none⟩ (((xs.take n).map (fun b => (b.toNat : Int))).map (Value.int .u8)) (fun j v hv => by
    have hj : j < n := by have := (List.getElem?_eq_some_iff.1 hv).1; rw [List.length_map, hlen] at this; exact this
    rw [Addr.add_mid, Nat.zero_add, h.cell (by omega)]
    rw [← hv]
    have hj2 : j < xs.length := by rw [h.2]; omega
    simp [hj, hj2, List.getD])
  rw [List.length_map, hlen] at hl
  rw [run_bytesToString w ⟨g, 0, none⟩ n cap _ hl, foldl_push]
  congr 2
  simp [bstr, ByteArray.empty, ByteArray.emptyWithCapacity]
  rfl

theorem slice_arr (g p : Nat) (hp : p ≤ 30) (W : World) : (Instr.sliceAt 137 (.pointer (some ⟨g, 0, none⟩)) none (some (.int .i64 (p : Int))) none).run Tryz.prog W = .ok (.slice (some ⟨g, 0, none⟩) p 30) W := by
  have hb : (Instr.sliceBound (.int .i64 (p : Int)) 30 .sliceAlen).run Tryz.prog W = .ok p W := by
    have h1 : (0 : Int) ≤ (p : Int) ∧ (p : Int) ≤ ((30 : Nat) : Int) := ⟨by omega, by omega⟩
    simp [Instr.sliceBound, asIntOf, h1.1, h1.2]
    omega
  have hz : ∀ w, (Go.sizeOf 5).run Tryz.prog w = .ok 1 w := fun _ => by kernel_rfl
  simp [Instr.sliceAt, Instr.sureAddr, slicedAt, run_underlying Tryz.underlying137, Instr.sliceBounds, hb, sliced, hz]
  rfl

set_option maxRecDepth 100000 in
set_option maxHeartbeats 1000000 in
theorem writeMarking_any (p : Nat) (u : Value) (xs : List UInt8) (hx : xs.length = 30) (w : World) (hp : p ≤ 30) (ao : Option Addr) (m cap : Nat) (hu : u = .slice ao m cap) :
    Calls Tryz.prog 104 #[.agg #[.int .i64 p, u], .agg (arr xs).toArray] w (RetV w (.string (bstr (xs.take p)))) := by
  subst hu
  have hA := ArrAt.new (w.alloc (.cells #[.int .i64 p, .slice ao m cap] 34)) hx
  rw [World.size_alloc] at hA
  have kc := hA.string p 30 hp
  have HA := Lib.hid hA; clear hA
  have ks : ∀ W : World, (Instr.sliceAt 137 (.pointer (some ⟨w.heap.size + 1, 0, none⟩)) none (some (.int .i64 (p : Int))) none).run Tryz.prog W = .ok (.slice (some ⟨w.heap.size + 1, 0, none⟩) p 30) W := fun W => slice_arr _ p hp W
  go_enter Tryz.func104, Tryz.ntmps104
  go_wp2_with fail
  go_ret
  exact ⟨rfl, by (repeat' (first | (with_reducible exact Below.refl _ _) | (with_reducible assumption) | (with_reducible refine Below.alloc ?_ ?_ _) | (with_reducible refine Below.drew ?_) | (with_reducible refine below_drewN ?_ _) | (with_reducible refine Below.setCell ?_ ?_ _) | go_size))⟩

end Go.Proofs.YtdiblkgjmkbpmaaGreat

namespace Go.Proofs.YtdiblkgjmkbpmaaGreat
open Go.RowKit


set_option maxRecDepth 100000 in
set_option maxHeartbeats 1000000 in
theorem onlyPlaces_any (v : Value) (ps : List Int) (w : World) (lo : Nat) (hv : IntsAt lo w v ps) (hn : ps.length ≤ 1048576) (hin : InArr ps) :
    Calls Tryz.prog 105 #[v] w (RetA w (putAll 49 blank ps)) := by
  have hv' := hv
  obtain ⟨ao, cap, rfl, hc, hz⟩ := hv'
  have HV := Lib.hid hv; clear hv hz
  have HI := Lib.hid hin; clear hin
  go_enter Tryz.func105, Tryz.ntmps105
  go_wp2_with fail
  go_loopw [5] (fun i wr => ∃ k : Nat, k ≤ 30 ∧ i = .int .i64 k ∧ ArrAt wr (w.heap.size + 1) (firsts k) ∧ ArrAt wr w.heap.size zeros ∧ Below w.heap.size w wr) (fun i _ => 30 - (intOf i).toNat)
  case atStart =>
    refine ⟨0, Nat.zero_le _, rfl, ?_, ?_, ?_⟩
    · have h := ArrAt.new (w.alloc (.cells (arr zeros).toArray 137)) zeros_length
      rw [World.size_alloc] at h
      rw [firsts_zero]
      exact h
    · exact (ArrAt.new w zeros_length).after ((Below.refl _ _).alloc (Nat.le_refl _) _)
    · (repeat' (first | (with_reducible exact Below.refl _ _) | (with_reducible assumption) | (with_reducible refine Below.alloc ?_ ?_ _) | (with_reducible refine Below.drew ?_) | (with_reducible refine below_drewN ?_ _) | (with_reducible refine Below.setCell ?_ ?_ _) | go_size))
  case round =>
    obtain ⟨k, hk, rfl, ha, hb, hb1⟩ := hrel
    have HA := Lib.hid ha; clear ha
    have HB := Lib.hid hb; clear hb
    by_cases hlt : k < 30
    · have c2 := HA.out.cell hlt
      have c3 := HA.out.frozen k
      have HN : Hid (ArrAt (wr.setCell ⟨w.heap.size + 1, k, none⟩ (.int .u8 48)) (w.heap.size + 1) (firsts (k + 1))) := by
        have h := HA.out.put k 48
        rw [firsts_succ hlt] at h
        exact h
      have HM := Lib.hid (HB.out.other ⟨w.heap.size + 1, k, none⟩ (.int .u8 48) (by simp))
      go_wp2_with fail
      go_roundw
      case rel => exact ⟨k + 1, by omega, by go_num, HN.out, HM.out, hb1.setCell (by simp) _⟩
      case measure => simp [intOf]; omega
    · have hkk : k = 30 := by omega
      subst hkk
      rw [firsts_last] at HA
      go_wp2_with (refine wpList_load_row rfl 137 _ rfl (w.heap.size + 1) rfl _ _ _ _ HA.out.1 Tryz.underlying137 rfl (infoArr blank_length) ?_)
      refine (withPlaces_any blank blank_length _ ps _ lo (HV.out.keep (Carries.of lo hb1)) hn HI.out).mono ?_
      rintro e w1 ⟨rfl, hb2⟩
      have hw1 : Below w.heap.size w w1 := hb1.trans (hb2.mono hb1.size)
      have hl : (putAll 49 blank ps).length = 30 := by rw [putAll_length]; exact blank_length
      have HC := Lib.hid (HB.out.after hb2)
      go_wp2_with (refine wpList_store_row rfl 137 _ _ rfl w.heap.size _ rfl rfl _ _ HC.out.1 (infoArr hl) (by simp [arr_length, hl, zeros_length]) (arr_all _) ?_)
      refine bodyPost_ret (v := .agg (arr (putAll 49 blank ps)).toArray) (results_cell_row rfl _ _ w.heap.size _ _ _ _ rfl (setRow_heap _ _ _ _ _ _ HC.out.1) Tryz.underlying137 rfl (infoArr hl)) rfl ⟨rfl, ?_⟩
      exact below_setRow hw1 (Nat.le_refl _) _

end Go.Proofs.YtdiblkgjmkbpmaaGreat

namespace Go.Proofs.YtdiblkgjmkbpmaaGreat
open Go.RowKit

set_option maxRecDepth 100000 in
set_option maxHeartbeats 2000000 in
theorem cut_any (B H : Nat) (w : World) (P : Int) (vt vc ve vp vu : Value) (x : His) (S : Nat) (h : HisAt B H w P vt vc ve vp vu x.cs x.es x.ps x.us) (hG : HisG x) (hcl : x.cs.length ≤ 1048576) (h60 : x.es.length ≤ 60) (hS : S < 18446744073709551616) :
    Calls Tryz.prog 63 #[.pointer (some ⟨H, 0, none⟩), .int .u64 (S : Int)] w (fun e w' => ∃ v', e = .returned v' ∧ IRow w.heap.size w' v' (cutS x S) ∧ Below w.heap.size w w') := by
  have HH := Lib.hid h
  have c2 := h.c2
  obtain ⟨ac, kc, rfl, _, hzc⟩ := id h.rc.at
  have HZC := Lib.hid hzc
  clear h hzc
  have HG := Lib.hid hG; clear hG
  obtain ⟨nc, hnc⟩ : ∃ y, y = x.cs.length := ⟨_, rfl⟩
  rw [← hnc] at c2 hcl HH
  have HNC := Lib.hid hnc
  obtain ⟨C, hC⟩ : ∃ y, y = cutS x S := ⟨_, rfl⟩
  rw [← hC]
  have HC := Lib.hid hC
  clear hnc hC
  go_enter Tryz.func63, Tryz.ntmps63
  go_wp2_with fail
  go_loopw [5, 15] (fun o i wr => ∃ k : Nat, k ≤ nc ∧ i = .int .i64 k ∧ Hid (IRow w.heap.size wr o (outTo (thS x S) k)) ∧ Below w.heap.size w wr) (fun _ i _ => nc - (intOf i).toNat)
  case atStart => exact ⟨0, Nat.zero_le _, rfl, World.ownsRow_nil _ _ _ _, Below.refl _ _⟩
  case round =>
    obtain ⟨k, hk, rfl, hrow, hb1⟩ := hrel
    by_cases hlt : k < nc
    · have hkl : k < x.cs.length := by rw [← HNC.out]; exact hlt
      rcases HZC.out with h0 | ⟨b, off, rfl, hlo, hcell⟩
      · exact absurd hkl (by rw [h0]; exact Nat.not_lt_zero _)
      obtain ⟨q0, q1⟩ := hcell k hkl
      have d0 := Carries.of 0 hb1 _ _ (Nat.zero_le _) q0
      have d1 := Carries.of 0 hb1 _ _ (Nat.zero_le _) q1
      have hby := HG.out.m.by_ k hkl
      have hcu : k < x.us.length := by rw [HG.out.m.uc]; exact hkl
      have hfu := HG.out.fu k
      have hth : thS x S k = ((decide (cnB x.cs k = -1) || S.testBit (cnB x.cs k).toNat) && decide (x.us.getD k 0 &&& S = 0)) := rfl
      obtain ⟨uz, huz⟩ : ∃ y, y = x.us.getD k 0 := ⟨_, rfl⟩
      rw [← huz] at hth hfu
      have HUZ : Hid (x.us.getD k 0 = uz) := huz.symm
      clear hcell q0 q1 huz
      try dsimp only at d0 d1
      generalize cnP x.cs k = pz at d0
      generalize cnB x.cs k = y at d1 hby hth
      go_upto_region 5 with fail
      have hba : Below wr.heap.size wr (wr.alloc (.cells #[.int .i64 pz, .int .i64 y] 121)) := (Below.refl _ _).alloc (Nat.le_refl _) _
      have g1 : (wr.alloc (.cells #[.int .i64 pz, .int .i64 y] 121)).cell? ⟨wr.heap.size, 1, none⟩ = some (.int .i64 y) := (cell_new2 rfl).2
      have HROW := Lib.hid (owns_after hrow.out hba)
      have HWZ := Lib.hid (hb1.trans (hba.mono hb1.size))
      generalize wr.alloc (.cells #[.int .i64 pz, .int .i64 y] 121) = wz at g1 HROW HWZ ⊢
      generalize wr.heap.size = EB at g1 ⊢
      clear hba hrow hb1 d0 d1
      rcases hby with rfl | ⟨y0, y1⟩
      · have HTH := Lib.hid hth; clear hth
        have t1 : ((-1 : Int) == -1) = true := rfl
        have hus := HH.out.after (show Below w.heap.size w wz from HWZ.out)
        have c5 := hus.c5
        obtain ⟨au, ku, hvu, _, hzu⟩ := id hus.ru.at
        subst hvu
        rcases hzu with h0 | ⟨bu, offu, rfl, _, hcellu⟩
        · exact absurd hcu (by rw [h0]; exact Nat.not_lt_zero _)
        have du := hcellu k hcu
        clear hcellu hus
        obtain ⟨nu, hnu⟩ : ∃ y, y = x.us.length := ⟨_, rfl⟩
        rw [← hnu] at c5 hcu
        clear hnu
        have e1 : bits .and .u64 (uz : Int) (S : Int) = ((uz &&& S : Nat) : Int) := bits_and_u64_nat uz S hfu hS
        rw [HUZ.out] at du
        by_cases hz0 : uz &&& S = 0
        · rw [hz0] at e1
          have e1 : bits .and .u64 (uz : Int) (S : Int) = 0 := e1
          have hty : thS x S k = true := by rw [HTH.out, decide_eq_true hz0]; rfl
          have hst := outTo_yes hty
          have HST := Lib.hid hst
          have hlen := outTo_len (thS x S) k
          have HAL := Lib.hid (World.ownsRow.alloc HROW.out (.cells #[.int .i64 (k : Int)] 3))
          have hba : Below w.heap.size w (wz.alloc (.cells #[.int .i64 (k : Int)] 3)) := HWZ.out.alloc HWZ.out.size _
          clear hty hst
          go_wp2_with (refine wpList_append_ints rfl (.tmp 42) (.tmp 44) rfl w.heap.size 0 _ _ _ rfl HAL.out _ [(k : Int)] rfl (ints_one _ _ _) (by simp; omega) (by have := HWZ.out.size; simp; omega) ?_; intro v2 w2 ho2 hg2)
          have hb2 : Below w.heap.size w w2 := hba.grown hg2 (by have := HWZ.out.size; simp; omega) (fun q hq => (HAL.out.lt q hq).1)
          have HR2 : Hid (IRow w.heap.size w2 v2 (outTo (thS x S) (k + 1))) := by
            unfold Hid
            rw [HST.out]
            simpa [IRow, intCells] using ho2
          clear ho2 hg2
          go_wp2_with fail
          go_roundw
          case rel => first | exact ⟨k + 1, by omega, by go_num, HR2, hb2⟩ | ((repeat apply Exists.intro); exact ⟨⟨k + 1, by omega, by go_num, HR2, hb2⟩, rfl⟩)
          case measure => first | (simp [intOf]; omega) | simp [intOf]
        · have e2 : (bits .and .u64 (uz : Int) (S : Int) == 0) = false := by rw [e1, beq_eq_false_iff_ne]; omega
          have htn : thS x S k = false := by rw [HTH.out, decide_eq_false hz0]; simp
          have hst := outTo_no htn
          have HR2 : Hid (IRow w.heap.size wz u5 (outTo (thS x S) (k + 1))) := by unfold Hid; rw [hst]; exact HROW.out
          clear htn hst e1
          go_wp2_with fail
          go_roundw
          case rel => first | exact ⟨k + 1, by omega, by go_num, HR2, HWZ.out⟩ | ((repeat apply Exists.intro); exact ⟨⟨k + 1, by omega, by go_num, HR2, HWZ.out⟩, rfl⟩)
          case measure => first | (simp [intOf]; omega) | simp [intOf]
      · obtain ⟨j, rfl⟩ : ∃ j : Nat, y = (j : Int) := ⟨y.toNat, by omega⟩
        have hj : j ≤ 63 := by omega
        rw [decide_eq_false (show ¬ (j : Int) = -1 by omega), Bool.false_or, Int.toNat_natCast] at hth
        have HTH := Lib.hid hth; clear hth
        have t1 : ((j : Int) == -1) = false := by rw [beq_eq_false_iff_ne]; omega
        go_wp2_with fail
        refine (has_any S j wz hS hj).mono ?_
        rintro e w6 ⟨rfl, hb6⟩
        have g1 := cell_carry g1 (Carries.of 0 hb6)
        have HROW := Lib.hid (owns_after HROW.out hb6)
        have HWZ := Lib.hid (HWZ.out.trans (hb6.mono HWZ.out.size))
        clear hb6
        cases hbit : S.testBit j with
        | false =>
          have htn : thS x S k = false := by rw [HTH.out, hbit]; rfl
          have hst := outTo_no htn
          have HR2 : Hid (IRow w.heap.size w6 u5 (outTo (thS x S) (k + 1))) := by unfold Hid; rw [hst]; exact HROW.out
          clear htn hst hbit
          go_wp2_with fail
          go_roundw
          case rel => first | exact ⟨k + 1, by omega, by go_num, HR2, HWZ.out⟩ | ((repeat apply Exists.intro); exact ⟨⟨k + 1, by omega, by go_num, HR2, HWZ.out⟩, rfl⟩)
          case measure => first | (simp [intOf]; omega) | simp [intOf]
        | true =>
          rw [hbit] at HTH
          clear hbit
          have hus := HH.out.after (show Below w.heap.size w w6 from HWZ.out)
          have c5 := hus.c5
          obtain ⟨au, ku, hvu, _, hzu⟩ := id hus.ru.at
          subst hvu
          rcases hzu with h0 | ⟨bu, offu, rfl, _, hcellu⟩
          · exact absurd hcu (by rw [h0]; exact Nat.not_lt_zero _)
          have du := hcellu k hcu
          clear hcellu hus
          obtain ⟨nu, hnu⟩ : ∃ y, y = x.us.length := ⟨_, rfl⟩
          rw [← hnu] at c5 hcu
          clear hnu
          have e1 : bits .and .u64 (uz : Int) (S : Int) = ((uz &&& S : Nat) : Int) := bits_and_u64_nat uz S hfu hS
          rw [HUZ.out] at du
          by_cases hz0 : uz &&& S = 0
          · rw [hz0] at e1
            have e1 : bits .and .u64 (uz : Int) (S : Int) = 0 := e1
            have hty : thS x S k = true := by rw [HTH.out, decide_eq_true hz0]; rfl
            have hst := outTo_yes hty
            have HST := Lib.hid hst
            have hlen := outTo_len (thS x S) k
            have HAL := Lib.hid (World.ownsRow.alloc HROW.out (.cells #[.int .i64 (k : Int)] 3))
            have hba : Below w.heap.size w (w6.alloc (.cells #[.int .i64 (k : Int)] 3)) := HWZ.out.alloc HWZ.out.size _
            clear hty hst
            go_wp2_with (refine wpList_append_ints rfl (.tmp 42) (.tmp 44) rfl w.heap.size 0 _ _ _ rfl HAL.out _ [(k : Int)] rfl (ints_one _ _ _) (by simp; omega) (by have := HWZ.out.size; simp; omega) ?_; intro v2 w2 ho2 hg2)
            have hb2 : Below w.heap.size w w2 := hba.grown hg2 (by have := HWZ.out.size; simp; omega) (fun q hq => (HAL.out.lt q hq).1)
            have HR2 : Hid (IRow w.heap.size w2 v2 (outTo (thS x S) (k + 1))) := by
              unfold Hid
              rw [HST.out]
              simpa [IRow, intCells] using ho2
            clear ho2 hg2
            go_wp2_with fail
            go_roundw
            case rel => first | exact ⟨k + 1, by omega, by go_num, HR2, hb2⟩ | ((repeat apply Exists.intro); exact ⟨⟨k + 1, by omega, by go_num, HR2, hb2⟩, rfl⟩)
            case measure => first | (simp [intOf]; omega) | simp [intOf]
          · have e2 : (bits .and .u64 (uz : Int) (S : Int) == 0) = false := by rw [e1, beq_eq_false_iff_ne]; omega
            have htn : thS x S k = false := by rw [HTH.out, decide_eq_false hz0]; simp
            have hst := outTo_no htn
            have HR2 : Hid (IRow w.heap.size w6 u5 (outTo (thS x S) (k + 1))) := by unfold Hid; rw [hst]; exact HROW.out
            clear htn hst e1
            go_wp2_with fail
            go_roundw
            case rel => first | exact ⟨k + 1, by omega, by go_num, HR2, HWZ.out⟩ | ((repeat apply Exists.intro); exact ⟨⟨k + 1, by omega, by go_num, HR2, HWZ.out⟩, rfl⟩)
            case measure => first | (simp [intOf]; omega) | simp [intOf]
    · have hkk : k = nc := by omega
      subst hkk
      have hr := hrow.out
      rw [HNC.out] at hr
      have hCC : outTo (thS x S) x.cs.length = C := HC.out.symm
      rw [hCC] at hr
      have HR := Lib.hid hr
      clear hr hrow
      go_wp2_with fail
      go_ret
      exact ⟨_, rfl, HR.out, hb1⟩

end Go.Proofs.YtdiblkgjmkbpmaaGreat
