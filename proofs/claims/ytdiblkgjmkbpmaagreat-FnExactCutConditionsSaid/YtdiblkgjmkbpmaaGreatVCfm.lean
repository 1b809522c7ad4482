/- WALKS: l7Config, l7List, IsConfiguration of the model (written by gen8/gcfm.py). -/
import Derived.Test.YtdiblkgjmkbpmaaGreatVCfp
import Derived.Test.YtdiblkgjmkbpmaaGreatVUvs
namespace Go.Proofs.YtdiblkgjmkbpmaaGreat
open Go.RowKit

set_option maxRecDepth 100000 in
set_option maxHeartbeats 2000000 in
theorem l7Config_any (vu : Value) (x : His) (vl : Value) (L : List Int) (w : World) (lo lo2 : Nat) (hvu : UnfAt lo w vu ⟨x.cs, x.es⟩) (hvl : IntsAt lo2 w vl L) (hl : L.length ≤ 1048576) (hG : HisG x) (hcl : x.cs.length ≤ 1048576) (h60 : x.es.length ≤ 60) (hev : ∀ k, k < x.es.length → (evP x.es k).length ≤ 1048576) (hr : riseB 0 ((x.es.length : Int) - 1) L = true) :
    Calls Tryz.prog 53 #[vu, vl] w (RetB w (cfgB x L)) := by
  have hin := rise_in rfl hr
  rw [← cfg_eq hG h60 hr]
  unfold cfgM
  have hwf := hG.m.wf
  have hmem : ∀ z ∈ L, 0 ≤ z := fun z hz => by
    obtain ⟨q, hq, rfl⟩ := mem_getD.1 hz
    exact (hin q hq).1
  have hLt := list_toNat hmem
  have hPl : ∀ k, k < (L.map Int.toNat).length → (L.map Int.toNat).getD k 0 < x.es.length := fun k hk => by
    have hk2 : k < L.length := by rw [List.length_map] at hk; exact hk
    have e : (L.map Int.toNat).getD k 0 = (L.getD k 0).toNat := by simp [List.getD, hk2]
    rw [e]
    have := hin k hk2
    omega
  obtain ⟨cs, es, ps, us⟩ := x
  simp only at hvu hcl h60 hev hr hin hwf hPl ⊢
  clear hG hr
  have hin2 : ∀ e, e < es.length → ∀ q, q < (evP es e).length → 0 ≤ (evP es e).getD q 0 ∧ (evP es e).getD q 0 < (cs.length : Int) := fun e he q hq => (hwf e he q hq).1
  obtain ⟨q2, hq2⟩ : ∃ q, q = freeB es (L.map Int.toNat) := ⟨_, rfl⟩
  obtain ⟨q1, hq1⟩ : ∃ q, q = decide (((pastQ cs es L).map fun (e : Nat) => (e : Int)) = L) := ⟨_, rfl⟩
  rw [← hq2, ← hq1]
  have HQ2 := Lib.hid hq2; clear hq2
  have HQ1 := Lib.hid hq1; clear hq1
  have HL := Lib.hid hvl
  have hvl2 := hvl
  rw [← hLt] at hvl2
  have HLP := Lib.hid hvl2; clear hvl2
  obtain ⟨al, kl, rfl, hxa, hxb⟩ := hvl
  obtain ⟨nl, hnl⟩ : ∃ x, x = L.length := ⟨_, rfl⟩
  rw [← hnl] at HL HLP ⊢
  clear hxa hxb
  obtain ⟨a0, k0, a1, k1, rfl, hcc, hee⟩ := hvu.form
  have HU := Lib.hid hvu
  simp only at hcc hee ⊢
  obtain ⟨nc, hnc⟩ : ∃ m, m = cs.length := ⟨_, rfl⟩
  obtain ⟨ne, hne⟩ : ∃ m, m = es.length := ⟨_, rfl⟩
  rw [← hnc, ← hne] at HU
  rw [← hnc, ← hne]
  have HWF := Lib.hid hwf; have HEV := Lib.hid hev; have HIN2 := Lib.hid hin2; have HIN := Lib.hid hin; have HPL := Lib.hid hPl
  have hpql : ((pastQ cs es L).map fun (e : Nat) => (e : Int)).length ≤ 4611686018427387904 := by
    rw [List.length_map]
    unfold pastQ
    have := List.length_filter_le (pastM cs es (inL L) es.length) (List.range es.length)
    rw [List.length_range] at this
    omega
  have HNL := Lib.hid hnl
  clear hwf hev hin2 hcc hee hne hnc hvu hin hPl hmem hLt hnl
  go_enter Tryz.func53, Tryz.ntmps53
  have hW : Below w.heap.size w (w.alloc (.cells #[.slice a0 nc k0, .slice a1 ne k1] 39)) := (Below.refl _ _).alloc (Nat.le_refl _) _
  have x0 : (w.alloc (.cells #[.slice a0 nc k0, .slice a1 ne k1] 39)).cell? ⟨w.heap.size, 0, none⟩ = some (.slice a0 nc k0) := by simp
  have x1 : (w.alloc (.cells #[.slice a0 nc k0, .slice a1 ne k1] 39)).cell? ⟨w.heap.size, 1, none⟩ = some (.slice a1 ne k1) := by simp
  go_upto_region 1 with fail
  generalize w.alloc (.cells #[.slice a0 nc k0, .slice a1 ne k1] 39) = W at hW x0 x1 ⊢
  go_wp2_with fail
  refine (l7Past_any _ _ cs es L W lo lo2 (HU.out.keep (Carries.of lo hW)) (HL.out.keep (Carries.of lo2 hW)) hl (by omega) HEV.out (fun k hk => (HIN.out k hk).2) HWF.out).mono ?_
  rintro e w1 ⟨vp, rfl, hrp, hb6⟩
  rw [out_pastQ] at hrp
  have HP := Lib.hid (ints_of_owns hrp)
  obtain ⟨ap, kp, rfl⟩ := owns_form hrp
  have x0 := cell_carry x0 (Carries.of 0 hb6)
  have x1 := cell_carry x1 (Carries.of 0 hb6)
  have hw1 := hW.trans (hb6.mono hW.size)
  clear hrp hb6
  obtain ⟨Q, hQ⟩ : ∃ Q, Q = ((pastQ cs es L).map fun (e : Nat) => (e : Int)) := ⟨_, rfl⟩
  rw [← hQ] at HP hpql ⊢
  have HQE : Hid (decide (Q = L) = q1) := by unfold Hid; rw [HQ1.out, hQ]
  clear hQ
  obtain ⟨nq, hnq⟩ : ∃ y, y = Q.length := ⟨_, rfl⟩
  rw [← hnq] at HP hpql ⊢
  have HNQ := Lib.hid hnq; clear hnq
  go_wp2_with fail
  refine (l1Same_any _ _ Q L w1 _ lo2 HP.out (HL.out.keep (Carries.of lo2 hw1)) (by rw [← HNQ.out]; exact hpql) (by omega)).mono ?_
  rintro e w2 ⟨rfl, hb7⟩
  have x0 := cell_carry x0 (Carries.of 0 hb7)
  have x1 := cell_carry x1 (Carries.of 0 hb7)
  have hw2 := hw1.trans (hb7.mono hw1.size)
  clear hb7
  rw [HQE.out]
  cases q1 with
  | false =>
    go_wp2_with fail
    go_ret
    exact ⟨rfl, hw2⟩
  | true =>
    go_wp2_with fail
    refine (l7Free_any _ _ cs es (L.map Int.toNat) w2 lo lo2 (HU.out.keep (Carries.of lo hw2)) (HLP.out.keep (Carries.of lo2 hw2)) (by rw [List.length_map]; exact hl) hcl HEV.out HPL.out HIN2.out).mono ?_
    rintro e w3 ⟨rfl, hb8⟩
    rw [← HQ2.out]
    have hw3 := hw2.trans (hb8.mono hw2.size)
    go_wp2_with fail
    go_ret
    exact ⟨by simp, hw3⟩

set_option maxRecDepth 100000 in
set_option maxHeartbeats 2000000 in
theorem l7List_any (v : Value) (n : NetD) (s : ByteArray) (vu : Value) (u : UnfD) (vl : Value) (L : List Int) (w : World) (lo lo' lo2 : Nat) (hv : NetAt lo w v n) (hvu : UnfAt lo' w vu u) (hvl : IntsAt lo2 w vl L) (hsm : SmallTrs n.ts) (hsu : SmallUnf u) (hl : L.length ≤ 1048576) (hs : s.size ≤ 1048576) :
    Calls Tryz.prog 52 #[v, .string s, vu, vl] w (RetB w (icB n s u L)) := by
  obtain ⟨G, hG⟩ : ∃ x, x = icB n s u L := ⟨_, rfl⟩
  rw [← hG]
  have HF := Lib.hid hG
  clear hG
  have HL := Lib.hid hvl
  obtain ⟨al, kl, rfl, hxa, hxb⟩ := hvl
  obtain ⟨nl, hnl⟩ : ∃ x, x = L.length := ⟨_, rfl⟩
  rw [← hnl] at HL ⊢
  clear hxa hxb hnl
  obtain ⟨ao, cap, rfl⟩ := net_form hv
  obtain ⟨a0, k0, a1, k1, rfl, hcc, hee⟩ := hvu.form
  obtain ⟨R, hR⟩ : ∃ x, x = uvB n s u := ⟨_, rfl⟩
  have HR := Lib.hid hR
  clear hcc hee hR
  obtain ⟨p, hp⟩ : ∃ p, p = n.places := ⟨_, rfl⟩
  obtain ⟨m, hm⟩ : ∃ m, m = n.ts.length := ⟨_, rfl⟩
  obtain ⟨nc, hnc⟩ : ∃ m, m = u.cs.length := ⟨_, rfl⟩
  obtain ⟨ne, hne⟩ : ∃ m, m = u.es.length := ⟨_, rfl⟩
  rw [← hm] at hv
  rw [← hnc, ← hne] at hvu
  rw [← hp, ← hm, ← hnc, ← hne]
  have HPl := Lib.hid hp
  have HV := Lib.hid hv
  have HVU := Lib.hid hvu
  have HNE := Lib.hid hne
  have HNC := Lib.hid hnc
  clear hp hm hnc hne hv hvu
  obtain ⟨W, hW⟩ : ∃ x, x = (w.alloc (.cells #[.int .i64 p, .slice ao m cap] 34)).alloc (.cells #[.slice a0 nc k0, .slice a1 ne k1] 39) := ⟨_, rfl⟩
  have hw0 : Below w.heap.size w W := by rw [hW]; (repeat' (first | (with_reducible exact Below.refl _ _) | (with_reducible assumption) | (with_reducible refine Below.alloc ?_ ?_ _) | (with_reducible refine Below.drew ?_) | (with_reducible refine below_drewN ?_ _) | (with_reducible refine Below.setCell ?_ ?_ _) | go_size))
  have u1 : W.cell? ⟨w.heap.size + 1, 1, none⟩ = some (.slice a1 ne k1) := by rw [hW]; simp
  go_enter Tryz.func52, Tryz.ntmps52
  go_wp2_with (go_at_call 44; rw [← hW]; clear hW; rw [HPl.out]; refine (l7Good_any _ n s _ u W lo lo' (HV.out.keep (Carries.of lo hw0)) (HVU.out.keep (Carries.of lo' hw0)) hsm hsu hs).mono ?_)
  rintro e w1 ⟨rfl, hb1⟩
  rw [← HR.out]
  have hw1 : Below w.heap.size w w1 := hw0.trans (hb1.mono hw0.size)
  have u1 := cell_carry u1 (Carries.of 0 hb1)
  clear hb1
  cases R with
  | false =>
    have hg : G = false := by rw [HF.out]; unfold icB; rw [← HR.out]; rfl
    subst hg
    go_wp2_with fail
    go_ret
    exact ⟨rfl, hw1⟩
  | true =>
  have hr2 : G = riseB 0 ((ne : Int) - 1) L := by rw [HF.out]; unfold icB; rw [← HR.out, ← HNE.out]; rfl
  have h60' : ne ≤ 60 := by rw [HNE.out]; exact (uvB_all HR.out.symm).2.1
  have hwn : IntKind.i64.wrap ((ne : Int) - 1) = (ne : Int) - 1 := IntWalk.i64_in _ ⟨by omega, by omega⟩
  have HR2 := Lib.hid hr2; clear hr2
  go_wp2_with fail
  refine (l1Rising_any _ L 0 _ w1 lo2 (HL.out.keep (Carries.of lo2 hw1)) hl).mono ?_
  rintro e w2 ⟨rfl, hb2⟩
  (try rw [hwn])
  rw [← HR2.out]
  have hw2 : Below w.heap.size w w2 := hw1.trans (hb2.mono hw1.size)
  go_wp2_with fail
  go_ret
  exact ⟨rfl, hw2⟩

set_option maxRecDepth 100000 in
set_option maxHeartbeats 2000000 in
theorem specIsConfiguration_any (v : Value) (n : NetD) (s : ByteArray) (vu : Value) (u : UnfD) (vl : Value) (L : List Int) (w : World) (lo lo' lo2 : Nat) (hv : NetAt lo w v n) (hvu : UnfAt lo' w vu u) (hvl : IntsAt lo2 w vl L) (hsm : SmallTrs n.ts) (hsu : SmallUnf u) (hl : L.length ≤ 1048576) (hs : s.size ≤ 1048576) :
    Calls Tryz.prog 18 #[v, .string s, vu, vl] w (RetBB w (icV n s u L) (icB n s u L)) := by
  obtain ⟨G, hG⟩ : ∃ x, x = icB n s u L := ⟨_, rfl⟩
  obtain ⟨V, hV⟩ : ∃ x, x = icV n s u L := ⟨_, rfl⟩
  rw [← hG, ← hV]
  have HF := Lib.hid hG; have HVV := Lib.hid hV
  clear hG hV
  have HL := Lib.hid hvl
  obtain ⟨al, kl, rfl, hxa, hxb⟩ := hvl
  obtain ⟨nl, hnl⟩ : ∃ x, x = L.length := ⟨_, rfl⟩
  rw [← hnl] at HL ⊢
  clear hxa hxb hnl
  obtain ⟨ao, cap, rfl⟩ := net_form hv
  obtain ⟨a0, k0, a1, k1, rfl, hcc, hee⟩ := hvu.form
  obtain ⟨R, hR⟩ : ∃ x, x = uvB n s u := ⟨_, rfl⟩
  have HR := Lib.hid hR
  clear hcc hee hR
  obtain ⟨p, hp⟩ : ∃ p, p = n.places := ⟨_, rfl⟩
  obtain ⟨m, hm⟩ : ∃ m, m = n.ts.length := ⟨_, rfl⟩
  obtain ⟨nc, hnc⟩ : ∃ m, m = u.cs.length := ⟨_, rfl⟩
  obtain ⟨ne, hne⟩ : ∃ m, m = u.es.length := ⟨_, rfl⟩
  rw [← hm] at hv
  rw [← hnc, ← hne] at hvu
  rw [← hp, ← hm, ← hnc, ← hne]
  have HPl := Lib.hid hp
  have HV := Lib.hid hv
  have HVU := Lib.hid hvu
  have HNE := Lib.hid hne
  have HNC := Lib.hid hnc
  clear hp hm hnc hne hv hvu
  obtain ⟨W, hW⟩ : ∃ x, x = (w.alloc (.cells #[.int .i64 p, .slice ao m cap] 34)).alloc (.cells #[.slice a0 nc k0, .slice a1 ne k1] 39) := ⟨_, rfl⟩
  have hw0 : Below w.heap.size w W := by rw [hW]; (repeat' (first | (with_reducible exact Below.refl _ _) | (with_reducible assumption) | (with_reducible refine Below.alloc ?_ ?_ _) | (with_reducible refine Below.drew ?_) | (with_reducible refine below_drewN ?_ _) | (with_reducible refine Below.setCell ?_ ?_ _) | go_size))
  have u0 : W.cell? ⟨w.heap.size + 1, 0, none⟩ = some (.slice a0 nc k0) := by rw [hW]; simp
  have u1 : W.cell? ⟨w.heap.size + 1, 1, none⟩ = some (.slice a1 ne k1) := by rw [hW]; simp
  go_enter Tryz.func18, Tryz.ntmps18
  go_wp2_with (go_at_call 52; rw [← hW]; clear hW; rw [HPl.out]; refine (l7List_any _ n s _ u _ L W lo lo' lo2 (HV.out.keep (Carries.of lo hw0)) (HVU.out.keep (Carries.of lo' hw0)) (HL.out.keep (Carries.of lo2 hw0)) hsm hsu hl hs).mono ?_)
  rintro e w1 ⟨rfl, hb1⟩
  rw [← HF.out]
  have hw1 : Below w.heap.size w w1 := hw0.trans (hb1.mono hw0.size)
  have u0 := cell_carry u0 (Carries.of 0 hb1)
  have u1 := cell_carry u1 (Carries.of 0 hb1)
  clear hb1
  cases G with
  | false =>
    have hvv : V = false := by rw [HVV.out]; unfold icV; rw [← HF.out]; rfl
    subst hvv
    go_wp2_with fail
    go_ret2
    exact ⟨rfl, hw1⟩
  | true =>
  have hFT := HF.out
  unfold icB at hFT
  have hR : R = true := by
    rw [← HR.out] at hFT
    cases R with
    | true => rfl
    | false => rw [Bool.false_and] at hFT; cases hFT
  have hRR := HR.out
  rw [hR] at hRR
  have hrise : riseB 0 ((u.es.length : Int) - 1) L = true := by
    rw [← hRR, Bool.true_and] at hFT
    exact hFT.symm
  obtain ⟨hgn, h60, h200, hxc, hxe, hGG⟩ := uvB_all hRR.symm
  have hvv : cfgB (hisAll n s u.es) L = V := by rw [HVV.out]; unfold icV; rw [← HF.out]; rfl
  have HVB := Lib.hid hvv
  have H200 := Lib.hid h200; have H60 := Lib.hid h60; have HXC := Lib.hid hxc; have HXE := Lib.hid hxe; have HGG := Lib.hid hGG; have HRI := Lib.hid hrise
  clear hFT hR hRR hrise hgn h60 h200 hxc hxe hGG hvv
  go_wp2_with fail
  refine (l7Config_any _ (hisAll n s u.es) _ L w1 lo' lo2 (by rw [HXC.out, HXE.out]; exact HVU.out.keep (Carries.of lo' hw1)) (HL.out.keep (Carries.of lo2 hw1)) hl HGG.out (by rw [HXC.out]; have := H200.out; omega) (by rw [HXE.out]; exact H60.out) (by rw [HXE.out]; exact hsu.2.2) (by rw [HXE.out]; exact HRI.out)).mono ?_
  rintro e w4 ⟨rfl, hb4⟩
  rw [HVB.out]
  have hw4 : Below w.heap.size w w4 := hw1.trans (hb4.mono hw1.size)
  go_wp2_with fail
  go_ret2
  exact ⟨rfl, hw4⟩

end Go.Proofs.YtdiblkgjmkbpmaaGreat
