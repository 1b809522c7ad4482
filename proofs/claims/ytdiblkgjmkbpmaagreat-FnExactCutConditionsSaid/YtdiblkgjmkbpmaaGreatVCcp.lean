/- WALK: FinalMarking of the model (written by gen8/gfmp.py).
   WALKS: CutConditions of both (written by gen8/gccp.py). -/
import Derived.Test.YtdiblkgjmkbpmaaGreatVFmp
import Derived.Test.YtdiblkgjmkbpmaaGreatVLmm
import Derived.Test.YtdiblkgjmkbpmaaGreatVCfm
import Derived.Test.YtdiblkgjmkbpmaaGreatVUvl
namespace Go.Proofs.YtdiblkgjmkbpmaaGreat
open Go.RowKit

/-- the conditions behind a list of events, and behind its set -/
theorem cut_list {x : His} (hG : HisG x) {L : List Int} (hin : ∀ k, k < L.length → 0 ≤ L.getD k 0 ∧ L.getD k 0 < (x.es.length : Int)) : cutS x (setL L) = cutM x.cs x.es (L.map Int.toNat) := by
  refine (cut_eq hG (fun i => ?_) (fun e he => ?_)).symm
  · unfold setL
    rw [setTo_bit, List.mem_map]
    constructor
    · rintro ⟨q, hq, e⟩
      exact ⟨L.getD q 0, mem_getD.2 ⟨q, hq, rfl⟩, e⟩
    · rintro ⟨z, hz, e⟩
      obtain ⟨q, hq, rfl⟩ := mem_getD.1 hz
      exact ⟨q, hq, e⟩
  · obtain ⟨z, hz, rfl⟩ := List.mem_map.1 he
    obtain ⟨q, hq, rfl⟩ := mem_getD.1 hz
    have := hin q hq
    omega

set_option maxRecDepth 100000 in
set_option maxHeartbeats 2000000 in
theorem specFinalMarking_any (v : Value) (n : NetD) (s : ByteArray) (vu : Value) (u : UnfD) (vl : Value) (L : List Int) (w : World) (lo lo' lo2 : Nat) (hv : NetAt lo w v n) (hvu : UnfAt lo' w vu u) (hvl : IntsAt lo2 w vl L) (hsm : SmallTrs n.ts) (hsu : SmallUnf u) (hl : L.length ≤ 1048576) (hs : s.size ≤ 1048576) :
    Calls Tryz.prog 30 #[v, .string s, vu, vl] w (RetSB w (fmV n s u L) (icV n s u L)) := by
  obtain ⟨G, hG⟩ : ∃ x, x = icB n s u L := ⟨_, rfl⟩
  obtain ⟨V, hV⟩ : ∃ x, x = icV n s u L := ⟨_, rfl⟩
  obtain ⟨Z, hZ⟩ : ∃ x, x = fmV n s u L := ⟨_, rfl⟩
  rw [← hV, ← hZ]
  have HF := Lib.hid hG; have HVV := Lib.hid hV; have HZZ := Lib.hid hZ
  clear hG hV hZ
  have HL := Lib.hid hvl
  obtain ⟨al, kl, rfl, hxa, hxb⟩ := hvl
  obtain ⟨nl, hnl⟩ : ∃ x, x = L.length := ⟨_, rfl⟩
  rw [← hnl] at HL ⊢
  clear hxa hxb hnl
  obtain ⟨ao, cap, rfl⟩ := net_form hv
  obtain ⟨a0, k0, a1, k1, rfl, hcc, hee⟩ := hvu.form
  obtain ⟨R, hR⟩ : ∃ x, x = uvB n s u := ⟨_, rfl⟩
  have HR := Lib.hid hR
  clear hcc hee hR
  obtain ⟨p, hp⟩ : ∃ p, p = n.places := ⟨_, rfl⟩
  obtain ⟨m, hm⟩ : ∃ m, m = n.ts.length := ⟨_, rfl⟩
  obtain ⟨nc, hnc⟩ : ∃ m, m = u.cs.length := ⟨_, rfl⟩
  obtain ⟨ne, hne⟩ : ∃ m, m = u.es.length := ⟨_, rfl⟩
  rw [← hm] at hv
  rw [← hnc, ← hne] at hvu
  rw [← hp, ← hm, ← hnc, ← hne]
  have HPl := Lib.hid hp
  have HV := Lib.hid hv
  have HVU := Lib.hid hvu
  have HNE := Lib.hid hne
  have HNC := Lib.hid hnc
  clear hp hm hnc hne hv hvu
  obtain ⟨W, hW⟩ : ∃ x, x = (w.alloc (.cells #[.int .i64 p, .slice ao m cap] 34)).alloc (.cells #[.slice a0 nc k0, .slice a1 ne k1] 39) := ⟨_, rfl⟩
  have hw0 : Below w.heap.size w W := by rw [hW]; (repeat' (first | (with_reducible exact Below.refl _ _) | (with_reducible assumption) | (with_reducible refine Below.alloc ?_ ?_ _) | (with_reducible refine Below.drew ?_) | (with_reducible refine below_drewN ?_ _) | (with_reducible refine Below.setCell ?_ ?_ _) | go_size))
  have n0 : W.cell? ⟨w.heap.size, 0, none⟩ = some (.int .i64 p) := by rw [hW]; exact cell_carry (w := w.alloc (.cells #[.int .i64 p, .slice ao m cap] 34)) (cell_new2 rfl).1 ((Carries.refl 0 _).alloc _)
  have n1 : W.cell? ⟨w.heap.size, 1, none⟩ = some (.slice ao m cap) := by rw [hW]; exact cell_carry (w := w.alloc (.cells #[.int .i64 p, .slice ao m cap] 34)) (cell_new2 rfl).2 ((Carries.refl 0 _).alloc _)
  have u0 : W.cell? ⟨w.heap.size + 1, 0, none⟩ = some (.slice a0 nc k0) := by rw [hW]; simp
  have u1 : W.cell? ⟨w.heap.size + 1, 1, none⟩ = some (.slice a1 ne k1) := by rw [hW]; simp
  go_enter Tryz.func30, Tryz.ntmps30
  go_wp2_with (go_at_call 52; rw [← hW]; clear hW; rw [HPl.out]; refine (l7List_any _ n s _ u _ L W lo lo' lo2 (HV.out.keep (Carries.of lo hw0)) (HVU.out.keep (Carries.of lo' hw0)) (HL.out.keep (Carries.of lo2 hw0)) hsm hsu hl hs).mono ?_)
  rintro e w1 ⟨rfl, hb1⟩
  rw [← HF.out]
  have hw1 : Below w.heap.size w w1 := hw0.trans (hb1.mono hw0.size)
  rw [HPl.out] at n0
  have n0 := cell_carry n0 (Carries.of 0 hb1)
  have n1 := cell_carry n1 (Carries.of 0 hb1)
  have u0 := cell_carry u0 (Carries.of 0 hb1)
  have u1 := cell_carry u1 (Carries.of 0 hb1)
  clear hb1
  cases G with
  | false =>
    have hvv : V = false := by rw [HVV.out]; unfold icV; rw [← HF.out]; rfl
    have hzz : Z = ByteArray.empty := by rw [HZZ.out]; exact fmV_no (HVV.out.symm.trans hvv)
    subst hvv; subst hzz
    go_wp2_with fail
    go_ret2
    exact ⟨rfl, hw1⟩
  | true =>
  have hFT := HF.out
  unfold icB at hFT
  have hR : R = true := by
    rw [← HR.out] at hFT
    cases R with
    | true => rfl
    | false => rw [Bool.false_and] at hFT; cases hFT
  have hRR := HR.out
  rw [hR] at hRR
  have hrise : riseB 0 ((u.es.length : Int) - 1) L = true := by
    rw [← hRR, Bool.true_and] at hFT
    exact hFT.symm
  obtain ⟨hgn, h60, h200, hxc, hxe, hGG⟩ := uvB_all hRR.symm
  have hvv : cfgB (hisAll n s u.es) L = V := by rw [HVV.out]; unfold icV; rw [← HF.out]; rfl
  have HVB := Lib.hid hvv
  have H200 := Lib.hid h200; have H60 := Lib.hid h60; have HXC := Lib.hid hxc; have HXE := Lib.hid hxe; have HGG := Lib.hid hGG; have HRI := Lib.hid hrise
  clear hFT hR hRR hrise hgn h60 h200 hxc hxe hGG hvv
  go_wp2_with fail
  refine (l7Config_any _ (hisAll n s u.es) _ L w1 lo' lo2 (by rw [HXC.out, HXE.out]; exact HVU.out.keep (Carries.of lo' hw1)) (HL.out.keep (Carries.of lo2 hw1)) hl HGG.out (by rw [HXC.out]; have := H200.out; omega) (by rw [HXE.out]; exact H60.out) (by rw [HXE.out]; exact hsu.2.2) (by rw [HXE.out]; exact HRI.out)).mono ?_
  rintro e w4 ⟨rfl, hb4⟩
  rw [HVB.out]
  have hw4 : Below w.heap.size w w4 := hw1.trans (hb4.mono hw1.size)
  have n0 := cell_carry n0 (Carries.of 0 hb4)
  have n1 := cell_carry n1 (Carries.of 0 hb4)
  have u0 := cell_carry u0 (Carries.of 0 hb4)
  have u1 := cell_carry u1 (Carries.of 0 hb4)
  clear hb4
  cases V with
  | false =>
    have hzz : Z = ByteArray.empty := by rw [HZZ.out]; exact fmV_no HVV.out.symm
    subst hzz
    go_wp2_with fail
    go_ret2
    exact ⟨rfl, hw4⟩
  | true =>
  obtain ⟨hgu, hgr, _⟩ := icV_all HVV.out.symm
  obtain ⟨pn, hpn, hp30, hpl⟩ := uvB_pl hgu
  have hin := rise_in rfl hgr
  have hcut := cut_list HGG.out (by rw [HXE.out]; exact hin)
  rw [HXC.out, HXE.out] at hcut
  have hzz : mkS pn u.cs (cutM u.cs u.es (L.map Int.toNat)) = Z := by
    rw [HZZ.out, fmV_yes hpn HVV.out.symm, hcut, HXC.out]
  have hLt := list_toNat (fun z hz => by
    obtain ⟨q, hq, rfl⟩ := mem_getD.1 hz
    exact (hin q hq).1)
  have hPl : ∀ k, k < (L.map Int.toNat).length → (L.map Int.toNat).getD k 0 < u.es.length := fun k hk => by
    have hk2 : k < L.length := by rw [List.length_map] at hk; exact hk
    have e : (L.map Int.toNat).getD k 0 = (L.getD k 0).toNat := by simp [List.getD, hk2]
    rw [e]
    have := hin k hk2
    omega
  have hpl2 : (L.map Int.toNat).length ≤ 1048576 := by rw [List.length_map]; exact hl
  have hvl2 := HL.out
  rw [← hLt] at hvl2
  have HL2 := Lib.hid hvl2; have HPL := Lib.hid hPl; have HZ2 := Lib.hid hzz
  rw [hpn] at n0
  clear hgu hgr hpl hin hcut hzz hLt hPl hvl2 hpn
  generalize L.map Int.toNat = P at HL2 HPL HZ2 hpl2
  go_wp2_with fail
  refine (l7Mark_any pn _ ⟨_, _, _, rfl⟩ _ u.cs u.es _ P w4 lo' lo2 hp30 (HVU.out.keep (Carries.of lo' hw4)) (HL2.out.keep (Carries.of lo2 hw4)) hpl2 (by have := H200.out; omega) hsu.2.2 HPL.out).mono ?_
  rintro e w5 ⟨rfl, hb5⟩
  rw [HZ2.out]
  have hw5 : Below w.heap.size w w5 := hw4.trans (hb5.mono hw4.size)
  go_wp2_with fail
  go_ret2
  exact ⟨rfl, hw5⟩

end Go.Proofs.YtdiblkgjmkbpmaaGreat

namespace Go.Proofs.YtdiblkgjmkbpmaaGreat
open Go.RowKit

/-- a call returns a row of ints that may be written, and a bool -/
def RetLB (w : World) (L : List Int) (b : Bool) (e : Ending) (w' : World) : Prop := ∃ v, e = .returned (.tuple #[v, .bool b]) ∧ IntsOw w.heap.size w' v L ∧ Below w.heap.size w w'
theorem intsOw_nil (lo : Nat) (w : World) : IntsOw lo w (.slice none 0 0) [] := ⟨none, 0, rfl, Nat.le_refl _, Or.inl rfl⟩
/-- the conditions behind a configuration -/
def ccV (n : NetD) (s : ByteArray) (u : UnfD) (L : List Int) : List Int := if icV n s u L = true then cutS (hisAll n s u.es) (setL L) else []
theorem ccV_no {n : NetD} {s : ByteArray} {u : UnfD} {L : List Int} (h : icV n s u L = false) : ccV n s u L = [] := by unfold ccV; rw [h]; rfl
theorem ccV_yes {n : NetD} {s : ByteArray} {u : UnfD} {L : List Int} (h : icV n s u L = true) : ccV n s u L = cutS (hisAll n s u.es) (setL L) := by unfold ccV; rw [if_pos h]
theorem ccV_len {n : NetD} {s : ByteArray} {u : UnfD} {L : List Int} : (ccV n s u L).length ≤ 200 := by
  cases h : icV n s u L with
  | false => rw [ccV_no h]; decide
  | true =>
    rw [ccV_yes h]
    obtain ⟨hgu, _, _⟩ := icV_all h
    obtain ⟨_, _, h200, hxc, _, _⟩ := uvB_all hgu
    exact Nat.le_trans (outTo_len _ _) (by rw [hxc]; exact h200)

set_option maxRecDepth 100000 in
set_option maxHeartbeats 2000000 in
theorem CutConditions_any (v : Value) (n : NetD) (s : ByteArray) (vu : Value) (u : UnfD) (vl : Value) (L : List Int) (w : World) (lo lo' lo2 : Nat) (hv : NetAt lo w v n) (hvu : UnfAt lo' w vu u) (hvl : IntsAt lo2 w vl L) (hsm : SmallTrs n.ts) (hsu : SmallUnf u) (hl : L.length ≤ 1048576) (hs : s.size ≤ 1048576) :
    Calls Tryz.prog 25 #[v, .string s, vu, vl] w (RetLB w (ccV n s u L) (icV n s u L)) := by
  obtain ⟨G, hG⟩ : ∃ x, x = icV n s u L := ⟨_, rfl⟩
  obtain ⟨V, hV⟩ : ∃ x, x = ccV n s u L := ⟨_, rfl⟩
  rw [← hG, ← hV]
  have HF := Lib.hid hG; have HVV := Lib.hid hV
  clear hG hV
  have HL := Lib.hid hvl
  obtain ⟨al, kl, rfl, hxa, hxb⟩ := hvl
  obtain ⟨nl, hnl⟩ : ∃ x, x = L.length := ⟨_, rfl⟩
  rw [← hnl] at HL ⊢
  clear hxa hxb hnl
  obtain ⟨ao, cap, rfl⟩ := net_form hv
  obtain ⟨a0, k0, a1, k1, rfl, hcc, hee⟩ := hvu.form
  clear hcc hee
  obtain ⟨p, hp⟩ : ∃ p, p = n.places := ⟨_, rfl⟩
  obtain ⟨m, hm⟩ : ∃ m, m = n.ts.length := ⟨_, rfl⟩
  obtain ⟨nc, hnc⟩ : ∃ m, m = u.cs.length := ⟨_, rfl⟩
  obtain ⟨ne, hne⟩ : ∃ m, m = u.es.length := ⟨_, rfl⟩
  rw [← hm] at hv
  rw [← hnc, ← hne] at hvu
  rw [← hp, ← hm, ← hnc, ← hne]
  have HPl := Lib.hid hp
  have HV := Lib.hid hv
  have HVU := Lib.hid hvu
  have HNE := Lib.hid hne
  have HNC := Lib.hid hnc
  clear hp hm hnc hne hv hvu
  obtain ⟨W, hW⟩ : ∃ x, x = (w.alloc (.cells #[.int .i64 p, .slice ao m cap] 34)).alloc (.cells #[.slice a0 nc k0, .slice a1 ne k1] 39) := ⟨_, rfl⟩
  have hw0 : Below w.heap.size w W := by rw [hW]; (repeat' (first | (with_reducible exact Below.refl _ _) | (with_reducible assumption) | (with_reducible refine Below.alloc ?_ ?_ _) | (with_reducible refine Below.drew ?_) | (with_reducible refine below_drewN ?_ _) | (with_reducible refine Below.setCell ?_ ?_ _) | go_size))
  go_enter Tryz.func25, Tryz.ntmps25
  go_wp2_with (go_at_call 62; rw [← hW]; clear hW; rw [HPl.out]; refine (readConfiguration_any _ n s _ u _ L W lo lo' lo2 (HV.out.keep (Carries.of lo hw0)) (HVU.out.keep (Carries.of lo' hw0)) (HL.out.keep (Carries.of lo2 hw0)) hsm hsu hl hs).mono ?_)
  rintro e w1 ⟨ph, S, rfl, hb1, hcfg⟩
  rw [← HF.out] at hcfg ⊢
  have hw1 : Below w.heap.size w w1 := hw0.trans (hb1.mono hw0.size)
  cases G with
  | false =>
    have hvv : V = [] := by rw [HVV.out]; exact ccV_no HF.out.symm
    subst hvv
    go_wp2_with fail
    go_ret2
    exact ⟨_, rfl, intsOw_nil _ _, hw1⟩
  | true =>
  obtain ⟨rfl, H, rfl, w0, vc, ve, vp, vu, hb2, hb3, hH⟩ := hcfg rfl
  obtain ⟨hgu, hgr, _⟩ := icV_all HF.out.symm
  obtain ⟨hgn, h60, h200, hxc, hxe, hGG⟩ := uvB_all hgu
  have hvv : cutS (hisAll n s u.es) (setL L) = V := by
    rw [HVV.out]
    exact (ccV_yes HF.out.symm).symm
  have hS := setL_lt (L := L) (fun k hk => by have := rise_in rfl hgr k hk; omega)
  have hx60 : (hisAll n s u.es).es.length ≤ 60 := by rw [hxe]; exact h60
  have hxcl : (hisAll n s u.es).cs.length ≤ 1000000 := by rw [hxc]; omega
  have HH := Lib.hid hH; have HGG := Lib.hid hGG; have HVB := Lib.hid hvv; have HS := Lib.hid hS; have H60 := Lib.hid hx60; have HXC := Lib.hid hxcl
  clear hH hGG hvv hgu hgr hgn h60 h200 hxc hxe hS hx60 hxcl hb2 hb3 hcfg
  generalize setL L = S at HVB HS ⊢
  generalize hisAll n s u.es = x at HH HGG HVB H60 HXC
  go_wp2_with fail
  refine (cut_any w0.heap.size H w1 n.places _ vc ve vp vu x S HH.out HGG.out (by have := HXC.out; omega) H60.out HS.out).mono ?_
  rintro e w2 ⟨vq, rfl, hrow, hb2⟩
  rw [HVB.out] at hrow
  have hw2 : Below w.heap.size w w2 := hw1.trans (hb2.mono hw1.size)
  have HO := Lib.hid ((ow_of_owns hrow).low (lo' := w.heap.size) hw1.size)
  obtain ⟨aq, kq, rfl⟩ := owns_form hrow
  generalize V.length = nq at HO ⊢
  clear hrow hb2
  go_wp2_with fail
  go_ret2
  exact ⟨_, rfl, HO.out, hw2⟩

set_option maxRecDepth 100000 in
set_option maxHeartbeats 2000000 in
theorem specCutConditions_any (v : Value) (n : NetD) (s : ByteArray) (vu : Value) (u : UnfD) (vl : Value) (L : List Int) (w : World) (lo lo' lo2 : Nat) (hv : NetAt lo w v n) (hvu : UnfAt lo' w vu u) (hvl : IntsAt lo2 w vl L) (hsm : SmallTrs n.ts) (hsu : SmallUnf u) (hl : L.length ≤ 1048576) (hs : s.size ≤ 1048576) :
    Calls Tryz.prog 24 #[v, .string s, vu, vl] w (RetLB w (ccV n s u L) (icV n s u L)) := by
  obtain ⟨G, hG⟩ : ∃ x, x = icB n s u L := ⟨_, rfl⟩
  obtain ⟨V, hV⟩ : ∃ x, x = icV n s u L := ⟨_, rfl⟩
  obtain ⟨Z, hZ⟩ : ∃ x, x = ccV n s u L := ⟨_, rfl⟩
  rw [← hV, ← hZ]
  have HF := Lib.hid hG; have HVV := Lib.hid hV; have HZZ := Lib.hid hZ
  clear hG hV hZ
  have HL := Lib.hid hvl
  obtain ⟨al, kl, rfl, hxa, hxb⟩ := hvl
  obtain ⟨nl, hnl⟩ : ∃ x, x = L.length := ⟨_, rfl⟩
  rw [← hnl] at HL ⊢
  clear hxa hxb hnl
  obtain ⟨ao, cap, rfl⟩ := net_form hv
  obtain ⟨a0, k0, a1, k1, rfl, hcc, hee⟩ := hvu.form
  obtain ⟨R, hR⟩ : ∃ x, x = uvB n s u := ⟨_, rfl⟩
  have HR := Lib.hid hR
  clear hcc hee hR
  obtain ⟨p, hp⟩ : ∃ p, p = n.places := ⟨_, rfl⟩
  obtain ⟨m, hm⟩ : ∃ m, m = n.ts.length := ⟨_, rfl⟩
  obtain ⟨nc, hnc⟩ : ∃ m, m = u.cs.length := ⟨_, rfl⟩
  obtain ⟨ne, hne⟩ : ∃ m, m = u.es.length := ⟨_, rfl⟩
  rw [← hm] at hv
  rw [← hnc, ← hne] at hvu
  rw [← hp, ← hm, ← hnc, ← hne]
  have HPl := Lib.hid hp
  have HV := Lib.hid hv
  have HVU := Lib.hid hvu
  have HNE := Lib.hid hne
  have HNC := Lib.hid hnc
  clear hp hm hnc hne hv hvu
  obtain ⟨W, hW⟩ : ∃ x, x = (w.alloc (.cells #[.int .i64 p, .slice ao m cap] 34)).alloc (.cells #[.slice a0 nc k0, .slice a1 ne k1] 39) := ⟨_, rfl⟩
  have hw0 : Below w.heap.size w W := by rw [hW]; (repeat' (first | (with_reducible exact Below.refl _ _) | (with_reducible assumption) | (with_reducible refine Below.alloc ?_ ?_ _) | (with_reducible refine Below.drew ?_) | (with_reducible refine below_drewN ?_ _) | (with_reducible refine Below.setCell ?_ ?_ _) | go_size))
  have n0 : W.cell? ⟨w.heap.size, 0, none⟩ = some (.int .i64 p) := by rw [hW]; exact cell_carry (w := w.alloc (.cells #[.int .i64 p, .slice ao m cap] 34)) (cell_new2 rfl).1 ((Carries.refl 0 _).alloc _)
  have n1 : W.cell? ⟨w.heap.size, 1, none⟩ = some (.slice ao m cap) := by rw [hW]; exact cell_carry (w := w.alloc (.cells #[.int .i64 p, .slice ao m cap] 34)) (cell_new2 rfl).2 ((Carries.refl 0 _).alloc _)
  have u0 : W.cell? ⟨w.heap.size + 1, 0, none⟩ = some (.slice a0 nc k0) := by rw [hW]; simp
  have u1 : W.cell? ⟨w.heap.size + 1, 1, none⟩ = some (.slice a1 ne k1) := by rw [hW]; simp
  go_enter Tryz.func24, Tryz.ntmps24
  go_wp2_with (go_at_call 52; rw [← hW]; clear hW; rw [HPl.out]; refine (l7List_any _ n s _ u _ L W lo lo' lo2 (HV.out.keep (Carries.of lo hw0)) (HVU.out.keep (Carries.of lo' hw0)) (HL.out.keep (Carries.of lo2 hw0)) hsm hsu hl hs).mono ?_)
  rintro e w1 ⟨rfl, hb1⟩
  rw [← HF.out]
  have hw1 : Below w.heap.size w w1 := hw0.trans (hb1.mono hw0.size)
  rw [HPl.out] at n0
  have n0 := cell_carry n0 (Carries.of 0 hb1)
  have n1 := cell_carry n1 (Carries.of 0 hb1)
  have u0 := cell_carry u0 (Carries.of 0 hb1)
  have u1 := cell_carry u1 (Carries.of 0 hb1)
  clear hb1
  cases G with
  | false =>
    have hvv : V = false := by rw [HVV.out]; unfold icV; rw [← HF.out]; rfl
    have hzz : Z = [] := by rw [HZZ.out]; exact ccV_no (HVV.out.symm.trans hvv)
    subst hvv; subst hzz
    go_wp2_with fail
    go_ret2
    exact ⟨_, rfl, intsOw_nil _ _, hw1⟩
  | true =>
  have hFT := HF.out
  unfold icB at hFT
  have hR : R = true := by
    rw [← HR.out] at hFT
    cases R with
    | true => rfl
    | false => rw [Bool.false_and] at hFT; cases hFT
  have hRR := HR.out
  rw [hR] at hRR
  have hrise : riseB 0 ((u.es.length : Int) - 1) L = true := by
    rw [← hRR, Bool.true_and] at hFT
    exact hFT.symm
  obtain ⟨hgn, h60, h200, hxc, hxe, hGG⟩ := uvB_all hRR.symm
  have hvv : cfgB (hisAll n s u.es) L = V := by rw [HVV.out]; unfold icV; rw [← HF.out]; rfl
  have HVB := Lib.hid hvv
  have H200 := Lib.hid h200; have H60 := Lib.hid h60; have HXC := Lib.hid hxc; have HXE := Lib.hid hxe; have HGG := Lib.hid hGG; have HRI := Lib.hid hrise
  clear hFT hR hRR hrise hgn h60 h200 hxc hxe hGG hvv
  go_wp2_with fail
  refine (l7Config_any _ (hisAll n s u.es) _ L w1 lo' lo2 (by rw [HXC.out, HXE.out]; exact HVU.out.keep (Carries.of lo' hw1)) (HL.out.keep (Carries.of lo2 hw1)) hl HGG.out (by rw [HXC.out]; have := H200.out; omega) (by rw [HXE.out]; exact H60.out) (by rw [HXE.out]; exact hsu.2.2) (by rw [HXE.out]; exact HRI.out)).mono ?_
  rintro e w4 ⟨rfl, hb4⟩
  rw [HVB.out]
  have hw4 : Below w.heap.size w w4 := hw1.trans (hb4.mono hw1.size)
  have n0 := cell_carry n0 (Carries.of 0 hb4)
  have n1 := cell_carry n1 (Carries.of 0 hb4)
  have u0 := cell_carry u0 (Carries.of 0 hb4)
  have u1 := cell_carry u1 (Carries.of 0 hb4)
  clear hb4
  cases V with
  | false =>
    have hzz : Z = [] := by rw [HZZ.out]; exact ccV_no HVV.out.symm
    subst hzz
    go_wp2_with fail
    go_ret2
    exact ⟨_, rfl, intsOw_nil _ _, hw4⟩
  | true =>
  obtain ⟨hgu, hgr, _⟩ := icV_all HVV.out.symm
  have hin := rise_in rfl hgr
  have hcut := cut_list HGG.out (by rw [HXE.out]; exact hin)
  rw [HXC.out, HXE.out] at hcut
  have hzz : cutM u.cs u.es (L.map Int.toNat) = Z := by
    rw [HZZ.out, ccV_yes HVV.out.symm, hcut]
  have hLt := list_toNat (fun z hz => by
    obtain ⟨q, hq, rfl⟩ := mem_getD.1 hz
    exact (hin q hq).1)
  have hPl : ∀ k, k < (L.map Int.toNat).length → (L.map Int.toNat).getD k 0 < u.es.length := fun k hk => by
    have hk2 : k < L.length := by rw [List.length_map] at hk; exact hk
    have e : (L.map Int.toNat).getD k 0 = (L.getD k 0).toNat := by simp [List.getD, hk2]
    rw [e]
    have := hin k hk2
    omega
  have hpl2 : (L.map Int.toNat).length ≤ 1048576 := by rw [List.length_map]; exact hl
  have hvl2 := HL.out
  rw [← hLt] at hvl2
  have HL2 := Lib.hid hvl2; have HPL := Lib.hid hPl; have HZ2 := Lib.hid hzz
  clear hgu hgr hin hcut hzz hLt hPl hvl2
  generalize L.map Int.toNat = P at HL2 HPL HZ2 hpl2
  go_wp2_with fail
  refine (l7Cut_any _ u.cs u.es _ P w4 lo' lo2 (HVU.out.keep (Carries.of lo' hw4)) (HL2.out.keep (Carries.of lo2 hw4)) hpl2 (by have := H200.out; omega) hsu.2.2 HPL.out).mono ?_
  rintro e w5 ⟨vq, rfl, hrow, hb5⟩
  rw [HZ2.out] at hrow
  have hw5 : Below w.heap.size w w5 := hw4.trans (hb5.mono hw4.size)
  have HO := Lib.hid ((ow_of_owns hrow).low (lo' := w.heap.size) hw4.size)
  obtain ⟨aq, kq, rfl⟩ := owns_form hrow
  generalize Z.length = nq at HO ⊢
  clear hrow hb5
  go_wp2_with fail
  go_ret2
  exact ⟨_, rfl, HO.out, hw5⟩

end Go.Proofs.YtdiblkgjmkbpmaaGreat
