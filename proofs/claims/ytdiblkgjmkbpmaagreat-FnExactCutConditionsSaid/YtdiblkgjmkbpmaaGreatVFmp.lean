/- WALKS: readConfiguration, FinalMarking of the program (written by gen8/gfmp.py). -/
import Derived.Test.YtdiblkgjmkbpmaaGreatVLmp
import Derived.Test.YtdiblkgjmkbpmaaGreatVCfp
namespace Go.Proofs.YtdiblkgjmkbpmaaGreat
open Go.RowKit

/-- a call returns a history, a set of its events, and whether there are such -/
def RetCfg (w : World) (n : NetD) (vt : Value) (x : His) (L : List Int) (b : Bool) (e : Ending) (w' : World) : Prop :=
  ∃ p S, e = .returned (.tuple #[.pointer p, .int .u64 ((S : Nat) : Int), .bool b]) ∧ Below w.heap.size w w' ∧ (b = true → S = setL L ∧ ∃ H, p = some ⟨H, 0, none⟩ ∧ HisOf w n vt x H w')
/-- the marking behind a configuration -/
def fmV (n : NetD) (s : ByteArray) (u : UnfD) (L : List Int) : ByteArray := if icV n s u L = true then mkS n.places.toNat (hisAll n s u.es).cs (cutS (hisAll n s u.es) (setL L)) else ByteArray.empty
theorem fmV_no {n : NetD} {s : ByteArray} {u : UnfD} {L : List Int} (h : icV n s u L = false) : fmV n s u L = ByteArray.empty := by unfold fmV; rw [h]; rfl
theorem fmV_yes {n : NetD} {s : ByteArray} {u : UnfD} {L : List Int} {p : Nat} (hp : n.places = (p : Int)) (h : icV n s u L = true) : fmV n s u L = mkS p (hisAll n s u.es).cs (cutS (hisAll n s u.es) (setL L)) := by unfold fmV; rw [if_pos h, hp]; rfl
theorem icV_all {n : NetD} {s : ByteArray} {u : UnfD} {L : List Int} (h : icV n s u L = true) : uvB n s u = true ∧ riseB 0 ((u.es.length : Int) - 1) L = true ∧ cfgB (hisAll n s u.es) L = true := by
  unfold icV icB at h
  simp only [Bool.and_eq_true] at h
  exact ⟨h.1.1, h.1.2, h.2⟩
/-- of a set of events below 60 -/
theorem setL_lt {L : List Int} (h : ∀ k, k < L.length → 0 ≤ L.getD k 0 ∧ L.getD k 0 < 60) : setL L < 18446744073709551616 := setTo_fit (m := 60) (by decide) (fun k hk => by have := h k hk; omega) L.length (Nat.le_refl _)

set_option maxRecDepth 100000 in
set_option maxHeartbeats 2000000 in
theorem readConfiguration_any (vt : Value) (n : NetD) (s : ByteArray) (vu : Value) (u : UnfD) (vl : Value) (L : List Int) (w : World) (lo lo' lo2 : Nat) (hv : NetAt lo w (.agg #[.int .i64 n.places, vt]) n) (hvu : UnfAt lo' w vu u) (hvl : IntsAt lo2 w vl L) (hsm : SmallTrs n.ts) (hsu : SmallUnf u) (hl : L.length ≤ 1048576) (hs : s.size ≤ 1048576) :
    Calls Tryz.prog 62 #[.agg #[.int .i64 n.places, vt], .string s, vu, vl] w (RetCfg w n vt (hisAll n s u.es) L (icV n s u L)) := by
  obtain ⟨G, hG⟩ : ∃ x, x = icB n s u L := ⟨_, rfl⟩
  obtain ⟨V, hV⟩ : ∃ x, x = icV n s u L := ⟨_, rfl⟩
  rw [← hV]
  have HF := Lib.hid hG; have HVV := Lib.hid hV
  clear hG hV
  have HL := Lib.hid hvl
  obtain ⟨al, kl, rfl, hxa, hxb⟩ := hvl
  obtain ⟨nl, hnl⟩ : ∃ x, x = L.length := ⟨_, rfl⟩
  rw [← hnl] at HL ⊢
  clear hxa hxb hnl
  have hv' := hv
  obtain ⟨hp0, hp1, q, e0, ht⟩ := hv'
  injection e0 with e0
  have e0 : vt = q := by
    have := congrArg (fun a => a.getD 1 undef) e0
    simpa using this
  subst e0
  obtain ⟨ao, cap, rfl, hya, hyb⟩ := ht
  clear hya hyb hp0 hp1
  obtain ⟨a0, k0, a1, k1, rfl, hcc, hee⟩ := hvu.form
  obtain ⟨R, hR⟩ : ∃ x, x = uvB n s u := ⟨_, rfl⟩
  have HR := Lib.hid hR
  clear hcc hee hR
  obtain ⟨p, hp⟩ : ∃ p, p = n.places := ⟨_, rfl⟩
  obtain ⟨m, hm⟩ : ∃ m, m = n.ts.length := ⟨_, rfl⟩
  obtain ⟨nc, hnc⟩ : ∃ m, m = u.cs.length := ⟨_, rfl⟩
  obtain ⟨ne, hne⟩ : ∃ m, m = u.es.length := ⟨_, rfl⟩
  rw [← hm] at hv
  rw [← hnc, ← hne] at hvu
  rw [← hp, ← hm, ← hnc, ← hne]
  have HPl := Lib.hid hp
  have HV := Lib.hid hv
  have HVU := Lib.hid hvu
  have HNE := Lib.hid hne
  have HNC := Lib.hid hnc
  clear hp hm hnc hne hv hvu
  obtain ⟨W, hW⟩ : ∃ x, x = (w.alloc (.cells #[.int .i64 p, .slice ao m cap] 34)).alloc (.cells #[.slice a0 nc k0, .slice a1 ne k1] 39) := ⟨_, rfl⟩
  have hw0 : Below w.heap.size w W := by rw [hW]; (repeat' (first | (with_reducible exact Below.refl _ _) | (with_reducible assumption) | (with_reducible refine Below.alloc ?_ ?_ _) | (with_reducible refine Below.drew ?_) | (with_reducible refine below_drewN ?_ _) | (with_reducible refine Below.setCell ?_ ?_ _) | go_size))
  go_enter Tryz.func62, Tryz.ntmps62
  go_wp2_with (go_at_call 48; rw [← hW]; clear hW; rw [HPl.out]; refine (readHistory_any _ n s _ u W lo lo' (HV.out.keep (Carries.of lo hw0)) (HVU.out.keep (Carries.of lo' hw0)) hsm hsu hs).mono ?_)
  rintro e w1 ⟨ph, rfl, hb1, hhis⟩
  rw [← HR.out] at hhis ⊢
  have hw1 : Below w.heap.size w w1 := hw0.trans (hb1.mono hw0.size)
  have hno : G = false → V = false := fun q => by rw [HVV.out]; unfold icV; rw [← HF.out, q]; rfl
  have HNO := Lib.hid hno; clear hno
  cases R with
  | false =>
    have hg : G = false := by rw [HF.out]; unfold icB; rw [← HR.out]; rfl
    have hvv := HNO.out hg
    subst hg; subst hvv
    go_wp2_with fail
    go_ret3
    exact ⟨_, _, rfl, hw1, fun h => by cases h⟩
  | true =>
  obtain ⟨H, rfl, w0, vc, ve, vp, vu, hb2, hb3, hH⟩ := hhis rfl
  obtain ⟨hgn, h60, h200, hxc, hxe, hGG⟩ := uvB_all HR.out.symm
  have HX : Hid ((hisAll n s u.es).es.length = ne) := by unfold Hid; rw [hxe, HNE.out]
  have h60' : ne ≤ 60 := by rw [HNE.out]; exact h60
  have HXC : Hid ((hisAll n s u.es).cs.length ≤ 200) := by unfold Hid; rw [hxc]; exact h200
  have HH := Lib.hid hH; have HGG := Lib.hid hGG
  have c3 := hH.c3
  clear hH hGG hgn h60 h200 hxc hxe hhis
  have hr2 : G = riseB 0 ((ne : Int) - 1) L := by rw [HF.out]; unfold icB; rw [← HR.out, ← HNE.out]; rfl
  have hV2 : V = (G && cfgB (hisAll n s u.es) L) := by rw [HVV.out, HF.out]; rfl
  have HR2 := Lib.hid hr2; have HV2 := Lib.hid hV2
  clear hr2 hV2
  obtain ⟨x, hx⟩ : ∃ x, x = hisAll n s u.es := ⟨_, rfl⟩
  rw [← hx] at HX HXC HH HGG HV2
  have HX0 := Lib.hid hx; clear hx
  obtain ⟨ae, ke, rfl⟩ := HH.out.re.form
  rw [HX.out] at c3
  go_wp2_with fail
  refine (isIndexList_any (ne : Int) L _ w1 lo2 (HL.out.keep (Carries.of lo2 hw1)) hl).mono ?_
  rintro e w2 ⟨rfl, hb2'⟩
  rw [← HR2.out]
  have hw2 : Below w.heap.size w w2 := hw1.trans (hb2'.mono hw1.size)
  have HH2 := Lib.hid (HH.out.after hb2')
  have hb3b := hb3.trans (hb2'.mono hb3.size)
  clear hb2' c3
  cases G with
  | false =>
    have hvv := HNO.out rfl
    subst hvv
    go_wp2_with fail
    go_ret3
    exact ⟨_, _, rfl, hw2, fun h => by cases h⟩
  | true =>
  have hin := rise_in rfl HR2.out.symm
  have HIN : Hid (∀ k, k < L.length → 0 ≤ L.getD k 0 ∧ L.getD k 0 < (x.es.length : Int)) := by unfold Hid; rw [HX.out]; exact hin
  clear hin
  go_wp2_with fail
  refine (isConfiguration_any w0.heap.size H w2 n.places _ vc _ vp vu x _ L lo2 HH2.out (HL.out.keep (Carries.of lo2 hw2)) hl HGG.out (by have := HXC.out; omega) (by rw [HX.out]; exact h60') HIN.out).mono ?_
  rintro e w3 ⟨rfl, hb3'⟩
  have hvv : cfgB x L = V := by rw [HV2.out]; rfl
  rw [hvv]
  have hw3 : Below w.heap.size w w3 := hw2.trans (hb3'.mono hw2.size)
  have hb3c := hb3b.trans (hb3'.mono hb3b.size)
  have HH3 := Lib.hid (HH2.out.after hb3')
  clear hb3' hb3b hb3
  have hw0b : Below w.heap.size w w0 := hw0.trans (hb2.mono hw0.size)
  cases V with
  | false =>
    go_wp2_with fail
    go_ret3
    exact ⟨_, _, rfl, hw3, fun h => by cases h⟩
  | true =>
  have HIN6 : Hid (∀ k, k < L.length → 0 ≤ L.getD k 0 ∧ L.getD k 0 < 60) := by
    unfold Hid
    intro k hk
    have := HIN.out k hk
    have := HX.out
    omega
  go_wp2_with fail
  refine (setOfEvents_any _ L w3 lo2 (HL.out.keep (Carries.of lo2 hw3)) hl HIN6.out).mono ?_
  rintro e w4 ⟨rfl, hb4⟩
  have hw4 : Below w.heap.size w w4 := hw3.trans (hb4.mono hw3.size)
  have hb4c := hb3c.trans (hb4.mono hb3c.size)
  have HH4 := Lib.hid (HH3.out.after hb4)
  have hof : HisOf w n (.slice ao m cap) (hisAll n s u.es) H w4 := by
    rw [← HX0.out]
    exact ⟨w0, _, _, _, _, hw0b, hb4c, HH4.out⟩
  go_wp2_with fail
  go_ret3
  exact ⟨_, _, rfl, hw4, fun _ => ⟨rfl, H, rfl, hof⟩⟩

set_option maxRecDepth 100000 in
set_option maxHeartbeats 2000000 in
theorem FinalMarking_any (v : Value) (n : NetD) (s : ByteArray) (vu : Value) (u : UnfD) (vl : Value) (L : List Int) (w : World) (lo lo' lo2 : Nat) (hv : NetAt lo w v n) (hvu : UnfAt lo' w vu u) (hvl : IntsAt lo2 w vl L) (hsm : SmallTrs n.ts) (hsu : SmallUnf u) (hl : L.length ≤ 1048576) (hs : s.size ≤ 1048576) :
    Calls Tryz.prog 31 #[v, .string s, vu, vl] w (RetSB w (fmV n s u L) (icV n s u L)) := by
  obtain ⟨G, hG⟩ : ∃ x, x = icV n s u L := ⟨_, rfl⟩
  obtain ⟨V, hV⟩ : ∃ x, x = fmV n s u L := ⟨_, rfl⟩
  rw [← hG, ← hV]
  have HF := Lib.hid hG; have HVV := Lib.hid hV
  clear hG hV
  have HL := Lib.hid hvl
  obtain ⟨al, kl, rfl, hxa, hxb⟩ := hvl
  obtain ⟨nl, hnl⟩ : ∃ x, x = L.length := ⟨_, rfl⟩
  rw [← hnl] at HL ⊢
  clear hxa hxb hnl
  obtain ⟨ao, cap, rfl⟩ := net_form hv
  obtain ⟨a0, k0, a1, k1, rfl, hcc, hee⟩ := hvu.form
  clear hcc hee
  obtain ⟨p, hp⟩ : ∃ p, p = n.places := ⟨_, rfl⟩
  obtain ⟨m, hm⟩ : ∃ m, m = n.ts.length := ⟨_, rfl⟩
  obtain ⟨nc, hnc⟩ : ∃ m, m = u.cs.length := ⟨_, rfl⟩
  obtain ⟨ne, hne⟩ : ∃ m, m = u.es.length := ⟨_, rfl⟩
  rw [← hm] at hv
  rw [← hnc, ← hne] at hvu
  rw [← hp, ← hm, ← hnc, ← hne]
  have HPl := Lib.hid hp
  have HV := Lib.hid hv
  have HVU := Lib.hid hvu
  have HNE := Lib.hid hne
  have HNC := Lib.hid hnc
  clear hp hm hnc hne hv hvu
  obtain ⟨W, hW⟩ : ∃ x, x = (w.alloc (.cells #[.int .i64 p, .slice ao m cap] 34)).alloc (.cells #[.slice a0 nc k0, .slice a1 ne k1] 39) := ⟨_, rfl⟩
  have hw0 : Below w.heap.size w W := by rw [hW]; (repeat' (first | (with_reducible exact Below.refl _ _) | (with_reducible assumption) | (with_reducible refine Below.alloc ?_ ?_ _) | (with_reducible refine Below.drew ?_) | (with_reducible refine below_drewN ?_ _) | (with_reducible refine Below.setCell ?_ ?_ _) | go_size))
  go_enter Tryz.func31, Tryz.ntmps31
  go_wp2_with (go_at_call 62; rw [← hW]; clear hW; rw [HPl.out]; refine (readConfiguration_any _ n s _ u _ L W lo lo' lo2 (HV.out.keep (Carries.of lo hw0)) (HVU.out.keep (Carries.of lo' hw0)) (HL.out.keep (Carries.of lo2 hw0)) hsm hsu hl hs).mono ?_)
  rintro e w1 ⟨ph, S, rfl, hb1, hcfg⟩
  rw [← HF.out] at hcfg ⊢
  have hw1 : Below w.heap.size w w1 := hw0.trans (hb1.mono hw0.size)
  cases G with
  | false =>
    have hvv : V = ByteArray.empty := by rw [HVV.out]; exact fmV_no HF.out.symm
    subst hvv
    go_wp2_with fail
    go_ret2
    exact ⟨rfl, hw1⟩
  | true =>
  obtain ⟨rfl, H, rfl, w0, vc, ve, vp, vu, hb2, hb3, hH⟩ := hcfg rfl
  obtain ⟨hgu, hgr, _⟩ := icV_all HF.out.symm
  obtain ⟨hgn, h60, h200, hxc, hxe, hGG⟩ := uvB_all hgu
  obtain ⟨pn, hpn, hp30, hpl⟩ := uvB_pl hgu
  have hvv : mkS pn (hisAll n s u.es).cs (cutS (hisAll n s u.es) (setL L)) = V := by
    rw [HVV.out]
    exact (fmV_yes hpn HF.out.symm).symm
  have hS := setL_lt (L := L) (fun k hk => by have := rise_in rfl hgr k hk; omega)
  have hx60 : (hisAll n s u.es).es.length ≤ 60 := by rw [hxe]; exact h60
  have hxcl : (hisAll n s u.es).cs.length ≤ 1000000 := by rw [hxc]; omega
  rw [hpn] at hH
  have HH := Lib.hid hH; have HGG := Lib.hid hGG; have HPL := Lib.hid hpl; have HVB := Lib.hid hvv; have HS := Lib.hid hS; have H60 := Lib.hid hx60; have HXC := Lib.hid hxcl
  clear hH hGG hpl hvv hgu hgr hgn h60 h200 hxc hxe hS hx60 hxcl hpn hb2 hb3 hcfg
  generalize setL L = S at HVB HS ⊢
  generalize hisAll n s u.es = x at HH HGG HPL HVB H60 HXC
  go_wp2_with fail
  refine (finalMarking_any w0.heap.size H pn w1 _ vc ve vp vu x S HH.out ⟨_, _, _, rfl⟩ HGG.out HXC.out H60.out HS.out hp30 HPL.out).mono ?_
  rintro e w2 ⟨rfl, hb2⟩
  rw [HVB.out]
  have hw2 : Below w.heap.size w w2 := hw1.trans (hb2.mono hw1.size)
  go_wp2_with fail
  go_ret2
  exact ⟨rfl, hw2⟩

end Go.Proofs.YtdiblkgjmkbpmaaGreat
