/- WALK: FinalMarking of the model (written by gen8/gfmp.py).
   WALKS: toSignal, toSignalS, toLabel, toLabelS of the laws.
   WALKS: szSignal, szSignalS, szLabelS, eqSignal, eqSignalS, eqLabel, eqLabelS of the laws.
   WALKS: szConditionS, szEvent, szEventS, szUnfolding of the laws. -/
import Derived.Test.YtdiblkgjmkbpmaaGreatVFmp
import Derived.Test.YtdiblkgjmkbpmaaGreatVLmm
import Derived.Test.YtdiblkgjmkbpmaaGreatVCfm
import Derived.Test.YtdiblkgjmkbpmaaGreatVNeta
import Derived.Test.YtdiblkgjmkbpmaaGreatVPair
import Derived.Test.YtdiblkgjmkbpmaaGreatVRgd
import Derived.Test.YtdiblkgjmkbpmaaGreatVSgr
import Derived.Test.YtdiblkgjmkbpmaaGreatVNetb
namespace Go.Proofs.YtdiblkgjmkbpmaaGreat
open Go.RowKit

/-- the conditions behind a list of events, and behind its set -/
theorem cut_list {x : His} (hG : HisG x) {L : List Int} (hin : ∀ k, k < L.length → 0 ≤ L.getD k 0 ∧ L.getD k 0 < (x.es.length : Int)) : cutS x (setL L) = cutM x.cs x.es (L.map Int.toNat) := by
  refine (cut_eq hG (fun i => ?_) (fun e he => ?_)).symm
  · unfold setL
    rw [setTo_bit, List.mem_map]
    constructor
    · rintro ⟨q, hq, e⟩
      exact ⟨L.getD q 0, mem_getD.2 ⟨q, hq, rfl⟩, e⟩
    · rintro ⟨z, hz, e⟩
      obtain ⟨q, hq, rfl⟩ := mem_getD.1 hz
      exact ⟨q, hq, e⟩
  · obtain ⟨z, hz, rfl⟩ := List.mem_map.1 he
    obtain ⟨q, hq, rfl⟩ := mem_getD.1 hz
    have := hin q hq
    omega

set_option maxRecDepth 100000 in
set_option maxHeartbeats 2000000 in
theorem specFinalMarking_any (v : Value) (n : NetD) (s : ByteArray) (vu : Value) (u : UnfD) (vl : Value) (L : List Int) (w : World) (lo lo' lo2 : Nat) (hv : NetAt lo w v n) (hvu : UnfAt lo' w vu u) (hvl : IntsAt lo2 w vl L) (hsm : SmallTrs n.ts) (hsu : SmallUnf u) (hl : L.length ≤ 1048576) (hs : s.size ≤ 1048576) :
    Calls Tryz.prog 30 #[v, .string s, vu, vl] w (RetSB w (fmV n s u L) (icV n s u L)) := by
  obtain ⟨G, hG⟩ : ∃ x, x = icB n s u L := ⟨_, rfl⟩
  obtain ⟨V, hV⟩ : ∃ x, x = icV n s u L := ⟨_, rfl⟩
  obtain ⟨Z, hZ⟩ : ∃ x, x = fmV n s u L := ⟨_, rfl⟩
  rw [← hV, ← hZ]
  have HF := Lib.hid hG; have HVV := Lib.hid hV; have HZZ := Lib.hid hZ
  clear hG hV hZ
  have HL := Lib.hid hvl
  obtain ⟨al, kl, rfl, hxa, hxb⟩ := hvl
  obtain ⟨nl, hnl⟩ : ∃ x, x = L.length := ⟨_, rfl⟩
  rw [← hnl] at HL ⊢
  clear hxa hxb hnl
  obtain ⟨ao, cap, rfl⟩ := net_form hv
  obtain ⟨a0, k0, a1, k1, rfl, hcc, hee⟩ := hvu.form
  obtain ⟨R, hR⟩ : ∃ x, x = uvB n s u := ⟨_, rfl⟩
  have HR := Lib.hid hR
  clear hcc hee hR
  obtain ⟨p, hp⟩ : ∃ p, p = n.places := ⟨_, rfl⟩
  obtain ⟨m, hm⟩ : ∃ m, m = n.ts.length := ⟨_, rfl⟩
  obtain ⟨nc, hnc⟩ : ∃ m, m = u.cs.length := ⟨_, rfl⟩
  obtain ⟨ne, hne⟩ : ∃ m, m = u.es.length := ⟨_, rfl⟩
  rw [← hm] at hv
  rw [← hnc, ← hne] at hvu
  rw [← hp, ← hm, ← hnc, ← hne]
  have HPl := Lib.hid hp
  have HV := Lib.hid hv
  have HVU := Lib.hid hvu
  have HNE := Lib.hid hne
  have HNC := Lib.hid hnc
  clear hp hm hnc hne hv hvu
  obtain ⟨W, hW⟩ : ∃ x, x = (w.alloc (.cells #[.int .i64 p, .slice ao m cap] 34)).alloc (.cells #[.slice a0 nc k0, .slice a1 ne k1] 39) := ⟨_, rfl⟩
  have hw0 : Below w.heap.size w W := by rw [hW]; (repeat' (first | (with_reducible exact Below.refl _ _) | (with_reducible assumption) | (with_reducible refine Below.alloc ?_ ?_ _) | (with_reducible refine Below.drew ?_) | (with_reducible refine below_drewN ?_ _) | (with_reducible refine Below.setCell ?_ ?_ _) | go_size))
  have n0 : W.cell? ⟨w.heap.size, 0, none⟩ = some (.int .i64 p) := by rw [hW]; exact cell_carry (w := w.alloc (.cells #[.int .i64 p, .slice ao m cap] 34)) (cell_new2 rfl).1 ((Carries.refl 0 _).alloc _)
  have n1 : W.cell? ⟨w.heap.size, 1, none⟩ = some (.slice ao m cap) := by rw [hW]; exact cell_carry (w := w.alloc (.cells #[.int .i64 p, .slice ao m cap] 34)) (cell_new2 rfl).2 ((Carries.refl 0 _).alloc _)
  have u0 : W.cell? ⟨w.heap.size + 1, 0, none⟩ = some (.slice a0 nc k0) := by rw [hW]; simp
  have u1 : W.cell? ⟨w.heap.size + 1, 1, none⟩ = some (.slice a1 ne k1) := by rw [hW]; simp
  go_enter Tryz.func30, Tryz.ntmps30
  go_wp2_with (go_at_call 52; rw [← hW]; clear hW; rw [HPl.out]; refine (l7List_any _ n s _ u _ L W lo lo' lo2 (HV.out.keep (Carries.of lo hw0)) (HVU.out.keep (Carries.of lo' hw0)) (HL.out.keep (Carries.of lo2 hw0)) hsm hsu hl hs).mono ?_)
  rintro e w1 ⟨rfl, hb1⟩
  rw [← HF.out]
  have hw1 : Below w.heap.size w w1 := hw0.trans (hb1.mono hw0.size)
  rw [HPl.out] at n0
  have n0 := cell_carry n0 (Carries.of 0 hb1)
  have n1 := cell_carry n1 (Carries.of 0 hb1)
  have u0 := cell_carry u0 (Carries.of 0 hb1)
  have u1 := cell_carry u1 (Carries.of 0 hb1)
  clear hb1
  cases G with
  | false =>
    have hvv : V = false := by rw [HVV.out]; unfold icV; rw [← HF.out]; rfl
    have hzz : Z = ByteArray.empty := by rw [HZZ.out]; exact fmV_no (HVV.out.symm.trans hvv)
    subst hvv; subst hzz
    go_wp2_with fail
    go_ret2
    exact ⟨rfl, hw1⟩
  | true =>
  have hFT := HF.out
  unfold icB at hFT
  have hR : R = true := by
    rw [← HR.out] at hFT
    cases R with
    | true => rfl
    | false => rw [Bool.false_and] at hFT; cases hFT
  have hRR := HR.out
  rw [hR] at hRR
  have hrise : riseB 0 ((u.es.length : Int) - 1) L = true := by
    rw [← hRR, Bool.true_and] at hFT
    exact hFT.symm
  obtain ⟨hgn, h60, h200, hxc, hxe, hGG⟩ := uvB_all hRR.symm
  have hvv : cfgB (hisAll n s u.es) L = V := by rw [HVV.out]; unfold icV; rw [← HF.out]; rfl
  have HVB := Lib.hid hvv
  have H200 := Lib.hid h200; have H60 := Lib.hid h60; have HXC := Lib.hid hxc; have HXE := Lib.hid hxe; have HGG := Lib.hid hGG; have HRI := Lib.hid hrise
  clear hFT hR hRR hrise hgn h60 h200 hxc hxe hGG hvv
  go_wp2_with fail
  refine (l7Config_any _ (hisAll n s u.es) _ L w1 lo' lo2 (by rw [HXC.out, HXE.out]; exact HVU.out.keep (Carries.of lo' hw1)) (HL.out.keep (Carries.of lo2 hw1)) hl HGG.out (by rw [HXC.out]; have := H200.out; omega) (by rw [HXE.out]; exact H60.out) (by rw [HXE.out]; exact hsu.2.2) (by rw [HXE.out]; exact HRI.out)).mono ?_
  rintro e w4 ⟨rfl, hb4⟩
  rw [HVB.out]
  have hw4 : Below w.heap.size w w4 := hw1.trans (hb4.mono hw1.size)
  have n0 := cell_carry n0 (Carries.of 0 hb4)
  have n1 := cell_carry n1 (Carries.of 0 hb4)
  have u0 := cell_carry u0 (Carries.of 0 hb4)
  have u1 := cell_carry u1 (Carries.of 0 hb4)
  clear hb4
  cases V with
  | false =>
    have hzz : Z = ByteArray.empty := by rw [HZZ.out]; exact fmV_no HVV.out.symm
    subst hzz
    go_wp2_with fail
    go_ret2
    exact ⟨rfl, hw4⟩
  | true =>
  obtain ⟨hgu, hgr, _⟩ := icV_all HVV.out.symm
  obtain ⟨pn, hpn, hp30, hpl⟩ := uvB_pl hgu
  have hin := rise_in rfl hgr
  have hcut := cut_list HGG.out (by rw [HXE.out]; exact hin)
  rw [HXC.out, HXE.out] at hcut
  have hzz : mkS pn u.cs (cutM u.cs u.es (L.map Int.toNat)) = Z := by
    rw [HZZ.out, fmV_yes hpn HVV.out.symm, hcut, HXC.out]
  have hLt := list_toNat (fun z hz => by
    obtain ⟨q, hq, rfl⟩ := mem_getD.1 hz
    exact (hin q hq).1)
  have hPl : ∀ k, k < (L.map Int.toNat).length → (L.map Int.toNat).getD k 0 < u.es.length := fun k hk => by
    have hk2 : k < L.length := by rw [List.length_map] at hk; exact hk
    have e : (L.map Int.toNat).getD k 0 = (L.getD k 0).toNat := by simp [List.getD, hk2]
    rw [e]
    have := hin k hk2
    omega
  have hpl2 : (L.map Int.toNat).length ≤ 1048576 := by rw [List.length_map]; exact hl
  have hvl2 := HL.out
  rw [← hLt] at hvl2
  have HL2 := Lib.hid hvl2; have HPL := Lib.hid hPl; have HZ2 := Lib.hid hzz
  rw [hpn] at n0
  clear hgu hgr hpl hin hcut hzz hLt hPl hvl2 hpn
  generalize L.map Int.toNat = P at HL2 HPL HZ2 hpl2
  go_wp2_with fail
  refine (l7Mark_any pn _ ⟨_, _, _, rfl⟩ _ u.cs u.es _ P w4 lo' lo2 hp30 (HVU.out.keep (Carries.of lo' hw4)) (HL2.out.keep (Carries.of lo2 hw4)) hpl2 (by have := H200.out; omega) hsu.2.2 HPL.out).mono ?_
  rintro e w5 ⟨rfl, hb5⟩
  rw [HZ2.out]
  have hw5 : Below w.heap.size w w5 := hw4.trans (hb5.mono hw4.size)
  go_wp2_with fail
  go_ret2
  exact ⟨rfl, hw5⟩

end Go.Proofs.YtdiblkgjmkbpmaaGreat

namespace Go.Proofs.YtdiblkgjmkbpmaaGreat
open Go.RowKit

end Go.Proofs.YtdiblkgjmkbpmaaGreat

namespace Go.Proofs.YtdiblkgjmkbpmaaGreat
open Go.RowKit

theorem lab_getD {zs : List Lab} {i : Nat} (h : i < zs.length) : (lbS zs i, lbU zs i) = zs[i] := by simp [lbS, lbU, List.getD, h]
end Go.Proofs.YtdiblkgjmkbpmaaGreat

namespace Go.Proofs.YtdiblkgjmkbpmaaGreat
open Go.RowKit

set_option maxHeartbeats 400000 in
theorem szConditionS_any (ao : Option Addr) (n cap : Nat) (left : Int) (w : World) (h0 : 0 ≤ left) (h1 : left ≤ 1048576) (hn : n ≤ 9223372036854775807) :
    Calls Tryz.prog 42 #[.slice ao n cap, .int .i64 left] w (RetV w (.int .i64 (szI left n))) := by
  by_cases hlt : left < n
  · have e : szI left n = -1 := by unfold szI; rw [if_pos hlt]
    rw [e]; clear e
    go_enter Tryz.func42, Tryz.ntmps42
    go_wp2
    go_ret
    exact ⟨rfl, Below.refl _ _⟩
  · have e : szI left n = left - n := by unfold szI; rw [if_neg hlt]
    rw [e]; clear e
    go_enter Tryz.func42, Tryz.ntmps42
    go_wp2
    go_ret
    exact ⟨rfl, Below.refl _ _⟩

set_option maxHeartbeats 400000 in
theorem szEvent_any (t : Int) (v : Value) (L : List Int) (left : Int) (w : World) (lo : Nat) (hv : IntsAt lo w v L) (h0 : 0 ≤ left) (h1 : left ≤ 1048576) (hn : L.length ≤ 9223372036854775807) :
    Calls Tryz.prog 32 #[.agg #[.int .i64 t, v], .int .i64 left] w (RetSz w left (L.length ≤ 1048576)) := by
  obtain ⟨a0, k0, rfl, _, _⟩ := hv
  go_enter Tryz.func32, Tryz.ntmps32
  go_wp2_with fail
  refine (szIntS_any _ _ _ _ _ h0 h1 hn).mono ?_
  rintro e w1 ⟨rfl, hb0⟩
  have hw1 : Below w.heap.size w w1 := by
    refine Below.trans ?_ (hb0.mono ?_)
    · (repeat' (first | (with_reducible exact Below.refl _ _) | (with_reducible assumption) | (with_reducible refine Below.alloc ?_ ?_ _) | (with_reducible refine Below.drew ?_) | (with_reducible refine below_drewN ?_ _) | (with_reducible refine Below.setCell ?_ ?_ _) | go_size))
    · simp
  by_cases hlt : left < L.length
  · have e : szI left L.length = -1 := by unfold szI; rw [if_pos hlt]
    rw [e]; clear e
    go_wp2_with fail
    go_ret
    exact ⟨_, rfl, Or.inl rfl, hw1⟩
  · have e : szI left L.length = left - L.length := by unfold szI; rw [if_neg hlt]
    rw [e]; clear e
    go_wp2_with fail
    go_ret
    exact ⟨_, rfl, Or.inr ⟨by omega, by omega, by omega⟩, hw1⟩

set_option maxHeartbeats 400000 in
theorem szEventS_any (v : Value) (es : List Ev) (left : Int) (w : World) (lo : Nat) (hv : EvsAt lo w v es) (h0 : 0 ≤ left) (h1 : left ≤ 1048576) (hok : OkEvs es) :
    Calls Tryz.prog 43 #[v, .int .i64 left] w (RetSz w left (SmallEvs es)) := by
  obtain ⟨ao, cap, rfl, hc, hz⟩ := hv
  obtain ⟨hn, hsm⟩ := hok
  have HF := Lib.hid hz; clear hz
  have HS := Lib.hid hsm; clear hsm
  go_enter Tryz.func43, Tryz.ntmps43
  by_cases hlt0 : left < es.length
  · go_wp2_with fail
    go_ret
    exact ⟨_, rfl, Or.inl rfl, Below.refl _ _⟩
  go_wp2_with fail
  go_loopw [1, 5] (fun l i wr => ∃ (k : Nat) (r : Int), k ≤ es.length ∧ i = .int .i64 k ∧ l = .int .i64 r ∧ 0 ≤ r ∧ r ≤ left ∧ Hid (∀ i, i < k → (evP es i).length ≤ 1048576) ∧ Below w.heap.size w wr) (fun _ i _ => es.length - (intOf i).toNat)
  case atStart =>
    exact ⟨0, left - es.length, Nat.zero_le _, rfl, rfl, by omega, by omega, fun i hi => absurd hi (Nat.not_lt_zero _), Below.refl _ _⟩
  case round =>
    obtain ⟨k, r, hk, rfl, rfl, g0, g1, hall, hb1⟩ := hrel
    by_cases hlt : k < es.length
    · rcases HF.out with h0 | ⟨b, off, rfl, hlo, hcell⟩
      · omega
      obtain ⟨x1, c0, c1, hx⟩ := hcell k hlt
      have d0 := Carries.of lo hb1 _ _ hlo c0
      have d1 := Carries.of lo hb1 _ _ hlo c1
      have hk1 := HS.out k hlt
      obtain ⟨t, htk⟩ : ∃ t, t = evT es k := ⟨_, rfl⟩
      obtain ⟨L, hLk⟩ : ∃ t, t = evP es k := ⟨_, rfl⟩
      rw [← hLk] at hk1 hx
      rw [← htk] at d0
      have HK := Lib.hid hLk; clear htk hLk
      have HX := Lib.hid (hx.keep (Carries.of lo hb1))
      clear hcell c0 c1 hx
      go_wp2_with fail
      refine (szEvent_any _ _ _ _ _ lo HX.out g0 (by omega) hk1).mono ?_
      rintro e w1 ⟨q, rfl, hq, hb2⟩
      have hw1 : Below w.heap.size w w1 := hb1.trans (hb2.mono hb1.size)
      rcases hq with rfl | ⟨q0, q1, hq2⟩
      · go_wp2_with fail
        go_ret
        exact ⟨_, rfl, Or.inl rfl, hw1⟩
      · have H2 : Hid (∀ i, i < k + 1 → (evP es i).length ≤ 1048576) := by
          intro i hi
          by_cases e : i = k
          · subst e; rw [← HK.out]; exact hq2
          · exact hall.out i (by omega)
        go_wp2_with fail
        go_roundw
        case rel => exact ⟨k + 1, q, by omega, by go_num, rfl, q0, by omega, H2, hw1⟩
        case measure => simp [intOf]; omega
    · have hkk : k = es.length := by omega
      subst hkk
      go_wp2_with fail
      go_ret
      exact ⟨_, rfl, Or.inr ⟨g0, g1, by omega, hall.out⟩, hb1⟩

set_option maxHeartbeats 1000000 in
theorem szUnfolding_any (v : Value) (u : UnfD) (left : Int) (w : World) (lo : Nat) (hv : UnfAt lo w v u) (h0 : 0 ≤ left) (h1 : left ≤ 1048576) (hok : OkUnf u) :
    Calls Tryz.prog 11 #[v, .int .i64 left] w (RetSz w left (SmallUnf u)) := by
  obtain ⟨a0, c0, a1, c1, rfl, hc_, he_⟩ := hv.form
  clear hv hc_
  obtain ⟨cs, es⟩ := u
  obtain ⟨k1, k2⟩ := hok
  simp only at he_ k1 k2 ⊢
  have HE := Lib.hid he_; clear he_
  have K2 := Lib.hid k2; clear k2
  go_enter Tryz.func11, Tryz.ntmps11
  go_wp2_with fail
  refine (szConditionS_any _ _ _ _ _ h0 h1 k1).mono ?_
  rintro e w1 ⟨rfl, hb1⟩
  have hw1 : Below w.heap.size w w1 := by
    refine Below.trans ?_ (hb1.mono ?_)
    · (repeat' (first | (with_reducible exact Below.refl _ _) | (with_reducible assumption) | (with_reducible refine Below.alloc ?_ ?_ _) | (with_reducible refine Below.drew ?_) | (with_reducible refine below_drewN ?_ _) | (with_reducible refine Below.setCell ?_ ?_ _) | go_size))
    · simp
  have x1 : w1.cell? ⟨w.heap.size, 1, none⟩ = some (.slice a1 es.length c1) := cell_carry (by simp) (Carries.of 0 hb1)
  clear hb1
  by_cases hq : left < cs.length
  · have e : szI left cs.length = -1 := by unfold szI; rw [if_pos hq]
    rw [e]; clear e
    go_wp2_with fail
    go_ret
    exact ⟨_, rfl, Or.inl rfl, hw1⟩
  have e : szI left cs.length = left - cs.length := by unfold szI; rw [if_neg hq]
  rw [e]; clear e
  obtain ⟨q, hqq⟩ : ∃ q, q = left - (cs.length : Int) := ⟨_, rfl⟩
  rw [← hqq]
  have q0 : 0 ≤ q := by omega
  have q1 : q ≤ left := by omega
  have q3 : cs.length ≤ 1048576 := by omega
  clear hqq hq
  go_wp2_with fail
  refine (szEventS_any _ es _ _ lo (HE.out.keep (Carries.of lo hw1)) q0 (by omega) K2.out).mono ?_
  rintro e w2 ⟨r2, rfl, hr2, hb2⟩
  have hw2 : Below w.heap.size w w2 := hw1.trans (hb2.mono hw1.size)
  rcases hr2 with rfl | ⟨g2, g3, q2⟩
  · go_wp2_with fail
    go_ret
    exact ⟨_, rfl, Or.inl rfl, hw2⟩
  have Q2 := Lib.hid q2; clear q2
  go_wp2_with fail
  go_ret
  exact ⟨_, rfl, Or.inr ⟨by omega, by omega, q3, Q2.out⟩, hw2⟩

end Go.Proofs.YtdiblkgjmkbpmaaGreat
