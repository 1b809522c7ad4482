/- WALK: AppendEvent of the model (written by gen8/gape.py). -/
import Derived.Test.YtigkgfdnnfmmmaaGreatVUvs
import Derived.Test.YtigkgfdnnfmmmaaGreatVHhe
import Derived.Test.YtigkgfdnnfmmmaaGreatVErm
namespace Go.Proofs.YtigkgfdnnfmmmaaGreat
open Go.RowKit

/-- the unfolding with one more event -/
def apU (n : NetD) (u : UnfD) (t : Int) (L : List Int) : UnfD := ⟨u.cs ++ madeBy n t u.es.length, u.es ++ [(t, L)]⟩
def apB (n : NetD) (s : ByteArray) (u : UnfD) (t : Int) (L : List Int) : Bool := uvB n s u && (fitB n u.cs u.es t L && limB (apU n u t L))
def apV (n : NetD) (s : ByteArray) (u : UnfD) (t : Int) (L : List Int) : UnfD := if apB n s u t L = true then apU n u t L else ⟨[], []⟩
theorem apV_no {n : NetD} {s : ByteArray} {u : UnfD} {t : Int} {L : List Int} (h : apB n s u t L = false) : apV n s u t L = ⟨[], []⟩ := by unfold apV; rw [h]; rfl
theorem apV_yes {n : NetD} {s : ByteArray} {u : UnfD} {t : Int} {L : List Int} (h : apB n s u t L = true) : apV n s u t L = apU n u t L := by unfold apV; rw [if_pos h]
/-- a call returns an unfolding and a bool -/
def RetUB (w : World) (u : UnfD) (b : Bool) (e : Ending) (w' : World) : Prop := ∃ v, e = .returned (.tuple #[v, .bool b]) ∧ UnfAt w.heap.size w' v u ∧ Below w.heap.size w w'
theorem frozen_new (w : World) (a : Array Value) (e : TypeId) (i : Nat) : (w.alloc (.cells a e)).frozen? ⟨w.heap.size, i, none⟩ = false := by simp
theorem unf_none (lo : Nat) (w : World) : UnfAt lo w (.agg #[.slice none 0 0, .slice none 0 0]) ⟨[], []⟩ := ⟨_, _, rfl, ⟨none, 0, rfl, Nat.le_refl _, Or.inl rfl⟩, ⟨none, 0, rfl, Nat.le_refl _, Or.inl rfl⟩⟩

set_option maxRecDepth 100000 in
set_option maxHeartbeats 2000000 in
theorem specAppendEvent_any (v : Value) (n : NetD) (s : ByteArray) (vu : Value) (u : UnfD) (t : Int) (vl : Value) (L : List Int) (w : World) (lo lo' lo2 : Nat) (hv : NetAt lo w v n) (hvu : UnfAt lo' w vu u) (hvl : IntsAt lo2 w vl L) (hsm : SmallTrs n.ts) (hsu : SmallUnf u) (hl : L.length ≤ 1048576) (hs : s.size ≤ 1048576) :
    Calls Tryz.prog 8 #[v, .string s, vu, .agg #[.int .i64 t, vl]] w (RetUB w (apV n s u t L) (apB n s u t L)) := by
  obtain ⟨G, hG⟩ : ∃ x, x = apB n s u t L := ⟨_, rfl⟩
  obtain ⟨V, hV⟩ : ∃ x, x = apV n s u t L := ⟨_, rfl⟩
  rw [← hG, ← hV]
  have HF := Lib.hid hG; have HVV := Lib.hid hV
  have hno : G = false → V = ⟨[], []⟩ := fun q => by rw [hV]; exact apV_no (hG.symm.trans q)
  have HNO := Lib.hid hno
  clear hG hV hno
  have HL := Lib.hid hvl
  obtain ⟨al, kl, rfl, hxa, hxb⟩ := hvl
  obtain ⟨nl, hnl⟩ : ∃ x, x = L.length := ⟨_, rfl⟩
  rw [← hnl] at HL ⊢
  clear hxa hxb hnl
  obtain ⟨ao, cap, rfl⟩ := net_form hv
  obtain ⟨a0, k0, a1, k1, rfl, hcc, hee⟩ := hvu.form
  obtain ⟨R, hR⟩ : ∃ x, x = uvB n s u := ⟨_, rfl⟩
  have HR := Lib.hid hR
  clear hcc hee hR
  obtain ⟨p, hp⟩ : ∃ p, p = n.places := ⟨_, rfl⟩
  obtain ⟨m, hm⟩ : ∃ m, m = n.ts.length := ⟨_, rfl⟩
  obtain ⟨nc, hnc⟩ : ∃ m, m = u.cs.length := ⟨_, rfl⟩
  obtain ⟨ne, hne⟩ : ∃ m, m = u.es.length := ⟨_, rfl⟩
  rw [← hm] at hv
  rw [← hnc, ← hne] at hvu
  rw [← hp, ← hm, ← hnc, ← hne]
  have HPl := Lib.hid hp; have HV := Lib.hid hv; have HVU := Lib.hid hvu; have HNE := Lib.hid hne; have HNC := Lib.hid hnc; have HM := Lib.hid hm
  clear hp hm hnc hne hv hvu
  obtain ⟨W, hW⟩ : ∃ x, x = ((((w.alloc (.cells #[.int .i64 p, .slice ao m cap] 43)).alloc (.cells #[.slice a0 nc k0, .slice a1 ne k1] 38)).alloc (.cells #[.int .i64 t, .slice al nl kl] 46)).alloc (.cells #[.slice none 0 0, .slice none 0 0] 38)) := ⟨_, rfl⟩
  have hw0 : Below w.heap.size w W := by rw [hW]; (repeat' (first | (with_reducible exact Below.refl _ _) | (with_reducible assumption) | (with_reducible refine Below.alloc ?_ ?_ _) | (with_reducible refine Below.drew ?_) | (with_reducible refine below_drewN ?_ _) | (with_reducible refine Below.setCell ?_ ?_ _) | go_size))
  have n0 : W.cell? ⟨w.heap.size, 0, none⟩ = some (.int .i64 p) := by rw [hW]; exact cell_carry (w := (w.alloc (.cells #[.int .i64 p, .slice ao m cap] 43))) (cell_new2 rfl).1 ((((Carries.refl 0 _).alloc _).alloc _).alloc _)
  have n1 : W.cell? ⟨w.heap.size, 1, none⟩ = some (.slice ao m cap) := by rw [hW]; exact cell_carry (w := (w.alloc (.cells #[.int .i64 p, .slice ao m cap] 43))) (cell_new2 rfl).2 ((((Carries.refl 0 _).alloc _).alloc _).alloc _)
  have u0 : W.cell? ⟨w.heap.size + 1, 0, none⟩ = some (.slice a0 nc k0) := by rw [hW]; exact cell_carry (w := ((w.alloc (.cells #[.int .i64 p, .slice ao m cap] 43)).alloc (.cells #[.slice a0 nc k0, .slice a1 ne k1] 38))) (cell_new2 (by simp)).1 (((Carries.refl 0 _).alloc _).alloc _)
  have u1 : W.cell? ⟨w.heap.size + 1, 1, none⟩ = some (.slice a1 ne k1) := by rw [hW]; exact cell_carry (w := ((w.alloc (.cells #[.int .i64 p, .slice ao m cap] 43)).alloc (.cells #[.slice a0 nc k0, .slice a1 ne k1] 38))) (cell_new2 (by simp)).2 (((Carries.refl 0 _).alloc _).alloc _)
  have e0 : W.cell? ⟨w.heap.size + 1 + 1, 0, none⟩ = some (.int .i64 t) := by rw [hW]; exact cell_carry (w := (((w.alloc (.cells #[.int .i64 p, .slice ao m cap] 43)).alloc (.cells #[.slice a0 nc k0, .slice a1 ne k1] 38)).alloc (.cells #[.int .i64 t, .slice al nl kl] 46))) (cell_new2 (by simp)).1 ((Carries.refl 0 _).alloc _)
  have e1 : W.cell? ⟨w.heap.size + 1 + 1, 1, none⟩ = some (.slice al nl kl) := by rw [hW]; exact cell_carry (w := (((w.alloc (.cells #[.int .i64 p, .slice ao m cap] 43)).alloc (.cells #[.slice a0 nc k0, .slice a1 ne k1] 38)).alloc (.cells #[.int .i64 t, .slice al nl kl] 46))) (cell_new2 (by simp)).2 ((Carries.refl 0 _).alloc _)
  have r0 : W.cell? ⟨w.heap.size + 1 + 1 + 1, 0, none⟩ = some (.slice none 0 0) := by rw [hW]; exact (cell_new2 (by simp)).1
  have r1 : W.cell? ⟨w.heap.size + 1 + 1 + 1, 1, none⟩ = some (.slice none 0 0) := by rw [hW]; exact (cell_new2 (by simp)).2
  have rf0 : W.frozen? ⟨w.heap.size + 1 + 1 + 1, 0, none⟩ = false := by rw [hW]; have h := frozen_new (((w.alloc (.cells #[.int .i64 p, .slice ao m cap] 43)).alloc (.cells #[.slice a0 nc k0, .slice a1 ne k1] 38)).alloc (.cells #[.int .i64 t, .slice al nl kl] 46)) #[.slice none 0 0, .slice none 0 0] 38 0; simpa only [World.size_alloc] using h
  have rf1 : W.frozen? ⟨w.heap.size + 1 + 1 + 1, 1, none⟩ = false := by rw [hW]; have h := frozen_new (((w.alloc (.cells #[.int .i64 p, .slice ao m cap] 43)).alloc (.cells #[.slice a0 nc k0, .slice a1 ne k1] 38)).alloc (.cells #[.int .i64 t, .slice al nl kl] 46)) #[.slice none 0 0, .slice none 0 0] 38 1; simpa only [World.size_alloc] using h
  have zR : w.heap.size + 1 + 1 + 1 < W.heap.size := by rw [hW]; simp
  go_enter Tryz.func8, Tryz.ntmps8
  go_wp2_with (go_at_call 26; rw [← hW]; clear hW; rw [HPl.out]; refine (l7Good_any _ n s _ u W lo lo' (HV.out.keep (Carries.of lo hw0)) (HVU.out.keep (Carries.of lo' hw0)) hsm hsu hs).mono ?_)
  rintro e w1 ⟨rfl, hb1⟩
  rw [← HR.out]
  have hw1 : Below w.heap.size w w1 := hw0.trans (hb1.mono hw0.size)
  have n0 := cell_carry n0 (Carries.of 0 hb1)
  have n1 := cell_carry n1 (Carries.of 0 hb1)
  have u0 := cell_carry u0 (Carries.of 0 hb1)
  have u1 := cell_carry u1 (Carries.of 0 hb1)
  have e0 := cell_carry e0 (Carries.of 0 hb1)
  have e1 := cell_carry e1 (Carries.of 0 hb1)
  have r0 := cell_carry r0 (Carries.of 0 hb1)
  have r1 := cell_carry r1 (Carries.of 0 hb1)
  have rf0 := (hb1.frozen (p := ⟨w.heap.size + 1 + 1 + 1, 0, none⟩) zR).trans rf0
  have rf1 := (hb1.frozen (p := ⟨w.heap.size + 1 + 1 + 1, 1, none⟩) zR).trans rf1
  have zR : w.heap.size + 1 + 1 + 1 < w1.heap.size := Nat.lt_of_lt_of_le zR hb1.size
  clear hb1
  cases R with
  | false =>
    have hg : G = false := by rw [HF.out]; unfold apB; rw [← HR.out]; rfl
    have hvv := HNO.out hg
    subst hg; subst hvv
    go_wp2_with fail
    refine bodyPost_ret (v := .tuple #[.agg #[.slice none 0 0, .slice none 0 0], .bool false]) (by simp [results, Tryz.results8, go_sem, r0, r1]) rfl ?_
    exact ⟨_, rfl, unf_none _ _, (hw1.setCell (by simp; omega) _).setCell (by simp; omega) _⟩
  | true =>
  obtain ⟨hgn, h60, h200, hxc, hxe, hGG⟩ := uvB_all HR.out.symm
  obtain ⟨Q, hQ⟩ : ∃ x, x = fitB n u.cs u.es t L := ⟨_, rfl⟩
  have hF2 : G = (Q && limB (apU n u t L)) := by rw [HF.out, hQ]; unfold apB; rw [← HR.out]; rfl
  have hby := hGG.m.by_; have hwf := hGG.m.wf
  rw [hxc, hxe] at hby hwf
  have HBY := Lib.hid hby; have HWF := Lib.hid hwf; have HF2 := Lib.hid hF2; have HQ := Lib.hid hQ; have HGN := Lib.hid hgn; have H60 := Lib.hid h60; have H200 := Lib.hid h200
  clear hgn h60 h200 hxc hxe hGG hby hwf hF2 hQ
  go_wp2_with fail
  have hfit := l7Fits_any (.slice ao m cap) _ _ n u.cs u.es t L w1 lo lo' lo2 (HV.out.keep (Carries.of lo hw1)) (HVU.out.keep (Carries.of lo' hw1)) (HL.out.keep (Carries.of lo2 hw1)) hsm (by have := H200.out; omega) (by have := H60.out; omega) hsu.2.2 hl HBY.out HWF.out
  rw [← HPl.out] at hfit
  refine hfit.mono ?_
  rintro e w2 ⟨rfl, hb2⟩
  rw [← HQ.out]
  have hw2 : Below w.heap.size w w2 := hw1.trans (hb2.mono hw1.size)
  have n0 := cell_carry n0 (Carries.of 0 hb2)
  have n1 := cell_carry n1 (Carries.of 0 hb2)
  have u0 := cell_carry u0 (Carries.of 0 hb2)
  have u1 := cell_carry u1 (Carries.of 0 hb2)
  have e0 := cell_carry e0 (Carries.of 0 hb2)
  have e1 := cell_carry e1 (Carries.of 0 hb2)
  have r0 := cell_carry r0 (Carries.of 0 hb2)
  have r1 := cell_carry r1 (Carries.of 0 hb2)
  have rf0 := (hb2.frozen (p := ⟨w.heap.size + 1 + 1 + 1, 0, none⟩) zR).trans rf0
  have rf1 := (hb2.frozen (p := ⟨w.heap.size + 1 + 1 + 1, 1, none⟩) zR).trans rf1
  have zR : w.heap.size + 1 + 1 + 1 < w2.heap.size := Nat.lt_of_lt_of_le zR hb2.size
  clear hb2 hfit
  cases Q with
  | false =>
    have hg : G = false := by rw [HF2.out]; rfl
    have hvv := HNO.out hg
    subst hg; subst hvv
    go_wp2_with fail
    refine bodyPost_ret (v := .tuple #[.agg #[.slice none 0 0, .slice none 0 0], .bool false]) (by simp [results, Tryz.results8, go_sem, r0, r1]) rfl ?_
    exact ⟨_, rfl, unf_none _ _, (hw2.setCell (by simp; omega) _).setCell (by simp; omega) _⟩
  | true =>
  have htr : trOk n t = true := by
    have h := HQ.out.symm
    unfold fitB at h
    simp only [Bool.and_eq_true] at h
    exact h.1
  have hpo := post_len HGN.out htr
  have ht := of_decide_eq_true htr
  obtain ⟨tn, rfl⟩ : ∃ tn : Nat, t = (tn : Int) := ⟨t.toNat, by omega⟩
  have htn : tn < n.ts.length := by omega
  have HPO := Lib.hid hpo
  clear htr ht hpo
  go_wp2_with fail
  have hwith := l7With_any (.slice ao m cap) _ _ n u.cs u.es tn L w2 lo lo' lo2 (HV.out.keep (Carries.of lo hw2)) (HVU.out.keep (Carries.of lo' hw2)) (HL.out.keep (Carries.of lo2 hw2)) htn HPO.out (by have := H200.out; omega) (by have := H60.out; omega) hsu.2.2 hl
  rw [← HPl.out] at hwith
  refine hwith.mono ?_
  rintro e w3 ⟨vn, rfl, hun, hb3⟩
  have hw3 : Below w.heap.size w w3 := hw2.trans (hb3.mono hw2.size)
  have n0 := cell_carry n0 (Carries.of 0 hb3)
  have n1 := cell_carry n1 (Carries.of 0 hb3)
  have u0 := cell_carry u0 (Carries.of 0 hb3)
  have u1 := cell_carry u1 (Carries.of 0 hb3)
  have e0 := cell_carry e0 (Carries.of 0 hb3)
  have e1 := cell_carry e1 (Carries.of 0 hb3)
  have r0 := cell_carry r0 (Carries.of 0 hb3)
  have r1 := cell_carry r1 (Carries.of 0 hb3)
  have rf0 := (hb3.frozen (p := ⟨w.heap.size + 1 + 1 + 1, 0, none⟩) zR).trans rf0
  have rf1 := (hb3.frozen (p := ⟨w.heap.size + 1 + 1 + 1, 1, none⟩) zR).trans rf1
  have zR : w.heap.size + 1 + 1 + 1 < w3.heap.size := Nat.lt_of_lt_of_le zR hb3.size
  have HU3 : Hid (UnfAt w2.heap.size w3 vn (apU n u (tn : Int) L)) := hun
  obtain ⟨da, dk, fa, fk, e0', _, _⟩ := hun.form
  subst e0'
  generalize hd0 : (UnfD.cs _).length = d0 at HU3 ⊢
  generalize hd1 : (UnfD.es _).length = d1 at HU3 ⊢
  clear hb3 hwith hun hd0 hd1
  go_wp2_with fail
  refine (l7Limits_any _ (apU n u (tn : Int) L) w3 _ HU3.out).mono ?_
  rintro e w4 ⟨rfl, hb4⟩
  have hlg : limB (apU n u (tn : Int) L) = G := by rw [HF2.out]; rfl
  rw [hlg]
  have hw4 : Below w.heap.size w w4 := hw3.trans (hb4.mono hw3.size)
  have n0 := cell_carry n0 (Carries.of 0 hb4)
  have n1 := cell_carry n1 (Carries.of 0 hb4)
  have u0 := cell_carry u0 (Carries.of 0 hb4)
  have u1 := cell_carry u1 (Carries.of 0 hb4)
  have e0 := cell_carry e0 (Carries.of 0 hb4)
  have e1 := cell_carry e1 (Carries.of 0 hb4)
  have r0 := cell_carry r0 (Carries.of 0 hb4)
  have r1 := cell_carry r1 (Carries.of 0 hb4)
  have rf0 := (hb4.frozen (p := ⟨w.heap.size + 1 + 1 + 1, 0, none⟩) zR).trans rf0
  have rf1 := (hb4.frozen (p := ⟨w.heap.size + 1 + 1 + 1, 1, none⟩) zR).trans rf1
  have zR : w.heap.size + 1 + 1 + 1 < w4.heap.size := Nat.lt_of_lt_of_le zR hb4.size
  clear hb4 hlg
  cases G with
  | false =>
    have hvv := HNO.out rfl
    subst hvv
    go_wp2_with fail
    refine bodyPost_ret (v := .tuple #[.agg #[.slice none 0 0, .slice none 0 0], .bool false]) (by simp [results, Tryz.results8, go_sem, r0, r1]) rfl ?_
    exact ⟨_, rfl, unf_none _ _, (hw4.setCell (by simp; omega) _).setCell (by simp; omega) _⟩
  | true =>
  have hvv : V = apU n u (tn : Int) L := by rw [HVV.out]; exact apV_yes HF.out.symm
  have HVE := Lib.hid hvv
  clear hvv
  go_wp2_with fail
  have hwith := l7With_any (.slice ao m cap) _ _ n u.cs u.es tn L w4 lo lo' lo2 (HV.out.keep (Carries.of lo hw4)) (HVU.out.keep (Carries.of lo' hw4)) (HL.out.keep (Carries.of lo2 hw4)) htn HPO.out (by have := H200.out; omega) (by have := H60.out; omega) hsu.2.2 hl
  rw [← HPl.out] at hwith
  refine hwith.mono ?_
  rintro e w5 ⟨vn, rfl, hun, hb5⟩
  have hw5 : Below w.heap.size w w5 := hw4.trans (hb5.mono hw4.size)
  have zR4 := zR
  have n0 := cell_carry n0 (Carries.of 0 hb5)
  have n1 := cell_carry n1 (Carries.of 0 hb5)
  have u0 := cell_carry u0 (Carries.of 0 hb5)
  have u1 := cell_carry u1 (Carries.of 0 hb5)
  have e0 := cell_carry e0 (Carries.of 0 hb5)
  have e1 := cell_carry e1 (Carries.of 0 hb5)
  have r0 := cell_carry r0 (Carries.of 0 hb5)
  have r1 := cell_carry r1 (Carries.of 0 hb5)
  have rf0 := (hb5.frozen (p := ⟨w.heap.size + 1 + 1 + 1, 0, none⟩) zR).trans rf0
  have rf1 := (hb5.frozen (p := ⟨w.heap.size + 1 + 1 + 1, 1, none⟩) zR).trans rf1
  have zR : w.heap.size + 1 + 1 + 1 < w5.heap.size := Nat.lt_of_lt_of_le zR hb5.size
  have HU5 : Hid (UnfAt w4.heap.size w5 vn V) := by unfold Hid; rw [HVE.out]; exact hun
  obtain ⟨ga, gk, ha, hk, e0', _, _⟩ := hun.form
  subst e0'
  generalize (UnfD.cs _).length = g0 at HU5 ⊢
  generalize (UnfD.es _).length = g1 at HU5 ⊢
  clear hb5 hwith hun
  go_wp2_with fail
  refine bodyPost_ret (v := .tuple #[.agg #[.slice ga g0 gk, .slice ha g1 hk], .bool true]) (by simp [results, Tryz.results8, go_sem, r0, r1]) rfl ?_
  refine ⟨_, rfl, (HU5.out.keep ?_).low (by omega), (hw5.setCell (by simp; omega) _).setCell (by simp; omega) _⟩
  exact Carries.set (Carries.set (Carries.refl _ _) (by simp; omega) _) (by simp; omega) _

end Go.Proofs.YtigkgfdnnfmmmaaGreat
