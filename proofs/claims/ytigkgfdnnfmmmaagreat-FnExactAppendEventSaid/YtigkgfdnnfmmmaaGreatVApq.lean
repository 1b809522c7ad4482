/- WALK: AppendEvent of the program (written by gen8/gapp8.py). -/
import Derived.Test.YtigkgfdnnfmmmaaGreatVApe
import Derived.Test.YtigkgfdnnfmmmaaGreatVUvp
import Derived.Test.YtigkgfdnnfmmmaaGreatVLmp
namespace Go.Proofs.YtigkgfdnnfmmmaaGreat
open Go.RowKit

/-- a call returns an unfolding whose rows may be written, and a bool -/
def RetAp (w : World) (u : UnfD) (b : Bool) (e : Ending) (w' : World) : Prop := ∃ v0 v1, e = .returned (.tuple #[.agg #[v0, v1], .bool b]) ∧ CRow w.heap.size w' v0 u.cs ∧ ERow w.heap.size w' v1 u.es ∧ Below w.heap.size w w'
theorem uvB_ok {n : NetD} {s : ByteArray} {u : UnfD} (h : uvB n s u = true) (hs : SmallEvs u.es) : HisOk n (hisAll n s u.es).cs (hisAll n s u.es).es (hisAll n s u.es).ps (hisAll n s u.es).us := by
  obtain ⟨hg, h60, _⟩ := uvB_all h
  unfold uvB at h
  simp only [Bool.and_eq_true] at h
  have h5 := of_decide_eq_true h.2.2.1
  have hq := goodN_places hg
  have hz : (s.size : Int) = n.places := by
    have := h.1
    unfold iuB markB at this
    simp only [Bool.and_eq_true, decide_eq_true_eq] at this
    exact this.2.2
  exact hisTo_ok hg (Nat.le_trans (bornTo_length _ _) (by omega)) hs (Nat.le_refl _) h60 h5
theorem ERow.low {B B' : Nat} {w : World} {v : Value} {es : List Ev} (h : ERow B w v es) (hl : B' ≤ B) : ERow B' w v es := by
  obtain ⟨xs, k1, k2⟩ := h
  refine ⟨xs, Go.Joins.ownsRow_le k1 hl, fun i hi => ?_⟩
  obtain ⟨u, g, a, b, c, d, e⟩ := k2 i hi
  exact ⟨u, g, a, b, c, ⟨Nat.le_trans hl d.1, d.2⟩, e⟩
theorem cell_base {B : Nat} {w w' : World} (h : Below B w w') {p : Addr} {v : Value} (hp : p.block < B) (hc : w.cell? p = some v) : w'.cell? p = some v := (World.cell?_of_block (w := w) (w' := w') (a := p) (h.block _ hp)).trans hc
theorem frozen_base {B : Nat} {w w' : World} (h : Below B w w') {p : Addr} (hp : p.block < B) : w'.frozen? p = w.frozen? p := World.frozen?_of_block (w := w) (w' := w') (a := p) (h.block _ hp)
theorem TyAt.base {B : Nat} {w w' : World} {g : Nat} {t : TypeId} (hT : TyAt w g t) (h : Below B w w') (hg : g < B) : TyAt w' g t := by
  obtain ⟨cur, f, e⟩ := hT
  exact ⟨cur, f, (h.block _ hg).trans e⟩

set_option maxRecDepth 100000 in
set_option maxHeartbeats 2000000 in
theorem AppendEvent_any (v : Value) (n : NetD) (s : ByteArray) (vu : Value) (u : UnfD) (t : Int) (vl : Value) (L : List Int) (w : World) (lo lo' lo2 : Nat) (hv : NetAt lo w v n) (hvu : UnfAt lo' w vu u) (hvl : IntsAt lo2 w vl L) (hsm : SmallTrs n.ts) (hsu : SmallUnf u) (hl : L.length ≤ 1048576) (hs : s.size ≤ 1048576) :
    Calls Tryz.prog 12 #[v, .string s, vu, .agg #[.int .i64 t, vl]] w (RetAp w (apV n s u t L) (apB n s u t L)) := by
  obtain ⟨G, hG⟩ : ∃ x, x = apB n s u t L := ⟨_, rfl⟩
  obtain ⟨V, hV⟩ : ∃ x, x = apV n s u t L := ⟨_, rfl⟩
  rw [← hG, ← hV]
  have HF := Lib.hid hG; have HVV := Lib.hid hV
  have hno : G = false → V = ⟨[], []⟩ := fun q => by rw [hV]; exact apV_no (hG.symm.trans q)
  have HNO := Lib.hid hno
  clear hG hV hno
  have HL := Lib.hid hvl
  obtain ⟨al, kl, rfl, hxa, hxb⟩ := hvl
  obtain ⟨nl, hnl⟩ : ∃ x, x = L.length := ⟨_, rfl⟩
  rw [← hnl] at HL ⊢
  clear hxa hxb hnl
  obtain ⟨ao, cap, rfl⟩ := net_form hv
  obtain ⟨a0, k0, a1, k1, rfl, hcc, hee⟩ := hvu.form
  obtain ⟨R, hR⟩ : ∃ x, x = uvB n s u := ⟨_, rfl⟩
  have HR := Lib.hid hR
  clear hcc hee hR
  obtain ⟨p, hp⟩ : ∃ p, p = n.places := ⟨_, rfl⟩
  obtain ⟨m, hm⟩ : ∃ m, m = n.ts.length := ⟨_, rfl⟩
  obtain ⟨nc, hnc⟩ : ∃ m, m = u.cs.length := ⟨_, rfl⟩
  obtain ⟨ne, hne⟩ : ∃ m, m = u.es.length := ⟨_, rfl⟩
  rw [← hm] at hv
  rw [← hnc, ← hne] at hvu
  rw [← hp, ← hm, ← hnc, ← hne]
  have HPl := Lib.hid hp; have HV := Lib.hid hv; have HVU := Lib.hid hvu; have HNE := Lib.hid hne; have HNC := Lib.hid hnc; have HM := Lib.hid hm
  clear hp hm hnc hne hv hvu
  obtain ⟨W, hW⟩ : ∃ x, x = ((((w.alloc (.cells #[.int .i64 p, .slice ao m cap] 43)).alloc (.cells #[.slice a0 nc k0, .slice a1 ne k1] 38)).alloc (.cells #[.int .i64 t, .slice al nl kl] 46)).alloc (.cells #[.slice none 0 0, .slice none 0 0] 38)) := ⟨_, rfl⟩
  have hw0 : Below w.heap.size w W := by rw [hW]; (repeat' (first | (with_reducible exact Below.refl _ _) | (with_reducible assumption) | (with_reducible refine Below.alloc ?_ ?_ _) | (with_reducible refine Below.drew ?_) | (with_reducible refine below_drewN ?_ _) | (with_reducible refine Below.setCell ?_ ?_ _) | go_size))
  have n0 : W.cell? ⟨w.heap.size, 0, none⟩ = some (.int .i64 p) := by rw [hW]; exact cell_carry (w := (w.alloc (.cells #[.int .i64 p, .slice ao m cap] 43))) (cell_new2 rfl).1 ((((Carries.refl 0 _).alloc _).alloc _).alloc _)
  have n1 : W.cell? ⟨w.heap.size, 1, none⟩ = some (.slice ao m cap) := by rw [hW]; exact cell_carry (w := (w.alloc (.cells #[.int .i64 p, .slice ao m cap] 43))) (cell_new2 rfl).2 ((((Carries.refl 0 _).alloc _).alloc _).alloc _)
  have u0 : W.cell? ⟨w.heap.size + 1, 0, none⟩ = some (.slice a0 nc k0) := by rw [hW]; exact cell_carry (w := ((w.alloc (.cells #[.int .i64 p, .slice ao m cap] 43)).alloc (.cells #[.slice a0 nc k0, .slice a1 ne k1] 38))) (cell_new2 (by simp)).1 (((Carries.refl 0 _).alloc _).alloc _)
  have u1 : W.cell? ⟨w.heap.size + 1, 1, none⟩ = some (.slice a1 ne k1) := by rw [hW]; exact cell_carry (w := ((w.alloc (.cells #[.int .i64 p, .slice ao m cap] 43)).alloc (.cells #[.slice a0 nc k0, .slice a1 ne k1] 38))) (cell_new2 (by simp)).2 (((Carries.refl 0 _).alloc _).alloc _)
  have e0 : W.cell? ⟨w.heap.size + 1 + 1, 0, none⟩ = some (.int .i64 t) := by rw [hW]; exact cell_carry (w := (((w.alloc (.cells #[.int .i64 p, .slice ao m cap] 43)).alloc (.cells #[.slice a0 nc k0, .slice a1 ne k1] 38)).alloc (.cells #[.int .i64 t, .slice al nl kl] 46))) (cell_new2 (by simp)).1 ((Carries.refl 0 _).alloc _)
  have e1 : W.cell? ⟨w.heap.size + 1 + 1, 1, none⟩ = some (.slice al nl kl) := by rw [hW]; exact cell_carry (w := (((w.alloc (.cells #[.int .i64 p, .slice ao m cap] 43)).alloc (.cells #[.slice a0 nc k0, .slice a1 ne k1] 38)).alloc (.cells #[.int .i64 t, .slice al nl kl] 46))) (cell_new2 (by simp)).2 ((Carries.refl 0 _).alloc _)
  have r0 : W.cell? ⟨w.heap.size + 1 + 1 + 1, 0, none⟩ = some (.slice none 0 0) := by rw [hW]; exact (cell_new2 (by simp)).1
  have r1 : W.cell? ⟨w.heap.size + 1 + 1 + 1, 1, none⟩ = some (.slice none 0 0) := by rw [hW]; exact (cell_new2 (by simp)).2
  have rf0 : W.frozen? ⟨w.heap.size + 1 + 1 + 1, 0, none⟩ = false := by rw [hW]; have h := frozen_new (((w.alloc (.cells #[.int .i64 p, .slice ao m cap] 43)).alloc (.cells #[.slice a0 nc k0, .slice a1 ne k1] 38)).alloc (.cells #[.int .i64 t, .slice al nl kl] 46)) #[.slice none 0 0, .slice none 0 0] 38 0; simpa only [World.size_alloc] using h
  have rf1 : W.frozen? ⟨w.heap.size + 1 + 1 + 1, 1, none⟩ = false := by rw [hW]; have h := frozen_new (((w.alloc (.cells #[.int .i64 p, .slice ao m cap] 43)).alloc (.cells #[.slice a0 nc k0, .slice a1 ne k1] 38)).alloc (.cells #[.int .i64 t, .slice al nl kl] 46)) #[.slice none 0 0, .slice none 0 0] 38 1; simpa only [World.size_alloc] using h
  have zR : w.heap.size + 1 + 1 + 1 < W.heap.size := by rw [hW]; simp
  have rT : TyAt W (w.heap.size + 1 + 1 + 1) 38 := by
    rw [hW]
    have h := TyAt.new (((w.alloc (.cells #[.int .i64 p, .slice ao m cap] 43)).alloc (.cells #[.slice a0 nc k0, .slice a1 ne k1] 38)).alloc (.cells #[.int .i64 t, .slice al nl kl] 46)) #[.slice none 0 0, .slice none 0 0] 38
    simpa only [World.size_alloc] using h
  go_enter Tryz.func12, Tryz.ntmps12
  have zW : W.heap.size = w.heap.size + 1 + 1 + 1 + 1 := by rw [hW]; simp
  go_wp2_with (go_at_call 34; rw [← hW]; clear hW; rw [HPl.out]; refine (readHistory_any _ n s _ u W lo lo' (HV.out.keep (Carries.of lo hw0)) (HVU.out.keep (Carries.of lo' hw0)) hsm hsu hs).mono ?_)
  rintro e w1 ⟨ph, rfl, hb1, hhis⟩
  rw [← HR.out] at hhis ⊢
  have hw1 : Below w.heap.size w w1 := hw0.trans (hb1.mono hw0.size)
  have n0 := cell_carry n0 (Carries.of 0 hb1)
  have n1 := cell_carry n1 (Carries.of 0 hb1)
  have u0 := cell_carry u0 (Carries.of 0 hb1)
  have u1 := cell_carry u1 (Carries.of 0 hb1)
  have e0 := cell_carry e0 (Carries.of 0 hb1)
  have e1 := cell_carry e1 (Carries.of 0 hb1)
  have r0 := cell_carry r0 (Carries.of 0 hb1)
  have r1 := cell_carry r1 (Carries.of 0 hb1)
  have rT := rT.keep hb1
  have rf0 := (hb1.frozen (p := ⟨w.heap.size + 1 + 1 + 1, 0, none⟩) zR).trans rf0
  have rf1 := (hb1.frozen (p := ⟨w.heap.size + 1 + 1 + 1, 1, none⟩) zR).trans rf1
  have zR : w.heap.size + 1 + 1 + 1 < w1.heap.size := Nat.lt_of_lt_of_le zR hb1.size
  clear hb1
  cases R with
  | false =>
    have hg : G = false := by rw [HF.out]; unfold apB; rw [← HR.out]; rfl
    have hvv := HNO.out hg
    subst hg; subst hvv
    go_wp2_with fail
    refine bodyPost_ret (v := .tuple #[.agg #[.slice none 0 0, .slice none 0 0], .bool false]) (by simp [results, Tryz.results12, go_sem, r0, r1]) rfl ?_
    exact ⟨_, _, rfl, CRow.nil _ _, ERow.nil _ _, (hw1.setCell (by simp; omega) _).setCell (by simp; omega) _⟩
  | true =>
  obtain ⟨H, rfl, w0, vc, ve, vp, vus, hb2, hb3, hH⟩ := hhis rfl
  obtain ⟨hgn, h60, h200, hxc, hxe, hGG⟩ := uvB_all HR.out.symm
  have hok := uvB_ok HR.out.symm hsu.2
  have hzB : w.heap.size + 1 + 1 + 1 < w0.heap.size := by have := hb2.size; omega
  obtain ⟨Q, hQ⟩ : ∃ x, x = fitB n u.cs u.es t L := ⟨_, rfl⟩
  have hF2 : G = (Q && limB (apU n u t L)) := by rw [HF.out, hQ]; unfold apB; rw [← HR.out]; rfl
  have hQ2 : exB n (hisAll n s u.es).cs (hisAll n s u.es).es (hisAll n s u.es).ps (hisAll n s u.es).us t L = Q := by
    rw [hQ]
    refine (fit_same hgn hGG.m hGG.fu hGG.nd t L).symm.trans ?_
    rw [hxc, hxe]
  have HF2 := Lib.hid hF2; have HQ := Lib.hid hQ; have HQ2 := Lib.hid hQ2; have HGN := Lib.hid hgn; have H60 := Lib.hid h60; have H200 := Lib.hid h200
  have HXC := Lib.hid hxc; have HXE := Lib.hid hxe; have HH := Lib.hid hH; have HOK := Lib.hid hok
  have NW0 := Lib.hid (HV.out.keep (Carries.of lo (hw0.trans (hb2.mono hw0.size))))
  have LW0 := Lib.hid (HL.out.keep (Carries.of lo2 (hw0.trans (hb2.mono hw0.size))))
  have hw00 : Below w.heap.size w w0 := hw0.trans (hb2.mono hw0.size)
  have HW00 := Lib.hid hw00
  have HB3 := Lib.hid hb3
  clear hgn h60 h200 hxc hxe hGG hF2 hQ hQ2 hH hok hhis hb2 hb3 hw00
  generalize hisAll n s u.es = x at HQ2 HXC HXE HH HOK
  go_wp2_with fail
  refine (isExtension_any w0.heap.size H w1 n _ vc ve vp vus x.cs x.es x.ps x.us t _ L lo2 lo HH.out (HV.out.keep (Carries.of lo hw1)) hsm (HL.out.keep (Carries.of lo2 hw1)) hl HOK.out).mono ?_
  rintro e w2 ⟨rfl, hb2⟩
  rw [HQ2.out]
  have hw2 : Below w.heap.size w w2 := hw1.trans (hb2.mono hw1.size)
  have n0 := cell_carry n0 (Carries.of 0 hb2)
  have n1 := cell_carry n1 (Carries.of 0 hb2)
  have u0 := cell_carry u0 (Carries.of 0 hb2)
  have u1 := cell_carry u1 (Carries.of 0 hb2)
  have e0 := cell_carry e0 (Carries.of 0 hb2)
  have e1 := cell_carry e1 (Carries.of 0 hb2)
  have r0 := cell_carry r0 (Carries.of 0 hb2)
  have r1 := cell_carry r1 (Carries.of 0 hb2)
  have rT := rT.keep hb2
  have rf0 := (hb2.frozen (p := ⟨w.heap.size + 1 + 1 + 1, 0, none⟩) zR).trans rf0
  have rf1 := (hb2.frozen (p := ⟨w.heap.size + 1 + 1 + 1, 1, none⟩) zR).trans rf1
  have zR : w.heap.size + 1 + 1 + 1 < w2.heap.size := Nat.lt_of_lt_of_le zR hb2.size
  have HH2 := Lib.hid (HH.out.after hb2); clear HH
  have HB4 := Lib.hid (HB3.out.trans (hb2.mono HB3.out.size)); clear HB3
  clear hb2
  cases Q with
  | false =>
    have hg : G = false := by rw [HF2.out]; rfl
    have hvv := HNO.out hg
    subst hg; subst hvv
    go_wp2_with fail
    refine bodyPost_ret (v := .tuple #[.agg #[.slice none 0 0, .slice none 0 0], .bool false]) (by simp [results, Tryz.results12, go_sem, r0, r1]) rfl ?_
    exact ⟨_, _, rfl, CRow.nil _ _, ERow.nil _ _, (hw2.setCell (by simp; omega) _).setCell (by simp; omega) _⟩
  | true =>
  have htr : trOk n t = true ∧ riseB 0 ((u.cs.length : Int) - 1) L = true := by
    have h := HQ.out.symm
    unfold fitB at h
    simp only [Bool.and_eq_true] at h
    exact ⟨h.1, h.2.1⟩
  have hpo := post_len HGN.out htr.1
  have ht := of_decide_eq_true htr.1
  have hin := rise_in rfl htr.2
  rw [← HXC.out] at hin
  obtain ⟨tn, rfl⟩ : ∃ tn : Nat, t = (tn : Int) := ⟨t.toNat, by omega⟩
  have htn : tn < n.ts.length := by omega
  have HPO := Lib.hid hpo; have HIN := Lib.hid hin
  clear htr ht hpo hin
  go_wp2_with fail
  refine (add_any w0.heap.size H w0 w2 n _ vc ve vp vus x tn _ L lo2 lo HH2.out rfl HB4.out NW0.out hsm LW0.out hl HOK.out (by rw [HXC.out]; have := H200.out; omega) (by rw [HXE.out]; exact H60.out) htn HPO.out HIN.out).mono ?_
  rintro e w3 ⟨rfl, hH3, hb3⟩
  obtain ⟨vc3, ve3, vp3, vu3, hH3⟩ := hH3
  have hzW := HW00.out.size
  have hw3 : Below w.heap.size w w3 := hw2.trans (hb3.mono hzW)
  have n0 := cell_base hb3 (by simp; omega) n0
  have n1 := cell_base hb3 (by simp; omega) n1
  have u0 := cell_base hb3 (by simp; omega) u0
  have u1 := cell_base hb3 (by simp; omega) u1
  have e0 := cell_base hb3 (by simp; omega) e0
  have e1 := cell_base hb3 (by simp; omega) e1
  have r0 := cell_base hb3 (by simp; omega) r0
  have r1 := cell_base hb3 (by simp; omega) r1
  have rT := rT.base hb3 hzB
  have rf0 := (frozen_base hb3 (p := ⟨w.heap.size + 1 + 1 + 1, 0, none⟩) hzB).trans rf0
  have rf1 := (frozen_base hb3 (p := ⟨w.heap.size + 1 + 1 + 1, 1, none⟩) hzB).trans rf1
  have zR : w.heap.size + 1 + 1 + 1 < w3.heap.size := Nat.lt_of_lt_of_le zR hb3.size
  have e7 : hisAdd n x (tn : Int) L = ⟨x.cs ++ madeBy n (tn : Int) x.es.length, x.es ++ [((tn : Int), L)], (hisAdd n x (tn : Int) L).ps, (hisAdd n x (tn : Int) L).us⟩ := rfl
  have hcs : (hisAdd n x (tn : Int) L).cs = (apU n u (tn : Int) L).cs := by unfold apU; rw [← HXC.out, ← HXE.out]; rfl
  have hes : (hisAdd n x (tn : Int) L).es = (apU n u (tn : Int) L).es := by unfold apU; rw [← HXE.out]; rfl
  rw [hcs, hes] at hH3
  have hlg : limB (apU n u (tn : Int) L) = G := by rw [HF2.out]; rfl
  have hyes : G = true → V = apU n u (tn : Int) L := fun q => by rw [HVV.out]; exact apV_yes (HF.out.symm.trans q)
  have HYES := Lib.hid hyes; clear hyes
  have c2 := hH3.c2; have c3 := hH3.c3
  have HH3 := Lib.hid hH3
  clear hb3 hcs hes e7 hH3 HH2 HB4 HQ2 HOK HIN
  generalize apU n u (tn : Int) L = U at hlg HH3 HYES
  have HLG := Lib.hid hlg; clear hlg
  have HUN := Lib.hid (show UnfAt w0.heap.size w3 (.agg #[vc3, ve3]) U from ⟨_, _, rfl, HH3.out.rc.at, HH3.out.re.at⟩)
  obtain ⟨ac, kc, rfl⟩ := HH3.out.rc.form
  obtain ⟨ae, ke, rfl⟩ := HH3.out.re.form
  obtain ⟨d0, hd0⟩ : ∃ y, y = U.cs.length := ⟨_, rfl⟩
  obtain ⟨d1, hd1⟩ : ∃ y, y = U.es.length := ⟨_, rfl⟩
  rw [← hd0] at HUN HH3 c2
  rw [← hd1] at HUN HH3 c3
  clear hd0 hd1
  go_wp2_with fail
  refine (isWithinLimits_any _ U w3 _ HUN.out).mono ?_
  rintro e w4 ⟨rfl, hb4⟩
  rw [HLG.out]
  have hw4 : Below w.heap.size w w4 := hw3.trans (hb4.mono hw3.size)
  have n0 := cell_carry n0 (Carries.of 0 hb4)
  have n1 := cell_carry n1 (Carries.of 0 hb4)
  have u0 := cell_carry u0 (Carries.of 0 hb4)
  have u1 := cell_carry u1 (Carries.of 0 hb4)
  have e0 := cell_carry e0 (Carries.of 0 hb4)
  have e1 := cell_carry e1 (Carries.of 0 hb4)
  have r0 := cell_carry r0 (Carries.of 0 hb4)
  have r1 := cell_carry r1 (Carries.of 0 hb4)
  have rT := rT.keep hb4
  have rf0 := (hb4.frozen (p := ⟨w.heap.size + 1 + 1 + 1, 0, none⟩) zR).trans rf0
  have rf1 := (hb4.frozen (p := ⟨w.heap.size + 1 + 1 + 1, 1, none⟩) zR).trans rf1
  have zR : w.heap.size + 1 + 1 + 1 < w4.heap.size := Nat.lt_of_lt_of_le zR hb4.size
  have c2 := cell_carry c2 (Carries.of 0 hb4)
  have c3 := cell_carry c3 (Carries.of 0 hb4)
  have HC := Lib.hid (owns_after HH3.out.rc hb4)
  have HE := Lib.hid (HH3.out.re.after hb4)
  have HHb := Lib.hid HH3.out.bH
  clear hb4 HH3
  cases G with
  | false =>
    have hvv := HNO.out rfl
    subst hvv
    go_wp2_with fail
    refine bodyPost_ret (v := .tuple #[.agg #[.slice none 0 0, .slice none 0 0], .bool false]) (by simp [results, Tryz.results12, go_sem, r0, r1]) rfl ?_
    exact ⟨_, _, rfl, CRow.nil _ _, ERow.nil _ _, (hw4.setCell (by simp; omega) _).setCell (by simp; omega) _⟩
  | true =>
  have hvv := HYES.out rfl
  subst hvv
  go_wp2_with fail
  refine bodyPost_ret (v := .tuple #[.agg #[.slice ac d0 kc, .slice ae d1 ke], .bool true]) (by simp [results, Tryz.results12, go_sem, r0, r1]) rfl ?_
  have h1 := owns_setT HC.out (p := ⟨w.heap.size + 1 + 1 + 1, 0, none⟩) rT (by decide) (.slice ac d0 kc)
  have h2 := owns_setT h1 (p := ⟨w.heap.size + 1 + 1 + 1, 1, none⟩) (rT.set _ _) (by decide) (.slice ae d1 ke)
  have g1 := HE.out.setT (p := ⟨w.heap.size + 1 + 1 + 1, 0, none⟩) rT (by decide) (by decide) (.slice ac d0 kc)
  have g2 := g1.setT (p := ⟨w.heap.size + 1 + 1 + 1, 1, none⟩) (rT.set _ _) (by decide) (by decide) (.slice ae d1 ke)
  refine ⟨_, _, rfl, ?_, ?_, (hw4.setCell (by simp; omega) _).setCell (by simp; omega) _⟩
  · exact Go.Joins.ownsRow_le h2 HW00.out.size
  · exact g2.low HW00.out.size

end Go.Proofs.YtigkgfdnnfmmmaaGreat
