/- WALKS: l7Good, IsValidUnfolding of the model (written by gen8/glgo.py). -/
import Derived.Test.YtigkgfdnnfmmmaaGreatVLfi
import Derived.Test.YtigkgfdnnfmmmaaGreatVLwi
import Derived.Test.YtigkgfdnnfmmmaaGreatVUvl
import Derived.Test.YtigkgfdnnfmmmaaGreatVUfs
import Derived.Test.YtigkgfdnnfmmmaaGreatVUvp
namespace Go.Proofs.YtigkgfdnnfmmmaaGreat
open Go.RowKit

theorem uvB_no {n : NetD} {s : ByteArray} {u : UnfD} (h : iuB n s = false) : uvB n s u = false := by unfold uvB; rw [h]; rfl
theorem uvB_run {n : NetD} {s : ByteArray} {u : UnfD} (h : runB n (bornTo s s.size) u.es = false) : uvB n s u = false := by
  unfold uvB; rw [h]; simp
theorem uvB_cs {n : NetD} {s : ByteArray} {u : UnfD} (h : finC n s u ≠ u.cs) : uvB n s u = false := by
  unfold uvB; rw [decide_eq_false h]; simp
theorem uvB_yes {n : NetD} {s : ByteArray} {u : UnfD} (h0 : iuB n s = true) (h1 : u.es.length ≤ 60) (h2 : runB n (bornTo s s.size) u.es = true) (h3 : u.cs.length ≤ 200) (h4 : finC n s u = u.cs) : uvB n s u = true := by
  unfold uvB; rw [h0, h2, decide_eq_true h1, h4, decide_eq_true h3]; simp

/-- an unfolding that can be read lies in block O, which may be written -/
def NowAt (O : Nat) (w : World) (cs : List Cnd) (es : List Ev) : Prop := ∃ vc ve, w.cell? ⟨O, 0, none⟩ = some vc ∧ w.cell? ⟨O, 1, none⟩ = some ve ∧ UnfAt 0 w (.agg #[vc, ve]) ⟨cs, es⟩ ∧ (∀ i, w.frozen? ⟨O, i, none⟩ = false) ∧ TyAt w O 38

set_option maxRecDepth 100000 in
set_option maxHeartbeats 2000000 in
theorem l7Good_any (vt : Value) (n : NetD) (s : ByteArray) (vu : Value) (u : UnfD) (w : World) (lo lo' : Nat) (hv : NetAt lo w (.agg #[.int .i64 n.places, vt]) n) (hvu : UnfAt lo' w vu u) (hsm : SmallTrs n.ts) (hsu : SmallUnf u) (hs : s.size ≤ 1048576) :
    Calls Tryz.prog 26 #[.agg #[.int .i64 n.places, vt], .string s, vu] w (RetB w (uvB n s u)) := by
  obtain ⟨R, hR⟩ : ∃ x, x = uvB n s u := ⟨_, rfl⟩
  rw [← hR]
  have HR := Lib.hid hR; clear hR
  obtain ⟨au, ku, aw, kw, rfl, hcc, hee⟩ := hvu.form
  have HU := Lib.hid hvu
  obtain ⟨cs, es⟩ := u
  obtain ⟨hk2, hk3⟩ := hsu
  simp only at hcc hee hk2 hk3 HR ⊢
  have HC := Lib.hid hcc; have HE := Lib.hid hee
  have HSE := Lib.hid hk3
  obtain ⟨nc, hnc⟩ : ∃ m, m = cs.length := ⟨_, rfl⟩
  obtain ⟨ne, hne⟩ : ∃ m, m = es.length := ⟨_, rfl⟩
  rw [← hnc] at HU HC hk2
  rw [← hne] at HU HE
  rw [← hnc, ← hne]
  have HNC := Lib.hid hnc; have HNE := Lib.hid hne
  clear hcc hee hnc hne hvu hk3
  have HV := Lib.hid hv
  obtain ⟨_, _, q, e0, hts⟩ := hv
  injection e0 with e0
  have e0 : vt = q := by
    have := congrArg (fun a => a.getD 1 undef) e0
    simpa using this
  subst e0
  obtain ⟨at_, ct, rfl, hxa, hz⟩ := hts
  clear hxa hz
  obtain ⟨m, hm⟩ : ∃ x, x = n.ts.length := ⟨_, rfl⟩
  rw [← hm] at HV ⊢
  clear hm
  obtain ⟨p, hp⟩ : ∃ x, x = n.places := ⟨_, rfl⟩
  rw [← hp] at HV ⊢
  have HPl := Lib.hid hp; clear hp
  have HS := Lib.hid hsm; clear hsm
  obtain ⟨W1, hW1⟩ : ∃ x, x = w.alloc (.cells #[.int .i64 p, .slice at_ m ct] 43) := ⟨_, rfl⟩
  obtain ⟨W, hW⟩ : ∃ x, x = W1.alloc (.cells #[.slice au nc ku, .slice aw ne kw] 38) := ⟨_, rfl⟩
  have s1 : W1.heap.size = w.heap.size + 1 := by rw [hW1]; simp
  have zW : W.heap.size = w.heap.size + 1 + 1 := by rw [hW]; simp [s1]
  have k2 : Carries 0 W1 W := by rw [hW]; exact (Carries.refl 0 _).alloc _
  have n0 : W1.cell? ⟨w.heap.size, 0, none⟩ = some (.int .i64 p) := by rw [hW1]; exact (cell_new2 rfl).1
  have n1 : W1.cell? ⟨w.heap.size, 1, none⟩ = some (.slice at_ m ct) := by rw [hW1]; exact (cell_new2 rfl).2
  have u0 : W.cell? ⟨w.heap.size + 1, 0, none⟩ = some (.slice au nc ku) := by rw [hW]; exact (cell_new2 s1.symm).1
  have u1 : W.cell? ⟨w.heap.size + 1, 1, none⟩ = some (.slice aw ne kw) := by rw [hW]; exact (cell_new2 s1.symm).2
  have n0 := cell_carry n0 k2
  have n1 := cell_carry n1 k2
  have hw0 : Below w.heap.size w W := by rw [hW, hW1]; (repeat' (first | (with_reducible exact Below.refl _ _) | (with_reducible assumption) | (with_reducible refine Below.alloc ?_ ?_ _) | (with_reducible refine Below.drew ?_) | (with_reducible refine below_drewN ?_ _) | (with_reducible refine Below.setCell ?_ ?_ _) | go_size))
  have hWW : W = (w.alloc (.cells #[.int .i64 p, .slice at_ m ct] 43)).alloc (.cells #[.slice au nc ku, .slice aw ne kw] 38) := by rw [hW, hW1]
  have HZW := Lib.hid zW
  clear k2 s1 zW hW hW1
  go_enter Tryz.func26, Tryz.ntmps26
  go_upto_region 1 with fail
  rw [← hWW]
  clear hWW
  go_wp2_with fail
  refine (l7Asked_any _ n s W lo (HV.out.keep (Carries.of lo hw0)) HS.out hs).mono ?_
  rintro e w1 ⟨rfl, hb1⟩
  have hw1 : Below w.heap.size w w1 := hw0.trans (hb1.mono hw0.size)
  have n0 := cell_carry n0 (Carries.of 0 hb1)
  have n1 := cell_carry n1 (Carries.of 0 hb1)
  have u0 := cell_carry u0 (Carries.of 0 hb1)
  have u1 := cell_carry u1 (Carries.of 0 hb1)
  have HZ1 : Hid (w.heap.size + 1 + 1 ≤ w1.heap.size) := by have := hb1.size; have := HZW.out; unfold Hid; omega
  clear hb1 hw0
  obtain ⟨b0, hb0⟩ : ∃ x, x = iuB n s := ⟨_, rfl⟩
  rw [← hb0]
  have HB0 := Lib.hid hb0; clear hb0
  cases b0 with
  | false =>
    have hr := HR.out
    rw [uvB_no HB0.out.symm] at hr
    subst hr
    go_wp2_with fail
    go_ret
    exact ⟨rfl, hw1⟩
  | true =>
  go_wp2_with fail
  refine (l7Limits_any _ ⟨cs, es⟩ w1 lo' (HU.out.keep (Carries.of lo' hw1))).mono ?_
  rintro e w2 ⟨rfl, hb2⟩
  have hw2 : Below w.heap.size w w2 := hw1.trans (hb2.mono hw1.size)
  have n0 := cell_carry n0 (Carries.of 0 hb2)
  have n1 := cell_carry n1 (Carries.of 0 hb2)
  have u0 := cell_carry u0 (Carries.of 0 hb2)
  have u1 := cell_carry u1 (Carries.of 0 hb2)
  have HZ2 : Hid (w.heap.size + 1 + 1 ≤ w2.heap.size) := by have := hb2.size; have := HZ1.out; unfold Hid; omega
  clear hb2 hw1
  by_cases hlim : ne ≤ 60 ∧ nc ≤ 200
  case neg =>
    have hr := HR.out
    rw [uvB_lim (by rw [HNC.out, HNE.out] at hlim; simp only; omega)] at hr
    subst hr
    have hl : limB ⟨cs, es⟩ = false := by
      unfold limB
      rw [HNC.out, HNE.out] at hlim
      cases h : (decide (es.length ≤ 60) && decide (cs.length ≤ 200)) with
      | false => rfl
      | true =>
        simp only [Bool.and_eq_true, decide_eq_true_eq] at h
        exact absurd h hlim
    rw [hl]; clear hl hlim
    go_wp2_with fail
    go_ret
    exact ⟨rfl, hw2⟩
  obtain ⟨h60, h200⟩ := hlim
  have hl : limB ⟨cs, es⟩ = true := by
    unfold limB
    rw [← HNC.out, ← HNE.out, decide_eq_true h60, decide_eq_true h200]; rfl
  rw [hl]; clear hl
  have hgood := iuB_good HB0.out.symm
  have HG := Lib.hid hgood.1; clear hgood
  have HBL := Lib.hid (born_len HB0.out.symm)
  have hpz : (s.size : Int) = p := by
    have := HB0.out.symm
    unfold iuB markB at this
    simp only [Bool.and_eq_true, decide_eq_true_eq] at this
    rw [HPl.out]; exact this.2.2
  subst hpz
  go_wp2_with fail
  refine (l7Made_nil (.slice at_ m ct) rfl s w2 hs).mono ?_
  rintro e w3 ⟨vc, rfl, hrc, hb3⟩
  have hw3 : Below w.heap.size w w3 := hw2.trans (hb3.mono hw2.size)
  have n0 := cell_carry n0 (Carries.of 0 hb3)
  have n1 := cell_carry n1 (Carries.of 0 hb3)
  have u0 := cell_carry u0 (Carries.of 0 hb3)
  have u1 := cell_carry u1 (Carries.of 0 hb3)
  have HZ3 : Hid (w.heap.size + 1 + 1 ≤ w3.heap.size) := by have := hb3.size; have := HZ2.out; unfold Hid; omega
  obtain ⟨ac, kc, rfl⟩ := hrc.form
  have HRC := Lib.hid hrc.at
  clear hb3 hrc hw2
  obtain ⟨nb, hnb⟩ : ∃ x, x = (bornTo s s.size).length := ⟨_, rfl⟩
  rw [← hnb] at HRC ⊢
  have HNB := Lib.hid hnb; clear hnb
  go_upto_region 4 with fail
  obtain ⟨O, hO⟩ : ∃ x, x = w3.heap.size := ⟨_, rfl⟩
  obtain ⟨W4, hW4⟩ : ∃ x, x = w3.alloc (.cells #[.slice ac nb kc, .slice none 0 0] 38) := ⟨_, rfl⟩
  have hb4 : Below w3.heap.size w3 W4 := by rw [hW4]; exact (Below.refl _ _).alloc (Nat.le_refl _) _
  have hw4 : Below w.heap.size w W4 := hw3.trans (hb4.mono hw3.size)
  have n0 := cell_carry n0 (Carries.of 0 hb4)
  have n1 := cell_carry n1 (Carries.of 0 hb4)
  have u0 := cell_carry u0 (Carries.of 0 hb4)
  have u1 := cell_carry u1 (Carries.of 0 hb4)
  have o0 : W4.cell? ⟨O, 0, none⟩ = some (.slice ac nb kc) := by rw [hW4]; exact (cell_new2 hO).1
  have o1 : W4.cell? ⟨O, 1, none⟩ = some (.slice none 0 0) := by rw [hW4]; exact (cell_new2 hO).2
  have oT : TyAt W4 O 38 := by rw [hW4, hO]; exact TyAt.new _ _ _
  have of_ : ∀ i, W4.frozen? ⟨O, i, none⟩ = false := fun i => by rw [hW4, hO]; simp
  have HNOW : Hid (NowAt O W4 (bornTo s s.size) []) := ⟨_, _, o0, o1, ⟨_, _, rfl, (HRC.out.keep (Carries.of _ hb4)).low (Nat.zero_le _), ⟨none, 0, rfl, Nat.le_refl _, Or.inl rfl⟩⟩, of_, oT⟩
  rw [← hW4, ← hO]
  have HZO : Hid (w.heap.size + 1 + 1 ≤ O) := by rw [hO]; exact HZ3.out
  have HOW : Hid (O ≤ W4.heap.size) := Nat.le_of_lt oT.lt
  clear hW4 hO hb4 of_ oT HRC HZ1 HZ2 HZ3 hw3
  have HN0 := Lib.hid n0; have HN1 := Lib.hid n1; have HU0 := Lib.hid u0; have HU1 := Lib.hid u1
  have HW4 := Lib.hid hw4
  clear n0 n1 u0 hw4
  go_wp2_with fail
  clear o0 o1 u1
  go_loopw [28] (fun i wr => ∃ k : Nat, k ≤ ne ∧ i = .int .i64 k ∧ Hid (∀ j, j < k → stepOk n (bornTo s s.size) es j = true) ∧ Hid (NowAt O wr (hisTo n (bornTo s s.size) es k).cs (hisTo n (bornTo s s.size) es k).es) ∧ Hid (Below O W4 wr)) (fun i _ => ne - (intOf i).toNat)
  case atStart => exact ⟨0, Nat.zero_le _, rfl, fun j hj => absurd hj (Nat.not_lt_zero _), HNOW.out, Below.refl _ _⟩
  case round =>
    obtain ⟨k, hk, rfl, hall, hnow, hYr⟩ := hrel
    have hwr : Below w.heap.size w wr := HW4.out.trans (hYr.out.mono (by have := HZO.out; omega))
    have low : ∀ b i v, b < O → W4.cell? ⟨b, i, none⟩ = some v → wr.cell? ⟨b, i, none⟩ = some v := fun b i v hb hc => (hYr.out.cell (p := ⟨b, i, none⟩) hb).trans hc
    have n0 := low _ _ _ (by have := HZO.out; omega) HN0.out
    have n1 := low _ _ _ (by have := HZO.out; omega) HN1.out
    have u0 := low _ _ _ (by have := HZO.out; omega) HU0.out
    have HWR := Lib.hid hwr
    clear low
    by_cases hlt : k < ne
    · have hkl : k < es.length := by rw [← HNE.out]; exact hlt
      obtain ⟨ao2, cap2, e0, hxa, hz⟩ := id HE.out
      rw [← HNE.out] at e0
      injection e0 with e1 e2 e3
      subst e1; subst e3
      clear e2 hxa
      rcases hz with hz0 | ⟨b, off, rfl, hlo, hcell⟩
      · exact absurd hkl (by rw [hz0]; exact Nat.not_lt_zero _)
      obtain ⟨x1, c0, c1, hx⟩ := hcell k hkl
      have d0 := Carries.of lo' hwr _ _ hlo c0
      have d1 := Carries.of lo' hwr _ _ hlo c1
      have hx := hx.keep (Carries.of lo' hwr)
      clear hcell c0 c1
      have hPl := HSE.out.2 k hkl
      have hG := hisTo_good (n := n) (s := s) (evs := es) k (by omega) hall.out
      have hC := hisTo_cs HG.out k hall.out
      have hEl := hisTo_len (n := n) (c0 := bornTo s s.size) (evs := es) k
      have hEV : ∀ j, j < (hisTo n (bornTo s s.size) es k).es.length → (evP (hisTo n (bornTo s s.size) es k).es j).length ≤ 1048576 := fun j hj => by
        rw [hEl] at hj
        rw [(hisTo_evP (Nat.le_of_lt hkl) hj).1]
        exact HSE.out.2 j (by omega)
      have hfs := fit_step (n := n) (s := s) (evs := es) HG.out (k := k) (by omega) hall.out (evT es k) (evP es k)
      obtain ⟨ok, hok⟩ : ∃ x, x = stepOk n (bornTo s s.size) es k := ⟨_, rfl⟩
      have hfs : fitB n (hisTo n (bornTo s s.size) es k).cs (hisTo n (bornTo s s.size) es k).es (evT es k) (evP es k) = ok := hfs.trans hok.symm
      obtain ⟨T, hT⟩ : ∃ x, x = evT es k := ⟨_, rfl⟩
      obtain ⟨L, hL⟩ : ∃ x, x = evP es k := ⟨_, rfl⟩
      have hst : hisTo n (bornTo s s.size) es (k + 1) = hisAdd n (hisTo n (bornTo s s.size) es k) T L := by rw [hT, hL]; rfl
      rw [← hT] at d0 hfs
      rw [← hL] at hx hPl hfs
      have HTT := Lib.hid hT; have HLL := Lib.hid hL; have HOK := Lib.hid hok; have HFS := Lib.hid hfs; have HST := Lib.hid hst; have HHG := Lib.hid hG; have HHC := Lib.hid hC; have HEL := Lib.hid hEl; have HEV := Lib.hid hEV
      clear hT hL hok hfs hst hG hC hEl hEV
      generalize hisTo n (bornTo s s.size) es k = x at hnow HFS HST HHG HHC HEL HEV
      have HX := Lib.hid hx
      obtain ⟨a2, k2, rfl, hxa, hxb⟩ := hx
      clear hxa hxb
      obtain ⟨nL, hnL⟩ : ∃ x, x = L.length := ⟨_, rfl⟩
      rw [← hnL] at d1 HX
      have HNL := Lib.hid hnL; clear hnL
      obtain ⟨vc, ve, o0, o1, hun, hof, hoT⟩ := hnow.out
      clear hnow
      obtain ⟨ca, ck, ea, ek, e0, hun1, hun2⟩ := hun.form
      injection e0 with e0
      obtain ⟨rfl, rfl⟩ : vc = .slice ca x.cs.length ck ∧ ve = .slice ea x.es.length ek := by
        have h0 := congrArg (fun a => a.getD 0 undef) e0
        have h1 := congrArg (fun a => a.getD 1 undef) e0
        exact ⟨by simpa using h0, by simpa using h1⟩
      clear e0 hun1 hun2
      obtain ⟨xc, hxc⟩ : ∃ y, y = x.cs.length := ⟨_, rfl⟩
      obtain ⟨xe, hxe⟩ : ∃ y, y = x.es.length := ⟨_, rfl⟩
      rw [← hxc] at o0 hun
      rw [← hxe] at o1 hun
      have HXC := Lib.hid hxc; have HXE := Lib.hid hxe
      have HUN := Lib.hid hun; have HOF := Lib.hid hof; have HOT := Lib.hid hoT
      clear hxc hxe hun hof hoT
      go_upto_region 7 with fail
      have hba : Below wr.heap.size wr (wr.alloc (.cells #[.int .i64 T, .slice a2 nL k2] 46)) := (Below.refl _ _).alloc (Nat.le_refl _) _
      have q0 : (wr.alloc (.cells #[.int .i64 T, .slice a2 nL k2] 46)).cell? ⟨wr.heap.size, 0, none⟩ = some (.int .i64 T) := (cell_new2 rfl).1
      have q1 : (wr.alloc (.cells #[.int .i64 T, .slice a2 nL k2] 46)).cell? ⟨wr.heap.size, 1, none⟩ = some (.slice a2 nL k2) := (cell_new2 rfl).2
      have n0 := cell_carry n0 (Carries.of 0 hba)
      have n1 := cell_carry n1 (Carries.of 0 hba)
      have o0 := cell_carry o0 (Carries.of 0 hba)
      have o1 := cell_carry o1 (Carries.of 0 hba)
      have HYA := Lib.hid (hYr.out.trans (hba.mono (by have := hYr.out.size; have := HOW.out; omega)))
      have HWA := Lib.hid (HWR.out.trans (hba.mono HWR.out.size))
      have HUN := Lib.hid (HUN.out.keep (Carries.of 0 hba))
      have HX := Lib.hid (HX.out.keep (Carries.of lo' hba))
      have HOTL := Lib.hid HOT.out.lt
      have HOT := Lib.hid (HOT.out.keep hba)
      have HOF : Hid (∀ i, (wr.alloc (.cells #[.int .i64 T, .slice a2 nL k2] 46)).frozen? ⟨O, i, none⟩ = false) := fun i => (hba.frozen (p := ⟨O, i, none⟩) HOTL.out).trans (HOF.out i)
      generalize wr.alloc (.cells #[.int .i64 T, .slice a2 nL k2] 46) = wa at q0 q1 n0 n1 o0 o1 HYA HWA HUN HX HOT HOF ⊢
      clear hba d0 d1 u0 hYr hwr
      go_wp2_with fail
      have hfit := l7Fits_any (.slice at_ m ct) _ _ n x.cs x.es T L wa lo 0 lo' (by rw [← HPl.out]; exact HV.out.keep (Carries.of lo HWA.out)) HUN.out HX.out HS.out (by have := HHC.out; have := HBL.out; omega) (by have := HEL.out; omega) HEV.out hPl HHG.out.m.by_ HHG.out.m.wf
      rw [← HPl.out] at hfit
      refine hfit.mono ?_
      rintro e w5 ⟨rfl, hb5⟩
      rw [HFS.out]
      have hY5 : Below O W4 w5 := HYA.out.trans (hb5.mono (by have := HYA.out.size; have := HOW.out; omega))
      have hW5 : Below w.heap.size w w5 := HWA.out.trans (hb5.mono HWA.out.size)
      cases ok with
      | false =>
        have hr := HR.out
        rw [uvB_run (runB_no hkl HOK.out.symm)] at hr
        subst hr
        go_wp2_with fail
        go_ret
        exact ⟨rfl, hW5⟩
      | true =>
        have htr := of_decide_eq_true (stepOk_tr HOK.out.symm)
        have hpo := post_len HG.out (stepOk_tr HOK.out.symm)
        rw [← HTT.out] at htr hpo
        obtain ⟨tn, rfl⟩ : ∃ tn : Nat, T = (tn : Int) := ⟨T.toNat, by omega⟩
        have htn : tn < n.ts.length := by omega
        have n0 := cell_carry n0 (Carries.of 0 hb5)
        have n1 := cell_carry n1 (Carries.of 0 hb5)
        have o0 := cell_carry o0 (Carries.of 0 hb5)
        have o1 := cell_carry o1 (Carries.of 0 hb5)
        have q0 := cell_carry q0 (Carries.of 0 hb5)
        have q1 := cell_carry q1 (Carries.of 0 hb5)
        have HUN5 := Lib.hid (HUN.out.keep (Carries.of 0 hb5))
        have HX5 := Lib.hid (HX.out.keep (Carries.of lo' hb5))
        have HY5 := Lib.hid hY5; have HW5 := Lib.hid hW5
        have hOT5 := HOT.out.keep hb5
        have hOF5 : ∀ i, w5.frozen? ⟨O, i, none⟩ = false := fun i => (hb5.frozen (p := ⟨O, i, none⟩) HOT.out.lt).trans (HOF.out i)
        have HOT5 := Lib.hid hOT5; have HOF5 := Lib.hid hOF5
        clear hb5 hY5 hW5 htr hOT5 hOF5
        go_wp2_with fail
        have hwith := l7With_any (.slice at_ m ct) _ _ n x.cs x.es tn L w5 lo 0 lo' (by rw [← HPl.out]; exact HV.out.keep (Carries.of lo HW5.out)) HUN5.out HX5.out htn hpo (by have := HHC.out; have := HBL.out; omega) (by have := HEL.out; omega) HEV.out hPl
        rw [← HPl.out] at hwith
        refine hwith.mono ?_
        rintro e w6 ⟨vn, rfl, hun6, hb6⟩
        have e6 : hisTo n (bornTo s s.size) es (k + 1) = hisAdd n x (tn : Int) L := HST.out
        obtain ⟨da, dk, fa, fk, e0, hun1, hun2⟩ := hun6.form
        subst e0
        have hY6 : Below O W4 w6 := HY5.out.trans (hb6.mono (by have := HY5.out.size; have := HOW.out; omega))
        have hOT6 := HOT5.out.keep hb6
        have hOF6 : ∀ i, w6.frozen? ⟨O, i, none⟩ = false := fun i => (hb6.frozen (p := ⟨O, i, none⟩) HOT5.out.lt).trans (HOF5.out i)
        have o0 := cell_carry o0 (Carries.of 0 hb6)
        have o1 := cell_carry o1 (Carries.of 0 hb6)
        have of0 := hOF6 0
        have of1 := hOF6 1
        have HO5 := Lib.hid HOT5.out.lt
        simp only at hun1 hun2 hun6 ⊢
        generalize hd0 : (x.cs ++ madeBy n (tn : Int) x.es.length).length = d0 at hun1 hun6 ⊢
        generalize hd1 : (x.es ++ [((tn : Int), L)]).length = d1 at hun2 hun6 ⊢
        have HD0 := Lib.hid hd0; have HD1 := Lib.hid hd1
        have HU6 := Lib.hid hun6
        clear hun1 hun2 hun6 hd0 hd1 hb6
        have HNX : Hid (NowAt O ((w6.setCell ⟨O, 0, none⟩ (.slice da d0 dk)).setCell ⟨O, 1, none⟩ (.slice fa d1 fk)) (hisTo n (bornTo s s.size) es (k + 1)).cs (hisTo n (bornTo s s.size) es (k + 1)).es) := by
          refine ⟨_, _, cell_set_far (World.cell?_setCell_same _ _ _ o0) (by decide), World.cell?_setCell_same _ _ _ (cell_set_far o1 (by decide)), ?_, fun i => by rw [World.frozen?_setCell, World.frozen?_setCell]; exact hOF6 i, (hOT6.set _ _).set _ _⟩
          rw [e6]
          refine UnfAt.low (lo := w5.heap.size) (HU6.out.keep ?_) (Nat.zero_le _)
          have := HO5.out
          exact Carries.set (Carries.set (Carries.refl _ _) (by simpa using this) _) (by simpa using this) _
        have HY7 := Lib.hid ((hY6.setCell (p := ⟨O, 0, none⟩) (Nat.le_refl _) (.slice da d0 dk)).setCell (p := ⟨O, 1, none⟩) (Nat.le_refl _) (.slice fa d1 fk))
        have HALL : Hid (∀ j, j < k + 1 → stepOk n (bornTo s s.size) es j = true) := fun j hj => by
          by_cases e : j = k
          · subst e; exact HOK.out.symm
          · exact hall.out j (by omega)
        clear hOF6 hOT6 hY6
        go_wp2_with fail
        go_roundw
        case rel => exact ⟨k + 1, by omega, by go_num, HALL, HNX, HY7⟩
        case measure => first | (simp [intOf]; omega) | simp [intOf]
    · have hkk : k = ne := by omega
      subst hkk
      have hrun : runB n (bornTo s s.size) es = true := runB_yes (by rw [← HNE.out]; exact hall.out)
      have HRUN := Lib.hid hrun; clear hrun
      have hfin : finC n s ⟨cs, es⟩ = (hisTo n (bornTo s s.size) es k).cs := by unfold finC; simp only; rw [← HNE.out]
      have hC := hisTo_cs HG.out k hall.out
      have HFIN := Lib.hid hfin; clear hfin
      have HHC := Lib.hid hC; clear hC
      generalize hisTo n (bornTo s s.size) es k = x at hnow HFIN HHC
      obtain ⟨vc, ve, o0, o1, hun, hof, hoT⟩ := hnow.out
      clear hnow hof hoT
      obtain ⟨ca, ck, ea, ek, e0, hun1, hun2⟩ := hun.form
      injection e0 with e0
      obtain ⟨rfl, rfl⟩ : vc = .slice ca x.cs.length ck ∧ ve = .slice ea x.es.length ek := by
        have h0 := congrArg (fun a => a.getD 0 undef) e0
        have h1 := congrArg (fun a => a.getD 1 undef) e0
        exact ⟨by simpa using h0, by simpa using h1⟩
      clear e0 hun hun2 o1
      obtain ⟨xc, hxc⟩ : ∃ y, y = x.cs.length := ⟨_, rfl⟩
      simp only at hun1
      rw [← hxc] at o0 hun1
      have HXC := Lib.hid hxc; clear hxc
      have HUC := Lib.hid hun1; clear hun1
      by_cases hlen : xc = nc
      case neg =>
        have hr := HR.out
        rw [uvB_cs (by rw [HFIN.out]; simp only; intro q; apply hlen; rw [HXC.out, HNC.out, q])] at hr
        subst hr
        have t1 : ((xc : Int) != (nc : Int)) = true := by rw [bne_iff_ne]; omega
        go_wp2_with fail
        go_ret
        exact ⟨rfl, hwr⟩
      subst hlen
      have tnl : ((xc : Int) != (xc : Int)) = false := by simp
      obtain ⟨W6, hW6⟩ : ∃ y, y = wr := ⟨_, rfl⟩
      subst hW6
      clear hwr hYr n0 n1
      have HO0 := Lib.hid o0; have HU0 := Lib.hid u0
      go_wp2_with fail
      clear o0 u0
      go_loopw [52] (fun i wi => ∃ j : Nat, j ≤ xc ∧ i = .int .i64 j ∧ Hid (x.cs.take j = cs.take j) ∧ Below W6.heap.size W6 wi) (fun i _ => xc - (intOf i).toNat)
      case atStart => exact ⟨0, Nat.zero_le _, rfl, rfl, Below.refl _ _⟩
      case round =>
        obtain ⟨j, hj, rfl, htk, hbi⟩ := hrel
        by_cases hlt : j < xc
        · have hj1 : j < x.cs.length := by rw [← HXC.out]; exact hlt
          have hj2 : j < cs.length := by rw [← HNC.out]; exact hlt
          obtain ⟨ao2, cap2, e0, hxa, hz⟩ := id HUC.out
          rw [← HXC.out] at e0
          injection e0 with e1 e2 e3
          subst e1; subst e3
          clear e2 hxa
          rcases hz with hz0 | ⟨b, off, rfl, hlo, hcell⟩
          · exact absurd hj1 (by rw [hz0]; exact Nat.not_lt_zero _)
          obtain ⟨ao3, cap3, e0, hxa, hz⟩ := id HC.out
          rw [← HNC.out] at e0
          injection e0 with e1 e2 e3
          subst e1; subst e3
          clear e2 hxa
          rcases hz with hz0 | ⟨b', off', rfl, hlo', hcell'⟩
          · exact absurd hj2 (by rw [hz0]; exact Nat.not_lt_zero _)
          obtain ⟨c0, c1⟩ := hcell j hj1
          obtain ⟨e0, e1⟩ := hcell' j hj2
          have hwi : Below w.heap.size w wr := HWR.out.trans (hbi.mono HWR.out.size)
          have d0 := Carries.of 0 hbi _ _ (Nat.zero_le _) c0
          have d1 := Carries.of 0 hbi _ _ (Nat.zero_le _) c1
          have d2 := Carries.of lo' hwi _ _ hlo' e0
          have d3 := Carries.of lo' hwi _ _ hlo' e1
          have u0 := cell_carry HU0.out (Carries.of 0 hbi)
          clear hcell hcell' c0 c1 e0 e1
          have HK : Hid ((cnP x.cs j, cnB x.cs j) = (cnP cs j, cnB cs j) ↔ x.cs[j] = cs[j]) := by rw [cn_getD hj1, cn_getD hj2]; exact Iff.rfl
          dsimp only at d0 d1 d2 d3
          generalize cnP x.cs j = x0 at d0 HK
          generalize cnB x.cs j = x1 at d1 HK
          generalize cnP cs j = y0 at d2 HK
          generalize cnB cs j = y1 at d3 HK
          go_upto_region 16 with fail
          have hba : Below wr.heap.size wr (wr.alloc (.cells #[.int .i64 x0, .int .i64 x1] 96)) := (Below.refl _ _).alloc (Nat.le_refl _) _
          have q0 : (wr.alloc (.cells #[.int .i64 x0, .int .i64 x1] 96)).cell? ⟨wr.heap.size, 0, none⟩ = some (.int .i64 x0) := (cell_new2 rfl).1
          have q1 : (wr.alloc (.cells #[.int .i64 x0, .int .i64 x1] 96)).cell? ⟨wr.heap.size, 1, none⟩ = some (.int .i64 x1) := (cell_new2 rfl).2
          have d2 := cell_carry d2 (Carries.of 0 hba)
          have d3 := cell_carry d3 (Carries.of 0 hba)
          have u0 := cell_carry u0 (Carries.of 0 hba)
          have hba2 : Below W6.heap.size W6 (wr.alloc (.cells #[.int .i64 x0, .int .i64 x1] 96)) := hbi.trans (hba.mono hbi.size)
          generalize wr.alloc (.cells #[.int .i64 x0, .int .i64 x1] 96) = wa at q0 q1 d2 d3 u0 hba hba2 ⊢
          generalize wr.heap.size = EB at q0 q1 ⊢
          have HBA := Lib.hid hba2
          clear hba hba2 d0 d1 hbi hwi
          by_cases hd : (x0, x1) = (y0, y1)
          · have hs_ := Lib.hid (take_succ_of' hj1 hj2 htk.out (HK.out.1 hd))
            injection hd with h0 h1
            subst h0; subst h1
            go_wp2_with fail
            go_quiet (fail)
            have hbd : Below W6.heap.size W6 (wa.drewN nq) := by have h := HBA.out; (repeat' (first | (with_reducible exact Below.refl _ _) | (with_reducible assumption) | (with_reducible refine Below.alloc ?_ ?_ _) | (with_reducible refine Below.drew ?_) | (with_reducible refine below_drewN ?_ _) | (with_reducible refine Below.setCell ?_ ?_ _) | go_size))
            go_wp2_with fail
            go_roundw
            case rel => exact ⟨j + 1, by omega, by go_num, hs_, hbd⟩
            case measure => first | (simp [intOf]; omega) | simp [intOf]
          · have hne : ¬ x.cs[j] = cs[j] := fun q => hd (HK.out.2 q)
            have hne2 : x.cs ≠ cs := list_ne_of' hj1 hj2 hne
            have hr := HR.out
            rw [uvB_cs (by rw [HFIN.out]; exact hne2)] at hr
            subst hr
            clear hne hne2
            by_cases h0 : x0 = y0
            · subst h0
              have h1 : (x1 == y1) = false := by rw [beq_eq_false_iff_ne]; intro q; subst q; exact hd rfl
              have h2 : ¬ x1 = y1 := fun q => hd (by rw [q])
              clear hd
              go_wp2_with fail
              go_quiet (fail)
              have hbd : Below W6.heap.size W6 (wa.drewN nq) := by have h := HBA.out; (repeat' (first | (with_reducible exact Below.refl _ _) | (with_reducible assumption) | (with_reducible refine Below.alloc ?_ ?_ _) | (with_reducible refine Below.drew ?_) | (with_reducible refine below_drewN ?_ _) | (with_reducible refine Below.setCell ?_ ?_ _) | go_size))
              have hwd := HWR.out.trans (hbd.mono HWR.out.size)
              go_wp2_with fail
              go_ret
              exact ⟨rfl, hwd⟩
            · have h1 : (x0 == y0) = false := by rw [beq_eq_false_iff_ne]; exact h0
              clear hd
              go_wp2_with fail
              go_quiet (fail)
              have hbd : Below W6.heap.size W6 (wa.drewN nq) := by have h := HBA.out; (repeat' (first | (with_reducible exact Below.refl _ _) | (with_reducible assumption) | (with_reducible refine Below.alloc ?_ ?_ _) | (with_reducible refine Below.drew ?_) | (with_reducible refine below_drewN ?_ _) | (with_reducible refine Below.setCell ?_ ?_ _) | go_size))
              have hwd := HWR.out.trans (hbd.mono HWR.out.size)
              go_wp2_with fail
              go_ret
              exact ⟨rfl, hwd⟩
        · have hjj : j = xc := by omega
          subst hjj
          have h1 := htk.out
          rw [List.take_of_length_le (by rw [← HXC.out]; exact Nat.le_refl _), List.take_of_length_le (by rw [← HNC.out]; exact Nat.le_refl _)] at h1
          have hr := HR.out
          rw [uvB_yes HB0.out.symm (by simp only; rw [← HNE.out]; exact h60) HRUN.out (by simp only; rw [← HNC.out]; exact h200) (by rw [HFIN.out]; exact h1)] at hr
          subst hr
          go_wp2_with fail
          go_ret
          exact ⟨rfl, HWR.out.trans (hbi.mono HWR.out.size)⟩

end Go.Proofs.YtigkgfdnnfmmmaaGreat
