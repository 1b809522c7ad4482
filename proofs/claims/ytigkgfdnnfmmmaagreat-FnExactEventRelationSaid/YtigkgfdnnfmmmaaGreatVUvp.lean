/- WALKS: replay, readHistory, IsValidUnfolding of the program. -/
import Derived.Test.YtigkgfdnnfmmmaaGreatVHad
import Derived.Test.YtigkgfdnnfmmmaaGreatVUvl
namespace Go.Proofs.YtigkgfdnnfmmmaaGreat
open Go.RowKit

def hisAll (n : NetD) (s : ByteArray) (evs : List Ev) : His := hisTo n (bornTo s s.size) evs evs.length
/-- the events can be replayed -/
def rpB (n : NetD) (s : ByteArray) (evs : List Ev) : Bool := iuB n s && (decide (evs.length ≤ 60) && (runB n (bornTo s s.size) evs && decide ((hisAll n s evs).cs.length ≤ 200)))
theorem uvB_rp (n : NetD) (s : ByteArray) (u : UnfD) : uvB n s u = (rpB n s u.es && decide ((hisAll n s u.es).cs = u.cs)) := by
  unfold uvB rpB finC hisAll
  simp only [Bool.and_assoc]

theorem rpB_cs {n : NetD} {s : ByteArray} {evs : List Ev} (h : rpB n s evs = true) : (hisAll n s evs).cs.length ≤ 200 := by
  unfold rpB at h
  simp only [Bool.and_eq_true] at h
  exact of_decide_eq_true h.2.2.2
theorem net_form {lo : Nat} {w : World} {v : Value} {n : NetD} (h : NetAt lo w v n) : ∃ a c, v = .agg #[.int .i64 n.places, .slice a n.ts.length c] := by
  obtain ⟨_, _, u, rfl, ⟨a, c, rfl, _, _⟩⟩ := h
  exact ⟨a, c, rfl⟩

/-- a history that a call has made: its rows lie behind what stood at some world within the call -/
def HisOf (w : World) (n : NetD) (vt : Value) (x : His) (H : Nat) (w' : World) : Prop :=
  ∃ (w0 : World) (vc ve vp vu : Value), Below w.heap.size w w0 ∧ Below w0.heap.size w0 w' ∧ HisAt w0.heap.size H w' n.places vt vc ve vp vu x.cs x.es x.ps x.us
theorem HisOf.below {w : World} {n : NetD} {vt : Value} {x : His} {H : Nat} {w' : World} (h : HisOf w n vt x H w') : Below w.heap.size w w' := by
  obtain ⟨w0, _, _, _, _, h1, h2, _⟩ := h
  exact h1.trans (h2.mono h1.size)
/-- a call returns the history of these events, and whether there is one -/
def RetHis (w : World) (n : NetD) (vt : Value) (x : His) (b : Bool) (e : Ending) (w' : World) : Prop :=
  ∃ p, e = .returned (.tuple #[.pointer p, .bool b]) ∧ Below w.heap.size w w' ∧ (b = true → ∃ H, p = some ⟨H, 0, none⟩ ∧ HisOf w n vt x H w')

set_option maxRecDepth 100000 in
set_option maxHeartbeats 4000000 in
theorem replay_any (vt : Value) (n : NetD) (s : ByteArray) (v : Value) (evs : List Ev) (w : World) (lo lo' : Nat) (hv : NetAt lo w (.agg #[.int .i64 n.places, vt]) n) (hve : EvsAt lo' w v evs) (hsm : SmallTrs n.ts) (hse : SmallEvs evs) (hs : s.size ≤ 1048576) :
    Calls Tryz.prog 62 #[.agg #[.int .i64 n.places, vt], .string s, v] w (RetHis w n vt (hisAll n s evs) (rpB n s evs)) := by
  obtain ⟨R, hR⟩ : ∃ x, x = rpB n s evs := ⟨_, rfl⟩
  rw [← hR]
  have HR := Lib.hid hR; clear hR
  have hv' := hv
  obtain ⟨hp0, hp1, q, e0, ht⟩ := hv'
  injection e0 with e0
  have e0 : vt = q := by
    have := congrArg (fun a => a.getD 1 undef) e0
    simpa using this
  subst e0
  obtain ⟨ao, cap, rfl, hxa, hxb⟩ := ht
  clear hxa hxb
  have HVE := Lib.hid hve
  obtain ⟨ae, ke, rfl, hxa, hze⟩ := hve
  have HZE := Lib.hid hze; clear hxa hze
  have HSE := Lib.hid hse; clear hse
  obtain ⟨p, hp⟩ : ∃ p, p = n.places := ⟨_, rfl⟩
  obtain ⟨m, hm⟩ : ∃ m, m = n.ts.length := ⟨_, rfl⟩
  obtain ⟨ne, hne⟩ : ∃ m, m = evs.length := ⟨_, rfl⟩
  rw [← hp, ← hm] at hv
  rw [← hne] at HVE HZE
  rw [← hp, ← hm, ← hne]
  have HPl := Lib.hid hp
  have HM := Lib.hid hm
  have HNE := Lib.hid hne
  clear hp0 hp1 hp hm hne
  have HV := Lib.hid hv; clear hv
  have HS := Lib.hid hsm; clear hsm
  go_enter Tryz.func62, Tryz.ntmps62
  go_wp2_with fail
  refine (IsValidMarking_any _ n s _ lo (HV.out.keep ?_) HS.out hs).mono ?_
  · (repeat' (first | (with_reducible exact Carries.refl _ _) | (with_reducible assumption) | (with_reducible refine Carries.alloc ?_ _) | (with_reducible refine Carries.drew ?_) | (with_reducible refine Carries.drewN ?_ _) | (with_reducible refine Carries.set ?_ ?_ _) | go_size))
  rintro e w1 ⟨rfl, hb⟩
  have hw1 : Below w.heap.size w w1 := by
    refine Below.trans ?_ (hb.mono ?_)
    · (repeat' (first | (with_reducible exact Below.refl _ _) | (with_reducible assumption) | (with_reducible refine Below.alloc ?_ ?_ _) | (with_reducible refine Below.drew ?_) | (with_reducible refine below_drewN ?_ _) | (with_reducible refine Below.setCell ?_ ?_ _) | go_size))
    · simp
  have a0 : w1.cell? ⟨w.heap.size, 0, none⟩ = some (.int .i64 p) := cell_carry (by simp) (Carries.of 0 hb)
  have a1 : w1.cell? ⟨w.heap.size, 1, none⟩ = some (.slice ao m cap) := cell_carry (by simp) (Carries.of 0 hb)
  clear hb
  obtain ⟨b0, hb0⟩ : ∃ x, x = iuB n s := ⟨_, rfl⟩
  have hq : (goodN n && markB n s) = b0 := hb0.symm
  rw [hq]; clear hq
  have HB0 := Lib.hid hb0; clear hb0
  cases b0 with
  | false =>
    have hr := HR.out
    unfold rpB at hr
    rw [← HB0.out, Bool.false_and] at hr
    subst hr
    go_wp2_with fail
    go_ret2
    exact ⟨_, rfl, hw1, fun h => by cases h⟩
  | true =>
  by_cases h60 : ne ≤ 60
  case neg =>
    have hr := HR.out
    unfold rpB at hr
    rw [← HB0.out, decide_eq_false (by rw [← HNE.out]; exact h60)] at hr
    simp only [Bool.false_and, Bool.true_and] at hr
    subst hr
    have t1 : decide ((60 : Int) < (ne : Int)) = true := decide_eq_true (by omega)
    go_wp2_with fail
    go_ret2
    exact ⟨_, rfl, hw1, fun h => by cases h⟩
  have t1 : decide ((60 : Int) < (ne : Int)) = false := decide_eq_false (by omega)
  have hgood := iuB_good HB0.out.symm
  have HG := Lib.hid hgood.1; clear hgood
  have HBL := Lib.hid (born_len HB0.out.symm)
  have hpz : (s.size : Int) = p := by
    have := HB0.out.symm
    unfold iuB markB at this
    simp only [Bool.and_eq_true, decide_eq_true_eq] at this
    rw [HPl.out]; exact this.2.2
  subst hpz
  go_wp2_with fail
  refine (newHistory_any (.slice ao m cap) rfl s w1 hs).mono ?_
  rintro e w2 ⟨H, vc0, vu0, rfl, hH0, hb2⟩
  have hw2 : Below w.heap.size w w2 := hw1.trans (hb2.mono hw1.size)
  have a0 := cell_carry a0 (Carries.of 0 hb2)
  have a1 := cell_carry a1 (Carries.of 0 hb2)
  rw [HPl.out] at hH0
  have HH0 := Lib.hid hH0; clear hH0
  have HB2 := Lib.hid hb2; clear hb2
  obtain ⟨B, hB⟩ : ∃ x, x = w1.heap.size := ⟨_, rfl⟩
  rw [← hB] at HH0 HB2
  have HBB := Lib.hid hB; clear hB
  have HEV := Lib.hid (HVE.out.keep (Carries.of lo' hw1))
  have HNV := Lib.hid (HV.out.keep (Carries.of lo hw1))
  have HW1 := Lib.hid hw1
  have HZE1 : Hid (ne = 0 ∨ ∃ b off, ae = some ⟨b, off, none⟩ ∧ lo' ≤ b ∧ ∀ i, i < ne → ∃ v1, w1.cell? ⟨b, off + i * 2, none⟩ = some (.int .i64 (evT evs i)) ∧ w1.cell? ⟨b, off + i * 2 + 1, none⟩ = some v1 ∧ IntsAt lo' w1 v1 (evP evs i)) := by
    rcases HZE.out with h0 | ⟨b, off, rfl, hlo, hcell⟩
    · exact Or.inl h0
    · refine Or.inr ⟨b, off, rfl, hlo, fun i hi => ?_⟩
      obtain ⟨v1, c0, c1, ht⟩ := hcell i hi
      exact ⟨v1, Carries.of lo' hw1 _ _ hlo c0, Carries.of lo' hw1 _ _ hlo c1, ht.keep (Carries.of lo' hw1)⟩
  clear HZE HV HVE hw1 hw2
  go_wp2_with fail
  go_loopw [25] (fun i wr => ∃ k : Nat, k ≤ ne ∧ i = .int .i64 k ∧ Hid (∀ j, j < k → stepOk n (bornTo s s.size) evs j = true) ∧ Hid (∃ vc ve vp vu, HisAt B H wr n.places (.slice ao m cap) vc ve vp vu (hisTo n (bornTo s s.size) evs k).cs (hisTo n (bornTo s s.size) evs k).es (hisTo n (bornTo s s.size) evs k).ps (hisTo n (bornTo s s.size) evs k).us) ∧ Hid (Below B w1 wr)) (fun i _ => ne - (intOf i).toNat)
  case atStart => exact ⟨0, Nat.zero_le _, rfl, fun j hj => absurd hj (Nat.not_lt_zero _), ⟨_, _, _, _, HH0.out⟩, HB2.out⟩
  case round =>
    obtain ⟨k, hk, rfl, hall, hH, hBr⟩ := hrel
    by_cases hlt : k < ne
    · rcases HZE1.out with h0 | ⟨b, off, rfl, hlo, hcell⟩
      · exact absurd hlt (by rw [h0]; exact Nat.not_lt_zero _)
      obtain ⟨v1, c0, c1, hx⟩ := hcell k hlt
      clear hcell
      have hw1r : Below w1.heap.size w1 wr := by rw [← HBB.out]; exact hBr.out
      have d0 := Carries.of lo' hw1r _ _ hlo c0
      have d1 := Carries.of lo' hw1r _ _ hlo c1
      have hkl : k < evs.length := by rw [← HNE.out]; exact hlt
      have hPl := HSE.out.2 k hkl
      have HX := Lib.hid hx
      obtain ⟨a2, k2, rfl, hxa, hxb⟩ := hx
      clear c0 c1 hxa hxb hw1r
      have HOK := Lib.hid (hisTo_ok HG.out (Nat.le_trans HBL.out (by decide)) HSE.out (Nat.le_of_lt hkl) (by omega) hall.out)
      have HCL := Lib.hid (hisTo_cs HG.out k hall.out)
      have HEL := Lib.hid (hisTo_len (n := n) (c0 := bornTo s s.size) (evs := evs) k)
      obtain ⟨T, hT⟩ : ∃ x, x = evT evs k := ⟨_, rfl⟩
      obtain ⟨L, hL⟩ : ∃ x, x = evP evs k := ⟨_, rfl⟩
      obtain ⟨ok, hok⟩ : ∃ x, x = stepOk n (bornTo s s.size) evs k := ⟨_, rfl⟩
      have hok2 : exB n (hisTo n (bornTo s s.size) evs k).cs (hisTo n (bornTo s s.size) evs k).es (hisTo n (bornTo s s.size) evs k).ps (hisTo n (bornTo s s.size) evs k).us T L = ok := by rw [hok, hT, hL]; rfl
      have hst : hisTo n (bornTo s s.size) evs (k + 1) = hisAdd n (hisTo n (bornTo s s.size) evs k) T L := by rw [hT, hL]; rfl
      rw [← hT] at d0
      rw [← hL] at d1 hPl HX
      have HT := Lib.hid hT; have HL := Lib.hid hL; have HOK1 := Lib.hid hok; have HOK2 := Lib.hid hok2; have HST := Lib.hid hst
      clear hT hL hok hok2 hst
      generalize hx0 : hisTo n (bornTo s s.size) evs k = x at HOK HCL HEL HOK2 HST hH
      have HX0 := Lib.hid hx0; clear hx0
      obtain ⟨vc, ve, vp, vu, hH1⟩ := hH.out
      have HH1 := Lib.hid hH1; clear hH1 hH
      obtain ⟨nL, hnL⟩ : ∃ x, x = L.length := ⟨_, rfl⟩
      rw [← hnL] at d1 HX
      have HNL := Lib.hid hnL; clear hnL
      go_wp2_with fail
      have hbA : Below wr.heap.size wr (wr.alloc (.cells #[.int .i64 T, .slice a2 nL k2] 46)) := (Below.refl _ _).alloc (Nat.le_refl _) _
      have hBA : Below B w1 (wr.alloc (.cells #[.int .i64 T, .slice a2 nL k2] 46)) := hBr.out.alloc (by rw [HBB.out]; exact hBr.out.size) _
      have q0 : (wr.alloc (.cells #[.int .i64 T, .slice a2 nL k2] 46)).cell? ⟨wr.heap.size, 0, none⟩ = some (.int .i64 T) := (cell_new2 rfl).1
      have q1 : (wr.alloc (.cells #[.int .i64 T, .slice a2 nL k2] 46)).cell? ⟨wr.heap.size, 1, none⟩ = some (.slice a2 nL k2) := (cell_new2 rfl).2
      have zA : wr.heap.size < (wr.alloc (.cells #[.int .i64 T, .slice a2 nL k2] 46)).heap.size := cell_old q0
      generalize wr.alloc (.cells #[.int .i64 T, .slice a2 nL k2] 46) = WA at hbA hBA q0 q1 zA ⊢
      have hwA : Below w1.heap.size w1 WA := by rw [← HBB.out]; exact hBA
      refine (isExtension_any B H WA n _ vc ve vp vu _ _ _ _ T _ L lo' lo (HH1.out.after hbA) (by rw [← HPl.out]; exact HNV.out.keep (Carries.of lo hwA)) HS.out (HX.out.keep (Carries.of lo' hwA)) hPl HOK.out).mono ?_
      rintro e w3 ⟨rfl, hb3⟩
      rw [HOK2.out]
      have hB3 : Below B w1 w3 := hBA.trans (hb3.mono (by have := hBA.size; have := HBB.out; omega))
      have q0 := cell_carry q0 (Carries.of 0 hb3)
      have q1 := cell_carry q1 (Carries.of 0 hb3)
      cases ok with
      | false =>
        have hr := HR.out
        unfold rpB at hr
        rw [runB_no hkl HOK1.out.symm] at hr
        simp only [Bool.false_and, Bool.and_false] at hr
        subst hr
        go_wp2_with fail
        go_ret2
        exact ⟨_, rfl, HW1.out.trans (hB3.mono (by rw [HBB.out]; exact HW1.out.size)), fun h => by cases h⟩
      | true =>
        have htr := of_decide_eq_true (stepOk_tr HOK1.out.symm)
        have hin := stepOk_in HOK1.out.symm
        have hpo := post_len HG.out (stepOk_tr HOK1.out.symm)
        rw [← HT.out] at htr hpo
        rw [← HL.out, HX0.out] at hin
        obtain ⟨tn, rfl⟩ : ∃ tn : Nat, T = (tn : Int) := ⟨T.toNat, by omega⟩
        have htn : tn < n.ts.length := by omega
        have HIN := Lib.hid hin; clear hin htr
        have HH3 := Lib.hid ((HH1.out.after hbA).after hb3)
        have hel : x.es.length ≤ 60 := by rw [HEL.out]; omega
        have hcl : x.cs.length ≤ 1000000 := by have := HCL.out; have := HBL.out; omega
        go_wp2_with fail
        refine (add_any B H w1 w3 n _ vc ve vp vu x tn _ L lo' lo HH3.out HBB.out.symm hB3 (by rw [← HPl.out]; exact HNV.out) HS.out HX.out hPl HOK.out hcl hel htn hpo HIN.out).mono ?_
        rintro e w4 ⟨rfl, hH4, hb4⟩
        have HB4 := Lib.hid (hB3.trans hb4)
        have HH4 : Hid (∃ vc ve vp vu, HisAt B H w4 n.places (.slice ao m cap) vc ve vp vu (hisTo n (bornTo s s.size) evs (k + 1)).cs (hisTo n (bornTo s s.size) evs (k + 1)).es (hisTo n (bornTo s s.size) evs (k + 1)).ps (hisTo n (bornTo s s.size) evs (k + 1)).us) := by
          unfold Hid
          rw [HST.out]; exact hH4
        have HALL : Hid (∀ j, j < k + 1 → stepOk n (bornTo s s.size) evs j = true) := fun j hj => by
          by_cases e : j = k
          · subst e; exact HOK1.out.symm
          · exact hall.out j (by omega)
        clear hH4 hb4 hb3 hbA hwA hBA
        go_wp2_with fail
        go_roundw
        case rel => exact ⟨k + 1, by omega, by go_num, HALL, HH4, HB4⟩
        case measure => first | (simp [intOf]; omega) | simp [intOf]
    · have hkk : k = ne := by omega
      subst hkk
      obtain ⟨vc, ve, vp, vu, hH1⟩ := hH.out
      have hrun : runB n (bornTo s s.size) evs = true := runB_yes (by rw [← HNE.out]; exact hall.out)
      have HEL := Lib.hid (hisTo_len (n := n) (c0 := bornTo s s.size) (evs := evs) k)
      have hr := HR.out
      unfold rpB hisAll at hr
      rw [← HB0.out, hrun, ← HNE.out, decide_eq_true h60] at hr
      simp only [Bool.true_and] at hr
      have HA : Hid (hisAll n s evs = hisTo n (bornTo s s.size) evs k) := by unfold Hid hisAll; rw [← HNE.out]
      generalize hx0 : hisTo n (bornTo s s.size) evs k = x at hr hH1 HA HEL
      have hlim : limB ⟨x.cs, x.es⟩ = R := by
        unfold limB
        rw [hr, decide_eq_true (by simp only; rw [HEL.out]; exact h60), Bool.true_and]
      have HLIM := Lib.hid hlim; clear hlim hr hx0
      have c2 := hH1.c2
      have c3 := hH1.c3
      have HUN := Lib.hid (show UnfAt B wr (.agg #[vc, ve]) ⟨x.cs, x.es⟩ from ⟨_, _, rfl, hH1.rc.at, hH1.re.at⟩)
      have HH1 := Lib.hid hH1; clear hH1 hH
      obtain ⟨ac, kc, rfl⟩ := HH1.out.rc.form
      obtain ⟨ae2, ke2, rfl⟩ := HH1.out.re.form
      go_wp2_with fail
      refine (isWithinLimits_any _ _ _ _ HUN.out).mono ?_
      rintro e w5 ⟨rfl, hb5⟩
      rw [HLIM.out]
      go_wp2_with fail
      go_ret2
      have hB5 : Below B w1 w5 := hBr.out.trans (hb5.mono (by have := hBr.out.size; have := HBB.out; omega))
      have g1 : Below w1.heap.size w1 w5 := by rw [← HBB.out]; exact hB5
      have g2 := HH1.out.after hb5
      rw [← HA.out, HBB.out] at g2
      exact ⟨_, rfl, HW1.out.trans (hB5.mono (by rw [HBB.out]; exact HW1.out.size)), fun _ => ⟨H, rfl, w1, _, _, _, _, HW1.out, g1, g2⟩⟩

set_option maxRecDepth 100000 in
set_option maxHeartbeats 4000000 in
theorem readHistory_any (vt : Value) (n : NetD) (s : ByteArray) (v : Value) (u : UnfD) (w : World) (lo lo' : Nat) (hv : NetAt lo w (.agg #[.int .i64 n.places, vt]) n) (hvu : UnfAt lo' w v u) (hsm : SmallTrs n.ts) (hsu : SmallUnf u) (hs : s.size ≤ 1048576) :
    Calls Tryz.prog 34 #[.agg #[.int .i64 n.places, vt], .string s, v] w (RetHis w n vt (hisAll n s u.es) (uvB n s u)) := by
  obtain ⟨R, hR⟩ : ∃ x, x = uvB n s u := ⟨_, rfl⟩
  rw [← hR]
  rw [uvB_rp] at hR
  have HR := Lib.hid hR; clear hR
  obtain ⟨a0, k0, a1, k1, rfl, hcc, hee⟩ := hvu.form
  obtain ⟨cs, es⟩ := u
  obtain ⟨k2, k3⟩ := hsu
  simp only at hcc hee k2 k3 HR ⊢
  obtain ⟨nc, hnc⟩ : ∃ m, m = cs.length := ⟨_, rfl⟩
  obtain ⟨ne, hne⟩ : ∃ m, m = es.length := ⟨_, rfl⟩
  rw [← hnc] at hcc k2
  rw [← hne] at hee
  rw [← hnc, ← hne]
  have HC := Lib.hid hcc; have HE := Lib.hid hee; have HSE := Lib.hid k3
  have HNC := Lib.hid hnc; have HNE := Lib.hid hne
  have HS := Lib.hid hsm
  clear hcc hee k3 hnc hne hvu hsm
  have hv' := hv
  obtain ⟨hp0, hp1, q, e0, ht⟩ := hv'
  injection e0 with e0
  have e0 : vt = q := by
    have := congrArg (fun a => a.getD 1 undef) e0
    simpa using this
  subst e0
  obtain ⟨ao, cap, rfl, hxa, hxb⟩ := ht
  obtain ⟨p, hp⟩ : ∃ p, p = n.places := ⟨_, rfl⟩
  obtain ⟨m, hm⟩ : ∃ m, m = n.ts.length := ⟨_, rfl⟩
  rw [← hm] at hv
  rw [← hp, ← hm]
  have HPl := Lib.hid hp
  have HM := Lib.hid hm
  have HV := Lib.hid hv
  clear hxa hxb hp0 hp1 hp hm hv
  obtain ⟨W, hW⟩ : ∃ x, x = (w.alloc (.cells #[.int .i64 p, .slice ao m cap] 43)).alloc (.cells #[.slice a0 nc k0, .slice a1 ne k1] 38) := ⟨_, rfl⟩
  have hw0 : Below w.heap.size w W := by rw [hW]; (repeat' (first | (with_reducible exact Below.refl _ _) | (with_reducible assumption) | (with_reducible refine Below.alloc ?_ ?_ _) | (with_reducible refine Below.drew ?_) | (with_reducible refine below_drewN ?_ _) | (with_reducible refine Below.setCell ?_ ?_ _) | go_size))
  have b0 : W.cell? ⟨w.heap.size + 1, 0, none⟩ = some (.slice a0 nc k0) := by rw [hW]; simp
  go_enter Tryz.func34, Tryz.ntmps34
  go_wp2_with (go_at_call 62; rw [← hW]; clear hW; rw [HPl.out]; refine (replay_any _ n s _ es W lo lo' (HV.out.keep (Carries.of lo hw0)) (HE.out.keep (Carries.of lo' hw0)) HS.out HSE.out hs).mono ?_)
  rintro e w1 ⟨ph, rfl, hb1, hhis⟩
  have hw1 : Below w.heap.size w w1 := hw0.trans (hb1.mono hw0.size)
  have b0 := cell_carry b0 (Carries.of 0 hb1)
  obtain ⟨r, hr⟩ : ∃ x, x = rpB n s es := ⟨_, rfl⟩
  rw [← hr] at hhis ⊢
  have hR := HR.out
  rw [← hr] at hR
  have HCS := Lib.hid (fun q : r = true => rpB_cs (hr.symm.trans q))
  clear hr
  cases r with
  | false =>
    rw [Bool.false_and] at hR
    subst hR
    go_wp2_with fail
    go_quiet (fail)
    go_wp2_with fail
    go_ret2
    exact ⟨_, rfl, by (repeat' (first | (with_reducible exact Below.refl _ _) | (with_reducible assumption) | (with_reducible refine Below.alloc ?_ ?_ _) | (with_reducible refine Below.drew ?_) | (with_reducible refine below_drewN ?_ _) | (with_reducible refine Below.setCell ?_ ?_ _) | go_size)), fun h => by cases h⟩
  | true =>
    obtain ⟨H, rfl, w0, vc, ve, vp, vu, hb2, hb3, hH⟩ := hhis rfl
    rw [Bool.true_and] at hR
    have c2 := hH.c2
    have HRC := Lib.hid hH.rc.at
    have hcl : (hisAll n s es).cs.length ≤ 1048576 := Nat.le_trans (HCS.out rfl) (by decide)
    have HH := Lib.hid hH; clear hH
    have HHI := Lib.hid hhis; clear hhis
    generalize hx0 : hisAll n s es = x at HRC HH HHI hR hcl
    have HX0 := Lib.hid hx0; clear hx0
    obtain ⟨ac, kc, rfl⟩ := HH.out.rc.form
    obtain ⟨nx, hnx⟩ : ∃ q, q = x.cs.length := ⟨_, rfl⟩
    rw [← hnx] at c2 HRC HH
    have HNX := Lib.hid hnx; clear hnx
    have HR2 := Lib.hid hR; clear hR
    go_wp2_with fail
    refine wp_region_held_drew (S := fun w' => w'.cell? ⟨H, 2, none⟩ = some (.slice ac nx kc) ∧ w'.cell? ⟨w.heap.size + 1, 0, none⟩ = some (.slice a0 nc k0)) (by kernel_rfl) ⟨c2, b0⟩ (fun hHeld => ?_)
    refine tk0 (v := ?_) (by kernel_rfl) (by kernel_rfl) (by kernel_rfl) (by first | exact fun _ _ _ h => h | exact fun _ _ _ h => absurd h.1 (by simp)) (Or.inl ⟨by rfl, ?_⟩) (by assumption) ?_
    rotate_left 1
    focus (intro wx hSw; (try dsimp only at hSw); go_simp; try (with_reducible rfl))
    try simp only [Act.put, List.setIfInBounds_toArray, List.set_cons_zero, List.set_cons_succ]
    refine tk1 (v := ?_) (by kernel_rfl) (by kernel_rfl) (by kernel_rfl) (by first | exact fun _ _ _ h => h | exact fun _ _ _ h => absurd h.1 (by simp)) (Or.inl ⟨by rfl, ?_⟩) (by assumption) ?_
    rotate_left 1
    focus (intro wx hSw; (try dsimp only at hSw); go_simp; try (with_reducible rfl))
    try simp only [Act.put, List.setIfInBounds_toArray, List.set_cons_zero, List.set_cons_succ]
    refine tk2 (v := ?_) (by kernel_rfl) (by kernel_rfl) (by kernel_rfl) (by first | exact fun _ _ _ h => h | exact fun _ _ _ h => absurd h.1 (by simp)) (Or.inl ⟨by rfl, ?_⟩) (by assumption) ?_
    rotate_left 1
    focus (intro wx hSw; (try dsimp only at hSw); go_simp; try (with_reducible rfl))
    try simp only [Act.put, List.setIfInBounds_toArray, List.set_cons_zero, List.set_cons_succ]
    refine tk3 (v := ?_) (by kernel_rfl) (by kernel_rfl) (by kernel_rfl) (by first | exact fun _ _ _ h => h | exact fun _ _ _ h => absurd h.1 (by simp)) (Or.inl ⟨by rfl, ?_⟩) (by assumption) ?_
    rotate_left 1
    focus (intro wx hSw; (try dsimp only at hSw); go_simp; try (with_reducible rfl))
    try simp only [Act.put, List.setIfInBounds_toArray, List.set_cons_zero, List.set_cons_succ]
    refine tk4 (v := ?_) (by kernel_rfl) (by kernel_rfl) (by kernel_rfl) (by first | exact fun _ _ _ h => h | exact fun _ _ _ h => absurd h.1 (by simp)) (Or.inl ⟨by rfl, ?_⟩) (by assumption) ?_
    rotate_left 1
    focus (intro wx hSw; (try dsimp only at hSw); go_simp; try (with_reducible rfl))
    try simp only [Act.put, List.setIfInBounds_toArray, List.set_cons_zero, List.set_cons_succ]
    refine tk5 (v := ?_) (by kernel_rfl) (by kernel_rfl) (by kernel_rfl) (by first | exact fun _ _ _ h => h | exact fun _ _ _ h => absurd h.1 (by simp)) (Or.inl ⟨by rfl, ?_⟩) (by assumption) ?_
    rotate_left 1
    focus (intro wx hSw; (try dsimp only at hSw); go_simp; try (with_reducible rfl))
    try simp only [Act.put, List.setIfInBounds_toArray, List.set_cons_zero, List.set_cons_succ]
    refine tk6 (v := ?_) (by kernel_rfl) (by kernel_rfl) (by kernel_rfl) (by first | exact fun _ _ _ h => h | exact fun _ _ _ h => absurd h.1 (by simp)) (Or.inl ⟨by rfl, ?_⟩) (by assumption) ?_
    rotate_left 1
    focus (intro wx hSw; (try dsimp only at hSw); go_simp; try (with_reducible rfl))
    try simp only [Act.put, List.setIfInBounds_toArray, List.set_cons_zero, List.set_cons_succ]
    refine tk7 (v := ?_) (by kernel_rfl) (by kernel_rfl) (by kernel_rfl) (by first | exact fun _ _ _ h => h | exact fun _ _ _ h => absurd h.1 (by simp)) (Or.inl ⟨by rfl, ?_⟩) (by assumption) ?_
    rotate_left 1
    focus (intro wx hSw; (try dsimp only at hSw); go_simp; try (with_reducible rfl))
    try simp only [Act.put, List.setIfInBounds_toArray, List.set_cons_zero, List.set_cons_succ]
    refine tk8 (v := ?_) (by kernel_rfl) (by kernel_rfl) (by kernel_rfl) (by first | exact fun _ _ _ h => h | exact fun _ _ _ h => absurd h.1 (by simp)) (Or.inl ⟨by rfl, ?_⟩) (by assumption) ?_
    rotate_left 1
    focus (intro wx hSw; (try dsimp only at hSw); go_simp; try (with_reducible rfl))
    try simp only [Act.put, List.setIfInBounds_toArray, List.set_cons_zero, List.set_cons_succ]
    refine tk9 (v := ?_) (by kernel_rfl) (by kernel_rfl) (by kernel_rfl) (by first | exact fun _ _ _ h => h | exact fun _ _ _ h => absurd h.1 (by simp)) (Or.inl ⟨by rfl, ?_⟩) (by assumption) ?_
    rotate_left 1
    focus (intro wx hSw; (try dsimp only at hSw); go_simp; try (with_reducible rfl))
    try simp only [Act.put, List.setIfInBounds_toArray, List.set_cons_zero, List.set_cons_succ]
    refine rd10 (by kernel_rfl) (fun K hK => ?_)
    go_simp
    have hbd : Below w1.heap.size w1 w1.drew := (Below.refl _ _).drew
    refine (EqualCnds_any _ _ x.cs cs w1.drew _ _ (HRC.out.keep (Carries.of _ hbd)) (HC.out.keep (Carries.of lo' (hw1.trans (hbd.mono hw1.size)))) hcl (by rw [← HNC.out]; exact k2)).mono ?_
    rintro e w5 ⟨rfl, hb5⟩
    have hb5 : Below w1.heap.size w1 w5 := hbd.trans (hb5.mono (by simp))
    rw [← HR2.out]
    have c2 := cell_carry c2 (Carries.of 0 hb5)
    have b0 := cell_carry b0 (Carries.of 0 hb5)
    refine hK.out _ _ ⟨c2, b0⟩ (fun hHeld => ?_)
    clear hK K
    try simp only [Act.put, List.setIfInBounds_toArray, List.set_cons_zero, List.set_cons_succ]
    refine tk11 (v := ?_) (by kernel_rfl) (by kernel_rfl) (by kernel_rfl) (by first | exact fun _ _ _ h => h | exact fun _ _ _ h => absurd h.1 (by simp)) (Or.inl ⟨by rfl, ?_⟩) (by assumption) ?_
    rotate_left 1
    focus (intro wx hSw; (try dsimp only at hSw); go_simp; try (with_reducible rfl))
    try simp only [Act.put, List.setIfInBounds_toArray, List.set_cons_zero, List.set_cons_succ]
    refine tk12 (v := ?_) (by kernel_rfl) (by kernel_rfl) (by kernel_rfl) (by first | exact fun _ _ _ h => h | exact fun _ _ _ h => absurd h.1 (by simp)) (Or.inl ⟨by rfl, ?_⟩) (by assumption) ?_
    rotate_left 1
    focus (intro wx hSw; (try dsimp only at hSw); go_simp; try (with_reducible rfl))
    try simp only [Act.put, List.setIfInBounds_toArray, List.set_cons_zero, List.set_cons_succ]
    refine tk13 (v := ?_) (by kernel_rfl) (by kernel_rfl) (by kernel_rfl) (by first | exact fun _ _ _ h => h | exact fun _ _ _ h => absurd h.1 (by simp)) (Or.inl ⟨by rfl, ?_⟩) (by assumption) ?_
    rotate_left 1
    focus (intro wx hSw; (try dsimp only at hSw); go_simp; try (with_reducible rfl))
    try simp only [Act.put, List.setIfInBounds_toArray, List.set_cons_zero, List.set_cons_succ]
    refine wpAnyH_done (by kernel_rfl) ?_ _
    go_wp2_with fail
    go_ret2
    have hw5 : Below w.heap.size w w5 := hw1.trans (hb5.mono hw1.size)
    exact ⟨_, rfl, hw5, fun _ => ⟨H, rfl, w0, _, _, _, _, hw0.trans (hb2.mono hw0.size), hb3.trans (hb5.mono hb3.size), (by have h := HH.out.after hb5; rw [HX0.out]; exact h)⟩⟩

end Go.Proofs.YtigkgfdnnfmmmaaGreat
