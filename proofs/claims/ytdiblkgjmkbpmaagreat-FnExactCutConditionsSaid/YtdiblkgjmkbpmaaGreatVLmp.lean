/- WALKS: finalMarking, localMarking, LocalMarking of the program (written by gen8/gmkp.py). -/
import Derived.Test.YtdiblkgjmkbpmaaGreatVMkp
namespace Go.Proofs.YtdiblkgjmkbpmaaGreat
open Go.RowKit

theorem plS_in {cs : List Cnd} {C : List Int} {p : Nat} (hp : p ≤ 30) (hpl : ∀ c, c < cs.length → 0 ≤ cnP cs c ∧ cnP cs c < (p : Int)) (hin : ∀ k, k < C.length → 0 ≤ C.getD k 0 ∧ C.getD k 0 < (cs.length : Int)) : InArr (plS cs C) := fun i hi => by
  have h0 : (plS cs C).getD i 0 ∈ plS cs C := mem_getD.2 ⟨i, hi, rfl⟩
  generalize (plS cs C).getD i 0 = z at h0 ⊢
  unfold plS at h0
  rw [List.mem_mergeSort] at h0
  unfold plL at h0
  obtain ⟨c, hc, rfl⟩ := List.mem_map.1 h0
  obtain ⟨k, hk, rfl⟩ := mem_getD.1 hc
  have h1 := hin k hk
  have h2 := hpl (C.getD k 0).toNat (by omega)
  omega

set_option maxRecDepth 100000 in
set_option maxHeartbeats 2000000 in
theorem finalMarking_any (B H p : Nat) (w : World) (vt vc ve vp vu : Value) (x : His) (S : Nat) (h : HisAt B H w (p : Int) vt vc ve vp vu x.cs x.es x.ps x.us) (hvt : ∃ a m c, vt = .slice a m c) (hG : HisG x) (hcl : x.cs.length ≤ 1000000) (h60 : x.es.length ≤ 60) (hS : S < 18446744073709551616) (hp : p ≤ 30) (hpl : ∀ c, c < x.cs.length → 0 ≤ cnP x.cs c ∧ cnP x.cs c < (p : Int)) :
    Calls Tryz.prog 68 #[.pointer (some ⟨H, 0, none⟩), .int .u64 (S : Int)] w (RetV w (.string (mkS p x.cs (cutS x S)))) := by
  have hin : ∀ k, k < (cutS x S).length → 0 ≤ (cutS x S).getD k 0 ∧ (cutS x S).getD k 0 < (x.cs.length : Int) := outTo_in
  have hclen : (cutS x S).length ≤ 1048576 := Nat.le_trans (outTo_len _ _) (by omega)
  have hiA := plS_in hp hpl hin
  have hmk := mk_prog hp hiA
  obtain ⟨M, hM⟩ : ∃ M, M = mkS p x.cs (cutS x S) := ⟨_, rfl⟩
  rw [← hM] at hmk ⊢
  have HMK := Lib.hid hmk; have HIN := Lib.hid hin; have HIA := Lib.hid hiA
  clear hM hmk hin hiA
  obtain ⟨at_, m, ct, rfl⟩ := hvt
  have HH := Lib.hid h
  have c0 := h.c0; have c1 := h.c1; have c2 := h.c2; have c3 := h.c3
  have HCA := Lib.hid h.rc.at
  obtain ⟨ac, kc, rfl⟩ := h.rc.form
  obtain ⟨ae, ke, rfl⟩ := h.re.form
  clear h
  obtain ⟨nc, hnc⟩ : ∃ y, y = x.cs.length := ⟨_, rfl⟩
  obtain ⟨ne, hne⟩ : ∃ y, y = x.es.length := ⟨_, rfl⟩
  rw [← hnc] at c2 HCA HH
  rw [← hne] at c3 HH
  clear hne
  have HNC := Lib.hid hnc; clear hnc
  go_enter Tryz.func68, Tryz.ntmps68
  go_wp2_with fail
  refine wp_region_held_drew (S := fun w' => w'.cell? ⟨H, 0, none⟩ = some (.int .i64 (p : Int)) ∧ w'.cell? ⟨H, 1, none⟩ = some (.slice at_ m ct) ∧ w'.cell? ⟨H, 2, none⟩ = some (.slice ac nc kc) ∧ w'.cell? ⟨H, 3, none⟩ = some (.slice ae ne ke)) (by kernel_rfl) ⟨c0, c1, c2, c3⟩ (fun hHeld => ?_)
  refine tk0 (v := ?_) (by kernel_rfl) (by kernel_rfl) (by kernel_rfl) (by first | exact fun _ _ _ h => h | exact fun _ _ _ h => absurd h.1 (by simp)) (Or.inl ⟨by rfl, ?_⟩) (by assumption) ?_
  rotate_left 1
  focus (intro wx hSw; (try dsimp only at hSw); go_simp; try (with_reducible rfl))
  try simp only [Act.put, List.setIfInBounds_toArray, List.set_cons_zero, List.set_cons_succ]
  refine tk1 (v := ?_) (by kernel_rfl) (by kernel_rfl) (by kernel_rfl) (by first | exact fun _ _ _ h => h | exact fun _ _ _ h => absurd h.1 (by simp)) (Or.inl ⟨by rfl, ?_⟩) (by assumption) ?_
  rotate_left 1
  focus (intro wx hSw; (try dsimp only at hSw); go_simp; try (with_reducible rfl))
  try simp only [Act.put, List.setIfInBounds_toArray, List.set_cons_zero, List.set_cons_succ]
  refine tk2 (v := ?_) (by kernel_rfl) (by kernel_rfl) (by kernel_rfl) (by first | exact fun _ _ _ h => h | exact fun _ _ _ h => absurd h.1 (by simp)) (Or.inl ⟨by rfl, ?_⟩) (by assumption) ?_
  rotate_left 1
  focus (intro wx hSw; (try dsimp only at hSw); go_simp; try (with_reducible rfl))
  try simp only [Act.put, List.setIfInBounds_toArray, List.set_cons_zero, List.set_cons_succ]
  refine tk3 (v := ?_) (by kernel_rfl) (by kernel_rfl) (by kernel_rfl) (by first | exact fun _ _ _ h => h | exact fun _ _ _ h => absurd h.1 (by simp)) (Or.inl ⟨by rfl, ?_⟩) (by assumption) ?_
  rotate_left 1
  focus (intro wx hSw; (try dsimp only at hSw); go_simp; try (with_reducible rfl))
  try simp only [Act.put, List.setIfInBounds_toArray, List.set_cons_zero, List.set_cons_succ]
  refine tk4 (v := ?_) (by kernel_rfl) (by kernel_rfl) (by kernel_rfl) (by first | exact fun _ _ _ h => h | exact fun _ _ _ h => absurd h.1 (by simp)) (Or.inl ⟨by rfl, ?_⟩) (by assumption) ?_
  rotate_left 1
  focus (intro wx hSw; (try dsimp only at hSw); go_simp; try (with_reducible rfl))
  try simp only [Act.put, List.setIfInBounds_toArray, List.set_cons_zero, List.set_cons_succ]
  refine tk5 (v := ?_) (by kernel_rfl) (by kernel_rfl) (by kernel_rfl) (by first | exact fun _ _ _ h => h | exact fun _ _ _ h => absurd h.1 (by simp)) (Or.inl ⟨by rfl, ?_⟩) (by assumption) ?_
  rotate_left 1
  focus (intro wx hSw; (try dsimp only at hSw); go_simp; try (with_reducible rfl))
  try simp only [Act.put, List.setIfInBounds_toArray, List.set_cons_zero, List.set_cons_succ]
  refine tk6 (v := ?_) (by kernel_rfl) (by kernel_rfl) (by kernel_rfl) (by first | exact fun _ _ _ h => h | exact fun _ _ _ h => absurd h.1 (by simp)) (Or.inl ⟨by rfl, ?_⟩) (by assumption) ?_
  rotate_left 1
  focus (intro wx hSw; (try dsimp only at hSw); go_simp; try (with_reducible rfl))
  try simp only [Act.put, List.setIfInBounds_toArray, List.set_cons_zero, List.set_cons_succ]
  refine tk7 (v := ?_) (by kernel_rfl) (by kernel_rfl) (by kernel_rfl) (by first | exact fun _ _ _ h => h | exact fun _ _ _ h => absurd h.1 (by simp)) (Or.inl ⟨by rfl, ?_⟩) (by assumption) ?_
  rotate_left 1
  focus (intro wx hSw; (try dsimp only at hSw); go_simp; try (with_reducible rfl))
  try simp only [Act.put, List.setIfInBounds_toArray, List.set_cons_zero, List.set_cons_succ]
  refine tk8 (v := ?_) (by kernel_rfl) (by kernel_rfl) (by kernel_rfl) (by first | exact fun _ _ _ h => h | exact fun _ _ _ h => absurd h.1 (by simp)) (Or.inl ⟨by rfl, ?_⟩) (by assumption) ?_
  rotate_left 1
  focus (intro wx hSw; (try dsimp only at hSw); go_simp; try (with_reducible rfl))
  try simp only [Act.put, List.setIfInBounds_toArray, List.set_cons_zero, List.set_cons_succ]
  refine tk9 (v := ?_) (by kernel_rfl) (by kernel_rfl) (by kernel_rfl) (by first | exact fun _ _ _ h => h | exact fun _ _ _ h => absurd h.1 (by simp)) (Or.inl ⟨by rfl, ?_⟩) (by assumption) ?_
  rotate_left 1
  focus (intro wx hSw; (try dsimp only at hSw); go_simp; try (with_reducible rfl))
  try simp only [Act.put, List.setIfInBounds_toArray, List.set_cons_zero, List.set_cons_succ]
  refine rd10 (by kernel_rfl) (fun K hK => ?_)
  go_simp
  refine (cut_any B H w.drew (p : Int) _ _ _ vp vu x S (HH.out.after (Below.refl _ _).drew) hG (by omega) h60 hS).mono ?_
  rintro e w1 ⟨vq, rfl, hrow, hb1⟩
  have hb1 : Below w.heap.size w w1 := Below.trans (b := w.drew) (Below.refl _ _).drew (hb1.mono (by simp))
  have HQ := Lib.hid (ints_of_owns hrow)
  obtain ⟨aq, kq, rfl⟩ := owns_form hrow
  obtain ⟨nq, hnq⟩ : ∃ y, y = (cutS x S).length := ⟨_, rfl⟩
  rw [← hnq] at HQ hclen ⊢
  have HNQ := Lib.hid hnq; clear hnq hrow
  have d0 := cell_carry c0 (Carries.of 0 hb1)
  have d1 := cell_carry c1 (Carries.of 0 hb1)
  have d2 := cell_carry c2 (Carries.of 0 hb1)
  have d3 := cell_carry c3 (Carries.of 0 hb1)
  refine hK.out _ _ ⟨d0, d1, d2, d3⟩ (fun hHeld => ?_)
  clear hK K
  try simp only [Act.put, List.setIfInBounds_toArray, List.set_cons_zero, List.set_cons_succ]
  refine rd11 (by kernel_rfl) (fun K hK => ?_)
  go_simp
  refine (sortedPlaces_any _ _ _ x.cs ne ae ke (cutS x S) w1 _ _ rfl (HCA.out.keep (Carries.of _ hb1)) HQ.out (by rw [← HNQ.out]; exact hclen) HIN.out).mono ?_
  rintro e w2 ⟨vs, rfl, hs2, hb2⟩
  have d0 := cell_carry d0 (Carries.of 0 hb2)
  have d1 := cell_carry d1 (Carries.of 0 hb2)
  have d2 := cell_carry d2 (Carries.of 0 hb2)
  have d3 := cell_carry d3 (Carries.of 0 hb2)
  have HS2 := Lib.hid hs2
  obtain ⟨asx, ks, rfl, hxa, hxb⟩ := hs2
  clear hxa hxb
  obtain ⟨ns, hns⟩ : ∃ y, y = (plS x.cs (cutS x S)).length := ⟨_, rfl⟩
  rw [← hns] at HS2 ⊢
  have hw2 := hb1.trans (hb2.mono hb1.size)
  have HNS : Hid ((plS x.cs (cutS x S)).length ≤ 1048576) := by unfold Hid; rw [plS_length, ← HNQ.out]; exact hclen
  clear hns hb2
  refine hK.out _ _ ⟨d0, d1, d2, d3⟩ (fun hHeld => ?_)
  clear hK K
  try simp only [Act.put, List.setIfInBounds_toArray, List.set_cons_zero, List.set_cons_succ]
  refine rd12 (by kernel_rfl) (fun K hK => ?_)
  go_simp
  refine (onlyPlaces_any _ (plS x.cs (cutS x S)) w2 _ HS2.out HNS.out HIA.out).mono ?_
  rintro e w3 ⟨rfl, hb3⟩
  have d0 := cell_carry d0 (Carries.of 0 hb3)
  have d1 := cell_carry d1 (Carries.of 0 hb3)
  have d2 := cell_carry d2 (Carries.of 0 hb3)
  have d3 := cell_carry d3 (Carries.of 0 hb3)
  have hw3 := hw2.trans (hb3.mono hw2.size)
  have hlen : (putAll 49 blank (plS x.cs (cutS x S))).length = 30 := by rw [putAll_length]; rfl
  generalize hA : putAll 49 blank (plS x.cs (cutS x S)) = A at hlen ⊢
  have HA := Lib.hid hA; clear hA hb3
  generalize hLA : (arr A).toArray = lA
  refine hK.out _ _ ⟨d0, d1, d2, d3⟩ (fun hHeld => ?_)
  clear hK K
  try simp only [Act.put, List.setIfInBounds_toArray, List.set_cons_zero, List.set_cons_succ]
  refine rd13 (by kernel_rfl) (fun K hK => ?_)
  go_simp
  subst hLA
  refine (writeMarking_any p _ A hlen w3 hp _ _ _ rfl).mono ?_
  rintro e w4 ⟨rfl, hb4⟩
  have hmm : bstr (A.take p) = M := by rw [← HA.out]; exact HMK.out
  rw [hmm]
  have d0 := cell_carry d0 (Carries.of 0 hb4)
  have d1 := cell_carry d1 (Carries.of 0 hb4)
  have d2 := cell_carry d2 (Carries.of 0 hb4)
  have d3 := cell_carry d3 (Carries.of 0 hb4)
  have hw4 := hw3.trans (hb4.mono hw3.size)
  generalize (arr A).toArray = lA
  refine hK.out _ _ ⟨d0, d1, d2, d3⟩ (fun hHeld => ?_)
  clear hK K
  try simp only [Act.put, List.setIfInBounds_toArray, List.set_cons_zero, List.set_cons_succ]
  refine tk14 (v := ?_) (by kernel_rfl) (by kernel_rfl) (by kernel_rfl) (by first | exact fun _ _ _ h => h | exact fun _ _ _ h => absurd h.1 (by simp)) (Or.inl ⟨by rfl, ?_⟩) (by assumption) ?_
  rotate_left 1
  focus (intro wx hSw; (try dsimp only at hSw); go_simp; try (with_reducible rfl))
  try simp only [Act.put, List.setIfInBounds_toArray, List.set_cons_zero, List.set_cons_succ]
  refine wpAnyH_done (by kernel_rfl) ?_ _
  go_wp2_with fail
  go_ret
  exact ⟨rfl, hw4⟩

set_option maxRecDepth 100000 in
set_option maxHeartbeats 1000000 in
theorem localMarking_any (B H p : Nat) (w : World) (vt vc ve vp vu : Value) (x : His) (e : Nat) (h : HisAt B H w (p : Int) vt vc ve vp vu x.cs x.es x.ps x.us) (hvt : ∃ a m c, vt = .slice a m c) (hG : HisG x) (hcl : x.cs.length ≤ 1000000) (h60 : x.es.length ≤ 60) (he : e < x.es.length) (hp : p ≤ 30) (hpl : ∀ c, c < x.cs.length → 0 ≤ cnP x.cs c ∧ cnP x.cs c < (p : Int)) :
    Calls Tryz.prog 80 #[.pointer (some ⟨H, 0, none⟩), .int .i64 (e : Int)] w (RetV w (.string (mkS p x.cs (cutS x (x.ps.getD e 0))))) := by
  have hpe : e < x.ps.length := by rw [hG.m.pe]; exact he
  have c4 := h.c4
  obtain ⟨op, kp, hvp, _, hzp⟩ := id h.rp.at
  subst hvp
  rcases hzp with h0 | ⟨bp, offp, rfl, _, hcell⟩
  · omega
  have da := hcell e hpe
  have fa := hG.fp e
  have HH := Lib.hid h
  clear h hcell
  generalize x.ps.getD e 0 = S at da fa ⊢
  generalize x.ps.length = np at *
  go_enter Tryz.func80, Tryz.ntmps80
  go_wp2_with fail
  refine (finalMarking_any B H p w vt vc ve _ vu x S HH.out hvt hG hcl h60 fa hp hpl).mono ?_
  rintro e_ w1 ⟨rfl, hb1⟩
  go_wp2_with fail
  go_ret
  exact ⟨rfl, hb1⟩

/-- an event of a valid unfolding; the marking behind its past -/
def lmB (n : NetD) (s : ByteArray) (u : UnfD) (a : Int) : Bool := uvB n s u && decide (0 ≤ a ∧ a < (u.es.length : Int))
def lmV (n : NetD) (s : ByteArray) (u : UnfD) (a : Int) : ByteArray := if lmB n s u a = true then mkS n.places.toNat (hisAll n s u.es).cs (cutS (hisAll n s u.es) ((hisAll n s u.es).ps.getD a.toNat 0)) else ByteArray.empty
/-- a call returns a text and a bool -/
def RetSB (w : World) (v : ByteArray) (b : Bool) (e : Ending) (w' : World) : Prop := e = .returned (.tuple #[.string v, .bool b]) ∧ Below w.heap.size w w'
theorem lmV_no {n : NetD} {s : ByteArray} {u : UnfD} {a : Int} (h : lmB n s u a = false) : lmV n s u a = ByteArray.empty := by unfold lmV; rw [h]; rfl
theorem lmV_yes {n : NetD} {s : ByteArray} {u : UnfD} {a : Nat} {p : Nat} (hp : n.places = (p : Int)) (h : lmB n s u a = true) : lmV n s u a = mkS p (hisAll n s u.es).cs (cutS (hisAll n s u.es) ((hisAll n s u.es).ps.getD a 0)) := by unfold lmV; rw [if_pos h, hp]; rfl
/-- the net's places, and those of the conditions of a valid unfolding -/
theorem uvB_pl {n : NetD} {s : ByteArray} {u : UnfD} (h : uvB n s u = true) : ∃ p : Nat, n.places = (p : Int) ∧ p ≤ 30 ∧ ∀ c, c < (hisAll n s u.es).cs.length → 0 ≤ cnP (hisAll n s u.es).cs c ∧ cnP (hisAll n s u.es).cs c < (p : Int) := by
  obtain ⟨hg, h60, _⟩ := uvB_all h
  unfold uvB at h
  simp only [Bool.and_eq_true] at h
  have h5 := of_decide_eq_true h.2.2.1
  have hq := goodN_places hg
  have hz : (s.size : Int) = n.places := by
    have := h.1
    unfold iuB markB at this
    simp only [Bool.and_eq_true, decide_eq_true_eq] at this
    exact this.2.2
  refine ⟨n.places.toNat, by omega, by omega, fun c hc => ?_⟩
  have := hisTo_pl hg hz u.es.length h5 c hc
  unfold hisAll
  omega

set_option maxRecDepth 100000 in
set_option maxHeartbeats 2000000 in
theorem LocalMarking_any (v : Value) (n : NetD) (s : ByteArray) (vu : Value) (u : UnfD) (a : Int) (w : World) (lo lo' : Nat) (hv : NetAt lo w v n) (hvu : UnfAt lo' w vu u) (hsm : SmallTrs n.ts) (hsu : SmallUnf u) (hs : s.size ≤ 1048576) :
    Calls Tryz.prog 40 #[v, .string s, vu, .int .i64 a] w (RetSB w (lmV n s u a) (lmB n s u a)) := by
  obtain ⟨G, hG⟩ : ∃ x, x = lmB n s u a := ⟨_, rfl⟩
  obtain ⟨V, hV⟩ : ∃ x, x = lmV n s u a := ⟨_, rfl⟩
  rw [← hG, ← hV]
  have HF := Lib.hid hG; have HVV := Lib.hid hV
  clear hG hV
  obtain ⟨ao, cap, rfl⟩ := net_form hv
  obtain ⟨a0, k0, a1, k1, rfl, hcc, hee⟩ := hvu.form
  obtain ⟨R, hR⟩ : ∃ x, x = uvB n s u := ⟨_, rfl⟩
  have HR := Lib.hid hR
  clear hcc hee hR
  obtain ⟨p, hp⟩ : ∃ p, p = n.places := ⟨_, rfl⟩
  obtain ⟨m, hm⟩ : ∃ m, m = n.ts.length := ⟨_, rfl⟩
  obtain ⟨nc, hnc⟩ : ∃ m, m = u.cs.length := ⟨_, rfl⟩
  obtain ⟨ne, hne⟩ : ∃ m, m = u.es.length := ⟨_, rfl⟩
  rw [← hm] at hv
  rw [← hnc, ← hne] at hvu
  rw [← hp, ← hm, ← hnc, ← hne]
  have HPl := Lib.hid hp
  have HV := Lib.hid hv
  have HVU := Lib.hid hvu
  have HNE := Lib.hid hne
  have HNC := Lib.hid hnc
  clear hp hm hnc hne hv hvu
  obtain ⟨W, hW⟩ : ∃ x, x = (w.alloc (.cells #[.int .i64 p, .slice ao m cap] 34)).alloc (.cells #[.slice a0 nc k0, .slice a1 ne k1] 39) := ⟨_, rfl⟩
  have hw0 : Below w.heap.size w W := by rw [hW]; (repeat' (first | (with_reducible exact Below.refl _ _) | (with_reducible assumption) | (with_reducible refine Below.alloc ?_ ?_ _) | (with_reducible refine Below.drew ?_) | (with_reducible refine below_drewN ?_ _) | (with_reducible refine Below.setCell ?_ ?_ _) | go_size))
  go_enter Tryz.func40, Tryz.ntmps40
  go_wp2_with (go_at_call 48; rw [← hW]; clear hW; rw [HPl.out]; refine (readHistory_any _ n s _ u W lo lo' (HV.out.keep (Carries.of lo hw0)) (HVU.out.keep (Carries.of lo' hw0)) hsm hsu hs).mono ?_)
  rintro e w1 ⟨ph, rfl, hb1, hhis⟩
  rw [← HR.out] at hhis ⊢
  have hw1 : Below w.heap.size w w1 := hw0.trans (hb1.mono hw0.size)
  have hno : G = false → V = ByteArray.empty := fun q => by rw [HVV.out]; exact lmV_no (HF.out.symm.trans q)
  have HNO := Lib.hid hno; clear hno
  cases R with
  | false =>
    have hg : G = false := by rw [HF.out]; unfold lmB; rw [← HR.out]; rfl
    have hvv := HNO.out hg
    subst hg; subst hvv
    go_wp2_with fail
    go_ret2
    exact ⟨rfl, hw1⟩
  | true =>
  obtain ⟨H, rfl, w0, vc, ve, vp, vu, hb2, hb3, hH⟩ := hhis rfl
  obtain ⟨hgn, h60, h200, hxc, hxe, hGG⟩ := uvB_all HR.out.symm
  obtain ⟨pn, hpn, hp30, hpl⟩ := uvB_pl HR.out.symm
  have hVY : G = true → ∀ an : Nat, a = (an : Int) → V = mkS pn (hisAll n s u.es).cs (cutS (hisAll n s u.es) ((hisAll n s u.es).ps.getD an 0)) := fun q an ha => by
    rw [HVV.out, ha]
    exact lmV_yes hpn (by rw [← ha, ← HF.out]; exact q)
  have HVY := Lib.hid hVY
  have HX : Hid ((hisAll n s u.es).es.length = ne) := by unfold Hid; rw [hxe, HNE.out]
  have h60' : ne ≤ 60 := by rw [HNE.out]; exact h60
  have HXC : Hid ((hisAll n s u.es).cs.length ≤ 200) := by unfold Hid; rw [hxc]; exact h200
  rw [hpn] at hH
  have HH := Lib.hid hH; have HGG := Lib.hid hGG; have HPL := Lib.hid hpl
  have hr2 : G = decide (0 ≤ a ∧ a < (ne : Int)) := by rw [HF.out]; unfold lmB; rw [← HR.out, ← HNE.out]; rfl
  have HR2 := Lib.hid hr2
  have hra : decide (0 ≤ a ∧ a < ((hisAll n s u.es).es.length : Int)) = G := by rw [hr2, HX.out]
  have HRA := Lib.hid hra
  clear hH hGG hgn h60 h200 hxc hxe hhis hpl hVY hr2 hra hpn
  generalize hisAll n s u.es = x at HX HXC HH HGG HVY HRA HPL
  go_wp2_with fail
  refine (hasEvent_any w0.heap.size H w1 (pn : Int) _ vc ve vp vu _ _ _ _ a HH.out).mono ?_
  rintro e w2 ⟨rfl, hb2'⟩
  rw [HRA.out]
  have hw2 : Below w.heap.size w w2 := hw1.trans (hb2'.mono hw1.size)
  have HH2 := Lib.hid (HH.out.after hb2')
  clear hb2' hb2 hb3
  cases G with
  | false =>
    have hvv := HNO.out rfl
    subst hvv
    go_wp2_with fail
    go_ret2
    exact ⟨rfl, hw2⟩
  | true =>
  have ha := of_decide_eq_true HR2.out.symm
  obtain ⟨an, rfl⟩ : ∃ q : Nat, a = (q : Int) := ⟨a.toNat, by omega⟩
  have han : an < x.es.length := by rw [HX.out]; omega
  have hvv := HVY.out rfl an rfl
  have HV2 := Lib.hid hvv
  clear ha hvv
  go_wp2_with fail
  refine (localMarking_any w0.heap.size H pn w2 _ vc ve vp vu x an HH2.out ⟨_, _, _, rfl⟩ HGG.out (by have := HXC.out; omega) (by rw [HX.out]; exact h60') han hp30 HPL.out).mono ?_
  rintro e w3 ⟨rfl, hb3'⟩
  rw [← HV2.out]
  have hw3 : Below w.heap.size w w3 := hw2.trans (hb3'.mono hw2.size)
  go_wp2_with fail
  go_ret2
  exact ⟨rfl, hw3⟩

end Go.Proofs.YtdiblkgjmkbpmaaGreat
