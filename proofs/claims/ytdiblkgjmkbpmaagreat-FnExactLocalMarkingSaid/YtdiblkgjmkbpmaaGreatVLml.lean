/- WALKS: l8Local, l8Asked, LocalMarking of the model (written by gen8/glml.py). -/
import Derived.Test.YtdiblkgjmkbpmaaGreatVLmm
namespace Go.Proofs.YtdiblkgjmkbpmaaGreat
open Go.RowKit

theorem past_bits {x : His} (hG : HisG x) {e : Nat} (he : e < x.es.length) : ∀ i, (x.ps.getD e 0).testBit i = true ↔ i ∈ pastQ x.cs x.es [(e : Int)] := fun i => by
  have hL1 : ∀ z ∈ [(e : Int)], z < (x.es.length : Int) := fun z hz => by
    rw [List.mem_singleton] at hz
    omega
  rw [← rel_before hG he, has_pastQ hG.m.wf hL1, mem_pastQ hG.m.wf hL1]
theorem pastQ_getD {cs : List Cnd} {es : List Ev} {L : List Int} : ∀ k, k < (pastQ cs es L).length → (pastQ cs es L).getD k 0 < es.length := fun k hk => by
  have := pastQ_lt _ (List.getElem_mem hk)
  simpa [List.getD, hk] using this
theorem pastQ_len {cs : List Cnd} {es : List Ev} {L : List Int} : (pastQ cs es L).length ≤ es.length := by
  unfold pastQ
  exact Nat.le_trans (List.length_filter_le _ _) (by rw [List.length_range]; exact Nat.le_refl _)

set_option maxRecDepth 100000 in
set_option maxHeartbeats 2000000 in
theorem l8Local_any (p : Nat) (vt : Value) (hvt : ∃ a m c, vt = .slice a m c) (vu : Value) (x : His) (e : Nat) (w : World) (lo : Nat) (hp : p ≤ 30) (hvu : UnfAt lo w vu ⟨x.cs, x.es⟩) (hG : HisG x) (hcl : x.cs.length ≤ 1048576) (hel : x.es.length ≤ 1048576) (hev : ∀ k, k < x.es.length → (evP x.es k).length ≤ 1048576) (he : e < x.es.length) :
    Calls Tryz.prog 79 #[.agg #[.int .i64 (p : Int), vt], vu, .int .i64 (e : Int)] w (RetV w (.string (mkS p x.cs (cutS x (x.ps.getD e 0))))) := by
  obtain ⟨at_, m, ct, rfl⟩ := hvt
  have hPl : ∀ z ∈ pastQ x.cs x.es [(e : Int)], z < x.es.length := pastQ_lt
  rw [← cut_eq hG (past_bits hG he) hPl]
  have hwf := hG.m.wf
  obtain ⟨cs, es, ps, us⟩ := x
  simp only at hvu hcl hel hev he hwf ⊢
  clear hG hPl
  obtain ⟨M, hM⟩ : ∃ y, y = mkS p cs (cutM cs es (pastQ cs es [(e : Int)])) := ⟨_, rfl⟩
  rw [← hM]
  have HM := Lib.hid hM; clear hM
  obtain ⟨a0, k0, a1, k1, rfl, hcc, hee⟩ := hvu.form
  have HU := Lib.hid hvu
  simp only at hcc hee ⊢
  obtain ⟨nc, hnc⟩ : ∃ m, m = cs.length := ⟨_, rfl⟩
  obtain ⟨ne, hne⟩ : ∃ m, m = es.length := ⟨_, rfl⟩
  rw [← hnc, ← hne] at HU
  rw [← hnc, ← hne]
  have HEV := Lib.hid hev; have HWF := Lib.hid hwf; have HE := Lib.hid he
  clear hcc hee hnc hne hvu hev hwf he
  have hW0 : Below w.heap.size w ((w.alloc (.cells #[.int .i64 (p : Int), .slice at_ m ct] 34)).alloc (.cells #[.slice a0 nc k0, .slice a1 ne k1] 39)) := by (repeat' (first | (with_reducible exact Below.refl _ _) | (with_reducible assumption) | (with_reducible refine Below.alloc ?_ ?_ _) | (with_reducible refine Below.drew ?_) | (with_reducible refine below_drewN ?_ _) | (with_reducible refine Below.setCell ?_ ?_ _) | go_size))
  have n0 : ((w.alloc (.cells #[.int .i64 (p : Int), .slice at_ m ct] 34)).alloc (.cells #[.slice a0 nc k0, .slice a1 ne k1] 39)).cell? ⟨w.heap.size, 0, none⟩ = some (.int .i64 (p : Int)) := cell_carry (w := (w.alloc (.cells #[.int .i64 (p : Int), .slice at_ m ct] 34))) (cell_new2 rfl).1 ((Carries.refl 0 _).alloc _)
  have n1 : ((w.alloc (.cells #[.int .i64 (p : Int), .slice at_ m ct] 34)).alloc (.cells #[.slice a0 nc k0, .slice a1 ne k1] 39)).cell? ⟨w.heap.size, 1, none⟩ = some (.slice at_ m ct) := cell_carry (w := (w.alloc (.cells #[.int .i64 (p : Int), .slice at_ m ct] 34))) (cell_new2 rfl).2 ((Carries.refl 0 _).alloc _)
  have x0 : ((w.alloc (.cells #[.int .i64 (p : Int), .slice at_ m ct] 34)).alloc (.cells #[.slice a0 nc k0, .slice a1 ne k1] 39)).cell? ⟨w.heap.size + 1, 0, none⟩ = some (.slice a0 nc k0) := (cell_new2 (by simp)).1
  have x1 : ((w.alloc (.cells #[.int .i64 (p : Int), .slice at_ m ct] 34)).alloc (.cells #[.slice a0 nc k0, .slice a1 ne k1] 39)).cell? ⟨w.heap.size + 1, 1, none⟩ = some (.slice a1 ne k1) := (cell_new2 (by simp)).2
  go_enter Tryz.func79, Tryz.ntmps79
  go_upto_region 1 with fail
  generalize ((w.alloc (.cells #[.int .i64 (p : Int), .slice at_ m ct] 34)).alloc (.cells #[.slice a0 nc k0, .slice a1 ne k1] 39)) = W at hW0 n0 n1 x0 x1 ⊢
  have HW := Lib.hid hW0; clear hW0
  refine wp_region_held_drew (S := fun w' => w'.cell? ⟨w.heap.size, 0, none⟩ = some (.int .i64 (p : Int)) ∧ w'.cell? ⟨w.heap.size, 1, none⟩ = some (.slice at_ m ct) ∧ w'.cell? ⟨w.heap.size + 1, 0, none⟩ = some (.slice a0 nc k0) ∧ w'.cell? ⟨w.heap.size + 1, 1, none⟩ = some (.slice a1 ne k1)) (by kernel_rfl) ⟨n0, n1, x0, x1⟩ (fun hHeld => ?_)
  refine tk0 (v := ?_) (by kernel_rfl) (by kernel_rfl) (by kernel_rfl) (by first | exact fun _ _ _ h => h | exact fun _ _ _ h => absurd h.1 (by simp)) (Or.inl ⟨by rfl, ?_⟩) (by assumption) ?_
  rotate_left 1
  focus (intro wx hSw; (try dsimp only at hSw); go_simp; try (with_reducible rfl))
  try simp only [Act.put, List.setIfInBounds_toArray, List.set_cons_zero, List.set_cons_succ]
  refine tk1 (v := ?_) (by kernel_rfl) (by kernel_rfl) (by kernel_rfl) (by first | exact fun _ _ _ h => h | exact fun _ _ _ h => absurd h.1 (by simp)) (Or.inl ⟨by rfl, ?_⟩) (by assumption) ?_
  rotate_left 1
  focus (intro wx hSw; (try dsimp only at hSw); go_simp; try (with_reducible rfl))
  try simp only [Act.put, List.setIfInBounds_toArray, List.set_cons_zero, List.set_cons_succ]
  refine tk2 (v := ?_) (by kernel_rfl) (by kernel_rfl) (by kernel_rfl) (by first | exact fun _ _ _ h => h | exact fun _ _ _ h => absurd h.1 (by simp)) (Or.inl ⟨by rfl, ?_⟩) (by assumption) ?_
  rotate_left 1
  focus (intro wx hSw; (try dsimp only at hSw); go_simp; try (with_reducible rfl))
  try simp only [Act.put, List.setIfInBounds_toArray, List.set_cons_zero, List.set_cons_succ]
  refine tk3 (v := ?_) (by kernel_rfl) (by kernel_rfl) (by kernel_rfl) (by first | exact fun _ _ _ h => h | exact fun _ _ _ h => absurd h.1 (by simp)) (Or.inl ⟨by rfl, ?_⟩) (by assumption) ?_
  rotate_left 1
  focus (intro wx hSw; (try dsimp only at hSw); go_simp; try (with_reducible rfl))
  try simp only [Act.put, List.setIfInBounds_toArray, List.set_cons_zero, List.set_cons_succ]
  refine rd4 (by kernel_rfl) (fun K hK => ?_)
  go_simp
  have hbA : Below W.heap.size W (W.alloc (.cells #[.int .i64 (e : Int)] 3)).drew := ((Below.refl _ _).alloc (Nat.le_refl _) _).drew
  have hIA : IntsAt 0 (W.alloc (.cells #[.int .i64 (e : Int)] 3)).drew (.slice (some ⟨W.heap.size, 0, none⟩) 1 1) [(e : Int)] := (ints_one' W _).keep (Carries.of _ (Below.refl _ _).drew)
  have HIA := Lib.hid hIA; clear hIA
  generalize (W.alloc (.cells #[.int .i64 (e : Int)] 3)).drew = w5 at hbA HIA ⊢
  have n0 := cell_carry n0 (Carries.of 0 hbA)
  have n1 := cell_carry n1 (Carries.of 0 hbA)
  have x0 := cell_carry x0 (Carries.of 0 hbA)
  have x1 := cell_carry x1 (Carries.of 0 hbA)
  have HW5 := Lib.hid (HW.out.trans (hbA.mono HW.out.size))
  clear hbA
  refine hK.out _ _ ⟨n0, n1, x0, x1⟩ (fun hHeld => ?_)
  clear hK K
  try simp only [Act.put, List.setIfInBounds_toArray, List.set_cons_zero, List.set_cons_succ]
  refine rd5 (by kernel_rfl) (fun K hK => ?_)
  go_simp
  refine (l7Past_any _ _ cs es [(e : Int)] w5 lo 0 (HU.out.keep (Carries.of lo HW5.out)) HIA.out (show 1 ≤ 1048576 by omega) hel HEV.out (list_one_lt (by have := HE.out; omega)) HWF.out).mono ?_
  rintro e_ w6 ⟨vp, rfl, hrp, hb6⟩
  rw [out_pastQ] at hrp
  have HP := Lib.hid (ints_of_owns hrp)
  obtain ⟨ap, kp, rfl⟩ := owns_form hrp
  have n0 := cell_carry n0 (Carries.of 0 hb6)
  have n1 := cell_carry n1 (Carries.of 0 hb6)
  have x0 := cell_carry x0 (Carries.of 0 hb6)
  have x1 := cell_carry x1 (Carries.of 0 hb6)
  have HW6 := Lib.hid (HW5.out.trans (hb6.mono HW5.out.size))
  have hplen : (pastQ cs es [(e : Int)]).length ≤ 1048576 := Nat.le_trans pastQ_len hel
  have hpin := pastQ_getD (cs := cs) (es := es) (L := [(e : Int)])
  clear hrp hb6
  have HM2 := HM.out
  obtain ⟨P, hP⟩ : ∃ y, y = pastQ cs es [(e : Int)] := ⟨_, rfl⟩
  rw [← hP] at HP hplen hpin HM2 ⊢
  have HM3 := Lib.hid HM2; have HPI := Lib.hid hpin
  clear hP HM2 hpin
  obtain ⟨nq, hnq⟩ : ∃ y, y = (P.map fun (e : Nat) => (e : Int)).length := ⟨_, rfl⟩
  rw [← hnq] at HP ⊢
  clear hnq
  refine hK.out _ _ ⟨n0, n1, x0, x1⟩ (fun hHeld => ?_)
  clear hK K
  try simp only [Act.put, List.setIfInBounds_toArray, List.set_cons_zero, List.set_cons_succ]
  refine rd6 (by kernel_rfl) (fun K hK => ?_)
  go_simp
  refine (l7Mark_any p _ ⟨_, _, _, rfl⟩ _ cs es _ P w6 lo _ hp (HU.out.keep (Carries.of lo HW6.out)) HP.out hplen hcl HEV.out HPI.out).mono ?_
  rintro e_ w7 ⟨rfl, hb7⟩
  rw [← HM3.out]
  have n0 := cell_carry n0 (Carries.of 0 hb7)
  have n1 := cell_carry n1 (Carries.of 0 hb7)
  have x0 := cell_carry x0 (Carries.of 0 hb7)
  have x1 := cell_carry x1 (Carries.of 0 hb7)
  have hw7 := HW6.out.trans (hb7.mono HW6.out.size)
  refine hK.out _ _ ⟨n0, n1, x0, x1⟩ (fun hHeld => ?_)
  clear hK K
  try simp only [Act.put, List.setIfInBounds_toArray, List.set_cons_zero, List.set_cons_succ]
  refine tk7 (v := ?_) (by kernel_rfl) (by kernel_rfl) (by kernel_rfl) (by first | exact fun _ _ _ h => h | exact fun _ _ _ h => absurd h.1 (by simp)) (Or.inl ⟨by rfl, ?_⟩) (by assumption) ?_
  rotate_left 1
  focus (intro wx hSw; (try dsimp only at hSw); go_simp; try (with_reducible rfl))
  try simp only [Act.put, List.setIfInBounds_toArray, List.set_cons_zero, List.set_cons_succ]
  refine wpAnyH_done (by kernel_rfl) ?_ _
  go_wp2_with fail
  go_ret
  exact ⟨rfl, hw7⟩

set_option maxRecDepth 100000 in
set_option maxHeartbeats 2000000 in
theorem l8Asked_any (v : Value) (n : NetD) (s : ByteArray) (vu : Value) (u : UnfD) (a : Int) (w : World) (lo lo' : Nat) (hv : NetAt lo w v n) (hvu : UnfAt lo' w vu u) (hsm : SmallTrs n.ts) (hsu : SmallUnf u) (hs : s.size ≤ 1048576) :
    Calls Tryz.prog 78 #[v, .string s, vu, .int .i64 a] w (RetB w (lmB n s u a)) := by
  obtain ⟨G, hG⟩ : ∃ x, x = lmB n s u a := ⟨_, rfl⟩
  rw [← hG]
  have HF := Lib.hid hG
  clear hG
  obtain ⟨ao, cap, rfl⟩ := net_form hv
  obtain ⟨a0, k0, a1, k1, rfl, hcc, hee⟩ := hvu.form
  obtain ⟨R, hR⟩ : ∃ x, x = uvB n s u := ⟨_, rfl⟩
  have HR := Lib.hid hR
  clear hcc hee hR
  obtain ⟨p, hp⟩ : ∃ p, p = n.places := ⟨_, rfl⟩
  obtain ⟨m, hm⟩ : ∃ m, m = n.ts.length := ⟨_, rfl⟩
  obtain ⟨nc, hnc⟩ : ∃ m, m = u.cs.length := ⟨_, rfl⟩
  obtain ⟨ne, hne⟩ : ∃ m, m = u.es.length := ⟨_, rfl⟩
  rw [← hm] at hv
  rw [← hnc, ← hne] at hvu
  rw [← hp, ← hm, ← hnc, ← hne]
  have HPl := Lib.hid hp
  have HV := Lib.hid hv
  have HVU := Lib.hid hvu
  have HNE := Lib.hid hne
  have HNC := Lib.hid hnc
  clear hp hm hnc hne hv hvu
  obtain ⟨W, hW⟩ : ∃ x, x = (w.alloc (.cells #[.int .i64 p, .slice ao m cap] 34)).alloc (.cells #[.slice a0 nc k0, .slice a1 ne k1] 39) := ⟨_, rfl⟩
  have hw0 : Below w.heap.size w W := by rw [hW]; (repeat' (first | (with_reducible exact Below.refl _ _) | (with_reducible assumption) | (with_reducible refine Below.alloc ?_ ?_ _) | (with_reducible refine Below.drew ?_) | (with_reducible refine below_drewN ?_ _) | (with_reducible refine Below.setCell ?_ ?_ _) | go_size))
  have u1 : W.cell? ⟨w.heap.size + 1, 1, none⟩ = some (.slice a1 ne k1) := by rw [hW]; simp
  go_enter Tryz.func78, Tryz.ntmps78
  go_wp2_with (go_at_call 44; rw [← hW]; clear hW; rw [HPl.out]; refine (l7Good_any _ n s _ u W lo lo' (HV.out.keep (Carries.of lo hw0)) (HVU.out.keep (Carries.of lo' hw0)) hsm hsu hs).mono ?_)
  rintro e w1 ⟨rfl, hb1⟩
  rw [← HR.out]
  have hw1 : Below w.heap.size w w1 := hw0.trans (hb1.mono hw0.size)
  have u1 := cell_carry u1 (Carries.of 0 hb1)
  clear hb1
  cases R with
  | false =>
    have hg : G = false := by rw [HF.out]; unfold lmB; rw [← HR.out]; rfl
    subst hg
    go_wp2_with fail
    go_ret
    exact ⟨rfl, hw1⟩
  | true =>
  have hr2 : decide (0 ≤ a ∧ a ≤ (ne : Int) - 1) = G := by
    rw [HF.out]; unfold lmB; rw [← HR.out, ← HNE.out, Bool.true_and]
    exact decide_eq_decide.2 ⟨fun h => ⟨h.1, by omega⟩, fun h => ⟨h.1, by omega⟩⟩
  have h60' : ne ≤ 60 := by rw [HNE.out]; exact (uvB_all HR.out.symm).2.1
  have hwn : IntKind.i64.wrap ((ne : Int) - 1) = (ne : Int) - 1 := IntWalk.i64_in _ ⟨by omega, by omega⟩
  have HR2 := Lib.hid hr2; clear hr2
  go_wp2_with fail
  refine (l1In_any a 0 _ w1).mono ?_
  rintro e w2 ⟨rfl, hb2⟩
  (try rw [hwn])
  rw [HR2.out]
  have hw2 : Below w.heap.size w w2 := hw1.trans (hb2.mono hw1.size)
  go_wp2_with fail
  go_ret
  exact ⟨rfl, hw2⟩

set_option maxRecDepth 100000 in
set_option maxHeartbeats 2000000 in
theorem specLocalMarking_any (v : Value) (n : NetD) (s : ByteArray) (vu : Value) (u : UnfD) (a : Int) (w : World) (lo lo' : Nat) (hv : NetAt lo w v n) (hvu : UnfAt lo' w vu u) (hsm : SmallTrs n.ts) (hsu : SmallUnf u) (hs : s.size ≤ 1048576) :
    Calls Tryz.prog 39 #[v, .string s, vu, .int .i64 a] w (RetSB w (lmV n s u a) (lmB n s u a)) := by
  obtain ⟨G, hG⟩ : ∃ x, x = lmB n s u a := ⟨_, rfl⟩
  obtain ⟨V, hV⟩ : ∃ x, x = lmV n s u a := ⟨_, rfl⟩
  rw [← hG, ← hV]
  have HF := Lib.hid hG; have HVV := Lib.hid hV
  clear hG hV
  obtain ⟨ao, cap, rfl⟩ := net_form hv
  obtain ⟨a0, k0, a1, k1, rfl, hcc, hee⟩ := hvu.form
  obtain ⟨R, hR⟩ : ∃ x, x = uvB n s u := ⟨_, rfl⟩
  have HR := Lib.hid hR
  clear hcc hee hR
  obtain ⟨p, hp⟩ : ∃ p, p = n.places := ⟨_, rfl⟩
  obtain ⟨m, hm⟩ : ∃ m, m = n.ts.length := ⟨_, rfl⟩
  obtain ⟨nc, hnc⟩ : ∃ m, m = u.cs.length := ⟨_, rfl⟩
  obtain ⟨ne, hne⟩ : ∃ m, m = u.es.length := ⟨_, rfl⟩
  rw [← hm] at hv
  rw [← hnc, ← hne] at hvu
  rw [← hp, ← hm, ← hnc, ← hne]
  have HPl := Lib.hid hp
  have HV := Lib.hid hv
  have HVU := Lib.hid hvu
  have HNE := Lib.hid hne
  have HNC := Lib.hid hnc
  clear hp hm hnc hne hv hvu
  obtain ⟨W, hW⟩ : ∃ x, x = (w.alloc (.cells #[.int .i64 p, .slice ao m cap] 34)).alloc (.cells #[.slice a0 nc k0, .slice a1 ne k1] 39) := ⟨_, rfl⟩
  have hw0 : Below w.heap.size w W := by rw [hW]; (repeat' (first | (with_reducible exact Below.refl _ _) | (with_reducible assumption) | (with_reducible refine Below.alloc ?_ ?_ _) | (with_reducible refine Below.drew ?_) | (with_reducible refine below_drewN ?_ _) | (with_reducible refine Below.setCell ?_ ?_ _) | go_size))
  have n0 : W.cell? ⟨w.heap.size, 0, none⟩ = some (.int .i64 p) := by rw [hW]; exact cell_carry (w := w.alloc (.cells #[.int .i64 p, .slice ao m cap] 34)) (cell_new2 rfl).1 ((Carries.refl 0 _).alloc _)
  have n1 : W.cell? ⟨w.heap.size, 1, none⟩ = some (.slice ao m cap) := by rw [hW]; exact cell_carry (w := w.alloc (.cells #[.int .i64 p, .slice ao m cap] 34)) (cell_new2 rfl).2 ((Carries.refl 0 _).alloc _)
  have u0 : W.cell? ⟨w.heap.size + 1, 0, none⟩ = some (.slice a0 nc k0) := by rw [hW]; simp
  have u1 : W.cell? ⟨w.heap.size + 1, 1, none⟩ = some (.slice a1 ne k1) := by rw [hW]; simp
  go_enter Tryz.func39, Tryz.ntmps39
  go_wp2_with (go_at_call 78; rw [← hW]; clear hW; rw [HPl.out]; refine (l8Asked_any _ n s _ u a W lo lo' (HV.out.keep (Carries.of lo hw0)) (HVU.out.keep (Carries.of lo' hw0)) hsm hsu hs).mono ?_)
  rintro e w1 ⟨rfl, hb1⟩
  rw [← HF.out]
  have hw1 : Below w.heap.size w w1 := hw0.trans (hb1.mono hw0.size)
  rw [HPl.out] at n0
  have n0 := cell_carry n0 (Carries.of 0 hb1)
  have n1 := cell_carry n1 (Carries.of 0 hb1)
  have u0 := cell_carry u0 (Carries.of 0 hb1)
  have u1 := cell_carry u1 (Carries.of 0 hb1)
  clear hb1
  cases G with
  | false =>
    have hvv : V = ByteArray.empty := by rw [HVV.out]; exact lmV_no HF.out.symm
    subst hvv
    go_wp2_with fail
    go_ret2
    exact ⟨rfl, hw1⟩
  | true =>
  have hFT := HF.out
  unfold lmB at hFT
  have hR : R = true := by
    rw [← HR.out] at hFT
    cases R with
    | true => rfl
    | false => rw [Bool.false_and] at hFT; cases hFT
  have hRR := HR.out
  rw [hR] at hRR
  have ha : 0 ≤ a ∧ a < (u.es.length : Int) := by
    rw [← hRR, Bool.true_and] at hFT
    exact of_decide_eq_true hFT.symm
  obtain ⟨an, rfl⟩ : ∃ q : Nat, a = (q : Int) := ⟨a.toNat, by omega⟩
  obtain ⟨hgn, h60, h200, hxc, hxe, hGG⟩ := uvB_all hRR.symm
  obtain ⟨pn, hpn, hp30, hpl⟩ := uvB_pl hRR.symm
  have hvv : mkS pn (hisAll n s u.es).cs (cutS (hisAll n s u.es) ((hisAll n s u.es).ps.getD an 0)) = V := by
    rw [HVV.out]
    exact (lmV_yes hpn HF.out.symm).symm
  have han : an < (hisAll n s u.es).es.length := by rw [hxe]; omega
  have HVB := Lib.hid hvv
  have H200 := Lib.hid h200; have H60 := Lib.hid h60; have HXC := Lib.hid hxc; have HXE := Lib.hid hxe; have HGG := Lib.hid hGG; have HAN := Lib.hid han
  rw [hpn] at n0
  clear hFT hR hRR hgn h60 h200 hxc hxe hGG hvv hpl han ha hpn
  go_wp2_with fail
  refine (l8Local_any pn _ ⟨_, _, _, rfl⟩ _ (hisAll n s u.es) an w1 lo' hp30 (by rw [HXC.out, HXE.out]; exact HVU.out.keep (Carries.of lo' hw1)) HGG.out (by rw [HXC.out]; have := H200.out; omega) (by rw [HXE.out]; have := H60.out; omega) (by rw [HXE.out]; exact hsu.2.2) HAN.out).mono ?_
  rintro e w4 ⟨rfl, hb4⟩
  rw [HVB.out]
  have hw4 : Below w.heap.size w w4 := hw1.trans (hb4.mono hw1.size)
  go_wp2_with fail
  go_ret2
  exact ⟨rfl, hw4⟩

end Go.Proofs.YtdiblkgjmkbpmaaGreat
