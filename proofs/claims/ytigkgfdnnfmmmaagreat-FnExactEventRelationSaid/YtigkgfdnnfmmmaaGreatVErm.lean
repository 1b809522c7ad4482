/- WALKS: l7Relation, EventRelation of the model (written by gen8/germ.py). -/
import Derived.Test.YtigkgfdnnfmmmaaGreatVEro
import Derived.Test.YtigkgfdnnfmmmaaGreatVUvs
namespace Go.Proofs.YtigkgfdnnfmmmaaGreat
open Go.RowKit

theorem ints_two' (w : World) (p q : Int) : IntsAt 0 (w.alloc (.cells #[.int .i64 p, .int .i64 q] 3)) (.slice (some ⟨w.heap.size, 0, none⟩) 2 2) [p, q] := by
  refine ⟨_, _, rfl, Nat.le_refl _, Or.inr ⟨w.heap.size, 0, rfl, Nat.zero_le _, fun i hi => ?_⟩⟩
  match i, hi with
  | 0, _ => simp
  | 1, _ => simp
theorem list_one_lt {p : Int} {n : Nat} (h : p < (n : Int)) : ∀ k, k < [p].length → [p].getD k 0 < (n : Int) := fun k hk => by
  have : k = 0 := by simp only [List.length_cons, List.length_nil] at hk; omega
  subst this
  exact h
theorem list_two_lt {p q : Int} {n : Nat} (h : p < (n : Int)) (h' : q < (n : Int)) : ∀ k, k < [p, q].length → [p, q].getD k 0 < (n : Int) := fun k hk => by
  have : k = 0 ∨ k = 1 := by simp only [List.length_cons, List.length_nil] at hk; omega
  rcases this with rfl | rfl
  · exact h
  · exact h'
theorem ints_one' (w : World) (p : Int) : IntsAt 0 (w.alloc (.cells #[.int .i64 p] 3)) (.slice (some ⟨w.heap.size, 0, none⟩) 1 1) [p] := by
  refine ⟨_, _, rfl, Nat.le_refl _, Or.inr ⟨w.heap.size, 0, rfl, Nat.zero_le _, fun i hi => ?_⟩⟩
  match i, hi with
  | 0, _ => simp

set_option maxRecDepth 100000 in
set_option maxHeartbeats 2000000 in
theorem l7Relation_any (vu : Value) (x : His) (a b : Nat) (w : World) (lo : Nat) (hvu : UnfAt lo w vu ⟨x.cs, x.es⟩) (hG : HisG x) (hcl : x.cs.length ≤ 1048576) (hel : x.es.length ≤ 1048576) (hev : ∀ k, k < x.es.length → (evP x.es k).length ≤ 1048576) (ha : a < x.es.length) (hb : b < x.es.length) :
    Calls Tryz.prog 49 #[vu, .int .i64 (a : Int), .int .i64 (b : Int)] w (RetV w (.int .i64 (relV x a b))) := by
  have hrel : relV x a b = if a = b then 0 else if (x.ps.getD b 0).testBit a = true then 1 else if (x.ps.getD a 0).testBit b = true then 2 else if cfB x.us (x.ps.getD a 0 ||| x.ps.getD b 0) = true then 3 else 4 := rfl
  have hba := rel_before hG (a := a) hb
  have hab := rel_before hG (a := b) ha
  have hcf := rel_conf hG ha hb
  have hwf := hG.m.wf
  obtain ⟨cs, es, ps, us⟩ := x
  simp only at hvu hcl hel hev ha hb hba hab hcf hwf hrel
  obtain ⟨V, hV⟩ : ∃ y, y = relV ⟨cs, es, ps, us⟩ a b := ⟨_, rfl⟩
  rw [← hV] at hrel ⊢
  clear hV hG
  have hin2 : ∀ e, e < es.length → ∀ q, q < (evP es e).length → 0 ≤ (evP es e).getD q 0 ∧ (evP es e).getD q 0 < (cs.length : Int) := fun e he q hq => (hwf e he q hq).1
  generalize (ps.getD b 0).testBit a = q1 at hrel hba
  generalize (ps.getD a 0).testBit b = q2 at hrel hab
  generalize cfB us (ps.getD a 0 ||| ps.getD b 0) = q3 at hrel hcf
  obtain ⟨a0, k0, a1, k1, rfl, hcc, hee⟩ := hvu.form
  have HU := Lib.hid hvu
  simp only at hcc hee ⊢
  obtain ⟨nc, hnc⟩ : ∃ m, m = cs.length := ⟨_, rfl⟩
  obtain ⟨ne, hne⟩ : ∃ m, m = es.length := ⟨_, rfl⟩
  rw [← hnc, ← hne] at HU
  rw [← hnc, ← hne]
  have HWF := Lib.hid hwf; have HEV := Lib.hid hev; have HREL := Lib.hid hrel; have HBA := Lib.hid hba; have HAB := Lib.hid hab; have HCF := Lib.hid hcf; have HIN2 := Lib.hid hin2
  have HNE := Lib.hid hne; have HNC := Lib.hid hnc
  clear hwf hev hrel hba hab hcf hin2 hcc hee hne hnc hvu
  go_enter Tryz.func49, Tryz.ntmps49
  have hW : Below w.heap.size w (w.alloc (.cells #[.slice a0 nc k0, .slice a1 ne k1] 38)) := (Below.refl _ _).alloc (Nat.le_refl _) _
  have x0 : (w.alloc (.cells #[.slice a0 nc k0, .slice a1 ne k1] 38)).cell? ⟨w.heap.size, 0, none⟩ = some (.slice a0 nc k0) := by simp
  have x1 : (w.alloc (.cells #[.slice a0 nc k0, .slice a1 ne k1] 38)).cell? ⟨w.heap.size, 1, none⟩ = some (.slice a1 ne k1) := by simp
  go_upto_region 1 with fail
  generalize w.alloc (.cells #[.slice a0 nc k0, .slice a1 ne k1] 38) = W at hW x0 x1 ⊢
  by_cases hab : a = b
  · have hv0 : V = 0 := by rw [HREL.out, if_pos hab]
    subst hab; subst hv0
    have t1 : ((a : Int) == (a : Int)) = true := by simp
    go_wp2_with fail
    go_ret
    exact ⟨rfl, hW⟩
  have t1 : ((a : Int) == (b : Int)) = false := by rw [beq_eq_false_iff_ne]; omega
  have HW := Lib.hid hW; clear hW
  have z0 : w.heap.size < W.heap.size := cell_old x0
  have hbA : Below W.heap.size W (W.alloc (.cells #[.int .i64 (b : Int)] 3)) := (Below.refl _ _).alloc (Nat.le_refl _) _
  have HIAb := Lib.hid (ints_one' W (b : Int))
  have HWAb := Lib.hid (HW.out.trans (hbA.mono HW.out.size))
  have x0 := cell_carry x0 (Carries.of 0 hbA)
  have x1 := cell_carry x1 (Carries.of 0 hbA)
  clear hbA
  go_wp2_with fail
  refine (l7Past_any _ _ cs es [(b : Int)] _ lo 0 (HU.out.keep (Carries.of lo HWAb.out)) HIAb.out (show 1 ≤ 1048576 by omega) hel HEV.out (list_one_lt (by omega)) HWF.out).mono ?_
  rintro e w1 ⟨vp, rfl, hrp, hb6⟩
  rw [out_pastQ] at hrp
  have HPb := Lib.hid (ints_of_owns hrp)
  have hplen : (pastQ cs es [(b : Int)]).length ≤ 1048576 := by
    unfold pastQ
    exact Nat.le_trans (List.length_filter_le _ _) (by rw [List.length_range]; exact hel)
  obtain ⟨ap, kp, rfl⟩ := owns_form hrp
  obtain ⟨nqb, hnq⟩ : ∃ y, y = ((pastQ cs es [(b : Int)]).map fun (e : Nat) => (e : Int)).length := ⟨_, rfl⟩
  rw [← hnq] at HPb ⊢
  clear hnq
  have x0 := cell_carry x0 (Carries.of 0 hb6)
  have x1 := cell_carry x1 (Carries.of 0 hb6)
  have HWBb := Lib.hid (HWAb.out.trans (hb6.mono HWAb.out.size))
  clear hrp hb6
  go_wp2_with fail
  refine (l1Has_any _ _ (a : Int) w1 _ HPb.out (by rw [List.length_map]; omega)).mono ?_
  rintro e w2 ⟨rfl, hb7⟩
  rw [HBA.out]
  have HWb := Lib.hid (HWBb.out.trans (hb7.mono HWBb.out.size))
  have x0 := cell_carry x0 (Carries.of 0 hb7)
  have x1 := cell_carry x1 (Carries.of 0 hb7)
  have zb : w.heap.size < w2.heap.size := cell_old x0
  clear hb7 hplen
  cases q1 with
  | true =>
    have hv0 : V = 1 := by rw [HREL.out, if_neg hab, if_pos rfl]
    subst hv0
    go_wp2_with fail
    go_ret
    exact ⟨rfl, HWb.out⟩
  | false =>
  have hbA : Below w2.heap.size w2 (w2.alloc (.cells #[.int .i64 (a : Int)] 3)) := (Below.refl _ _).alloc (Nat.le_refl _) _
  have HIAd := Lib.hid (ints_one' w2 (a : Int))
  have HWAd := Lib.hid (HWb.out.trans (hbA.mono HWb.out.size))
  have x0 := cell_carry x0 (Carries.of 0 hbA)
  have x1 := cell_carry x1 (Carries.of 0 hbA)
  clear hbA
  go_wp2_with fail
  refine (l7Past_any _ _ cs es [(a : Int)] _ lo 0 (HU.out.keep (Carries.of lo HWAd.out)) HIAd.out (show 1 ≤ 1048576 by omega) hel HEV.out (list_one_lt (by omega)) HWF.out).mono ?_
  rintro e w3 ⟨vp, rfl, hrp, hb6⟩
  rw [out_pastQ] at hrp
  have HPd := Lib.hid (ints_of_owns hrp)
  have hplen : (pastQ cs es [(a : Int)]).length ≤ 1048576 := by
    unfold pastQ
    exact Nat.le_trans (List.length_filter_le _ _) (by rw [List.length_range]; exact hel)
  obtain ⟨ap, kp, rfl⟩ := owns_form hrp
  obtain ⟨nqd, hnq⟩ : ∃ y, y = ((pastQ cs es [(a : Int)]).map fun (e : Nat) => (e : Int)).length := ⟨_, rfl⟩
  rw [← hnq] at HPd ⊢
  clear hnq
  have x0 := cell_carry x0 (Carries.of 0 hb6)
  have x1 := cell_carry x1 (Carries.of 0 hb6)
  have HWBd := Lib.hid (HWAd.out.trans (hb6.mono HWAd.out.size))
  clear hrp hb6
  go_wp2_with fail
  refine (l1Has_any _ _ (b : Int) w3 _ HPd.out (by rw [List.length_map]; omega)).mono ?_
  rintro e w4 ⟨rfl, hb7⟩
  rw [HAB.out]
  have HWd := Lib.hid (HWBd.out.trans (hb7.mono HWBd.out.size))
  have x0 := cell_carry x0 (Carries.of 0 hb7)
  have x1 := cell_carry x1 (Carries.of 0 hb7)
  have zd : w.heap.size < w4.heap.size := cell_old x0
  clear hb7 hplen
  cases q2 with
  | true =>
    have hv0 : V = 2 := by rw [HREL.out, if_neg hab, if_neg (by simp), if_pos rfl]
    subst hv0
    go_wp2_with fail
    go_ret
    exact ⟨rfl, HWd.out⟩
  | false =>
  go_wp2_with fail
  refine wp_region_held_drew (S := fun w' => w'.cell? ⟨w.heap.size, 0, none⟩ = some (.slice a0 nc k0) ∧ w'.cell? ⟨w.heap.size, 1, none⟩ = some (.slice a1 ne k1)) (by kernel_rfl) ⟨x0, x1⟩ (fun hHeld => ?_)
  refine tk0 (v := ?_) (by kernel_rfl) (by kernel_rfl) (by kernel_rfl) (by first | exact fun _ _ _ h => h | exact fun _ _ _ h => absurd h.1 (by simp)) (Or.inl ⟨by rfl, ?_⟩) (by assumption) ?_
  rotate_left 1
  focus (intro wx hSw; (try dsimp only at hSw); go_simp; try (with_reducible rfl))
  try simp only [Act.put, List.setIfInBounds_toArray, List.set_cons_zero, List.set_cons_succ]
  refine tk1 (v := ?_) (by kernel_rfl) (by kernel_rfl) (by kernel_rfl) (by first | exact fun _ _ _ h => h | exact fun _ _ _ h => absurd h.1 (by simp)) (Or.inl ⟨by rfl, ?_⟩) (by assumption) ?_
  rotate_left 1
  focus (intro wx hSw; (try dsimp only at hSw); go_simp; try (with_reducible rfl))
  try simp only [Act.put, List.setIfInBounds_toArray, List.set_cons_zero, List.set_cons_succ]
  refine tk2 (v := ?_) (by kernel_rfl) (by kernel_rfl) (by kernel_rfl) (by first | exact fun _ _ _ h => h | exact fun _ _ _ h => absurd h.1 (by simp)) (Or.inl ⟨by rfl, ?_⟩) (by assumption) ?_
  rotate_left 1
  focus (intro wx hSw; (try dsimp only at hSw); go_simp; try (with_reducible rfl))
  try simp only [Act.put, List.setIfInBounds_toArray, List.set_cons_zero, List.set_cons_succ]
  refine tk3 (v := ?_) (by kernel_rfl) (by kernel_rfl) (by kernel_rfl) (by first | exact fun _ _ _ h => h | exact fun _ _ _ h => absurd h.1 (by simp)) (Or.inl ⟨by rfl, ?_⟩) (by assumption) ?_
  rotate_left 1
  focus (intro wx hSw; (try dsimp only at hSw); go_simp; try (with_reducible rfl))
  try simp only [Act.put, List.setIfInBounds_toArray, List.set_cons_zero, List.set_cons_succ]
  refine rd4 (by kernel_rfl) (fun K hK => ?_)
  go_simp
  have hbA : Below w4.heap.size w4 (w4.alloc (.cells #[.int .i64 (a : Int), .int .i64 (b : Int)] 3)).drew := ((Below.refl _ _).alloc (Nat.le_refl _) _).drew
  have hIA : IntsAt 0 (w4.alloc (.cells #[.int .i64 (a : Int), .int .i64 (b : Int)] 3)).drew (.slice (some ⟨w4.heap.size, 0, none⟩) 2 2) [(a : Int), (b : Int)] := (ints_two' w4 _ _).keep (Carries.of _ (Below.refl _ _).drew)
  have HIA := Lib.hid hIA; clear hIA
  generalize (w4.alloc (.cells #[.int .i64 (a : Int), .int .i64 (b : Int)] 3)).drew = w5 at hbA HIA ⊢
  have x0 := cell_carry x0 (Carries.of 0 hbA)
  have x1 := cell_carry x1 (Carries.of 0 hbA)
  have HW5 := Lib.hid (HWd.out.trans (hbA.mono HWd.out.size))
  clear hbA
  refine hK.out _ _ ⟨x0, x1⟩ (fun hHeld => ?_)
  clear hK K
  try simp only [Act.put, List.setIfInBounds_toArray, List.set_cons_zero, List.set_cons_succ]
  refine rd5 (by kernel_rfl) (fun K hK => ?_)
  go_simp
  refine (l7Past_any _ _ cs es [(a : Int), (b : Int)] w5 lo 0 (HU.out.keep (Carries.of lo HW5.out)) HIA.out (show 2 ≤ 1048576 by omega) hel HEV.out (list_two_lt (by omega) (by omega)) HWF.out).mono ?_
  rintro e w6 ⟨vp, rfl, hrp, hb6⟩
  rw [out_pastQ] at hrp
  have HP := Lib.hid (ints_of_owns hrp)
  obtain ⟨ap, kp, rfl⟩ := owns_form hrp
  have x0 := cell_carry x0 (Carries.of 0 hb6)
  have x1 := cell_carry x1 (Carries.of 0 hb6)
  have HW6 := Lib.hid (HW5.out.trans (hb6.mono HW5.out.size))
  have hplen : (pastQ cs es [(a : Int), (b : Int)]).length ≤ 1048576 := by
    unfold pastQ
    exact Nat.le_trans (List.length_filter_le _ _) (by rw [List.length_range]; exact hel)
  clear hrp hb6
  obtain ⟨nq, hnq⟩ : ∃ y, y = ((pastQ cs es [(a : Int), (b : Int)]).map fun (e : Nat) => (e : Int)).length := ⟨_, rfl⟩
  rw [← hnq] at HP ⊢
  clear hnq
  refine hK.out _ _ ⟨x0, x1⟩ (fun hHeld => ?_)
  clear hK K
  try simp only [Act.put, List.setIfInBounds_toArray, List.set_cons_zero, List.set_cons_succ]
  refine rd6 (by kernel_rfl) (fun K hK => ?_)
  go_simp
  refine (l7Free_any _ _ cs es (pastQ cs es [(a : Int), (b : Int)]) w6 lo _ (HU.out.keep (Carries.of lo HW6.out)) HP.out hplen hcl HEV.out (fun k hk => by have := pastQ_lt _ (List.getElem_mem hk); simpa [List.getD, hk] using this) HIN2.out).mono ?_
  rintro e w7 ⟨rfl, hb7⟩
  have x0 := cell_carry x0 (Carries.of 0 hb7)
  have x1 := cell_carry x1 (Carries.of 0 hb7)
  have hw7 := HW6.out.trans (hb7.mono HW6.out.size)
  have hfq : freeB es (pastQ cs es [(a : Int), (b : Int)]) = !q3 := by rw [← HCF.out]; simp
  rw [hfq]
  clear hfq
  cases q3 with
  | true =>
    have hv0 : V = 3 := by rw [HREL.out, if_neg hab, if_neg (by simp), if_neg (by simp), if_pos rfl]
    subst hv0
    refine hK.out _ _ ⟨x0, x1⟩ (fun hHeld => ?_)
    clear hK K
    try simp only [Act.put, List.setIfInBounds_toArray, List.set_cons_zero, List.set_cons_succ]
    refine tk7 (v := ?_) (by kernel_rfl) (by kernel_rfl) (by kernel_rfl) (by first | exact fun _ _ _ h => h | exact fun _ _ _ h => absurd h.1 (by simp)) (Or.inl ⟨by rfl, ?_⟩) (by assumption) ?_
    rotate_left 1
    focus (intro wx hSw; (try dsimp only at hSw); go_simp; try (with_reducible rfl))
    try simp only [Act.put, List.setIfInBounds_toArray, List.set_cons_zero, List.set_cons_succ]
    refine tk8 (v := ?_) (by kernel_rfl) (by kernel_rfl) (by kernel_rfl) (by first | exact fun _ _ _ h => h | exact fun _ _ _ h => absurd h.1 (by simp)) (Or.inl ⟨by rfl, ?_⟩) (by assumption) ?_
    rotate_left 1
    focus (intro wx hSw; (try dsimp only at hSw); go_simp; try (with_reducible rfl))
    try simp only [Act.put, List.setIfInBounds_toArray, List.set_cons_zero, List.set_cons_succ]
    refine wpAnyH_done (by kernel_rfl) ?_ _
    go_wp2_with fail
    go_ret
    exact ⟨rfl, hw7⟩
  | false =>
    have hv0 : V = 4 := by rw [HREL.out, if_neg hab, if_neg (by simp), if_neg (by simp), if_neg (by simp)]
    subst hv0
    refine hK.out _ _ ⟨x0, x1⟩ (fun hHeld => ?_)
    clear hK K
    try simp only [Act.put, List.setIfInBounds_toArray, List.set_cons_zero, List.set_cons_succ]
    refine tk7 (v := ?_) (by kernel_rfl) (by kernel_rfl) (by kernel_rfl) (by first | exact fun _ _ _ h => h | exact fun _ _ _ h => absurd h.1 (by simp)) (Or.inl ⟨by rfl, ?_⟩) (by assumption) ?_
    rotate_left 1
    focus (intro wx hSw; (try dsimp only at hSw); go_simp; try (with_reducible rfl))
    try simp only [Act.put, List.setIfInBounds_toArray, List.set_cons_zero, List.set_cons_succ]
    refine tk8 (v := ?_) (by kernel_rfl) (by kernel_rfl) (by kernel_rfl) (by first | exact fun _ _ _ h => h | exact fun _ _ _ h => absurd h.1 (by simp)) (Or.inl ⟨by rfl, ?_⟩) (by assumption) ?_
    rotate_left 1
    focus (intro wx hSw; (try dsimp only at hSw); go_simp; try (with_reducible rfl))
    try simp only [Act.put, List.setIfInBounds_toArray, List.set_cons_zero, List.set_cons_succ]
    refine wpAnyH_done (by kernel_rfl) ?_ _
    go_wp2_with fail
    go_ret
    exact ⟨rfl, hw7⟩

set_option maxRecDepth 100000 in
set_option maxHeartbeats 2000000 in
theorem specEventRelation_any (v : Value) (n : NetD) (s : ByteArray) (vu : Value) (u : UnfD) (a b : Int) (w : World) (lo lo' : Nat) (hv : NetAt lo w v n) (hvu : UnfAt lo' w vu u) (hsm : SmallTrs n.ts) (hsu : SmallUnf u) (hs : s.size ≤ 1048576) :
    Calls Tryz.prog 20 #[v, .string s, vu, .int .i64 a, .int .i64 b] w (RetIB w (erV n s u a b) (erB n s u a b)) := by
  obtain ⟨G, hG⟩ : ∃ x, x = erB n s u a b := ⟨_, rfl⟩
  obtain ⟨V, hV⟩ : ∃ x, x = erV n s u a b := ⟨_, rfl⟩
  rw [← hG, ← hV]
  have HF := Lib.hid hG; have HVV := Lib.hid hV
  clear hG hV
  obtain ⟨ao, cap, rfl⟩ := net_form hv
  obtain ⟨a0, k0, a1, k1, rfl, hcc, hee⟩ := hvu.form
  obtain ⟨R, hR⟩ : ∃ x, x = uvB n s u := ⟨_, rfl⟩
  have HR := Lib.hid hR
  clear hcc hee hR
  obtain ⟨p, hp⟩ : ∃ p, p = n.places := ⟨_, rfl⟩
  obtain ⟨m, hm⟩ : ∃ m, m = n.ts.length := ⟨_, rfl⟩
  obtain ⟨nc, hnc⟩ : ∃ m, m = u.cs.length := ⟨_, rfl⟩
  obtain ⟨ne, hne⟩ : ∃ m, m = u.es.length := ⟨_, rfl⟩
  rw [← hm] at hv
  rw [← hnc, ← hne] at hvu
  rw [← hp, ← hm, ← hnc, ← hne]
  have HPl := Lib.hid hp
  have HV := Lib.hid hv
  have HVU := Lib.hid hvu
  have HNE := Lib.hid hne
  have HNC := Lib.hid hnc
  clear hp hm hnc hne hv hvu
  obtain ⟨W, hW⟩ : ∃ x, x = (w.alloc (.cells #[.int .i64 p, .slice ao m cap] 43)).alloc (.cells #[.slice a0 nc k0, .slice a1 ne k1] 38) := ⟨_, rfl⟩
  have hw0 : Below w.heap.size w W := by rw [hW]; (repeat' (first | (with_reducible exact Below.refl _ _) | (with_reducible assumption) | (with_reducible refine Below.alloc ?_ ?_ _) | (with_reducible refine Below.drew ?_) | (with_reducible refine below_drewN ?_ _) | (with_reducible refine Below.setCell ?_ ?_ _) | go_size))
  have u1 : W.cell? ⟨w.heap.size + 1, 1, none⟩ = some (.slice a1 ne k1) := by rw [hW]; simp
  have u0 : W.cell? ⟨w.heap.size + 1, 0, none⟩ = some (.slice a0 nc k0) := by rw [hW]; simp
  go_enter Tryz.func20, Tryz.ntmps20
  go_wp2_with (go_at_call 26; rw [← hW]; clear hW; rw [HPl.out]; refine (l7Good_any _ n s _ u W lo lo' (HV.out.keep (Carries.of lo hw0)) (HVU.out.keep (Carries.of lo' hw0)) hsm hsu hs).mono ?_)
  rintro e w1 ⟨rfl, hb1⟩
  rw [← HR.out]
  have hw1 : Below w.heap.size w w1 := hw0.trans (hb1.mono hw0.size)
  have u0 := cell_carry u0 (Carries.of 0 hb1)
  have u1 := cell_carry u1 (Carries.of 0 hb1)
  clear hb1
  have hno : G = false → V = 0 := fun q => by rw [HVV.out]; exact erV_no (HF.out.symm.trans q)
  have HNO := Lib.hid hno; clear hno
  cases R with
  | false =>
    have hg : G = false := by rw [HF.out]; unfold erB; rw [← HR.out]; rfl
    have hvv := HNO.out hg
    subst hg; subst hvv
    go_wp2_with fail
    go_ret2
    exact ⟨rfl, hw1⟩
  | true =>
  obtain ⟨hgn, h60, h200, hxc, hxe, hGG⟩ := uvB_all HR.out.symm
  have h60' : ne ≤ 60 := by rw [HNE.out]; exact h60
  obtain ⟨qa, hqa⟩ : ∃ q, q = decide (0 ≤ a ∧ a < (ne : Int)) := ⟨_, rfl⟩
  obtain ⟨qb, hqb⟩ : ∃ q, q = decide (0 ≤ b ∧ b < (ne : Int)) := ⟨_, rfl⟩
  have hGq : G = (qa && qb) := by rw [HF.out]; unfold erB; rw [← HR.out, ← HNE.out, ← hqa, ← hqb]; rfl
  have HQA := Lib.hid hqa; have HQB := Lib.hid hqb; have HGQ := Lib.hid hGq
  have hwn : IntKind.i64.wrap ((ne : Int) - 1) = (ne : Int) - 1 := IntWalk.i64_in _ ⟨by omega, by omega⟩
  have hie : ∀ z : Int, decide (0 ≤ z ∧ z ≤ (ne : Int) - 1) = decide (0 ≤ z ∧ z < (ne : Int)) := fun z => by
    congr 1
    apply propext
    constructor <;> intro h <;> exact ⟨h.1, by omega⟩
  have HIE := Lib.hid hie
  have HGG := Lib.hid hGG; have H200 := Lib.hid h200; have HXC := Lib.hid hxc; have HXE := Lib.hid hxe
  clear hqa hqb hGq hie hGG h60 h200 hxc hxe hgn
  go_wp2_with fail
  refine (l1In_any _ _ _ _).mono ?_
  rintro e w2 ⟨rfl, hb2⟩
  (try rw [hwn])
  rw [HIE.out, ← HQA.out]
  have hw2 : Below w.heap.size w w2 := hw1.trans (hb2.mono hw1.size)
  have u0 := cell_carry u0 (Carries.of 0 hb2)
  have u1 := cell_carry u1 (Carries.of 0 hb2)
  clear hb2
  cases qa with
  | false =>
    have hg : G = false := by rw [HGQ.out]; rfl
    have hvv := HNO.out hg
    subst hg; subst hvv
    go_wp2_with fail
    go_ret2
    exact ⟨rfl, hw2⟩
  | true =>
  go_wp2_with fail
  refine (l1In_any _ _ _ _).mono ?_
  rintro e w3 ⟨rfl, hb3⟩
  (try rw [hwn])
  rw [HIE.out, ← HQB.out]
  have hw3 : Below w.heap.size w w3 := hw2.trans (hb3.mono hw2.size)
  have u0 := cell_carry u0 (Carries.of 0 hb3)
  have u1 := cell_carry u1 (Carries.of 0 hb3)
  clear hb3
  cases qb with
  | false =>
    have hg : G = false := by rw [HGQ.out]; rfl
    have hvv := HNO.out hg
    subst hg; subst hvv
    go_wp2_with fail
    go_ret2
    exact ⟨rfl, hw3⟩
  | true =>
  have hg : G = true := by rw [HGQ.out]; rfl
  subst hg
  have ha := of_decide_eq_true HQA.out.symm
  have hb := of_decide_eq_true HQB.out.symm
  obtain ⟨an, rfl⟩ : ∃ q : Nat, a = (q : Int) := ⟨a.toNat, by omega⟩
  obtain ⟨bn, rfl⟩ : ∃ q : Nat, b = (q : Int) := ⟨b.toNat, by omega⟩
  have hVV : V = relV (hisAll n s u.es) an bn := by rw [HVV.out]; exact erV_yes HF.out.symm
  have HV2 := Lib.hid hVV; clear hVV
  go_wp2_with fail
  refine (l7Relation_any _ (hisAll n s u.es) an bn w3 lo' (by rw [HXC.out, HXE.out]; exact HVU.out.keep (Carries.of lo' hw3)) HGG.out (by rw [HXC.out]; have := H200.out; omega) (by rw [HXE.out, ← HNE.out]; omega) (by rw [HXE.out]; exact hsu.2.2) (by rw [HXE.out, ← HNE.out]; omega) (by rw [HXE.out, ← HNE.out]; omega)).mono ?_
  rintro e w4 ⟨rfl, hb4⟩
  rw [← HV2.out]
  have hw4 : Below w.heap.size w w4 := hw3.trans (hb4.mono hw3.size)
  go_wp2_with fail
  go_ret2
  exact ⟨rfl, hw4⟩

end Go.Proofs.YtigkgfdnnfmmmaaGreat
