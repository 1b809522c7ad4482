/- DATA of ShortestPath; a row of arcs made whole; ShortestPath of the program. -/
import Derived.Test.YtnmoocgocnjdjaaGreatVAro
import Derived.Test.YtnmoocgocnjdjaaGreatVSgv
import Derived.Test.YtnmoocgocnjdjaaGreatVShp
namespace Go.Proofs.YtnmoocgocnjdjaaGreat
open Go.RowKit

def arBy (ls : List Ar) (W : List Nat) : List Ar := W.map (fun i => (arF ls i, arS ls i, arU ls i, arT ls i))
theorem arBy_length (ls : List Ar) (W : List Nat) : (arBy ls W).length = W.length := by simp [arBy]
theorem arBy_get {ls : List Ar} {W : List Nat} {e k : Nat} (h : W[e]? = some k) : arF (arBy ls W) e = arF ls k ∧ arS (arBy ls W) e = arS ls k ∧ arU (arBy ls W) e = arU ls k ∧ arT (arBy ls W) e = arT ls k := by
  have : (arBy ls W)[e]? = some (arF ls k, arS ls k, arU ls k, arT ls k) := by
    unfold arBy
    simp [h]
  have h2 : ∀ z, (arBy ls W).getD e z = (arF ls k, arS ls k, arU ls k, arT ls k) := fun z => by simp [List.getD, this]
  refine ⟨?_, ?_, ?_, ?_⟩
  · show ((arBy ls W).getD e _).1 = _; rw [h2]
  · show ((arBy ls W).getD e _).2.1 = _; rw [h2]
  · show ((arBy ls W).getD e _).2.2.1 = _; rw [h2]
  · show ((arBy ls W).getD e _).2.2.2 = _; rw [h2]
def spB (r : SgD) (t : Int) : Bool := goodG r && decide (0 ≤ t ∧ t < (r.codes.length : Int))
def spL (r : SgD) (t : Int) : List Ar := if spB r t = true then arBy r.arcs (wayTo (mvsOf r.arcs) (distC r.codes.length (mvsOf r.arcs)) (distC r.codes.length (mvsOf r.arcs) t.toNat).toNat t.toNat) else []
theorem spL_no {r : SgD} {t : Int} (h : spB r t = false) : spL r t = [] := by unfold spL; rw [h]; rfl
theorem goodG_arcIn {r : SgD} (h : goodG r = true) : ∀ i, i < r.arcs.length → (0 ≤ arF r.arcs i ∧ arF r.arcs i < r.codes.length) ∧ (0 ≤ arT r.arcs i ∧ arT r.arcs i < r.codes.length) := fun i hi => by
  rw [goodG_split] at h
  simp only [Bool.and_eq_true, decide_eq_true_eq] at h
  exact arcV_in (arcsB_at h.2.2.1.2 hi)
theorem goodG_pos {r : SgD} (h : goodG r = true) : 1 ≤ r.codes.length := by
  rw [goodG_split] at h
  simp only [Bool.and_eq_true, decide_eq_true_eq] at h
  exact h.2.1.1.1
theorem goodG_met {r : SgD} (h : goodG r = true) : allMet r.codes.length r.arcs = true := by
  rw [goodG_split] at h
  simp only [Bool.and_eq_true, decide_eq_true_eq] at h
  exact h.2.2.2
theorem mvsOf_in {ls : List Ar} {n : Nat} (h : ∀ i, i < ls.length → (0 ≤ arF ls i ∧ arF ls i < n) ∧ (0 ≤ arT ls i ∧ arT ls i < n)) : MvIn (mvsOf ls) n := fun i hi => by
  rw [mvsOf_length] at hi
  rw [(mvsOf_get hi).1, (mvsOf_get hi).2.2]
  exact h i hi
theorem goodG_far {r : SgD} {D : Nat → Int} (h : goodG r = true) (hD : Dist r.codes.length (tgL (mvsOf r.arcs)) 0 D) : ∀ k, k < r.codes.length → 0 ≤ D k := fun k hk => by
  have h1 := goodG_met h
  rw [dist_all (goodG_pos h) (goodG_arcIn h) hD, List.all_eq_true] at h1
  exact of_decide_eq_true (h1 k (by simpa using hk))
theorem spL_yes {r : SgD} {t : Nat} {D : Nat → Int} (hg : goodG r = true) (hD : Dist r.codes.length (tgL (mvsOf r.arcs)) 0 D) (ht : t < r.codes.length) : spB r t = true ∧ spL r t = arBy r.arcs (wayTo (mvsOf r.arcs) D (D t).toNat t) := by
  have hb : spB r t = true := by unfold spB; rw [hg, decide_eq_true (show (0 : Int) ≤ (t : Int) ∧ (t : Int) < (r.codes.length : Int) by omega)]; rfl
  have hin := mvsOf_in (goodG_arcIn hg)
  refine ⟨hb, ?_⟩
  unfold spL
  rw [hb, if_pos rfl, Int.toNat_natCast, distC_eq hin hD t ht, wayTo_congr hin (distC_eq hin hD)]
theorem spL_small {r : SgD} {t : Int} (h : SmallSg r) : (spL r t).length ≤ 1048576 := by
  unfold spL
  by_cases hb : spB r t = true
  · rw [if_pos hb, arBy_length, wayTo_length]
    unfold spB at hb
    simp only [Bool.and_eq_true, decide_eq_true_eq] at hb
    have ht : t.toNat < r.codes.length := by omega
    have h1 := (distC_is (mvsOf_in (goodG_arcIn hb.1)) (by omega) t.toNat ht).2.1
    have h2 := h.2.1.1
    omega
  · rw [if_neg hb]; exact Nat.zero_le _
theorem wayTo_lt {ms : List Mv} {D : Nat → Int} {n s : Nat} (hD : Dist n (tgL ms) s D) (hin : MvIn ms n) (hs : s < n) : ∀ (d a : Nat), a < n → D a = (d : Int) → ∀ x, x ∈ wayTo ms D d a → x < ms.length
  | 0, _, _, _, x, hx => by cases hx
  | d + 1, a, ha, hd, x, hx => by
    have hst := stepAt_some hD hin hs ha (by rw [hd]; omega : D a = (d : Int) + 1)
    unfold wayTo at hx
    rcases List.mem_append.1 hx with hx | hx
    · have := (hin _ hst.1).1
      exact wayTo_lt hD hin hs d _ (by omega) (stepOk_iff.1 hst.2).2 x hx
    · have : x = stepAt ms D a d := by simpa using hx
      rw [this]; exact hst.1

theorem arow_of_quad {b n : Nat} {w : World} {ms : List Ar} (hl : ms.length = n) (hn : n ≤ 1048576) (h : QuadRow b 138 w n n (fun i => .int .i64 (arF ms i)) (fun i => .int .i64 (arS ms i)) (fun i => .bool (arU ms i)) (fun i => .int .i64 (arT ms i))) : ARow b w (.slice (some ⟨b, 0, none⟩) n n) ms := by
  subst hl
  obtain ⟨f, ⟨cur, hb, hsz, hf⟩, ht⟩ := h
  refine ⟨arCells_length ms, Or.inr ⟨b, ms.length, cur, rfl, Nat.le_refl _, hb, Nat.le_refl _, by unfold maxLen; omega, hsz, ?_⟩⟩
  apply List.ext_getElem?
  intro j
  by_cases hj : j < ms.length * 4
  · rw [List.getElem?_take, if_pos hj, Array.getElem?_toList, hf j hj]
    have hi : j / 4 < ms.length := by omega
    obtain ⟨g0, g1, g2, g3⟩ := arCells_get ms (j / 4) hi
    obtain ⟨t0, t1, t2, t3⟩ := ht (j / 4) hi
    have hc : j = j / 4 * 4 ∨ j = j / 4 * 4 + 1 ∨ j = j / 4 * 4 + 2 ∨ j = j / 4 * 4 + 3 := by omega
    rcases hc with e | e | e | e
    · rw [e, g0, t0]
    · rw [e, g1, t1]
    · rw [e, g2, t2]
    · rw [e, g3, t3]
  · rw [List.getElem?_take, if_neg hj, List.getElem?_eq_none (by rw [arCells_length]; omega)]

set_option maxRecDepth 100000 in
set_option maxHeartbeats 4000000 in
theorem ShortestPath_any (v : Value) (r : SgD) (t : Int) (w : World) (lo : Nat) (hv : SgAt lo w v r) (hs : SmallSg r) :
    Calls Tryz.prog 94 #[v, .int .i64 t] w (RetAr w (spL r t) (spB r t)) := by
  obtain ⟨LL, hL⟩ : ∃ q, q = spL r t := ⟨_, rfl⟩
  obtain ⟨qo, hqo⟩ : ∃ q, q = spB r t := ⟨_, rfl⟩
  rw [← hL, ← hqo]
  have HV := Lib.hid hv
  obtain ⟨a0, c0, a1, c1, a2, c2, rfl, h_0, h_1, h_2⟩ := hv.form
  have HL := Lib.hid h_2
  clear hv h_0 h_1 h_2
  have KC := hs.2.1.1
  have KA := hs.2.2
  have HS := Lib.hid hs; clear hs
  obtain ⟨ng, hng⟩ : ∃ n, n = r.sigs.length := ⟨_, rfl⟩
  obtain ⟨nc, hnc⟩ : ∃ n, n = r.codes.length := ⟨_, rfl⟩
  obtain ⟨na, hna⟩ : ∃ n, n = r.arcs.length := ⟨_, rfl⟩
  have E0 : Hid (spB r t = false → qo = false ∧ LL = []) := fun h => by rw [hL, hqo, h]; exact ⟨rfl, spL_no h⟩
  have E1 : Hid (qo = spB r t ∧ LL = spL r t) := ⟨hqo, hL⟩
  have HNC := Lib.hid hnc
  have HNA := Lib.hid hna
  rw [← hng, ← hnc, ← hna] at HV ⊢
  rw [← hnc] at KC
  rw [← hna] at KA HL
  clear hng hnc hna hL hqo
  have x0 : (w.alloc (.cells #[.slice a0 ng c0, .slice a1 nc c1, .slice a2 na c2] 80)).cell? ⟨w.heap.size, 0, none⟩ = some (.slice a0 ng c0) := by simp
  have x1 : (w.alloc (.cells #[.slice a0 ng c0, .slice a1 nc c1, .slice a2 na c2] 80)).cell? ⟨w.heap.size, 1, none⟩ = some (.slice a1 nc c1) := by simp
  have x2 : (w.alloc (.cells #[.slice a0 ng c0, .slice a1 nc c1, .slice a2 na c2] 80)).cell? ⟨w.heap.size, 2, none⟩ = some (.slice a2 na c2) := by simp
  have hal : Below w.heap.size w (w.alloc (.cells #[.slice a0 ng c0, .slice a1 nc c1, .slice a2 na c2] 80)) := (Below.refl _ _).alloc (Nat.le_refl _) _
  go_enter Tryz.func94, Tryz.ntmps94
  go_wp2_with fail
  generalize w.alloc (.cells #[.slice a0 ng c0, .slice a1 nc c1, .slice a2 na c2] 80) = W0 at x0 x1 x2 hal ⊢
  refine (IsValidSg_any _ r _ lo (HV.out.keep (Carries.of lo hal)) HS.out).mono ?_
  rintro e w1 ⟨rfl, hb⟩
  have hwp : Below w.heap.size w w1 := hal.trans (hb.mono hal.size)
  have x0 := cell_carry x0 (Carries.of 0 hb)
  have x1 := cell_carry x1 (Carries.of 0 hb)
  have x2 := cell_carry x2 (Carries.of 0 hb)
  clear hb hal
  cases hg : goodG r with
  | false =>
    obtain ⟨rfl, rfl⟩ := E0.out (by unfold spB; rw [hg]; rfl)
    clear hg
    go_wp2_with fail
    go_ret2
    exact ⟨_, rfl, ARow.nil _ _, hwp⟩
  | true =>
  have HGG := Lib.hid hg; clear hg
  go_wp2_with fail
  refine (hasState_any _ _ _ _ _ _ _ _ _ _ _ KC).mono ?_
  rintro e W ⟨rfl, hb⟩
  have hw : Below w.heap.size w W := hwp.trans (hb.mono hwp.size)
  have x0 := cell_carry x0 (Carries.of 0 hb)
  have x1 := cell_carry x1 (Carries.of 0 hb)
  have x2 := cell_carry x2 (Carries.of 0 hb)
  clear hb hwp
  by_cases h1 : 0 ≤ t ∧ t < (nc : Int)
  case neg =>
    obtain ⟨rfl, rfl⟩ := E0.out (by unfold spB; rw [← HNC.out, decide_eq_false h1, Bool.and_false])
    rw [decide_eq_false h1]
    clear h1
    go_wp2_with fail
    go_ret2
    exact ⟨_, rfl, ARow.nil _ _, hw⟩
  rw [decide_eq_true h1]
  obtain ⟨tn, rfl⟩ := Int.eq_ofNat_of_zero_le h1.1
  have htn : tn < nc := by omega
  clear h1
  have HIN : Hid (MvIn (mvsOf r.arcs) nc) := by rw [HNC.out]; exact mvsOf_in (goodG_arcIn HGG.out)
  have HML := Lib.hid (mvsOf_length r.arcs)
  go_wp2_with fail
  refine wp_region_held_drew (S := fun w' => w'.cell? ⟨w.heap.size, 0, none⟩ = some (.slice a0 ng c0) ∧ w'.cell? ⟨w.heap.size, 1, none⟩ = some (.slice a1 nc c1) ∧ w'.cell? ⟨w.heap.size, 2, none⟩ = some (.slice a2 na c2)) (by kernel_rfl) ⟨x0, x1, x2⟩ (fun hHeld => ?_)
  refine tk0 (v := ?_) (by kernel_rfl) (by kernel_rfl) (by kernel_rfl) (by first | exact fun _ _ _ h => h | exact fun _ _ _ h => absurd h.1 (by simp)) (Or.inl ⟨by rfl, ?_⟩) (by assumption) ?_
  rotate_left 1
  focus (intro wx hSw; (try dsimp only at hSw); go_simp; try (with_reducible rfl))
  try simp only [Act.put, List.setIfInBounds_toArray, List.set_cons_zero, List.set_cons_succ]
  refine tk1 (v := ?_) (by kernel_rfl) (by kernel_rfl) (by kernel_rfl) (by first | exact fun _ _ _ h => h | exact fun _ _ _ h => absurd h.1 (by simp)) (Or.inl ⟨by rfl, ?_⟩) (by assumption) ?_
  rotate_left 1
  focus (intro wx hSw; (try dsimp only at hSw); go_simp; try (with_reducible rfl))
  try simp only [Act.put, List.setIfInBounds_toArray, List.set_cons_zero, List.set_cons_succ]
  refine tk2 (v := ?_) (by kernel_rfl) (by kernel_rfl) (by kernel_rfl) (by first | exact fun _ _ _ h => h | exact fun _ _ _ h => absurd h.1 (by simp)) (Or.inl ⟨by rfl, ?_⟩) (by assumption) ?_
  rotate_left 1
  focus (intro wx hSw; (try dsimp only at hSw); go_simp; try (with_reducible rfl))
  try simp only [Act.put, List.setIfInBounds_toArray, List.set_cons_zero, List.set_cons_succ]
  refine tk3 (v := ?_) (by kernel_rfl) (by kernel_rfl) (by kernel_rfl) (by first | exact fun _ _ _ h => h | exact fun _ _ _ h => absurd h.1 (by simp)) (Or.inl ⟨by rfl, ?_⟩) (by assumption) ?_
  rotate_left 1
  focus (intro wx hSw; (try dsimp only at hSw); go_simp; try (with_reducible rfl))
  try simp only [Act.put, List.setIfInBounds_toArray, List.set_cons_zero, List.set_cons_succ]
  refine tk5 (v := ?_) (by kernel_rfl) (by kernel_rfl) (by kernel_rfl) (by first | exact fun _ _ _ h => h | exact fun _ _ _ h => absurd h.1 (by simp)) (Or.inl ⟨by rfl, ?_⟩) (by assumption) ?_
  rotate_left 1
  focus (intro wx hSw; (try dsimp only at hSw); go_simp; try (with_reducible rfl))
  try simp only [Act.put, List.setIfInBounds_toArray, List.set_cons_zero, List.set_cons_succ]
  refine rd4 (by kernel_rfl) (fun K hK => ?_)
  go_simp
  refine (moves_any _ r W.drew lo (HV.out.keep (Carries.of lo hw.drew)) (by rw [← HNA.out]; exact KA)).mono ?_
  rintro e w1 ⟨vm, rfl, hm, hb⟩
  have hb1 : Below W.heap.size W w1 := Below.trans (b := W.drew) (Below.refl _ _).drew (hb.mono (by simp))
  have hw1 : Below w.heap.size w w1 := hw.trans (hb1.mono hw.size)
  have x0 := cell_carry x0 (Carries.of 0 hb1)
  have x1 := cell_carry x1 (Carries.of 0 hb1)
  have x2 := cell_carry x2 (Carries.of 0 hb1)
  have HM := Lib.hid hm
  obtain ⟨am, cm, rfl⟩ := hm.form
  clear hb hb1 hm
  refine hK.out _ _ ⟨x0, x1, x2⟩ (fun hHeld => ?_)
  clear hK K
  try simp only [Act.put, List.setIfInBounds_toArray, List.set_cons_zero, List.set_cons_succ]
  refine rd6 (by kernel_rfl) (fun K hK => ?_)
  go_simp
  refine (shortestPath_any nc _ (mvsOf r.arcs) tn w1 _ HM.out KC (by rw [HML.out, ← HNA.out]; exact KA) HIN.out htn).mono ?_
  rintro e w2 ⟨D, hD, hn, hy, hb⟩
  have hw2 : Below w.heap.size w w2 := hw1.trans (hb.mono hw1.size)
  have x0 := cell_carry x0 (Carries.of 0 hb)
  have x1 := cell_carry x1 (Carries.of 0 hb)
  have x2 := cell_carry x2 (Carries.of 0 hb)
  have HD : Hid (Dist r.codes.length (tgL (mvsOf r.arcs)) 0 D) := by rw [← HNC.out]; exact hD
  have hpos : 0 ≤ D tn := goodG_far HGG.out HD.out tn (by rw [← HNC.out]; exact htn)
  obtain ⟨vp, he, hmv⟩ := hy hpos
  subst he
  obtain ⟨d, hd⟩ : ∃ d : Nat, D tn = (d : Int) := ⟨(D tn).toNat, by omega⟩
  have hdn := (hD tn htn).2.1
  have e2 := spL_yes HGG.out HD.out (by rw [← HNC.out]; exact htn)
  have hlt := wayTo_lt hD HIN.out (by omega) d tn htn hd
  rw [hd, Int.toNat_natCast] at hmv e2
  rw [hd] at hdn
  rw [HML.out, ← HNA.out] at hlt
  have hwl := wayTo_length (mvsOf r.arcs) D d tn
  obtain ⟨P, hP⟩ : ∃ P, P = wayTo (mvsOf r.arcs) D d tn := ⟨_, rfl⟩
  rw [← hP] at hmv e2 hlt hwl
  have eq1 : qo = true := E1.out.1.trans e2.1
  have HLL : Hid (LL = arBy r.arcs P) := E1.out.2.trans e2.2
  subst eq1
  have HPL : Hid (P.length = d) := hwl
  have HLT := Lib.hid hlt
  have hd300 : d ≤ 1048576 := by omega
  have hms := toMv_length (mvsOf r.arcs) P
  rw [hwl] at hms
  obtain ⟨ap, cp, rfl, hcp, hpz⟩ := hmv
  rw [hms] at hpz hcp ⊢
  have HPZ := Lib.hid hpz
  have HMG : Hid (∀ i, i < d → mvB (toMv (mvsOf r.arcs) P) i = ((P.getD i 0 : Nat) : Int) ∧ P.getD i 0 < na ∧ P[i]? = some (P.getD i 0)) := fun i hi => by
    have hi2 : i < P.length := by rw [hwl]; exact hi
    have h1 : P[i]? = some P[i] := List.getElem?_eq_getElem hi2
    have h2 : P.getD i 0 = P[i] := by simp [List.getD, h1]
    have h3 := hlt P[i] (List.getElem_mem hi2)
    refine ⟨?_, by rw [h2]; exact h3, by rw [h2]; exact h1⟩
    rw [(toMv_get (ms := mvsOf r.arcs) h1).2.1, (mvsOf_get (by rw [← HNA.out]; exact h3)).2.1, h2]
  have hmk := run_make_arcs d hd300
  have zw2 := hw2.size
  have zB : w.heap.size < w2.heap.size := cell_old x0
  clear hb hD hn hy hpos hd hdn e2 hlt hwl hP hms hpz
  refine hK.out _ _ ⟨x0, x1, x2⟩ (fun hHeld => ?_)
  clear hK K
  try simp only [Act.put, List.setIfInBounds_toArray, List.set_cons_zero, List.set_cons_succ]
  refine tk7 (v := ?_) (by kernel_rfl) (by kernel_rfl) (by kernel_rfl) (by first | exact fun _ _ _ h => h | exact fun _ _ _ h => absurd h.1 (by simp)) (Or.inl ⟨by rfl, ?_⟩) (by assumption) ?_
  rotate_left 1
  focus (intro wx hSw; (try dsimp only at hSw); go_simp; try (with_reducible rfl))
  try simp only [Act.put, List.setIfInBounds_toArray, List.set_cons_zero, List.set_cons_succ]
  refine tk8 (v := ?_) (by kernel_rfl) (by kernel_rfl) (by kernel_rfl) (by first | exact fun _ _ _ h => h | exact fun _ _ _ h => absurd h.1 (by simp)) (Or.inl ⟨by rfl, ?_⟩) (by assumption) ?_
  rotate_left 1
  focus (intro wx hSw; (try dsimp only at hSw); go_simp; try (with_reducible rfl))
  try simp only [Act.put, List.setIfInBounds_toArray, List.set_cons_zero, List.set_cons_succ]
  refine tk9 (v := ?_) (by kernel_rfl) (by kernel_rfl) (by kernel_rfl) (by first | exact fun _ _ _ h => h | exact fun _ _ _ h => absurd h.1 (by simp)) (Or.inl ⟨by rfl, ?_⟩) (by assumption) ?_
  rotate_left 1
  focus (intro wx hSw; (try dsimp only at hSw); go_simp; try (with_reducible rfl))
  try simp only [Act.put, List.setIfInBounds_toArray, List.set_cons_zero, List.set_cons_succ]
  refine tk10 (v := ?_) (by kernel_rfl) (by kernel_rfl) (by kernel_rfl) (by first | exact fun _ _ _ h => h | exact fun _ _ _ h => absurd h.1 (by simp)) (Or.inl ⟨by rfl, ?_⟩) (by assumption) ?_
  rotate_left 1
  focus (intro wx hSw; (try dsimp only at hSw); go_simp; try (with_reducible rfl))
  try simp only [Act.put, List.setIfInBounds_toArray, List.set_cons_zero, List.set_cons_succ]
  refine tk11 (v := ?_) (by kernel_rfl) (by kernel_rfl) (by kernel_rfl) (by first | exact fun _ _ _ h => h | exact fun _ _ _ h => absurd h.1 (by simp)) (Or.inl ⟨by rfl, ?_⟩) (by assumption) ?_
  rotate_left 1
  focus (intro wx hSw; (try dsimp only at hSw); go_simp; try (with_reducible rfl))
  try simp only [Act.put, List.setIfInBounds_toArray, List.set_cons_zero, List.set_cons_succ]
  refine wpAnyH_done (by kernel_rfl) ?_ _
  go_wp2_with fail
  have y2 : (w2.alloc (.cells (madeCells #[.int .i64 0, .int .i64 0, .bool false, .int .i64 0] (d * 4)) 138)).cell? ⟨w.heap.size, 2, none⟩ = some (.slice a2 na c2) := cell_carry x2 (Carries.of 0 ((Below.refl w2.heap.size w2).alloc (Nat.le_refl _) _))
  go_loopw [35] (fun iv wr => ∃ i : Nat, i ≤ d ∧ iv = .int .i64 i ∧ Hid (QuadRow w2.heap.size 138 wr d i (fun i => .int .i64 (arF (arBy r.arcs P) i)) (fun i => .int .i64 (arS (arBy r.arcs P) i)) (fun i => .bool (arU (arBy r.arcs P) i)) (fun i => .int .i64 (arT (arBy r.arcs P) i))) ∧ Below w2.heap.size w2 wr ∧ w2.heap.size < wr.heap.size) (fun iv _ => d - (intOf iv).toNat)
  case atStart =>
    obtain ⟨f, hf⟩ := rowIs_size (w := w2) (t := 138) (size_madeCells #[.int .i64 0, .int .i64 0, .bool false, .int .i64 0] (d * 4))
    exact ⟨0, Nat.zero_le _, rfl, ⟨f, by simpa using hf, fun i hi => absurd hi (Nat.not_lt_zero _)⟩, (Below.refl _ _).alloc (Nat.le_refl _) _, by simp⟩
  case round =>
    clear y2
    obtain ⟨i, hi, rfl, hrow, hb1, hz1⟩ := hrel
    by_cases hil : i < d
    · obtain ⟨m1, m2, m3⟩ := HMG.out i hil
      obtain ⟨k, hk⟩ : ∃ k, k = P.getD i 0 := ⟨_, rfl⟩
      rw [← hk] at m1 m2 m3
      clear hk
      rcases HPZ.out with h0 | ⟨b, off, rfl, hlo, hcell⟩
      · omega
      obtain ⟨q0, q1, q2⟩ := hcell i hil
      have d0 := cell_carry q0 (Carries.of 0 hb1)
      have d1 := cell_carry q1 (Carries.of 0 hb1)
      have d2 := cell_carry q2 (Carries.of 0 hb1)
      clear hcell q0 q1 q2
      try dsimp only at d0 d1 d2
      rw [m1] at d1
      generalize mvF (toMv (mvsOf r.arcs) P) i = xf at d0
      generalize mvT (toMv (mvsOf r.arcs) P) i = xt at d2
      have hwr : Below w.heap.size w wr := hw2.trans (hb1.mono zw2)
      obtain ⟨ao, ca, hvv, hc, hz⟩ := HL.out
      injection hvv with e1 e2 e3
      subst e1; subst e3
      clear e2 hc
      rcases hz with h0 | ⟨ba, offa, rfl, hloa, hcella⟩
      · exfalso; have := HNA.out; omega
      obtain ⟨q0, q1, q2, q3⟩ := hcella k (by rw [← HNA.out]; exact m2)
      have g0 := Carries.of lo hwr _ _ hloa q0
      have g1 := Carries.of lo hwr _ _ hloa q1
      have g2 := Carries.of lo hwr _ _ hloa q2
      have g3 := Carries.of lo hwr _ _ hloa q3
      clear hcella q0 q1 q2 q3
      try dsimp only at g0 g1 g2 g3
      have y2 := cell_carry x2 (Carries.of 0 hb1)
      have zba : ba < wr.heap.size := cell_old g0
      have zwr : w.heap.size < wr.heap.size := by omega
      obtain ⟨v0, v1, v2, v3, u0, u1, u2, u3, f0, f1, f2, f3⟩ := hrow.out.cells hil
      obtain ⟨ag0, ag1, ag2, ag3⟩ := arBy_get (ls := r.arcs) m3
      have HP : Hid (QuadRow w2.heap.size 138 ((((wr.setCell ⟨w2.heap.size, i * 4, none⟩ (.int .i64 (arF r.arcs k))).setCell ⟨w2.heap.size, i * 4 + 1, none⟩ (.int .i64 (arS r.arcs k))).setCell ⟨w2.heap.size, i * 4 + 2, none⟩ (.bool (arU r.arcs k))).setCell ⟨w2.heap.size, i * 4 + 3, none⟩ (.int .i64 (arT r.arcs k))) d (i + 1) (fun i => .int .i64 (arF (arBy r.arcs P) i)) (fun i => .int .i64 (arS (arBy r.arcs P) i)) (fun i => .bool (arU (arBy r.arcs P) i)) (fun i => .int .i64 (arT (arBy r.arcs P) i))) :=
        hrow.out.put hil (by rw [ag0]) (by rw [ag1]) (by rw [ag2]) (by rw [ag3])
      have hk0 : (0 : Int) ≤ (k : Int) := Int.natCast_nonneg _
      have hk1 : (k : Int) < (na : Int) := by omega
      clear hrow ag0 ag1 ag2 ag3 m1 m3
      generalize arF r.arcs k = af at g0 HP
      generalize arS r.arcs k = as_ at g1 HP
      generalize arU r.arcs k = au at g2 HP
      generalize arT r.arcs k = at_ at g3 HP
      have HB := Lib.hid hb1; clear hb1 hwr
      go_wp2_with fail
      have hb1 := HB.out
      go_roundw
      case rel => exact ⟨i + 1, by omega, by go_num, HP.out.keep (((Below.refl _ _).alloc (Nat.le_refl _) _).block _ (by simpa using hz1)), by (repeat' (first | (with_reducible exact Below.refl _ _) | (with_reducible assumption) | (with_reducible refine Below.alloc ?_ ?_ _) | (with_reducible refine Below.drew ?_) | (with_reducible refine below_drewN ?_ _) | (with_reducible refine Below.setCell ?_ ?_ _) | go_size)), by simp; omega⟩
      case measure => simp [intOf]; omega
    · have hii : i = d := by omega
      subst hii
      have HO : Hid (ARow w.heap.size wr (.slice (some ⟨w2.heap.size, 0, none⟩) i i) LL) := by
        rw [HLL.out]
        exact (arow_of_quad (by rw [arBy_length]; exact HPL.out) hd300 hrow.out).low zw2
      clear hrow
      go_wp2_with fail
      go_ret2
      exact ⟨_, rfl, HO.out, hw2.trans (hb1.mono zw2)⟩

end Go.Proofs.YtnmoocgocnjdjaaGreat
