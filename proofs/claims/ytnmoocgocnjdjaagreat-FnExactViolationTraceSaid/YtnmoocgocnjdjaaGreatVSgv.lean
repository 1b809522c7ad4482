/- WALKS: reachesAllStates, IsValidStateGraph of the program. -/
import Derived.Test.YtnmoocgocnjdjaaGreatVSgk
import Derived.Test.YtnmoocgocnjdjaaGreatVNxt
import Derived.Test.YtnmoocgocnjdjaaGreatVL1in
import Derived.Test.YtnmoocgocnjdjaaGreatVStgi
namespace Go.Proofs.YtnmoocgocnjdjaaGreat
open Go.RowKit

theorem tgL_in {ls : List Ar} {n : Nat} (h : ∀ i, i < ls.length → (0 ≤ arF ls i ∧ arF ls i < n) ∧ (0 ≤ arT ls i ∧ arT ls i < n)) : InB n (tgL (mvsOf ls)) := by
  intro p _ x hx
  obtain ⟨i, hi, _, rfl⟩ := (mem_tgTo _).1 hx
  rw [mvsOf_length] at hi
  rw [(mvsOf_get hi).2.2]
  exact (h i hi).2
theorem shut_tg {ls : List Ar} {n : Nat} (h : ∀ i, i < ls.length → (0 ≤ arF ls i ∧ arF ls i < n) ∧ (0 ≤ arT ls i ∧ arT ls i < n)) {S : Nat → Prop} (hS : Shut ls S) {d k : Nat} (h0 : S 0) : Lev (tgL (mvsOf ls)) 0 d k → S k := by
  induction d generalizing k with
  | zero => intro hk; have : k = 0 := hk; subst this; exact h0
  | succ d ih =>
    rintro (hk | ⟨p, hp, hkp⟩)
    · exact ih hk
    · obtain ⟨i, hi, h1, h2⟩ := (mem_tgTo _).1 hkp
      rw [mvsOf_length] at hi
      rw [(mvsOf_get hi).1] at h1
      rw [(mvsOf_get hi).2.2] at h2
      have := hS i hi (by rw [h1]; exact ih hp)
      rw [h2] at this
      simpa using this
/-- all states are reached where no distance is -1 -/
theorem dist_all {ls : List Ar} {n : Nat} {D : Nat → Int} (hn : 1 ≤ n) (h : ∀ i, i < ls.length → (0 ≤ arF ls i ∧ arF ls i < n) ∧ (0 ≤ arT ls i ∧ arT ls i < n)) (hD : Dist n (tgL (mvsOf ls)) 0 D) :
    allMet n ls = (List.range n).all (fun k => decide (0 ≤ D k)) := by
  have hT : ∀ i, i < ls.length → (arT ls i).toNat < n := fun i hi => by have := (h i hi).2; omega
  refine Eq.trans (allMet_of hn hT (V := fun k => decide (k < n ∧ 0 ≤ D k)) ?_ ?_ ?_) ?_
  · exact decide_eq_true ⟨by omega, ((hD 0 (by omega)).2.2.2 0 rfl).1⟩
  · intro i hi hf
    have hf := of_decide_eq_true hf
    refine decide_eq_true ⟨hT i hi, ?_⟩
    have hl := (hD _ hf.1).2.2.1 hf.2
    refine ((hD _ (hT i hi)).2.2.2 ((D (arF ls i).toNat).toNat + 1) (Or.inr ⟨_, hl, ?_⟩)).1
    refine (mem_tgTo _).2 ⟨i, by rw [mvsOf_length]; exact hi, by rw [(mvsOf_get hi).1], ?_⟩
    rw [(mvsOf_get hi).2.2]
    have := (h i hi).2
    omega
  · intro k hk S h0 hS
    have hk := of_decide_eq_true hk
    exact shut_tg h hS h0 ((hD k hk.1).2.2.1 hk.2)
  · rw [Bool.eq_iff_iff, List.all_eq_true, List.all_eq_true]
    constructor
    · intro q k hk; have := of_decide_eq_true (q k hk); exact decide_eq_true this.2
    · intro q k hk; exact decide_eq_true ⟨by simpa using hk, of_decide_eq_true (q k hk)⟩

set_option maxRecDepth 100000 in
set_option maxHeartbeats 2000000 in
theorem reachesAll_any (v : Value) (r : SgD) (w : World) (lo : Nat) (hv : SgAt lo w v r) (hs : SmallSg r) (hn : 1 ≤ r.codes.length) (hin : ∀ i, i < r.arcs.length → (0 ≤ arF r.arcs i ∧ arF r.arcs i < r.codes.length) ∧ (0 ≤ arT r.arcs i ∧ arT r.arcs i < r.codes.length)) :
    Calls Tryz.prog 148 #[v] w (RetB w (allMet r.codes.length r.arcs)) := by
  obtain ⟨q, hq⟩ : ∃ q, q = allMet r.codes.length r.arcs := ⟨_, rfl⟩
  rw [← hq]
  have HV := Lib.hid hv
  obtain ⟨a0, c0, a1, c1, a2, c2, rfl, h_0, h_1, h_2⟩ := hv.form
  clear hv h_0 h_1 h_2
  have K1 := hs.2.1.1
  have K2 := hs.2.2
  obtain ⟨nc, hnc⟩ : ∃ n, n = r.codes.length := ⟨_, rfl⟩
  obtain ⟨ng, hng⟩ : ∃ n, n = r.sigs.length := ⟨_, rfl⟩
  rw [← hng, ← hnc] at HV ⊢
  rw [← hnc] at hq hn hin K1
  clear hnc hng
  have HQ := Lib.hid hq; clear hq
  have HIN := Lib.hid hin; clear hin
  have HS := Lib.hid hs; clear hs
  have x0 : (w.alloc (.cells #[.slice a0 ng c0, .slice a1 nc c1, .slice a2 r.arcs.length c2] 80)).cell? ⟨w.heap.size, 0, none⟩ = some (.slice a0 ng c0) := by simp
  have x1 : (w.alloc (.cells #[.slice a0 ng c0, .slice a1 nc c1, .slice a2 r.arcs.length c2] 80)).cell? ⟨w.heap.size, 1, none⟩ = some (.slice a1 nc c1) := by simp
  have x2 : (w.alloc (.cells #[.slice a0 ng c0, .slice a1 nc c1, .slice a2 r.arcs.length c2] 80)).cell? ⟨w.heap.size, 2, none⟩ = some (.slice a2 r.arcs.length c2) := by simp
  have hal : Below w.heap.size w (w.alloc (.cells #[.slice a0 ng c0, .slice a1 nc c1, .slice a2 r.arcs.length c2] 80)) := (Below.refl _ _).alloc (Nat.le_refl _) _
  go_enter Tryz.func148, Tryz.ntmps148
  go_wp2_with fail
  generalize w.alloc (.cells #[.slice a0 ng c0, .slice a1 nc c1, .slice a2 r.arcs.length c2] 80) = W at x0 x1 x2 hal ⊢
  refine wp_region_held_drew (S := fun w' => w'.cell? ⟨w.heap.size, 0, none⟩ = some (.slice a0 ng c0) ∧ w'.cell? ⟨w.heap.size, 1, none⟩ = some (.slice a1 nc c1) ∧ w'.cell? ⟨w.heap.size, 2, none⟩ = some (.slice a2 r.arcs.length c2)) (by kernel_rfl) ⟨x0, x1, x2⟩ (fun hHeld => ?_)
  refine tk0 (v := ?_) (by kernel_rfl) (by kernel_rfl) (by kernel_rfl) (by first | exact fun _ _ _ h => h | exact fun _ _ _ h => absurd h.1 (by simp)) (Or.inl ⟨by rfl, ?_⟩) (by assumption) ?_
  rotate_left 1
  focus (intro wx hSw; (try dsimp only at hSw); go_simp; try (with_reducible rfl))
  try simp only [Act.put, List.setIfInBounds_toArray, List.set_cons_zero, List.set_cons_succ]
  refine tk1 (v := ?_) (by kernel_rfl) (by kernel_rfl) (by kernel_rfl) (by first | exact fun _ _ _ h => h | exact fun _ _ _ h => absurd h.1 (by simp)) (Or.inl ⟨by rfl, ?_⟩) (by assumption) ?_
  rotate_left 1
  focus (intro wx hSw; (try dsimp only at hSw); go_simp; try (with_reducible rfl))
  try simp only [Act.put, List.setIfInBounds_toArray, List.set_cons_zero, List.set_cons_succ]
  refine tk2 (v := ?_) (by kernel_rfl) (by kernel_rfl) (by kernel_rfl) (by first | exact fun _ _ _ h => h | exact fun _ _ _ h => absurd h.1 (by simp)) (Or.inl ⟨by rfl, ?_⟩) (by assumption) ?_
  rotate_left 1
  focus (intro wx hSw; (try dsimp only at hSw); go_simp; try (with_reducible rfl))
  try simp only [Act.put, List.setIfInBounds_toArray, List.set_cons_zero, List.set_cons_succ]
  refine tk3 (v := ?_) (by kernel_rfl) (by kernel_rfl) (by kernel_rfl) (by first | exact fun _ _ _ h => h | exact fun _ _ _ h => absurd h.1 (by simp)) (Or.inl ⟨by rfl, ?_⟩) (by assumption) ?_
  rotate_left 1
  focus (intro wx hSw; (try dsimp only at hSw); go_simp; try (with_reducible rfl))
  try simp only [Act.put, List.setIfInBounds_toArray, List.set_cons_zero, List.set_cons_succ]
  refine rd4 (by kernel_rfl) (fun K hK => ?_)
  go_simp
  refine (moves_any _ r W.drew lo (HV.out.keep (Carries.of lo hal.drew)) K2).mono ?_
  rintro e w1 ⟨vm, rfl, hm, hb⟩
  have hb1 : Below W.heap.size W w1 := Below.trans (b := W.drew) (Below.refl _ _).drew (hb.mono (by simp))
  have hw1 : Below w.heap.size w w1 := hal.trans (hb1.mono hal.size)
  have x0 := cell_carry x0 (Carries.of 0 hb1)
  have x1 := cell_carry x1 (Carries.of 0 hb1)
  have x2 := cell_carry x2 (Carries.of 0 hb1)
  have HM := Lib.hid hm
  obtain ⟨am, cm, rfl⟩ := hm.form
  have HML := Lib.hid (mvsOf_length r.arcs)
  clear hb hb1 hm
  refine hK.out _ _ ⟨x0, x1, x2⟩ (fun hHeld => ?_)
  clear hK K
  try simp only [Act.put, List.setIfInBounds_toArray, List.set_cons_zero, List.set_cons_succ]
  refine rd5 (by kernel_rfl) (fun K hK => ?_)
  go_simp
  refine (targets_any nc _ (mvsOf r.arcs) w1 _ HM.out K1 (by rw [HML.out]; exact K2) (fun i hi => by rw [HML.out] at hi; rw [(mvsOf_get hi).1]; exact (HIN.out i hi).1)).mono ?_
  rintro e w2 ⟨vt, rfl, ht, hb⟩
  have hw2 : Below w.heap.size w w2 := hw1.trans (hb.mono hw1.size)
  have x0 := cell_carry x0 (Carries.of 0 hb)
  have x1 := cell_carry x1 (Carries.of 0 hb)
  have x2 := cell_carry x2 (Carries.of 0 hb)
  have HT := Lib.hid ht
  obtain ⟨bt, ot, ct, rfl, _, _, _⟩ := id ht
  clear hb ht
  refine hK.out _ _ ⟨x0, x1, x2⟩ (fun hHeld => ?_)
  clear hK K
  try simp only [Act.put, List.setIfInBounds_toArray, List.set_cons_zero, List.set_cons_succ]
  refine rd6 (by kernel_rfl) (fun K hK => ?_)
  go_simp
  refine (distancesFrom_any _ nc (tgL (mvsOf r.arcs)) 0 w2 _ HT.out (by omega) K1 (tgL_in HIN.out) (fun k _ => Nat.le_trans (tgTo_length (mvsOf r.arcs) (mvsOf r.arcs).length k) (by rw [HML.out]; exact K2))).mono ?_
  rintro e w3 ⟨db, D, rfl, hd0, hd1, hrow, hD, hb⟩
  have hw3 : Below w.heap.size w w3 := hw2.trans (hb.mono hw2.size)
  have x0 := cell_carry x0 (Carries.of 0 hb)
  have x1 := cell_carry x1 (Carries.of 0 hb)
  have x2 := cell_carry x2 (Carries.of 0 hb)
  have HR := Lib.hid hrow
  have HD := Lib.hid hD
  clear hb hrow hD
  refine hK.out _ _ ⟨x0, x1, x2⟩ (fun hHeld => ?_)
  clear hK K
  try simp only [Act.put, List.setIfInBounds_toArray, List.set_cons_zero, List.set_cons_succ]
  refine tk7 (v := ?_) (by kernel_rfl) (by kernel_rfl) (by kernel_rfl) (by first | exact fun _ _ _ h => h | exact fun _ _ _ h => absurd h.1 (by simp)) (Or.inl ⟨by rfl, ?_⟩) (by assumption) ?_
  rotate_left 1
  focus (intro wx hSw; (try dsimp only at hSw); go_simp; try (with_reducible rfl))
  try simp only [Act.put, List.setIfInBounds_toArray, List.set_cons_zero, List.set_cons_succ]
  refine wpAnyH_done (by kernel_rfl) ?_ _
  have hat : Hid (IntsAt db w3 (.slice (some ⟨db, 0, none⟩) nc nc) ((List.range nc).map D)) := by
    have hl : ((List.range nc).map D).length = nc := by simp
    have h := ints_of_row (zs := (List.range nc).map D) (f := dV D) (w := w3) (b := db) (by rw [hl]; exact HR.out) (fun i hi => by rw [hl] at hi; unfold dV; simp [List.getD, hi])
    rw [hl] at h
    exact h
  clear x0 x1 x2 HR
  go_wp2_with fail
  refine (Containsi_any _ ((List.range nc).map D) (-1) _ _ hat.out (by simp; omega)).mono ?_
  rintro e w4 ⟨rfl, hb⟩
  have hw4 : Below w.heap.size w w4 := hw3.trans (hb.mono hw3.size)
  have e1 : hasB ((List.range nc).map D) (-1) = !q := by
    rw [HQ.out, dist_all hn HIN.out HD.out]
    unfold hasB
    rw [Bool.eq_iff_iff, decide_eq_true_eq, Bool.not_eq_true', List.all_eq_false, List.mem_map]
    constructor
    · rintro ⟨k, hk, h⟩; exact ⟨k, hk, by rw [h]; simp⟩
    · rintro ⟨k, hk, h⟩
      have := (HD.out k (by simpa using hk)).1
      exact ⟨k, hk, by simp at h; omega⟩
  rw [e1]
  clear e1 hb hat HD
  cases q with
  | false =>
    go_wp2_with fail
    go_ret
    exact ⟨rfl, hw4⟩
  | true =>
    go_wp2_with fail
    go_ret
    exact ⟨rfl, hw4⟩

theorem goodG_split (r : SgD) : goodG r = (sigsB r.sigs && ((decide (1 ≤ r.codes.length ∧ r.codes.length ≤ 300) && codesB r.sigs.length r.codes) && ((decide (r.arcs.length ≤ 4000) && arcsB r.sigs.length r.codes r.arcs) && allMet r.codes.length r.arcs))) := by
  unfold goodG
  have e : decide (SgLen r) = (decide (1 ≤ r.codes.length ∧ r.codes.length ≤ 300) && decide (r.arcs.length ≤ 4000)) := by
    rw [Bool.eq_iff_iff, decide_eq_true_eq, Bool.and_eq_true, decide_eq_true_eq, decide_eq_true_eq]; exact Iff.rfl
  rw [e]
  cases sigsB r.sigs <;> cases decide (1 ≤ r.codes.length ∧ r.codes.length ≤ 300) <;> cases decide (r.arcs.length ≤ 4000) <;> cases codesB r.sigs.length r.codes <;> cases arcsB r.sigs.length r.codes r.arcs <;> cases allMet r.codes.length r.arcs <;> rfl

set_option maxRecDepth 100000 in
set_option maxHeartbeats 2000000 in
theorem IsValidSg_any (v : Value) (r : SgD) (w : World) (lo : Nat) (hv : SgAt lo w v r) (hs : SmallSg r) :
    Calls Tryz.prog 91 #[v] w (RetB w (goodG r)) := by
  obtain ⟨q, hq⟩ : ∃ q, q = goodG r := ⟨_, rfl⟩
  rw [← hq]
  rw [goodG_split] at hq
  have HV := Lib.hid hv
  obtain ⟨a0, c0, a1, c1, a2, c2, rfl, h_0, h_1, h_2⟩ := hv.form
  have HG := Lib.hid h_0
  clear hv h_0 h_1 h_2
  obtain ⟨nc, hnc⟩ : ∃ n, n = r.codes.length := ⟨_, rfl⟩
  obtain ⟨ng, hng⟩ : ∃ n, n = r.sigs.length := ⟨_, rfl⟩
  obtain ⟨na, hna⟩ : ∃ n, n = r.arcs.length := ⟨_, rfl⟩
  rw [← hng, ← hnc, ← hna] at HV ⊢
  rw [← hng] at HG
  have HNC := Lib.hid hnc; clear hnc
  have HNG := Lib.hid hng; clear hng
  have HNA := Lib.hid hna; clear hna
  have HQ := Lib.hid hq; clear hq
  have HS := Lib.hid hs; clear hs
  have x0 : (w.alloc (.cells #[.slice a0 ng c0, .slice a1 nc c1, .slice a2 na c2] 80)).cell? ⟨w.heap.size, 0, none⟩ = some (.slice a0 ng c0) := by simp
  have x1 : (w.alloc (.cells #[.slice a0 ng c0, .slice a1 nc c1, .slice a2 na c2] 80)).cell? ⟨w.heap.size, 1, none⟩ = some (.slice a1 nc c1) := by simp
  have x2 : (w.alloc (.cells #[.slice a0 ng c0, .slice a1 nc c1, .slice a2 na c2] 80)).cell? ⟨w.heap.size, 2, none⟩ = some (.slice a2 na c2) := by simp
  have hal : Below w.heap.size w (w.alloc (.cells #[.slice a0 ng c0, .slice a1 nc c1, .slice a2 na c2] 80)) := (Below.refl _ _).alloc (Nat.le_refl _) _
  go_enter Tryz.func91, Tryz.ntmps91
  go_wp2_with fail
  generalize w.alloc (.cells #[.slice a0 ng c0, .slice a1 nc c1, .slice a2 na c2] 80) = W at x0 x1 x2 hal ⊢
  refine (areSignals_any _ r.sigs _ lo (HG.out.keep (Carries.of lo hal)) HS.out.1).mono ?_
  rintro e w1 ⟨rfl, hb⟩
  have hw1 : Below w.heap.size w w1 := hal.trans (hb.mono hal.size)
  have x0 := cell_carry x0 (Carries.of 0 hb)
  have x1 := cell_carry x1 (Carries.of 0 hb)
  have x2 := cell_carry x2 (Carries.of 0 hb)
  clear hb
  cases h1 : sigsB r.sigs with
  | false =>
    have e := HQ.out
    rw [h1, Bool.false_and] at e
    subst e
    clear h1
    go_wp2_with fail
    go_ret
    exact ⟨rfl, hw1⟩
  | true =>
  have H1 := Lib.hid h1; clear h1
  go_wp2_with fail
  refine (hasCodes_any _ r _ lo (HV.out.keep (Carries.of lo hw1)) HS.out).mono ?_
  rintro e w2 ⟨rfl, hb⟩
  have hw2 : Below w.heap.size w w2 := hw1.trans (hb.mono hw1.size)
  have x0 := cell_carry x0 (Carries.of 0 hb)
  have x1 := cell_carry x1 (Carries.of 0 hb)
  have x2 := cell_carry x2 (Carries.of 0 hb)
  clear hb
  cases h2 : (decide (1 ≤ r.codes.length ∧ r.codes.length ≤ 300) && codesB r.sigs.length r.codes) with
  | false =>
    have e := HQ.out
    rw [H1.out, h2, Bool.true_and, Bool.false_and] at e
    subst e
    clear h2
    go_wp2_with fail
    go_ret
    exact ⟨rfl, hw2⟩
  | true =>
  have H2 := Lib.hid h2; clear h2
  have hco : Hid (codesB r.sigs.length r.codes = true) := by have := H2.out; rw [Bool.and_eq_true] at this; exact this.2
  have hcl : Hid (1 ≤ r.codes.length ∧ r.codes.length ≤ 300) := by have h := H2.out; rw [Bool.and_eq_true, decide_eq_true_eq] at h; exact h.1
  go_wp2_with fail
  refine (hasArcs_any _ r _ lo (HV.out.keep (Carries.of lo hw2)) HS.out hco.out).mono ?_
  rintro e w3 ⟨rfl, hb⟩
  have hw3 : Below w.heap.size w w3 := hw2.trans (hb.mono hw2.size)
  have x0 := cell_carry x0 (Carries.of 0 hb)
  have x1 := cell_carry x1 (Carries.of 0 hb)
  have x2 := cell_carry x2 (Carries.of 0 hb)
  clear hb
  cases h3 : (decide (r.arcs.length ≤ 4000) && arcsB r.sigs.length r.codes r.arcs) with
  | false =>
    have e := HQ.out
    rw [H1.out, H2.out, h3, Bool.true_and, Bool.true_and, Bool.false_and] at e
    subst e
    clear h3
    go_wp2_with fail
    go_ret
    exact ⟨rfl, hw3⟩
  | true =>
  have H3 := Lib.hid h3; clear h3
  have har : Hid (arcsB r.sigs.length r.codes r.arcs = true) := by have := H3.out; rw [Bool.and_eq_true] at this; exact this.2
  go_wp2_with fail
  refine (reachesAll_any _ r _ lo (HV.out.keep (Carries.of lo hw3)) HS.out hcl.out.1 (fun i hi => arcV_in (arcsB_at har.out hi))).mono ?_
  rintro e w4 ⟨rfl, hb⟩
  have hw4 : Below w.heap.size w w4 := hw3.trans (hb.mono hw3.size)
  have e := HQ.out
  rw [H1.out, H2.out, H3.out, Bool.true_and, Bool.true_and, Bool.true_and] at e
  rw [← e]
  clear hb e
  cases q with
  | false =>
    go_wp2_with fail
    go_ret
    exact ⟨rfl, hw4⟩
  | true =>
    go_wp2_with fail
    go_ret
    exact ⟨rfl, hw4⟩

end Go.Proofs.YtnmoocgocnjdjaaGreat
