/- WALK: AreIndependent of the program. -/
import Derived.Test.YtkkfglolameogaaVIndd
namespace Go.Proofs.Ytkkfglolameogaa
open Go.RowKit

theorem putAll_append (v : UInt8) (xs : List UInt8) (a b : List Int) : putAll v (putAll v xs a) b = putAll v xs (a ++ b) := by
  unfold putAll; rw [List.foldl_append]
theorem isTransition_in (v : Value) (n : NetD) (t : Int) (w : World) (lo : Nat) (hv : NetAt lo w v n) (hsm : SmallTrs n.ts) :
    Calls Try.prog 90 #[v, .int .i64 t] w (RetB w (inT n t)) := isTransition_any v n t w lo hv hsm
/-- the program's test of independence -/
def indI (X Y : Tr) : Bool := putAll 48 (putAll 48 (putAll 49 (putAll 49 blank X.1) X.2) Y.1) Y.2 == putAll 49 (putAll 49 blank X.1) X.2
theorem InArr.both {t : Tr} (h1 : InArr t.1) (h2 : InArr t.2) : InArr (both t) := by
  intro i hi
  have hm : (Go.Proofs.Ytkkfglolameogaa.both t).getD i 0 ∈ Go.Proofs.Ytkkfglolameogaa.both t := by rw [getD_eq hi]; exact List.getElem_mem hi
  rcases List.mem_append.1 hm with h | h
  · exact ⟨h1.nonneg _ h, h1.lt _ h⟩
  · exact ⟨h2.nonneg _ h, h2.lt _ h⟩
theorem indI_eq {X Y : Tr} (h1 : InArr X.1) (h2 : InArr X.2) (h3 : InArr Y.1) (h4 : InArr Y.2) : indI X Y = !meetB (both X) (both Y) := by
  unfold indI
  rw [putAll_append, putAll_append]
  exact disjoint_eq (InArr.both h1 h2) (InArr.both h3 h4)

/-- behind a region: two blocks hold two transitions' lists -/
def TwoTr (w : World) (x0 x1 y0 y1 : Value) (mk : Value → Value → Act) (e : Exit) (a' : Act) (w' : World) : Prop :=
  e = .normal ∧ ∃ b c : Nat, a' = mk (.pointer (some ⟨b, 0, none⟩)) (.pointer (some ⟨c, 0, none⟩)) ∧ w'.cell? ⟨b, 0, none⟩ = some x0 ∧ w'.cell? ⟨b, 1, none⟩ = some x1 ∧ w'.cell? ⟨c, 0, none⟩ = some y0 ∧ w'.cell? ⟨c, 1, none⟩ = some y1 ∧ Below w.heap.size w w'
/-- behind a region: a block holds a marking; a transition's lists are as they were -/
def OneArr (w : World) (B : Nat) (y0 y1 : Value) (xs : List UInt8) (mk : Value → Act) (e : Exit) (a' : Act) (w' : World) : Prop :=
  e = .normal ∧ ∃ b : Nat, a' = mk (.pointer (some ⟨b, 0, none⟩)) ∧ ArrAt w' b xs ∧ Below w.heap.size w w' ∧ w'.cell? ⟨B, 0, none⟩ = some y0 ∧ w'.cell? ⟨B, 1, none⟩ = some y1

set_option maxRecDepth 100000 in
set_option maxHeartbeats 4000000 in
theorem AreIndependent_any (v : Value) (n : NetD) (t u : Int) (w : World) (lo : Nat) (hv : NetAt lo w v n) (hs : SmallTrs n.ts) :
    Calls Try.prog 39 #[v, .int .i64 t, .int .i64 u] w (RetV w (.tuple #[.bool (pairB n t u && indB n t u), .bool (pairB n t u)])) := by
  generalize hI : indB n t u = r
  unfold pairB
  have HI := Lib.hid hI; clear hI
  generalize hG : goodN n = g
  generalize hA : inT n t = a
  generalize hB : inT n u = b
  have HG := Lib.hid hG; clear hG
  have HA := Lib.hid hA; clear hA
  have HB := Lib.hid hB; clear hB
  have hv' := hv
  obtain ⟨hp0, hp1, q, rfl, ht⟩ := hv'
  obtain ⟨ao, cap, rfl, hc, hz⟩ := ht
  obtain ⟨p, hp⟩ : ∃ p, p = n.places := ⟨_, rfl⟩
  obtain ⟨ts, hts⟩ : ∃ ts, ts = n.ts := ⟨_, rfl⟩
  have hs0 := hs
  rw [← hp, ← hts] at hv ⊢
  rw [← hts] at hs hz hc
  have HPl := Lib.hid hp; clear hp hp0 hp1
  have HT := Lib.hid hts; clear hts
  have HV := Lib.hid hv; clear hv
  have HS := Lib.hid hs
  have hmm := hs.1
  have HS0 := Lib.hid hs0; clear hs0 hs
  have HF := Lib.hid hz; clear hz
  go_enter Try.func39, Try.ntmps39
  go_wp2_with fail
  refine (IsValidNet_any _ n _ lo (HV.out.keep ?_) HS0.out).mono ?_
  · (repeat' (first | (with_reducible exact Carries.refl _ _) | (with_reducible assumption) | (with_reducible refine Carries.alloc ?_ _) | (with_reducible refine Carries.drew ?_) | (with_reducible refine Carries.drewN ?_ _) | (with_reducible refine Carries.set ?_ ?_ _) | go_size))
  rintro e w1 ⟨rfl, hb⟩
  have hw1 : Below w.heap.size w w1 := by
    refine Below.trans ?_ (hb.mono ?_)
    · (repeat' (first | (with_reducible exact Below.refl _ _) | (with_reducible assumption) | (with_reducible refine Below.alloc ?_ ?_ _) | (with_reducible refine Below.drew ?_) | (with_reducible refine below_drewN ?_ _) | (with_reducible refine Below.setCell ?_ ?_ _) | go_size))
    · simp
  have a0 : w1.cell? ⟨w.heap.size, 0, none⟩ = some (.int .i64 p) := cell_carry (by simp) (Carries.of 0 hb)
  have a1 : w1.cell? ⟨w.heap.size, 1, none⟩ = some (.slice ao ts.length cap) := cell_carry (by simp) (Carries.of 0 hb)
  clear hb
  rw [HG.out]
  cases g with
  | false =>
    go_wp2_with fail
    go_ret2
    exact ⟨rfl, hw1⟩
  | true =>
  go_wp2_with fail
  refine (isTransition_in _ n _ _ lo (HV.out.keep (Carries.of lo hw1)) HS0.out).mono ?_
  rintro e w2 ⟨rfl, hb⟩
  have hw2 : Below w.heap.size w w2 := hw1.trans (hb.mono hw1.size)
  have a2 := cell_carry a0 (Carries.of 0 hb)
  have a3 := cell_carry a1 (Carries.of 0 hb)
  clear hb a0 a1
  rw [HA.out]
  cases a with
  | false =>
    go_wp2_with fail
    go_ret2
    exact ⟨rfl, hw2⟩
  | true =>
  go_wp2_with fail
  refine (isTransition_in _ n _ _ lo (HV.out.keep (Carries.of lo hw2)) HS0.out).mono ?_
  rintro e w3 ⟨rfl, hb⟩
  have hw3 : Below w.heap.size w w3 := hw2.trans (hb.mono hw2.size)
  have a4 := cell_carry a2 (Carries.of 0 hb)
  have a5 := cell_carry a3 (Carries.of 0 hb)
  clear hb a2 a3
  rw [HB.out]
  cases b with
  | false =>
    go_wp2_with fail
    go_ret2
    exact ⟨rfl, hw3⟩
  | true =>
  have ht3 : 0 ≤ t ∧ t < ts.length := by rw [HT.out]; exact of_decide_eq_true HA.out
  have hu3 : 0 ≤ u ∧ u < ts.length := by rw [HT.out]; exact of_decide_eq_true HB.out
  obtain ⟨ht0, ht1⟩ := ht3
  obtain ⟨hu0, hu1⟩ := hu3
  obtain ⟨tn, rfl⟩ := Int.eq_ofNat_of_zero_le ht0
  obtain ⟨un, rfl⟩ := Int.eq_ofNat_of_zero_le hu0
  rcases HF.out with rfl | ⟨b, off, rfl, hlo, hcell⟩
  · simp at ht1; omega
  have ht2 : tn < ts.length := by omega
  have hu2 : un < ts.length := by omega
  obtain ⟨x0, x1, c0, c1, hx⟩ := hcell tn ht2
  obtain ⟨y0, y1, e0, e1, hy⟩ := hcell un hu2
  obtain ⟨X, hX⟩ : ∃ X, X = ts.getD tn ([], []) := ⟨_, rfl⟩
  obtain ⟨Y, hY⟩ : ∃ Y, Y = ts.getD un ([], []) := ⟨_, rfl⟩
  have sx := HS.out.2 tn ht2
  have sy := HS.out.2 un hu2
  have ix := goodN_in HG.out (i := tn) (by rw [← HT.out]; exact ht2)
  have iy := goodN_in HG.out (i := un) (by rw [← HT.out]; exact hu2)
  rw [← HT.out] at ix iy
  rw [← hX] at hx sx ix
  rw [← hY] at hy sy iy
  have hI2 : indB n tn un = indI X Y := by
    rw [indI_eq ix.1 ix.2 iy.1 iy.2]; unfold indB; rw [Int.toNat_natCast, Int.toNat_natCast, ← HT.out, ← hX, ← hY]
  rw [HI.out] at hI2
  obtain ⟨s1, s2⟩ := sx
  obtain ⟨s3, s4⟩ := sy
  have IX := Lib.hid ix; clear ix
  have IY := Lib.hid iy; clear iy
  clear hX hY hcell
  have HI2 := Lib.hid hI2; clear hI2
  obtain ⟨⟨xa0, xk0, rfl, _, _⟩, ⟨xa1, xk1, rfl, _, _⟩⟩ := id hx
  obtain ⟨⟨ya0, yk0, rfl, _, _⟩, ⟨ya1, yk1, rfl, _, _⟩⟩ := id hy
  have HX := Lib.hid hx; clear hx
  have HY := Lib.hid hy; clear hy
  have f0 := Carries.of lo hw3 _ _ hlo c0
  have f1 := Carries.of lo hw3 _ _ hlo c1
  have f2 := Carries.of lo hw3 _ _ hlo e0
  have f3 := Carries.of lo hw3 _ _ hlo e1
  clear c0 c1 e0 e1
  go_wp2_with fail
  refine Code.wp_mono (Q := TwoTr w3 (.slice xa0 X.1.length xk0) (.slice xa1 X.2.length xk1) (.slice ya0 Y.1.length yk0) (.slice ya1 Y.2.length yk1) (fun P Q => { tmps := #[.agg #[.int .i64 p, .slice (some ⟨b, off, none⟩) ts.length cap], .int .i64 tn, .int .i64 un, .pointer (some ⟨w.heap.size, 0, none⟩), undef, undef, .bool false, .bool false, P, Q, undef, .agg #[.int .i64 p, .slice (some ⟨b, off, none⟩) ts.length cap], .bool true, .bool false, .bool false, .agg #[.int .i64 p, .slice (some ⟨b, off, none⟩) ts.length cap], .int .i64 tn, .bool true, .bool false, .bool false, .bool false, .agg #[.int .i64 p, .slice (some ⟨b, off, none⟩) ts.length cap], .int .i64 un, .bool true, .bool false, .bool false, .pointer (some ⟨w.heap.size, 1, none⟩), .slice (some ⟨b, off, none⟩) ts.length cap, .int .i64 tn, .pointer (some ⟨b, off + tn * 2, none⟩), .agg #[.slice xa0 X.1.length xk0, .slice xa1 X.2.length xk1], .pointer (some ⟨w.heap.size, 1, none⟩), .slice (some ⟨b, off, none⟩) ts.length cap, .int .i64 un, .pointer (some ⟨b, off + un * 2, none⟩), .agg #[.slice ya0 Y.1.length yk0, .slice ya1 Y.2.length yk1], undef, undef, undef, undef, undef, undef, undef, undef, undef, undef, undef, undef, undef, undef, undef], defers := [] })) ?_ ?_
  rotate_left 1
  · refine wp_region_held_drew (S := fun w' => w'.cell? ⟨w.heap.size, 1, none⟩ = some (.slice (some ⟨b, off, none⟩) ts.length cap) ∧ w'.cell? ⟨b, off + tn * 2, none⟩ = some (.slice xa0 X.1.length xk0) ∧ w'.cell? ⟨b, off + tn * 2 + 1, none⟩ = some (.slice xa1 X.2.length xk1) ∧ w'.cell? ⟨b, off + un * 2, none⟩ = some (.slice ya0 Y.1.length yk0) ∧ w'.cell? ⟨b, off + un * 2 + 1, none⟩ = some (.slice ya1 Y.2.length yk1)) (by kernel_rfl) ⟨a5, f0, f1, f2, f3⟩ (fun hHeld => ?_)
    have hbD : Below w3.heap.size w3 w3.drew := (Below.refl _ _).drew
    have hH := hHeld
    generalize w3.drew = W0 at hbD hHeld hH ⊢
    clear a4 a5 f0 f1 f2 f3 HV HX HY
    refine tk0 (v := ?_) (by kernel_rfl) (by kernel_rfl) (by kernel_rfl) (by first | exact fun _ _ _ h => h | exact fun _ _ _ h => absurd h.1 (by simp)) (Or.inl ⟨by rfl, ?_⟩) (by assumption) ?_
    rotate_left 1
    focus (intro wx hSw; (try dsimp only at hSw); go_simp; try (with_reducible rfl))
    try simp only [Act.put, List.setIfInBounds_toArray, List.set_cons_zero, List.set_cons_succ]
    refine tk1 (v := ?_) (by kernel_rfl) (by kernel_rfl) (by kernel_rfl) (by first | exact fun _ _ _ h => h | exact fun _ _ _ h => absurd h.1 (by simp)) (Or.inl ⟨by rfl, ?_⟩) (by assumption) ?_
    rotate_left 1
    focus (intro wx hSw; (try dsimp only at hSw); go_simp; try (with_reducible rfl))
    try simp only [Act.put, List.setIfInBounds_toArray, List.set_cons_zero, List.set_cons_succ]
    refine tk2 (v := ?_) (by kernel_rfl) (by kernel_rfl) (by kernel_rfl) (by first | exact fun _ _ _ h => h | exact fun _ _ _ h => absurd h.1 (by simp)) (Or.inl ⟨by rfl, ?_⟩) (by assumption) ?_
    rotate_left 1
    focus (intro wx hSw; (try dsimp only at hSw); go_simp; try (with_reducible rfl))
    try simp only [Act.put, List.setIfInBounds_toArray, List.set_cons_zero, List.set_cons_succ]
    refine tk3 (v := ?_) (by kernel_rfl) (by kernel_rfl) (by kernel_rfl) (by first | exact fun _ _ _ h => h | exact fun _ _ _ h => absurd h.1 (by simp)) (Or.inl ⟨by rfl, ?_⟩) (by assumption) ?_
    rotate_left 1
    focus (intro wx hSw; (try dsimp only at hSw); go_simp; try (with_reducible rfl))
    try simp only [Act.put, List.setIfInBounds_toArray, List.set_cons_zero, List.set_cons_succ]
    refine tk4 (v := ?_) (by kernel_rfl) (by kernel_rfl) (by kernel_rfl) (by first | exact fun _ _ _ h => h | exact fun _ _ _ h => absurd h.1 (by simp)) (Or.inl ⟨by rfl, ?_⟩) (by assumption) ?_
    rotate_left 1
    focus (intro wx hSw; (try dsimp only at hSw); go_simp; try (with_reducible rfl))
    try simp only [Act.put, List.setIfInBounds_toArray, List.set_cons_zero, List.set_cons_succ]
    refine tk5 (v := ?_) (by kernel_rfl) (by kernel_rfl) (by kernel_rfl) (by first | exact fun _ _ _ h => h | exact fun _ _ _ h => absurd h.1 (by simp)) (Or.inl ⟨by rfl, ?_⟩) (by assumption) ?_
    rotate_left 1
    focus (intro wx hSw; (try dsimp only at hSw); go_simp; try (with_reducible rfl))
    try simp only [Act.put, List.setIfInBounds_toArray, List.set_cons_zero, List.set_cons_succ]
    refine tk6 (v := ?_) (by kernel_rfl) (by kernel_rfl) (by kernel_rfl) (by first | exact fun _ _ _ h => h | exact fun _ _ _ h => absurd h.1 (by simp)) (Or.inl ⟨by rfl, ?_⟩) (by assumption) ?_
    rotate_left 1
    focus (intro wx hSw; (try dsimp only at hSw); go_simp; try (with_reducible rfl))
    try simp only [Act.put, List.setIfInBounds_toArray, List.set_cons_zero, List.set_cons_succ]
    refine tk7 (v := ?_) (by kernel_rfl) (by kernel_rfl) (by kernel_rfl) (by first | exact fun _ _ _ h => h | exact fun _ _ _ h => absurd h.1 (by simp)) (Or.inl ⟨by rfl, ?_⟩) (by assumption) ?_
    rotate_left 1
    focus (intro wx hSw; (try dsimp only at hSw); go_simp; try (with_reducible rfl))
    try simp only [Act.put, List.setIfInBounds_toArray, List.set_cons_zero, List.set_cons_succ]
    refine tk8 (v := ?_) (by kernel_rfl) (by kernel_rfl) (by kernel_rfl) (by first | exact fun _ _ _ h => h | exact fun _ _ _ h => absurd h.1 (by simp)) (Or.inl ⟨by rfl, ?_⟩) (by assumption) ?_
    rotate_left 1
    focus (intro wx hSw; (try dsimp only at hSw); go_simp; try (with_reducible rfl))
    try simp only [Act.put, List.setIfInBounds_toArray, List.set_cons_zero, List.set_cons_succ]
    refine tk9 (v := ?_) (by kernel_rfl) (by kernel_rfl) (by kernel_rfl) (by first | exact fun _ _ _ h => h | exact fun _ _ _ h => absurd h.1 (by simp)) (Or.inl ⟨by rfl, ?_⟩) (by assumption) ?_
    rotate_left 1
    focus (intro wx hSw; (try dsimp only at hSw); go_simp; try (with_reducible rfl))
    try simp only [Act.put, List.setIfInBounds_toArray, List.set_cons_zero, List.set_cons_succ]
    refine wpAnyH_ready (rs := [10, 11]) (by kernel_rfl) (by simp) ?_
    refine ar10 (fun K hK => ?_) ?_
    ·
      go_simp
      refine hK.out _ _ ⟨cell_keep hH.1 (by (repeat' (first | (with_reducible exact Below.refl _ _) | (with_reducible assumption) | (with_reducible refine Below.alloc ?_ ?_ _) | (with_reducible refine Below.drew ?_) | (with_reducible refine below_drewN ?_ _) | (with_reducible refine Below.setCell ?_ ?_ _) | go_size))) (Nat.le_refl _), cell_keep hH.2.1 (by (repeat' (first | (with_reducible exact Below.refl _ _) | (with_reducible assumption) | (with_reducible refine Below.alloc ?_ ?_ _) | (with_reducible refine Below.drew ?_) | (with_reducible refine below_drewN ?_ _) | (with_reducible refine Below.setCell ?_ ?_ _) | go_size))) (Nat.le_refl _), cell_keep hH.2.2.1 (by (repeat' (first | (with_reducible exact Below.refl _ _) | (with_reducible assumption) | (with_reducible refine Below.alloc ?_ ?_ _) | (with_reducible refine Below.drew ?_) | (with_reducible refine below_drewN ?_ _) | (with_reducible refine Below.setCell ?_ ?_ _) | go_size))) (Nat.le_refl _), cell_keep hH.2.2.2.1 (by (repeat' (first | (with_reducible exact Below.refl _ _) | (with_reducible assumption) | (with_reducible refine Below.alloc ?_ ?_ _) | (with_reducible refine Below.drew ?_) | (with_reducible refine below_drewN ?_ _) | (with_reducible refine Below.setCell ?_ ?_ _) | go_size))) (Nat.le_refl _), cell_keep hH.2.2.2.2 (by (repeat' (first | (with_reducible exact Below.refl _ _) | (with_reducible assumption) | (with_reducible refine Below.alloc ?_ ?_ _) | (with_reducible refine Below.drew ?_) | (with_reducible refine below_drewN ?_ _) | (with_reducible refine Below.setCell ?_ ?_ _) | go_size))) (Nat.le_refl _)⟩ (fun hHeld => ?_)
      clear hK K
      try simp only [Act.put, List.setIfInBounds_toArray, List.set_cons_zero, List.set_cons_succ]
      refine rd11 (by kernel_rfl) (fun K hK => ?_)
      go_simp
      refine hK.out _ _ ⟨cell_keep hH.1 (by (repeat' (first | (with_reducible exact Below.refl _ _) | (with_reducible assumption) | (with_reducible refine Below.alloc ?_ ?_ _) | (with_reducible refine Below.drew ?_) | (with_reducible refine below_drewN ?_ _) | (with_reducible refine Below.setCell ?_ ?_ _) | go_size))) (Nat.le_refl _), cell_keep hH.2.1 (by (repeat' (first | (with_reducible exact Below.refl _ _) | (with_reducible assumption) | (with_reducible refine Below.alloc ?_ ?_ _) | (with_reducible refine Below.drew ?_) | (with_reducible refine below_drewN ?_ _) | (with_reducible refine Below.setCell ?_ ?_ _) | go_size))) (Nat.le_refl _), cell_keep hH.2.2.1 (by (repeat' (first | (with_reducible exact Below.refl _ _) | (with_reducible assumption) | (with_reducible refine Below.alloc ?_ ?_ _) | (with_reducible refine Below.drew ?_) | (with_reducible refine below_drewN ?_ _) | (with_reducible refine Below.setCell ?_ ?_ _) | go_size))) (Nat.le_refl _), cell_keep hH.2.2.2.1 (by (repeat' (first | (with_reducible exact Below.refl _ _) | (with_reducible assumption) | (with_reducible refine Below.alloc ?_ ?_ _) | (with_reducible refine Below.drew ?_) | (with_reducible refine below_drewN ?_ _) | (with_reducible refine Below.setCell ?_ ?_ _) | go_size))) (Nat.le_refl _), cell_keep hH.2.2.2.2 (by (repeat' (first | (with_reducible exact Below.refl _ _) | (with_reducible assumption) | (with_reducible refine Below.alloc ?_ ?_ _) | (with_reducible refine Below.drew ?_) | (with_reducible refine below_drewN ?_ _) | (with_reducible refine Below.setCell ?_ ?_ _) | go_size))) (Nat.le_refl _)⟩ (fun hHeld => ?_)
      clear hK K
      try simp only [Act.put, List.setIfInBounds_toArray, List.set_cons_zero, List.set_cons_succ]
      refine rd12 (by kernel_rfl) (fun K hK => ?_)
      go_simp
      refine hK.out _ _ ⟨cell_keep hH.1 (by (repeat' (first | (with_reducible exact Below.refl _ _) | (with_reducible assumption) | (with_reducible refine Below.alloc ?_ ?_ _) | (with_reducible refine Below.drew ?_) | (with_reducible refine below_drewN ?_ _) | (with_reducible refine Below.setCell ?_ ?_ _) | go_size))) (Nat.le_refl _), cell_keep hH.2.1 (by (repeat' (first | (with_reducible exact Below.refl _ _) | (with_reducible assumption) | (with_reducible refine Below.alloc ?_ ?_ _) | (with_reducible refine Below.drew ?_) | (with_reducible refine below_drewN ?_ _) | (with_reducible refine Below.setCell ?_ ?_ _) | go_size))) (Nat.le_refl _), cell_keep hH.2.2.1 (by (repeat' (first | (with_reducible exact Below.refl _ _) | (with_reducible assumption) | (with_reducible refine Below.alloc ?_ ?_ _) | (with_reducible refine Below.drew ?_) | (with_reducible refine below_drewN ?_ _) | (with_reducible refine Below.setCell ?_ ?_ _) | go_size))) (Nat.le_refl _), cell_keep hH.2.2.2.1 (by (repeat' (first | (with_reducible exact Below.refl _ _) | (with_reducible assumption) | (with_reducible refine Below.alloc ?_ ?_ _) | (with_reducible refine Below.drew ?_) | (with_reducible refine below_drewN ?_ _) | (with_reducible refine Below.setCell ?_ ?_ _) | go_size))) (Nat.le_refl _), cell_keep hH.2.2.2.2 (by (repeat' (first | (with_reducible exact Below.refl _ _) | (with_reducible assumption) | (with_reducible refine Below.alloc ?_ ?_ _) | (with_reducible refine Below.drew ?_) | (with_reducible refine below_drewN ?_ _) | (with_reducible refine Below.setCell ?_ ?_ _) | go_size))) (Nat.le_refl _)⟩ (fun hHeld => ?_)
      clear hK K
      try simp only [Act.put, List.setIfInBounds_toArray, List.set_cons_zero, List.set_cons_succ]
      refine rd13 (by kernel_rfl) (fun K hK => ?_)
      go_simp
      refine hK.out _ _ ⟨cell_keep hH.1 (by (repeat' (first | (with_reducible exact Below.refl _ _) | (with_reducible assumption) | (with_reducible refine Below.alloc ?_ ?_ _) | (with_reducible refine Below.drew ?_) | (with_reducible refine below_drewN ?_ _) | (with_reducible refine Below.setCell ?_ ?_ _) | go_size))) (Nat.le_refl _), cell_keep hH.2.1 (by (repeat' (first | (with_reducible exact Below.refl _ _) | (with_reducible assumption) | (with_reducible refine Below.alloc ?_ ?_ _) | (with_reducible refine Below.drew ?_) | (with_reducible refine below_drewN ?_ _) | (with_reducible refine Below.setCell ?_ ?_ _) | go_size))) (Nat.le_refl _), cell_keep hH.2.2.1 (by (repeat' (first | (with_reducible exact Below.refl _ _) | (with_reducible assumption) | (with_reducible refine Below.alloc ?_ ?_ _) | (with_reducible refine Below.drew ?_) | (with_reducible refine below_drewN ?_ _) | (with_reducible refine Below.setCell ?_ ?_ _) | go_size))) (Nat.le_refl _), cell_keep hH.2.2.2.1 (by (repeat' (first | (with_reducible exact Below.refl _ _) | (with_reducible assumption) | (with_reducible refine Below.alloc ?_ ?_ _) | (with_reducible refine Below.drew ?_) | (with_reducible refine below_drewN ?_ _) | (with_reducible refine Below.setCell ?_ ?_ _) | go_size))) (Nat.le_refl _), cell_keep hH.2.2.2.2 (by (repeat' (first | (with_reducible exact Below.refl _ _) | (with_reducible assumption) | (with_reducible refine Below.alloc ?_ ?_ _) | (with_reducible refine Below.drew ?_) | (with_reducible refine below_drewN ?_ _) | (with_reducible refine Below.setCell ?_ ?_ _) | go_size))) (Nat.le_refl _)⟩ (fun hHeld => ?_)
      clear hK K
      try simp only [Act.put, List.setIfInBounds_toArray, List.set_cons_zero, List.set_cons_succ]
      refine wpAnyH_done (by kernel_rfl) ?_ _
      exact ⟨rfl, _, _, rfl, by simp, by simp, by simp, by simp, hbD.trans ((show Below W0.heap.size W0 _ by (repeat' (first | (with_reducible exact Below.refl _ _) | (with_reducible assumption) | (with_reducible refine Below.alloc ?_ ?_ _) | (with_reducible refine Below.drew ?_) | (with_reducible refine below_drewN ?_ _) | (with_reducible refine Below.setCell ?_ ?_ _) | go_size))).mono hbD.size)⟩
    refine ar11 (fun K hK => ?_) ?_
    ·
      go_simp
      refine hK.out _ _ ⟨cell_keep hH.1 (by (repeat' (first | (with_reducible exact Below.refl _ _) | (with_reducible assumption) | (with_reducible refine Below.alloc ?_ ?_ _) | (with_reducible refine Below.drew ?_) | (with_reducible refine below_drewN ?_ _) | (with_reducible refine Below.setCell ?_ ?_ _) | go_size))) (Nat.le_refl _), cell_keep hH.2.1 (by (repeat' (first | (with_reducible exact Below.refl _ _) | (with_reducible assumption) | (with_reducible refine Below.alloc ?_ ?_ _) | (with_reducible refine Below.drew ?_) | (with_reducible refine below_drewN ?_ _) | (with_reducible refine Below.setCell ?_ ?_ _) | go_size))) (Nat.le_refl _), cell_keep hH.2.2.1 (by (repeat' (first | (with_reducible exact Below.refl _ _) | (with_reducible assumption) | (with_reducible refine Below.alloc ?_ ?_ _) | (with_reducible refine Below.drew ?_) | (with_reducible refine below_drewN ?_ _) | (with_reducible refine Below.setCell ?_ ?_ _) | go_size))) (Nat.le_refl _), cell_keep hH.2.2.2.1 (by (repeat' (first | (with_reducible exact Below.refl _ _) | (with_reducible assumption) | (with_reducible refine Below.alloc ?_ ?_ _) | (with_reducible refine Below.drew ?_) | (with_reducible refine below_drewN ?_ _) | (with_reducible refine Below.setCell ?_ ?_ _) | go_size))) (Nat.le_refl _), cell_keep hH.2.2.2.2 (by (repeat' (first | (with_reducible exact Below.refl _ _) | (with_reducible assumption) | (with_reducible refine Below.alloc ?_ ?_ _) | (with_reducible refine Below.drew ?_) | (with_reducible refine below_drewN ?_ _) | (with_reducible refine Below.setCell ?_ ?_ _) | go_size))) (Nat.le_refl _)⟩ (fun hHeld => ?_)
      clear hK K
      try simp only [Act.put, List.setIfInBounds_toArray, List.set_cons_zero, List.set_cons_succ]
      refine rd10 (by kernel_rfl) (fun K hK => ?_)
      go_simp
      refine hK.out _ _ ⟨cell_keep hH.1 (by (repeat' (first | (with_reducible exact Below.refl _ _) | (with_reducible assumption) | (with_reducible refine Below.alloc ?_ ?_ _) | (with_reducible refine Below.drew ?_) | (with_reducible refine below_drewN ?_ _) | (with_reducible refine Below.setCell ?_ ?_ _) | go_size))) (Nat.le_refl _), cell_keep hH.2.1 (by (repeat' (first | (with_reducible exact Below.refl _ _) | (with_reducible assumption) | (with_reducible refine Below.alloc ?_ ?_ _) | (with_reducible refine Below.drew ?_) | (with_reducible refine below_drewN ?_ _) | (with_reducible refine Below.setCell ?_ ?_ _) | go_size))) (Nat.le_refl _), cell_keep hH.2.2.1 (by (repeat' (first | (with_reducible exact Below.refl _ _) | (with_reducible assumption) | (with_reducible refine Below.alloc ?_ ?_ _) | (with_reducible refine Below.drew ?_) | (with_reducible refine below_drewN ?_ _) | (with_reducible refine Below.setCell ?_ ?_ _) | go_size))) (Nat.le_refl _), cell_keep hH.2.2.2.1 (by (repeat' (first | (with_reducible exact Below.refl _ _) | (with_reducible assumption) | (with_reducible refine Below.alloc ?_ ?_ _) | (with_reducible refine Below.drew ?_) | (with_reducible refine below_drewN ?_ _) | (with_reducible refine Below.setCell ?_ ?_ _) | go_size))) (Nat.le_refl _), cell_keep hH.2.2.2.2 (by (repeat' (first | (with_reducible exact Below.refl _ _) | (with_reducible assumption) | (with_reducible refine Below.alloc ?_ ?_ _) | (with_reducible refine Below.drew ?_) | (with_reducible refine below_drewN ?_ _) | (with_reducible refine Below.setCell ?_ ?_ _) | go_size))) (Nat.le_refl _)⟩ (fun hHeld => ?_)
      clear hK K
      try simp only [Act.put, List.setIfInBounds_toArray, List.set_cons_zero, List.set_cons_succ]
      refine rd12 (by kernel_rfl) (fun K hK => ?_)
      go_simp
      refine hK.out _ _ ⟨cell_keep hH.1 (by (repeat' (first | (with_reducible exact Below.refl _ _) | (with_reducible assumption) | (with_reducible refine Below.alloc ?_ ?_ _) | (with_reducible refine Below.drew ?_) | (with_reducible refine below_drewN ?_ _) | (with_reducible refine Below.setCell ?_ ?_ _) | go_size))) (Nat.le_refl _), cell_keep hH.2.1 (by (repeat' (first | (with_reducible exact Below.refl _ _) | (with_reducible assumption) | (with_reducible refine Below.alloc ?_ ?_ _) | (with_reducible refine Below.drew ?_) | (with_reducible refine below_drewN ?_ _) | (with_reducible refine Below.setCell ?_ ?_ _) | go_size))) (Nat.le_refl _), cell_keep hH.2.2.1 (by (repeat' (first | (with_reducible exact Below.refl _ _) | (with_reducible assumption) | (with_reducible refine Below.alloc ?_ ?_ _) | (with_reducible refine Below.drew ?_) | (with_reducible refine below_drewN ?_ _) | (with_reducible refine Below.setCell ?_ ?_ _) | go_size))) (Nat.le_refl _), cell_keep hH.2.2.2.1 (by (repeat' (first | (with_reducible exact Below.refl _ _) | (with_reducible assumption) | (with_reducible refine Below.alloc ?_ ?_ _) | (with_reducible refine Below.drew ?_) | (with_reducible refine below_drewN ?_ _) | (with_reducible refine Below.setCell ?_ ?_ _) | go_size))) (Nat.le_refl _), cell_keep hH.2.2.2.2 (by (repeat' (first | (with_reducible exact Below.refl _ _) | (with_reducible assumption) | (with_reducible refine Below.alloc ?_ ?_ _) | (with_reducible refine Below.drew ?_) | (with_reducible refine below_drewN ?_ _) | (with_reducible refine Below.setCell ?_ ?_ _) | go_size))) (Nat.le_refl _)⟩ (fun hHeld => ?_)
      clear hK K
      try simp only [Act.put, List.setIfInBounds_toArray, List.set_cons_zero, List.set_cons_succ]
      refine rd13 (by kernel_rfl) (fun K hK => ?_)
      go_simp
      refine hK.out _ _ ⟨cell_keep hH.1 (by (repeat' (first | (with_reducible exact Below.refl _ _) | (with_reducible assumption) | (with_reducible refine Below.alloc ?_ ?_ _) | (with_reducible refine Below.drew ?_) | (with_reducible refine below_drewN ?_ _) | (with_reducible refine Below.setCell ?_ ?_ _) | go_size))) (Nat.le_refl _), cell_keep hH.2.1 (by (repeat' (first | (with_reducible exact Below.refl _ _) | (with_reducible assumption) | (with_reducible refine Below.alloc ?_ ?_ _) | (with_reducible refine Below.drew ?_) | (with_reducible refine below_drewN ?_ _) | (with_reducible refine Below.setCell ?_ ?_ _) | go_size))) (Nat.le_refl _), cell_keep hH.2.2.1 (by (repeat' (first | (with_reducible exact Below.refl _ _) | (with_reducible assumption) | (with_reducible refine Below.alloc ?_ ?_ _) | (with_reducible refine Below.drew ?_) | (with_reducible refine below_drewN ?_ _) | (with_reducible refine Below.setCell ?_ ?_ _) | go_size))) (Nat.le_refl _), cell_keep hH.2.2.2.1 (by (repeat' (first | (with_reducible exact Below.refl _ _) | (with_reducible assumption) | (with_reducible refine Below.alloc ?_ ?_ _) | (with_reducible refine Below.drew ?_) | (with_reducible refine below_drewN ?_ _) | (with_reducible refine Below.setCell ?_ ?_ _) | go_size))) (Nat.le_refl _), cell_keep hH.2.2.2.2 (by (repeat' (first | (with_reducible exact Below.refl _ _) | (with_reducible assumption) | (with_reducible refine Below.alloc ?_ ?_ _) | (with_reducible refine Below.drew ?_) | (with_reducible refine below_drewN ?_ _) | (with_reducible refine Below.setCell ?_ ?_ _) | go_size))) (Nat.le_refl _)⟩ (fun hHeld => ?_)
      clear hK K
      try simp only [Act.put, List.setIfInBounds_toArray, List.set_cons_zero, List.set_cons_succ]
      refine wpAnyH_done (by kernel_rfl) ?_ _
      exact ⟨rfl, _, _, rfl, by simp, by simp, by simp, by simp, hbD.trans ((show Below W0.heap.size W0 _ by (repeat' (first | (with_reducible exact Below.refl _ _) | (with_reducible assumption) | (with_reducible refine Below.alloc ?_ ?_ _) | (with_reducible refine Below.drew ?_) | (with_reducible refine below_drewN ?_ _) | (with_reducible refine Below.setCell ?_ ?_ _) | go_size))).mono hbD.size)⟩
    exact AllReadyH.nil
  rintro e a' WB ⟨rfl, b8, b9, rfl, g0, g1, g2, g3, hb1⟩
  have hw4 : Below w.heap.size w WB := hw3.trans (hb1.mono hw3.size)
  clear a4 a5 f0 f1 f2 f3
  clear hb1
  have l1 : (putAll 49 blank X.1).length = 30 := by rw [putAll_length]; exact blank_length
  have l2 : (putAll 49 (putAll 49 blank X.1) X.2).length = 30 := by rw [putAll_length]; exact l1
  have l3 : (putAll 48 (putAll 49 (putAll 49 blank X.1) X.2) Y.1).length = 30 := by rw [putAll_length]; exact l2
  have l4 : (putAll 48 (putAll 48 (putAll 49 (putAll 49 blank X.1) X.2) Y.1) Y.2).length = 30 := by rw [putAll_length]; exact l3
  have q1 := fun w => eqlArr _ _ l4 l2 w
  have hr : (putAll 48 (putAll 48 (putAll 49 (putAll 49 blank X.1) X.2) Y.1) Y.2 == putAll 49 (putAll 49 blank X.1) X.2) = r := HI2.out.symm
  rw [hr] at q1
  obtain ⟨A1, hA1⟩ : ∃ A1, A1 = putAll 49 blank X.1 := ⟨_, rfl⟩
  obtain ⟨A2, hA2⟩ : ∃ A2, A2 = putAll 49 A1 X.2 := ⟨_, rfl⟩
  obtain ⟨A3, hA3⟩ : ∃ A3, A3 = putAll 48 A2 Y.1 := ⟨_, rfl⟩
  obtain ⟨A4, hA4⟩ : ∃ A4, A4 = putAll 48 A3 Y.2 := ⟨_, rfl⟩
  rw [← hA1, ← hA2, ← hA3, ← hA4] at q1 l4
  rw [← hA1, ← hA2, ← hA3] at l3
  rw [← hA1, ← hA2] at l2
  rw [← hA1] at l1
  clear hr
  have HA1 := Lib.hid hA1; clear hA1
  have HA2 := Lib.hid hA2; clear hA2
  have HA3 := Lib.hid hA3; clear hA3
  have HA4 := Lib.hid hA4; clear hA4
  have u1 := Try.underlying118
  have u2 : (Try.prog.info? 118).map (·.size) = some (arr A2).length := by rw [arr_length, l2]; exact Try.infoArr
  go_wp2_with fail
  have HX1 := HX.out.keep (Carries.of lo hw4)
  have HY1 := HY.out.keep (Carries.of lo hw4)
  clear HX HY HV
  refine Code.wp_mono (Q := OneArr WB b9 (.slice ya0 Y.1.length yk0) (.slice ya1 Y.2.length yk1) A2 (fun P => { tmps := #[.agg #[.int .i64 p, .slice (some ⟨b, off, none⟩) ts.length cap], .int .i64 tn, .int .i64 un, .pointer (some ⟨w.heap.size, 0, none⟩), undef, undef, .bool false, .bool false, .pointer (some ⟨b8, 0, none⟩), .pointer (some ⟨b9, 0, none⟩), P, .agg #[.int .i64 p, .slice (some ⟨b, off, none⟩) ts.length cap], .bool true, .bool false, .bool false, .agg #[.int .i64 p, .slice (some ⟨b, off, none⟩) ts.length cap], .int .i64 tn, .bool true, .bool false, .bool false, .bool false, .agg #[.int .i64 p, .slice (some ⟨b, off, none⟩) ts.length cap], .int .i64 un, .bool true, .bool false, .bool false, .pointer (some ⟨w.heap.size, 1, none⟩), .slice (some ⟨b, off, none⟩) ts.length cap, .int .i64 tn, .pointer (some ⟨b, off + tn * 2, none⟩), .agg #[.slice xa0 X.1.length xk0, .slice xa1 X.2.length xk1], .pointer (some ⟨w.heap.size, 1, none⟩), .slice (some ⟨b, off, none⟩) ts.length cap, .int .i64 un, .pointer (some ⟨b, off + un * 2, none⟩), .agg #[.slice ya0 Y.1.length yk0, .slice ya1 Y.2.length yk1], .pointer (some ⟨b8, 0, none⟩), .slice xa0 X.1.length xk0, .agg (arr A1).toArray, .pointer (some ⟨b8, 1, none⟩), .slice xa1 X.2.length xk1, .agg (arr A2).toArray, undef, undef, undef, undef, undef, undef, undef, undef, undef], defers := [] })) ?_ ?_
  rotate_left 1
  · refine wp_region_held_drew (S := fun w' => w'.cell? ⟨b8, 0, none⟩ = some (.slice xa0 X.1.length xk0) ∧ w'.cell? ⟨b8, 1, none⟩ = some (.slice xa1 X.2.length xk1) ∧ w'.cell? ⟨b9, 0, none⟩ = some (.slice ya0 Y.1.length yk0) ∧ w'.cell? ⟨b9, 1, none⟩ = some (.slice ya1 Y.2.length yk1)) (by kernel_rfl) ⟨g0, g1, g2, g3⟩ (fun hHeld => ?_)
    have bel0 : Below WB.heap.size WB WB.drew := (Below.refl _ _).drew
    have k0_0 : WB.drew.cell? ⟨b8, 0, none⟩ = some (.slice xa0 X.1.length xk0) := g0
    have k1_0 : WB.drew.cell? ⟨b8, 1, none⟩ = some (.slice xa1 X.2.length xk1) := g1
    have k2_0 : WB.drew.cell? ⟨b9, 0, none⟩ = some (.slice ya0 Y.1.length yk0) := g2
    have k3_0 : WB.drew.cell? ⟨b9, 1, none⟩ = some (.slice ya1 Y.2.length yk1) := g3
    generalize WB.drew = W0 at bel0 k0_0 k1_0 k2_0 k3_0 hHeld ⊢
    refine tk0 (v := ?_) (by kernel_rfl) (by kernel_rfl) (by kernel_rfl) (by first | exact fun _ _ _ h => h | exact fun _ _ _ h => absurd h.1 (by simp)) (Or.inl ⟨by rfl, ?_⟩) (by assumption) ?_
    rotate_left 1
    focus (intro wx hSw; (try dsimp only at hSw); go_simp; try (with_reducible rfl))
    try simp only [Act.put, List.setIfInBounds_toArray, List.set_cons_zero, List.set_cons_succ]
    refine tk1 (v := ?_) (by kernel_rfl) (by kernel_rfl) (by kernel_rfl) (by first | exact fun _ _ _ h => h | exact fun _ _ _ h => absurd h.1 (by simp)) (Or.inl ⟨by rfl, ?_⟩) (by assumption) ?_
    rotate_left 1
    focus (intro wx hSw; (try dsimp only at hSw); go_simp; try (with_reducible rfl))
    try simp only [Act.put, List.setIfInBounds_toArray, List.set_cons_zero, List.set_cons_succ]
    refine tk3 (v := ?_) (by kernel_rfl) (by kernel_rfl) (by kernel_rfl) (by first | exact fun _ _ _ h => h | exact fun _ _ _ h => absurd h.1 (by simp)) (Or.inl ⟨by rfl, ?_⟩) (by assumption) ?_
    rotate_left 1
    focus (intro wx hSw; (try dsimp only at hSw); go_simp; try (with_reducible rfl))
    try simp only [Act.put, List.setIfInBounds_toArray, List.set_cons_zero, List.set_cons_succ]
    refine tk4 (v := ?_) (by kernel_rfl) (by kernel_rfl) (by kernel_rfl) (by first | exact fun _ _ _ h => h | exact fun _ _ _ h => absurd h.1 (by simp)) (Or.inl ⟨by rfl, ?_⟩) (by assumption) ?_
    rotate_left 1
    focus (intro wx hSw; (try dsimp only at hSw); go_simp; try (with_reducible rfl))
    try simp only [Act.put, List.setIfInBounds_toArray, List.set_cons_zero, List.set_cons_succ]
    refine wpAnyH_ready (rs := [2, 6]) (by kernel_rfl) (by simp) ?_
    refine ar2 (fun K hK => ?_) ?_
    ·
      go_simp
      refine (onlyPlaces_any _ X.1 W0 lo (HX1.1.keep (Carries.of lo bel0)) (by omega) IX.out.1).mono ?_
      rintro e W1 ⟨rfl, hb1⟩
      have bel1 : Below WB.heap.size WB W1 := bel0.trans (hb1.mono bel0.size)
      have k0_1 := cell_carry k0_0 (Carries.of 0 hb1)
      have k1_1 := cell_carry k1_0 (Carries.of 0 hb1)
      have k2_1 := cell_carry k2_0 (Carries.of 0 hb1)
      have k3_1 := cell_carry k3_0 (Carries.of 0 hb1)
      rw [← HA1.out]
      refine hK.out _ _ ⟨k0_1, k1_1, k2_1, k3_1⟩ (fun hHeld => ?_)
      clear hK K
      try simp only [Act.put, List.setIfInBounds_toArray, List.set_cons_zero, List.set_cons_succ]
      refine wpAnyH_ready (rs := [5, 6]) (by kernel_rfl) (by simp) ?_
      refine ar5 (fun K hK => ?_) ?_
      ·
        go_simp
        refine (withPlaces_any A1 l1 _ X.2 W1 lo (HX1.2.keep (Carries.of lo bel1)) (by omega) IX.out.2).mono ?_
        rintro e W2 ⟨rfl, hb2⟩
        have bel2 : Below WB.heap.size WB W2 := bel1.trans (hb2.mono bel1.size)
        have k0_2 := cell_carry k0_1 (Carries.of 0 hb2)
        have k1_2 := cell_carry k1_1 (Carries.of 0 hb2)
        have k2_2 := cell_carry k2_1 (Carries.of 0 hb2)
        have k3_2 := cell_carry k3_1 (Carries.of 0 hb2)
        rw [← HA2.out]
        refine hK.out _ _ ⟨k0_2, k1_2, k2_2, k3_2⟩ (fun hHeld => ?_)
        clear hK K
        try simp only [Act.put, List.setIfInBounds_toArray, List.set_cons_zero, List.set_cons_succ]
        refine rd6 (by kernel_rfl) (fun K hK => ?_)
        go_simp
        have hb3 : Below W2.heap.size W2 (W2.alloc (.cells (arr zeros).toArray 118)) := (Below.refl _ _).alloc (Nat.le_refl _) _
        have new3 := ArrAt.new W2 zeros_length
        change K _ (W2.alloc (.cells (arr zeros).toArray 118))
        generalize W2.alloc (.cells (arr zeros).toArray 118) = W3 at hb3 new3 ⊢
        have bel3 : Below WB.heap.size WB W3 := bel2.trans (hb3.mono bel2.size)
        have k0_3 := cell_carry k0_2 (Carries.of 0 hb3)
        have k1_3 := cell_carry k1_2 (Carries.of 0 hb3)
        have k2_3 := cell_carry k2_2 (Carries.of 0 hb3)
        have k3_3 := cell_carry k3_2 (Carries.of 0 hb3)
        have bge3_p10 : WB.heap.size ≤ W2.heap.size := bel2.size
        refine hK.out _ _ ⟨k0_3, k1_3, k2_3, k3_3⟩ (fun hHeld => ?_)
        clear hK K
        try simp only [Act.put, List.setIfInBounds_toArray, List.set_cons_zero, List.set_cons_succ]
        refine rd7 (by kernel_rfl) (fun K hK => ?_)
        rw [if_pos (by rfl)]
        refine wp_store_row 118 _ _ rfl W2.heap.size _ rfl rfl _ _ new3.1 (infoArr l2) (by simp [arr_length, l2, zeros_length]) (arr_all _) ?_
        have new4 : ArrAt (W3.setRow W2.heap.size (arr A2).toArray) W2.heap.size A2 := ⟨setRow_heap _ _ _ _ _ _ new3.1, l2⟩
        have k0_4 : (W3.setRow W2.heap.size (arr A2).toArray).cell? ⟨b8, 0, none⟩ = some (.slice xa0 X.1.length xk0) := (World.cell?_of_block (setRow_other _ _ _ _ (by have := bge3_p10; have := cell_old g0; simp at this ⊢; omega))).trans k0_3
        have k1_4 : (W3.setRow W2.heap.size (arr A2).toArray).cell? ⟨b8, 1, none⟩ = some (.slice xa1 X.2.length xk1) := (World.cell?_of_block (setRow_other _ _ _ _ (by have := bge3_p10; have := cell_old g1; simp at this ⊢; omega))).trans k1_3
        have k2_4 : (W3.setRow W2.heap.size (arr A2).toArray).cell? ⟨b9, 0, none⟩ = some (.slice ya0 Y.1.length yk0) := (World.cell?_of_block (setRow_other _ _ _ _ (by have := bge3_p10; have := cell_old g2; simp at this ⊢; omega))).trans k2_3
        have k3_4 : (W3.setRow W2.heap.size (arr A2).toArray).cell? ⟨b9, 1, none⟩ = some (.slice ya1 Y.2.length yk1) := (World.cell?_of_block (setRow_other _ _ _ _ (by have := bge3_p10; have := cell_old g3; simp at this ⊢; omega))).trans k3_3
        have bel4 : Below WB.heap.size WB (W3.setRow W2.heap.size (arr A2).toArray) := below_setRow bel3 bge3_p10 _
        generalize W3.setRow W2.heap.size (arr A2).toArray = W4 at *
        refine hK.out _ _ ⟨k0_4, k1_4, k2_4, k3_4⟩ (fun hHeld => ?_)
        clear hK K
        try simp only [Act.put, List.setIfInBounds_toArray, List.set_cons_zero, List.set_cons_succ]
        refine wpAnyH_done (by kernel_rfl) ?_ _
        exact ⟨rfl, _, rfl, new4, bel4, k2_4, k3_4⟩
      refine ar6 (fun K hK => ?_) ?_
      ·
        go_simp
        have hb5 : Below W1.heap.size W1 (W1.alloc (.cells (arr zeros).toArray 118)) := (Below.refl _ _).alloc (Nat.le_refl _) _
        have new5 := ArrAt.new W1 zeros_length
        change K _ (W1.alloc (.cells (arr zeros).toArray 118))
        generalize W1.alloc (.cells (arr zeros).toArray 118) = W5 at hb5 new5 ⊢
        have bel5 : Below WB.heap.size WB W5 := bel1.trans (hb5.mono bel1.size)
        have k0_5 := cell_carry k0_1 (Carries.of 0 hb5)
        have k1_5 := cell_carry k1_1 (Carries.of 0 hb5)
        have k2_5 := cell_carry k2_1 (Carries.of 0 hb5)
        have k3_5 := cell_carry k3_1 (Carries.of 0 hb5)
        have bge5_p10 : WB.heap.size ≤ W1.heap.size := bel1.size
        refine hK.out _ _ ⟨k0_5, k1_5, k2_5, k3_5⟩ (fun hHeld => ?_)
        clear hK K
        try simp only [Act.put, List.setIfInBounds_toArray, List.set_cons_zero, List.set_cons_succ]
        refine rd5 (by kernel_rfl) (fun K hK => ?_)
        go_simp
        refine (withPlaces_any A1 l1 _ X.2 W5 lo (HX1.2.keep (Carries.of lo bel5)) (by omega) IX.out.2).mono ?_
        rintro e W6 ⟨rfl, hb6⟩
        have bel6 : Below WB.heap.size WB W6 := bel5.trans (hb6.mono bel5.size)
        have k0_6 := cell_carry k0_5 (Carries.of 0 hb6)
        have k1_6 := cell_carry k1_5 (Carries.of 0 hb6)
        have k2_6 := cell_carry k2_5 (Carries.of 0 hb6)
        have k3_6 := cell_carry k3_5 (Carries.of 0 hb6)
        have p10_6 := ArrAt.after new5 hb6
        rw [← HA2.out]
        refine hK.out _ _ ⟨k0_6, k1_6, k2_6, k3_6⟩ (fun hHeld => ?_)
        clear hK K
        try simp only [Act.put, List.setIfInBounds_toArray, List.set_cons_zero, List.set_cons_succ]
        refine rd7 (by kernel_rfl) (fun K hK => ?_)
        rw [if_pos (by rfl)]
        refine wp_store_row 118 _ _ rfl W1.heap.size _ rfl rfl _ _ p10_6.1 (infoArr l2) (by simp [arr_length, l2, zeros_length]) (arr_all _) ?_
        have new7 : ArrAt (W6.setRow W1.heap.size (arr A2).toArray) W1.heap.size A2 := ⟨setRow_heap _ _ _ _ _ _ p10_6.1, l2⟩
        have k0_7 : (W6.setRow W1.heap.size (arr A2).toArray).cell? ⟨b8, 0, none⟩ = some (.slice xa0 X.1.length xk0) := (World.cell?_of_block (setRow_other _ _ _ _ (by have := bge5_p10; have := cell_old g0; simp at this ⊢; omega))).trans k0_6
        have k1_7 : (W6.setRow W1.heap.size (arr A2).toArray).cell? ⟨b8, 1, none⟩ = some (.slice xa1 X.2.length xk1) := (World.cell?_of_block (setRow_other _ _ _ _ (by have := bge5_p10; have := cell_old g1; simp at this ⊢; omega))).trans k1_6
        have k2_7 : (W6.setRow W1.heap.size (arr A2).toArray).cell? ⟨b9, 0, none⟩ = some (.slice ya0 Y.1.length yk0) := (World.cell?_of_block (setRow_other _ _ _ _ (by have := bge5_p10; have := cell_old g2; simp at this ⊢; omega))).trans k2_6
        have k3_7 : (W6.setRow W1.heap.size (arr A2).toArray).cell? ⟨b9, 1, none⟩ = some (.slice ya1 Y.2.length yk1) := (World.cell?_of_block (setRow_other _ _ _ _ (by have := bge5_p10; have := cell_old g3; simp at this ⊢; omega))).trans k3_6
        have bel7 : Below WB.heap.size WB (W6.setRow W1.heap.size (arr A2).toArray) := below_setRow bel6 bge5_p10 _
        generalize W6.setRow W1.heap.size (arr A2).toArray = W7 at *
        refine hK.out _ _ ⟨k0_7, k1_7, k2_7, k3_7⟩ (fun hHeld => ?_)
        clear hK K
        try simp only [Act.put, List.setIfInBounds_toArray, List.set_cons_zero, List.set_cons_succ]
        refine wpAnyH_done (by kernel_rfl) ?_ _
        exact ⟨rfl, _, rfl, new7, bel7, k2_7, k3_7⟩
      exact AllReadyH.nil
    refine ar6 (fun K hK => ?_) ?_
    ·
      go_simp
      have hb8 : Below W0.heap.size W0 (W0.alloc (.cells (arr zeros).toArray 118)) := (Below.refl _ _).alloc (Nat.le_refl _) _
      have new8 := ArrAt.new W0 zeros_length
      change K _ (W0.alloc (.cells (arr zeros).toArray 118))
      generalize W0.alloc (.cells (arr zeros).toArray 118) = W8 at hb8 new8 ⊢
      have bel8 : Below WB.heap.size WB W8 := bel0.trans (hb8.mono bel0.size)
      have k0_8 := cell_carry k0_0 (Carries.of 0 hb8)
      have k1_8 := cell_carry k1_0 (Carries.of 0 hb8)
      have k2_8 := cell_carry k2_0 (Carries.of 0 hb8)
      have k3_8 := cell_carry k3_0 (Carries.of 0 hb8)
      have bge8_p10 : WB.heap.size ≤ W0.heap.size := bel0.size
      refine hK.out _ _ ⟨k0_8, k1_8, k2_8, k3_8⟩ (fun hHeld => ?_)
      clear hK K
      try simp only [Act.put, List.setIfInBounds_toArray, List.set_cons_zero, List.set_cons_succ]
      refine rd2 (by kernel_rfl) (fun K hK => ?_)
      go_simp
      refine (onlyPlaces_any _ X.1 W8 lo (HX1.1.keep (Carries.of lo bel8)) (by omega) IX.out.1).mono ?_
      rintro e W9 ⟨rfl, hb9⟩
      have bel9 : Below WB.heap.size WB W9 := bel8.trans (hb9.mono bel8.size)
      have k0_9 := cell_carry k0_8 (Carries.of 0 hb9)
      have k1_9 := cell_carry k1_8 (Carries.of 0 hb9)
      have k2_9 := cell_carry k2_8 (Carries.of 0 hb9)
      have k3_9 := cell_carry k3_8 (Carries.of 0 hb9)
      have p10_9 := ArrAt.after new8 hb9
      rw [← HA1.out]
      refine hK.out _ _ ⟨k0_9, k1_9, k2_9, k3_9⟩ (fun hHeld => ?_)
      clear hK K
      try simp only [Act.put, List.setIfInBounds_toArray, List.set_cons_zero, List.set_cons_succ]
      refine rd5 (by kernel_rfl) (fun K hK => ?_)
      go_simp
      refine (withPlaces_any A1 l1 _ X.2 W9 lo (HX1.2.keep (Carries.of lo bel9)) (by omega) IX.out.2).mono ?_
      rintro e W10 ⟨rfl, hb10⟩
      have bel10 : Below WB.heap.size WB W10 := bel9.trans (hb10.mono bel9.size)
      have k0_10 := cell_carry k0_9 (Carries.of 0 hb10)
      have k1_10 := cell_carry k1_9 (Carries.of 0 hb10)
      have k2_10 := cell_carry k2_9 (Carries.of 0 hb10)
      have k3_10 := cell_carry k3_9 (Carries.of 0 hb10)
      have p10_10 := ArrAt.after p10_9 hb10
      rw [← HA2.out]
      refine hK.out _ _ ⟨k0_10, k1_10, k2_10, k3_10⟩ (fun hHeld => ?_)
      clear hK K
      try simp only [Act.put, List.setIfInBounds_toArray, List.set_cons_zero, List.set_cons_succ]
      refine rd7 (by kernel_rfl) (fun K hK => ?_)
      rw [if_pos (by rfl)]
      refine wp_store_row 118 _ _ rfl W0.heap.size _ rfl rfl _ _ p10_10.1 (infoArr l2) (by simp [arr_length, l2, zeros_length]) (arr_all _) ?_
      have new11 : ArrAt (W10.setRow W0.heap.size (arr A2).toArray) W0.heap.size A2 := ⟨setRow_heap _ _ _ _ _ _ p10_10.1, l2⟩
      have k0_11 : (W10.setRow W0.heap.size (arr A2).toArray).cell? ⟨b8, 0, none⟩ = some (.slice xa0 X.1.length xk0) := (World.cell?_of_block (setRow_other _ _ _ _ (by have := bge8_p10; have := cell_old g0; simp at this ⊢; omega))).trans k0_10
      have k1_11 : (W10.setRow W0.heap.size (arr A2).toArray).cell? ⟨b8, 1, none⟩ = some (.slice xa1 X.2.length xk1) := (World.cell?_of_block (setRow_other _ _ _ _ (by have := bge8_p10; have := cell_old g1; simp at this ⊢; omega))).trans k1_10
      have k2_11 : (W10.setRow W0.heap.size (arr A2).toArray).cell? ⟨b9, 0, none⟩ = some (.slice ya0 Y.1.length yk0) := (World.cell?_of_block (setRow_other _ _ _ _ (by have := bge8_p10; have := cell_old g2; simp at this ⊢; omega))).trans k2_10
      have k3_11 : (W10.setRow W0.heap.size (arr A2).toArray).cell? ⟨b9, 1, none⟩ = some (.slice ya1 Y.2.length yk1) := (World.cell?_of_block (setRow_other _ _ _ _ (by have := bge8_p10; have := cell_old g3; simp at this ⊢; omega))).trans k3_10
      have bel11 : Below WB.heap.size WB (W10.setRow W0.heap.size (arr A2).toArray) := below_setRow bel10 bge8_p10 _
      generalize W10.setRow W0.heap.size (arr A2).toArray = W11 at *
      refine hK.out _ _ ⟨k0_11, k1_11, k2_11, k3_11⟩ (fun hHeld => ?_)
      clear hK K
      try simp only [Act.put, List.setIfInBounds_toArray, List.set_cons_zero, List.set_cons_succ]
      refine wpAnyH_done (by kernel_rfl) ?_ _
      exact ⟨rfl, _, rfl, new11, bel11, k2_11, k3_11⟩
    exact AllReadyH.nil
  rintro e a' W2 ⟨rfl, b10, rfl, hT, hb2, g4, g5⟩
  have hw5 : Below w.heap.size w W2 := hw4.trans (hb2.mono hw4.size)
  have HY2 := HY1.keep (Carries.of lo hb2)
  clear g0 g1 g2 g3 hb2 HX1 HY1
  go_wp2_with fail
  refine wp_region_held_drew (S := fun w' => w'.cell? ⟨b9, 0, none⟩ = some (.slice ya0 Y.1.length yk0) ∧ w'.cell? ⟨b9, 1, none⟩ = some (.slice ya1 Y.2.length yk1) ∧ w'.rangeAt b10 0 (arr A2)) (by kernel_rfl) ⟨g4, g5, hT.range⟩ (fun hHeld => ?_)
  have hwD := hw5.drew
  have hT0 : ArrAt W2.drew b10 A2 := hT
  have k4 : W2.drew.cell? ⟨b9, 0, none⟩ = some (.slice ya0 Y.1.length yk0) := g4
  have k5 : W2.drew.cell? ⟨b9, 1, none⟩ = some (.slice ya1 Y.2.length yk1) := g5
  have HY3 := HY2.keep (Carries.of (w := W2) (w' := W2.drew) lo (Below.refl _ _).drew)
  generalize W2.drew = W0 at hwD hT0 k4 k5 HY3 hHeld ⊢
  clear hT g4 g5 HY2
  refine tk0 (by kernel_rfl) (by kernel_rfl) (by kernel_rfl) (by first | exact fun _ _ _ h => h | exact fun _ _ _ h => absurd h.1 (by simp)) (yieldsIf_load_mid (by rfl) _ _ rfl _ _ rfl _ _ (fun w hS => hS.2.2) u1 rfl u2) (by assumption) ?_
  try simp only [Act.put, List.setIfInBounds_toArray, List.set_cons_zero, List.set_cons_succ]
  refine tk1 (v := ?_) (by kernel_rfl) (by kernel_rfl) (by kernel_rfl) (by first | exact fun _ _ _ h => h | exact fun _ _ _ h => absurd h.1 (by simp)) (Or.inl ⟨by rfl, ?_⟩) (by assumption) ?_
  rotate_left 1
  focus (intro wx hSw; (try dsimp only at hSw); go_simp; try (with_reducible rfl))
  try simp only [Act.put, List.setIfInBounds_toArray, List.set_cons_zero, List.set_cons_succ]
  refine tk2 (v := ?_) (by kernel_rfl) (by kernel_rfl) (by kernel_rfl) (by first | exact fun _ _ _ h => h | exact fun _ _ _ h => absurd h.1 (by simp)) (Or.inl ⟨by rfl, ?_⟩) (by assumption) ?_
  rotate_left 1
  focus (intro wx hSw; (try dsimp only at hSw); go_simp; try (with_reducible rfl))
  try simp only [Act.put, List.setIfInBounds_toArray, List.set_cons_zero, List.set_cons_succ]
  refine tk4 (v := ?_) (by kernel_rfl) (by kernel_rfl) (by kernel_rfl) (by first | exact fun _ _ _ h => h | exact fun _ _ _ h => absurd h.1 (by simp)) (Or.inl ⟨by rfl, ?_⟩) (by assumption) ?_
  rotate_left 1
  focus (intro wx hSw; (try dsimp only at hSw); go_simp; try (with_reducible rfl))
  try simp only [Act.put, List.setIfInBounds_toArray, List.set_cons_zero, List.set_cons_succ]
  refine tk5 (v := ?_) (by kernel_rfl) (by kernel_rfl) (by kernel_rfl) (by first | exact fun _ _ _ h => h | exact fun _ _ _ h => absurd h.1 (by simp)) (Or.inl ⟨by rfl, ?_⟩) (by assumption) ?_
  rotate_left 1
  focus (intro wx hSw; (try dsimp only at hSw); go_simp; try (with_reducible rfl))
  try simp only [Act.put, List.setIfInBounds_toArray, List.set_cons_zero, List.set_cons_succ]
  refine tk7 (by kernel_rfl) (by kernel_rfl) (by kernel_rfl) (by first | exact fun _ _ _ h => h | exact fun _ _ _ h => absurd h.1 (by simp)) (yieldsIf_load_mid (by rfl) _ _ rfl _ _ rfl _ _ (fun w hS => hS.2.2) u1 rfl u2) (by assumption) ?_
  try simp only [Act.put, List.setIfInBounds_toArray, List.set_cons_zero, List.set_cons_succ]
  refine rd3 (by kernel_rfl) (fun K hK => ?_)
  go_simp
  refine (withoutPlaces_any A2 l2 _ Y.1 _ lo HY3.1 (by omega) IY.out.1).mono ?_
  rintro e W3 ⟨rfl, hb3⟩
  rw [← HA3.out]
  refine hK.out _ _ ⟨cell_carry k4 (Carries.of 0 hb3), cell_carry k5 (Carries.of 0 hb3), (hT0.after hb3).range⟩ (fun hHeld => ?_)
  clear hK K
  try simp only [Act.put, List.setIfInBounds_toArray, List.set_cons_zero, List.set_cons_succ]
  refine rd6 (by kernel_rfl) (fun K hK => ?_)
  go_simp
  refine (withoutPlaces_any A3 l3 _ Y.2 _ lo (HY3.2.keep (Carries.of lo hb3)) (by omega) IY.out.2).mono ?_
  rintro e W4 ⟨rfl, hb4⟩
  rw [← HA4.out]
  refine hK.out _ _ ⟨cell_carry (cell_carry k4 (Carries.of 0 hb3)) (Carries.of 0 hb4), cell_carry (cell_carry k5 (Carries.of 0 hb3)) (Carries.of 0 hb4), ((hT0.after hb3).after hb4).range⟩ (fun hHeld => ?_)
  clear hK K
  try simp only [Act.put, List.setIfInBounds_toArray, List.set_cons_zero, List.set_cons_succ]
  refine tk8 (v := ?_) (by kernel_rfl) (by kernel_rfl) (by kernel_rfl) (by first | exact fun _ _ _ h => h | exact fun _ _ _ h => absurd h.1 (by simp)) (Or.inl ⟨by rfl, ?_⟩) (by assumption) ?_
  rotate_left 1
  focus (intro wx hSw; (try dsimp only at hSw); go_simp; try (with_reducible rfl))
  try simp only [Act.put, List.setIfInBounds_toArray, List.set_cons_zero, List.set_cons_succ]
  refine tk9 (v := ?_) (by kernel_rfl) (by kernel_rfl) (by kernel_rfl) (by first | exact fun _ _ _ h => h | exact fun _ _ _ h => absurd h.1 (by simp)) (Or.inl ⟨by rfl, ?_⟩) (by assumption) ?_
  rotate_left 1
  focus (intro wx hSw; (try dsimp only at hSw); go_simp; try (with_reducible rfl))
  try simp only [Act.put, List.setIfInBounds_toArray, List.set_cons_zero, List.set_cons_succ]
  refine tk10 (v := ?_) (by kernel_rfl) (by kernel_rfl) (by kernel_rfl) (by first | exact fun _ _ _ h => h | exact fun _ _ _ h => absurd h.1 (by simp)) (Or.inl ⟨by rfl, ?_⟩) (by assumption) ?_
  rotate_left 1
  focus (intro wx hSw; (try dsimp only at hSw); go_simp; try (with_reducible rfl))
  try simp only [Act.put, List.setIfInBounds_toArray, List.set_cons_zero, List.set_cons_succ]
  refine wpAnyH_done (by kernel_rfl) ?_ _
  have hwE : Below w.heap.size w W4 := (hwD.trans (hb3.mono hwD.size)).trans (hb4.mono (hwD.trans (hb3.mono hwD.size)).size)
  go_wp2_with fail
  go_ret2
  exact ⟨rfl, hwE⟩

end Go.Proofs.Ytkkfglolameogaa
