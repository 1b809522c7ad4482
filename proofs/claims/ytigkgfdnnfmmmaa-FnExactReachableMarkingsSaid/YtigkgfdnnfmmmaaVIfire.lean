/- WALK: Fire of the program. -/
import Derived.Test.YtigkgfdnnfmmmaaVPair
namespace Go.Proofs.Ytigkgfdnnfmmmaa
open Go.RowKit

/-- behind a region: a block holds a marking; two cells are as they were -/
def OneArrB (w : World) (c0 c1 : Addr) (y0 y1 : Value) (xs : List UInt8) (mk : Value → Act) (e : Exit) (a' : Act) (w' : World) : Prop :=
  e = .normal ∧ ∃ b : Nat, a' = mk (.pointer (some ⟨b, 0, none⟩)) ∧ ArrAt w' b xs ∧ Below w.heap.size w w' ∧ w'.cell? c0 = some y0 ∧ w'.cell? c1 = some y1

theorem ftA_length {xs : List UInt8} {t : Tr} (h : xs.length = 30) : (ftA xs t).length = 30 := by
  unfold ftA
  split
  · rw [putAll_length, putAll_length]; exact h
  · exact h

set_option maxRecDepth 100000 in
set_option maxHeartbeats 4000000 in
theorem Fire_any (v : Value) (n : NetD) (s : ByteArray) (t : Int) (w : World) (lo : Nat) (hv : NetAt lo w v n) (hs : SmallTrs n.ts) (hsz : s.size ≤ 1048576) :
    Calls Try.prog 38 #[v, .string s, .int .i64 t] w (RetV w (.tuple #[.string (bstr (fireS n s t)), .bool (fireOk n s t)])) := by
  generalize hFS : fireS n s t = F
  generalize hFO : fireOk n s t = O
  have HFS := Lib.hid hFS; clear hFS
  have HFO := Lib.hid hFO; clear hFO
  have hv' := hv
  obtain ⟨hp0, hp1, q, rfl, ht⟩ := hv'
  obtain ⟨ao, cap, rfl, hc, hz⟩ := ht
  obtain ⟨p, hp⟩ : ∃ p, p = n.places := ⟨_, rfl⟩
  obtain ⟨ts, hts⟩ : ∃ ts, ts = n.ts := ⟨_, rfl⟩
  have hs0 := hs
  rw [← hp, ← hts] at hv ⊢
  rw [← hts] at hs hz hc
  have HPl := Lib.hid hp; clear hp hp0 hp1
  have HT := Lib.hid hts; clear hts
  have HV := Lib.hid hv; clear hv
  have HS := Lib.hid hs
  have hmm := hs.1
  have HS0 := Lib.hid hs0; clear hs0 hs
  have HF := Lib.hid hz; clear hz
  go_enter Try.func38, Try.ntmps38
  go_wp2_with fail
  refine (IsValidMarking_any _ n s _ lo (HV.out.keep ?_) HS0.out hsz).mono ?_
  · (repeat' (first | (with_reducible exact Carries.refl _ _) | (with_reducible assumption) | (with_reducible refine Carries.alloc ?_ _) | (with_reducible refine Carries.drew ?_) | (with_reducible refine Carries.drewN ?_ _) | (with_reducible refine Carries.set ?_ ?_ _) | go_size))
  rintro e w1 ⟨rfl, hb⟩
  have hw1 : Below w.heap.size w w1 := by
    refine Below.trans ?_ (hb.mono ?_)
    · (repeat' (first | (with_reducible exact Below.refl _ _) | (with_reducible assumption) | (with_reducible refine Below.alloc ?_ ?_ _) | (with_reducible refine Below.drew ?_) | (with_reducible refine below_drewN ?_ _) | (with_reducible refine Below.setCell ?_ ?_ _) | go_size))
    · simp
  have a0 : w1.cell? ⟨w.heap.size, 0, none⟩ = some (.int .i64 p) := cell_carry (by simp) (Carries.of 0 hb)
  have a1 : w1.cell? ⟨w.heap.size, 1, none⟩ = some (.slice ao ts.length cap) := cell_carry (by simp) (Carries.of 0 hb)
  clear hb
  cases hg : (goodN n && markB n s) with
  | false =>
    have hcf : canB n s t = false := by unfold canB; rw [← Bool.and_assoc, hg]; rfl
    obtain ⟨k1, k2⟩ := fire_no hcf
    rw [HFS.out] at k1
    rw [HFO.out] at k2
    subst k1; subst k2
    clear hg hcf
    go_wp2_with fail
    go_ret2
    exact ⟨rfl, hw1⟩
  | true =>
  have hgm : goodN n = true ∧ markB n s = true := by simpa using hg
  have HG := Lib.hid hgm.1
  have HM := Lib.hid hgm.2
  clear hg hgm
  go_wp2_with fail
  refine (isTransition_in _ n _ _ lo (HV.out.keep (Carries.of lo hw1)) HS0.out).mono ?_
  rintro e w2 ⟨rfl, hb⟩
  have hw2 : Below w.heap.size w w2 := hw1.trans (hb.mono hw1.size)
  have a2 := cell_carry a0 (Carries.of 0 hb)
  have a3 := cell_carry a1 (Carries.of 0 hb)
  clear hb a0 a1
  cases hg : inT n t with
  | false =>
    have hcf : canB n s t = false := by unfold canB; rw [HG.out, HM.out, hg]; rfl
    obtain ⟨k1, k2⟩ := fire_no hcf
    rw [HFS.out] at k1
    rw [HFO.out] at k2
    subst k1; subst k2
    clear hg hcf
    go_wp2_with fail
    go_ret2
    exact ⟨rfl, hw2⟩
  | true =>
  have ht3 : 0 ≤ t ∧ t < ts.length := by rw [HT.out]; exact of_decide_eq_true hg
  obtain ⟨f1, f2, f3⟩ := fire_parts HG.out HM.out hg
  rw [HFO.out] at f1 f2 f3
  rw [HFS.out] at f2 f3
  have HI := Lib.hid hg; clear hg
  have hsp : s.size ≤ 30 := by
    have := mark_size HM.out
    have := (goodN_parts HG.out).2.1
    omega
  have hps2 : Hid (p = (s.size : Int)) := by rw [HPl.out]; exact (mark_size HM.out).symm
  obtain ⟨ht0, ht1⟩ := ht3
  obtain ⟨tn, rfl⟩ := Int.eq_ofNat_of_zero_le ht0
  rcases HF.out with rfl | ⟨b, off, rfl, hlo, hcell⟩
  · simp at ht1; omega
  have ht2 : tn < ts.length := by omega
  obtain ⟨x0, x1, c0, c1, hx⟩ := hcell tn ht2
  obtain ⟨X, hX⟩ : ∃ X, X = ts.getD tn ([], []) := ⟨_, rfl⟩
  have hXt : trOf n (tn : Int) = X := by rw [hX, HT.out]; unfold trOf; rw [Int.toNat_natCast]
  have sx := HS.out.2 tn ht2
  have ix := goodN_in HG.out (i := tn) (by rw [← HT.out]; exact ht2)
  rw [← HT.out] at ix
  rw [← hX] at hx sx ix
  rw [hXt] at f1 f2
  obtain ⟨s1, s2⟩ := sx
  have IX := Lib.hid ix; clear ix
  clear hX hXt hcell
  have lp : (pad (bytes s)).length = 30 := pad_length (by rw [bytes_length]; exact hsp)
  obtain ⟨A, hA⟩ : ∃ A, A = ftA (pad (bytes s)) X := ⟨_, rfl⟩
  have lA : A.length = 30 := by rw [hA]; exact ftA_length lp
  rw [← hA] at f2
  have HA := Lib.hid hA; clear hA
  have H1 := Lib.hid f1; clear f1
  have H2 := Lib.hid f2; clear f2
  have H3 := Lib.hid f3; clear f3
  obtain ⟨⟨xa0, xk0, rfl, _, _⟩, ⟨xa1, xk1, rfl, _, _⟩⟩ := id hx
  have HX := Lib.hid hx; clear hx
  have d0 := Carries.of lo hw2 _ _ hlo c0
  have d1 := Carries.of lo hw2 _ _ hlo c1
  clear c0 c1
  go_wp2_with fail
  refine Code.wp_mono (Q := OneArrB w2 ⟨w.heap.size, 0, none⟩ ⟨w.heap.size, 1, none⟩ (.int .i64 p) (.slice (some ⟨b, off, none⟩) ts.length cap) A (fun P => { tmps := #[.agg #[.int .i64 p, .slice (some ⟨b, off, none⟩) ts.length cap], .string s, .int .i64 tn, .pointer (some ⟨w.heap.size, 0, none⟩), undef, undef, .string { data := #[] }, .bool false, P, .bool O, .agg #[.int .i64 p, .slice (some ⟨b, off, none⟩) ts.length cap], .string s, .bool true, .bool false, .bool false, .agg #[.int .i64 p, .slice (some ⟨b, off, none⟩) ts.length cap], .int .i64 tn, .bool true, .bool false, .bool false, .tuple #[.agg (arr A).toArray, .bool O], .string s, .agg (arr (pad (bytes s))).toArray, .pointer (some ⟨w.heap.size, 1, none⟩), .slice (some ⟨b, off, none⟩) ts.length cap, .int .i64 tn, .pointer (some ⟨b, off + tn * 2, none⟩), .agg #[.slice xa0 X.1.length xk0, .slice xa1 X.2.length xk1], .tuple #[.agg (arr A).toArray, .bool O], .agg (arr A).toArray, .bool O, undef, undef, undef, undef, undef], defers := [] })) ?_ ?_
  rotate_left 1
  · have HXW := HX.out.keep (Carries.of lo hw2)
    refine wp_region_held_drew (S := fun w' => w'.cell? ⟨w.heap.size, 0, none⟩ = some (.int .i64 p) ∧ w'.cell? ⟨w.heap.size, 1, none⟩ = some (.slice (some ⟨b, off, none⟩) ts.length cap) ∧ w'.cell? ⟨b, off + tn * 2, none⟩ = some (.slice xa0 X.1.length xk0) ∧ w'.cell? ⟨b, off + tn * 2 + 1, none⟩ = some (.slice xa1 X.2.length xk1)) (by kernel_rfl) ⟨a2, a3, d0, d1⟩ (fun hHeld => ?_)
    have bel0 : Below w2.heap.size w2 w2.drew := (Below.refl _ _).drew
    have k0_0 : w2.drew.cell? ⟨w.heap.size, 0, none⟩ = some (.int .i64 p) := a2
    have k1_0 : w2.drew.cell? ⟨w.heap.size, 1, none⟩ = some (.slice (some ⟨b, off, none⟩) ts.length cap) := a3
    have k2_0 : w2.drew.cell? ⟨b, off + tn * 2, none⟩ = some (.slice xa0 X.1.length xk0) := d0
    have k3_0 : w2.drew.cell? ⟨b, off + tn * 2 + 1, none⟩ = some (.slice xa1 X.2.length xk1) := d1
    generalize w2.drew = W0 at bel0 k0_0 k1_0 k2_0 k3_0 hHeld ⊢
    clear HX HV
    refine tk0 (v := ?_) (by kernel_rfl) (by kernel_rfl) (by kernel_rfl) (by first | exact fun _ _ _ h => h | exact fun _ _ _ h => absurd h.1 (by simp)) (Or.inl ⟨by rfl, ?_⟩) (by assumption) ?_
    rotate_left 1
    focus (intro wx hSw; (try dsimp only at hSw); go_simp; try (with_reducible rfl))
    try simp only [Act.put, List.setIfInBounds_toArray, List.set_cons_zero, List.set_cons_succ]
    refine tk2 (v := ?_) (by kernel_rfl) (by kernel_rfl) (by kernel_rfl) (by first | exact fun _ _ _ h => h | exact fun _ _ _ h => absurd h.1 (by simp)) (Or.inl ⟨by rfl, ?_⟩) (by assumption) ?_
    rotate_left 1
    focus (intro wx hSw; (try dsimp only at hSw); go_simp; try (with_reducible rfl))
    try simp only [Act.put, List.setIfInBounds_toArray, List.set_cons_zero, List.set_cons_succ]
    refine tk3 (v := ?_) (by kernel_rfl) (by kernel_rfl) (by kernel_rfl) (by first | exact fun _ _ _ h => h | exact fun _ _ _ h => absurd h.1 (by simp)) (Or.inl ⟨by rfl, ?_⟩) (by assumption) ?_
    rotate_left 1
    focus (intro wx hSw; (try dsimp only at hSw); go_simp; try (with_reducible rfl))
    try simp only [Act.put, List.setIfInBounds_toArray, List.set_cons_zero, List.set_cons_succ]
    refine tk4 (v := ?_) (by kernel_rfl) (by kernel_rfl) (by kernel_rfl) (by first | exact fun _ _ _ h => h | exact fun _ _ _ h => absurd h.1 (by simp)) (Or.inl ⟨by rfl, ?_⟩) (by assumption) ?_
    rotate_left 1
    focus (intro wx hSw; (try dsimp only at hSw); go_simp; try (with_reducible rfl))
    try simp only [Act.put, List.setIfInBounds_toArray, List.set_cons_zero, List.set_cons_succ]
    refine tk5 (v := ?_) (by kernel_rfl) (by kernel_rfl) (by kernel_rfl) (by first | exact fun _ _ _ h => h | exact fun _ _ _ h => absurd h.1 (by simp)) (Or.inl ⟨by rfl, ?_⟩) (by assumption) ?_
    rotate_left 1
    focus (intro wx hSw; (try dsimp only at hSw); go_simp; try (with_reducible rfl))
    try simp only [Act.put, List.setIfInBounds_toArray, List.set_cons_zero, List.set_cons_succ]
    refine tk6 (v := ?_) (by kernel_rfl) (by kernel_rfl) (by kernel_rfl) (by first | exact fun _ _ _ h => h | exact fun _ _ _ h => absurd h.1 (by simp)) (Or.inl ⟨by rfl, ?_⟩) (by assumption) ?_
    rotate_left 1
    focus (intro wx hSw; (try dsimp only at hSw); go_simp; try (with_reducible rfl))
    try simp only [Act.put, List.setIfInBounds_toArray, List.set_cons_zero, List.set_cons_succ]
    refine wpAnyH_ready (rs := [1, 11]) (by kernel_rfl) (by simp) ?_
    refine ar1 (fun K hK => ?_) ?_
    ·
      go_simp
      refine (readMarking_any s W0 hsp).mono ?_
      rintro e W1 ⟨rfl, hb1⟩
      have bel1 : Below w2.heap.size w2 W1 := bel0.trans (hb1.mono bel0.size)
      have k0_1 := cell_carry k0_0 (Carries.of 0 hb1)
      have k1_1 := cell_carry k1_0 (Carries.of 0 hb1)
      have k2_1 := cell_carry k2_0 (Carries.of 0 hb1)
      have k3_1 := cell_carry k3_0 (Carries.of 0 hb1)
      refine hK.out _ _ ⟨k0_1, k1_1, k2_1, k3_1⟩ (fun hHeld => ?_)
      clear hK K
      try simp only [Act.put, List.setIfInBounds_toArray, List.set_cons_zero, List.set_cons_succ]
      refine wpAnyH_ready (rs := [7, 11]) (by kernel_rfl) (by simp) ?_
      refine ar7 (fun K hK => ?_) ?_
      ·
        go_simp
        refine (fireTransition_any (pad (bytes s)) lp _ _ X W1 lo (HXW.keep (Carries.of lo bel1)) s1 s2 IX.out.1 IX.out.2).mono ?_
        rintro e W2 ⟨rfl, hb2⟩
        have bel2 : Below w2.heap.size w2 W2 := bel1.trans (hb2.mono bel1.size)
        have k0_2 := cell_carry k0_1 (Carries.of 0 hb2)
        have k1_2 := cell_carry k1_1 (Carries.of 0 hb2)
        have k2_2 := cell_carry k2_1 (Carries.of 0 hb2)
        have k3_2 := cell_carry k3_1 (Carries.of 0 hb2)
        rw [← HA.out, H1.out]
        refine hK.out _ _ ⟨k0_2, k1_2, k2_2, k3_2⟩ (fun hHeld => ?_)
        clear hK K
        try simp only [Act.put, List.setIfInBounds_toArray, List.set_cons_zero, List.set_cons_succ]
        refine tk8 (v := ?_) (by kernel_rfl) (by kernel_rfl) (by kernel_rfl) (by first | exact fun _ _ _ h => h | exact fun _ _ _ h => absurd h.1 (by simp)) (Or.inl ⟨by rfl, ?_⟩) (by assumption) ?_
        rotate_left 1
        focus (intro wx hSw; (try dsimp only at hSw); go_simp; try (with_reducible rfl))
        try simp only [Act.put, List.setIfInBounds_toArray, List.set_cons_zero, List.set_cons_succ]
        refine tk9 (v := ?_) (by kernel_rfl) (by kernel_rfl) (by kernel_rfl) (by first | exact fun _ _ _ h => h | exact fun _ _ _ h => absurd h.1 (by simp)) (Or.inl ⟨by rfl, ?_⟩) (by assumption) ?_
        rotate_left 1
        focus (intro wx hSw; (try dsimp only at hSw); go_simp; try (with_reducible rfl))
        try simp only [Act.put, List.setIfInBounds_toArray, List.set_cons_zero, List.set_cons_succ]
        refine tk10 (v := ?_) (by kernel_rfl) (by kernel_rfl) (by kernel_rfl) (by first | exact fun _ _ _ h => h | exact fun _ _ _ h => absurd h.1 (by simp)) (Or.inl ⟨by rfl, ?_⟩) (by assumption) ?_
        rotate_left 1
        focus (intro wx hSw; (try dsimp only at hSw); go_simp; try (with_reducible rfl))
        try simp only [Act.put, List.setIfInBounds_toArray, List.set_cons_zero, List.set_cons_succ]
        refine rd11 (by kernel_rfl) (fun K hK => ?_)
        go_simp
        have hb3 : Below W2.heap.size W2 (W2.alloc (.cells (arr zeros).toArray 111)) := (Below.refl _ _).alloc (Nat.le_refl _) _
        have new3 := ArrAt.new W2 zeros_length
        change K _ (W2.alloc (.cells (arr zeros).toArray 111))
        generalize W2.alloc (.cells (arr zeros).toArray 111) = W3 at hb3 new3 ⊢
        have bel3 : Below w2.heap.size w2 W3 := bel2.trans (hb3.mono bel2.size)
        have k0_3 := cell_carry k0_2 (Carries.of 0 hb3)
        have k1_3 := cell_carry k1_2 (Carries.of 0 hb3)
        have k2_3 := cell_carry k2_2 (Carries.of 0 hb3)
        have k3_3 := cell_carry k3_2 (Carries.of 0 hb3)
        have bge3_p8 : w2.heap.size ≤ W2.heap.size := bel2.size
        refine hK.out _ _ ⟨k0_3, k1_3, k2_3, k3_3⟩ (fun hHeld => ?_)
        clear hK K
        try simp only [Act.put, List.setIfInBounds_toArray, List.set_cons_zero, List.set_cons_succ]
        refine rd12 (by kernel_rfl) (fun K hK => ?_)
        rw [if_pos (by rfl)]
        refine wp_store_row 111 _ _ rfl W2.heap.size _ rfl rfl _ _ new3.1 (infoArr lA) (by simp [arr_length, lA, zeros_length]) (arr_all _) ?_
        have new4 : ArrAt (W3.setRow W2.heap.size (arr A).toArray) W2.heap.size A := ⟨setRow_heap _ _ _ _ _ _ new3.1, lA⟩
        have k0_4 : (W3.setRow W2.heap.size (arr A).toArray).cell? ⟨w.heap.size, 0, none⟩ = some (.int .i64 p) := (World.cell?_of_block (setRow_other _ _ _ _ (by have := bge3_p8; have := cell_old a2; simp at this ⊢; omega))).trans k0_3
        have k1_4 : (W3.setRow W2.heap.size (arr A).toArray).cell? ⟨w.heap.size, 1, none⟩ = some (.slice (some ⟨b, off, none⟩) ts.length cap) := (World.cell?_of_block (setRow_other _ _ _ _ (by have := bge3_p8; have := cell_old a3; simp at this ⊢; omega))).trans k1_3
        have k2_4 : (W3.setRow W2.heap.size (arr A).toArray).cell? ⟨b, off + tn * 2, none⟩ = some (.slice xa0 X.1.length xk0) := (World.cell?_of_block (setRow_other _ _ _ _ (by have := bge3_p8; have := cell_old d0; simp at this ⊢; omega))).trans k2_3
        have k3_4 : (W3.setRow W2.heap.size (arr A).toArray).cell? ⟨b, off + tn * 2 + 1, none⟩ = some (.slice xa1 X.2.length xk1) := (World.cell?_of_block (setRow_other _ _ _ _ (by have := bge3_p8; have := cell_old d1; simp at this ⊢; omega))).trans k3_3
        have bel4 : Below w2.heap.size w2 (W3.setRow W2.heap.size (arr A).toArray) := below_setRow bel3 bge3_p8 _
        generalize W3.setRow W2.heap.size (arr A).toArray = W4 at *
        refine hK.out _ _ ⟨k0_4, k1_4, k2_4, k3_4⟩ (fun hHeld => ?_)
        clear hK K
        try simp only [Act.put, List.setIfInBounds_toArray, List.set_cons_zero, List.set_cons_succ]
        refine tk13 (v := ?_) (by kernel_rfl) (by kernel_rfl) (by kernel_rfl) (by first | exact fun _ _ _ h => h | exact fun _ _ _ h => absurd h.1 (by simp)) (Or.inl ⟨by rfl, ?_⟩) (by assumption) ?_
        rotate_left 1
        focus (intro wx hSw; (try dsimp only at hSw); go_simp; try (with_reducible rfl))
        try simp only [Act.put, List.setIfInBounds_toArray, List.set_cons_zero, List.set_cons_succ]
        refine wpAnyH_done (by kernel_rfl) ?_ _
        exact ⟨rfl, _, rfl, new4, bel4, k0_4, k1_4⟩
      refine ar11 (fun K hK => ?_) ?_
      ·
        go_simp
        have hb5 : Below W1.heap.size W1 (W1.alloc (.cells (arr zeros).toArray 111)) := (Below.refl _ _).alloc (Nat.le_refl _) _
        have new5 := ArrAt.new W1 zeros_length
        change K _ (W1.alloc (.cells (arr zeros).toArray 111))
        generalize W1.alloc (.cells (arr zeros).toArray 111) = W5 at hb5 new5 ⊢
        have bel5 : Below w2.heap.size w2 W5 := bel1.trans (hb5.mono bel1.size)
        have k0_5 := cell_carry k0_1 (Carries.of 0 hb5)
        have k1_5 := cell_carry k1_1 (Carries.of 0 hb5)
        have k2_5 := cell_carry k2_1 (Carries.of 0 hb5)
        have k3_5 := cell_carry k3_1 (Carries.of 0 hb5)
        have bge5_p8 : w2.heap.size ≤ W1.heap.size := bel1.size
        refine hK.out _ _ ⟨k0_5, k1_5, k2_5, k3_5⟩ (fun hHeld => ?_)
        clear hK K
        try simp only [Act.put, List.setIfInBounds_toArray, List.set_cons_zero, List.set_cons_succ]
        refine rd7 (by kernel_rfl) (fun K hK => ?_)
        go_simp
        refine (fireTransition_any (pad (bytes s)) lp _ _ X W5 lo (HXW.keep (Carries.of lo bel5)) s1 s2 IX.out.1 IX.out.2).mono ?_
        rintro e W6 ⟨rfl, hb6⟩
        have bel6 : Below w2.heap.size w2 W6 := bel5.trans (hb6.mono bel5.size)
        have k0_6 := cell_carry k0_5 (Carries.of 0 hb6)
        have k1_6 := cell_carry k1_5 (Carries.of 0 hb6)
        have k2_6 := cell_carry k2_5 (Carries.of 0 hb6)
        have k3_6 := cell_carry k3_5 (Carries.of 0 hb6)
        have p8_6 := ArrAt.after new5 hb6
        rw [← HA.out, H1.out]
        refine hK.out _ _ ⟨k0_6, k1_6, k2_6, k3_6⟩ (fun hHeld => ?_)
        clear hK K
        try simp only [Act.put, List.setIfInBounds_toArray, List.set_cons_zero, List.set_cons_succ]
        refine tk8 (v := ?_) (by kernel_rfl) (by kernel_rfl) (by kernel_rfl) (by first | exact fun _ _ _ h => h | exact fun _ _ _ h => absurd h.1 (by simp)) (Or.inl ⟨by rfl, ?_⟩) (by assumption) ?_
        rotate_left 1
        focus (intro wx hSw; (try dsimp only at hSw); go_simp; try (with_reducible rfl))
        try simp only [Act.put, List.setIfInBounds_toArray, List.set_cons_zero, List.set_cons_succ]
        refine tk9 (v := ?_) (by kernel_rfl) (by kernel_rfl) (by kernel_rfl) (by first | exact fun _ _ _ h => h | exact fun _ _ _ h => absurd h.1 (by simp)) (Or.inl ⟨by rfl, ?_⟩) (by assumption) ?_
        rotate_left 1
        focus (intro wx hSw; (try dsimp only at hSw); go_simp; try (with_reducible rfl))
        try simp only [Act.put, List.setIfInBounds_toArray, List.set_cons_zero, List.set_cons_succ]
        refine tk10 (v := ?_) (by kernel_rfl) (by kernel_rfl) (by kernel_rfl) (by first | exact fun _ _ _ h => h | exact fun _ _ _ h => absurd h.1 (by simp)) (Or.inl ⟨by rfl, ?_⟩) (by assumption) ?_
        rotate_left 1
        focus (intro wx hSw; (try dsimp only at hSw); go_simp; try (with_reducible rfl))
        try simp only [Act.put, List.setIfInBounds_toArray, List.set_cons_zero, List.set_cons_succ]
        refine rd12 (by kernel_rfl) (fun K hK => ?_)
        rw [if_pos (by rfl)]
        refine wp_store_row 111 _ _ rfl W1.heap.size _ rfl rfl _ _ p8_6.1 (infoArr lA) (by simp [arr_length, lA, zeros_length]) (arr_all _) ?_
        have new7 : ArrAt (W6.setRow W1.heap.size (arr A).toArray) W1.heap.size A := ⟨setRow_heap _ _ _ _ _ _ p8_6.1, lA⟩
        have k0_7 : (W6.setRow W1.heap.size (arr A).toArray).cell? ⟨w.heap.size, 0, none⟩ = some (.int .i64 p) := (World.cell?_of_block (setRow_other _ _ _ _ (by have := bge5_p8; have := cell_old a2; simp at this ⊢; omega))).trans k0_6
        have k1_7 : (W6.setRow W1.heap.size (arr A).toArray).cell? ⟨w.heap.size, 1, none⟩ = some (.slice (some ⟨b, off, none⟩) ts.length cap) := (World.cell?_of_block (setRow_other _ _ _ _ (by have := bge5_p8; have := cell_old a3; simp at this ⊢; omega))).trans k1_6
        have k2_7 : (W6.setRow W1.heap.size (arr A).toArray).cell? ⟨b, off + tn * 2, none⟩ = some (.slice xa0 X.1.length xk0) := (World.cell?_of_block (setRow_other _ _ _ _ (by have := bge5_p8; have := cell_old d0; simp at this ⊢; omega))).trans k2_6
        have k3_7 : (W6.setRow W1.heap.size (arr A).toArray).cell? ⟨b, off + tn * 2 + 1, none⟩ = some (.slice xa1 X.2.length xk1) := (World.cell?_of_block (setRow_other _ _ _ _ (by have := bge5_p8; have := cell_old d1; simp at this ⊢; omega))).trans k3_6
        have bel7 : Below w2.heap.size w2 (W6.setRow W1.heap.size (arr A).toArray) := below_setRow bel6 bge5_p8 _
        generalize W6.setRow W1.heap.size (arr A).toArray = W7 at *
        refine hK.out _ _ ⟨k0_7, k1_7, k2_7, k3_7⟩ (fun hHeld => ?_)
        clear hK K
        try simp only [Act.put, List.setIfInBounds_toArray, List.set_cons_zero, List.set_cons_succ]
        refine tk13 (v := ?_) (by kernel_rfl) (by kernel_rfl) (by kernel_rfl) (by first | exact fun _ _ _ h => h | exact fun _ _ _ h => absurd h.1 (by simp)) (Or.inl ⟨by rfl, ?_⟩) (by assumption) ?_
        rotate_left 1
        focus (intro wx hSw; (try dsimp only at hSw); go_simp; try (with_reducible rfl))
        try simp only [Act.put, List.setIfInBounds_toArray, List.set_cons_zero, List.set_cons_succ]
        refine wpAnyH_done (by kernel_rfl) ?_ _
        exact ⟨rfl, _, rfl, new7, bel7, k0_7, k1_7⟩
      exact AllReadyH.nil
    refine ar11 (fun K hK => ?_) ?_
    ·
      go_simp
      have hb8 : Below W0.heap.size W0 (W0.alloc (.cells (arr zeros).toArray 111)) := (Below.refl _ _).alloc (Nat.le_refl _) _
      have new8 := ArrAt.new W0 zeros_length
      change K _ (W0.alloc (.cells (arr zeros).toArray 111))
      generalize W0.alloc (.cells (arr zeros).toArray 111) = W8 at hb8 new8 ⊢
      have bel8 : Below w2.heap.size w2 W8 := bel0.trans (hb8.mono bel0.size)
      have k0_8 := cell_carry k0_0 (Carries.of 0 hb8)
      have k1_8 := cell_carry k1_0 (Carries.of 0 hb8)
      have k2_8 := cell_carry k2_0 (Carries.of 0 hb8)
      have k3_8 := cell_carry k3_0 (Carries.of 0 hb8)
      have bge8_p8 : w2.heap.size ≤ W0.heap.size := bel0.size
      refine hK.out _ _ ⟨k0_8, k1_8, k2_8, k3_8⟩ (fun hHeld => ?_)
      clear hK K
      try simp only [Act.put, List.setIfInBounds_toArray, List.set_cons_zero, List.set_cons_succ]
      refine rd1 (by kernel_rfl) (fun K hK => ?_)
      go_simp
      refine (readMarking_any s W8 hsp).mono ?_
      rintro e W9 ⟨rfl, hb9⟩
      have bel9 : Below w2.heap.size w2 W9 := bel8.trans (hb9.mono bel8.size)
      have k0_9 := cell_carry k0_8 (Carries.of 0 hb9)
      have k1_9 := cell_carry k1_8 (Carries.of 0 hb9)
      have k2_9 := cell_carry k2_8 (Carries.of 0 hb9)
      have k3_9 := cell_carry k3_8 (Carries.of 0 hb9)
      have p8_9 := ArrAt.after new8 hb9
      refine hK.out _ _ ⟨k0_9, k1_9, k2_9, k3_9⟩ (fun hHeld => ?_)
      clear hK K
      try simp only [Act.put, List.setIfInBounds_toArray, List.set_cons_zero, List.set_cons_succ]
      refine rd7 (by kernel_rfl) (fun K hK => ?_)
      go_simp
      refine (fireTransition_any (pad (bytes s)) lp _ _ X W9 lo (HXW.keep (Carries.of lo bel9)) s1 s2 IX.out.1 IX.out.2).mono ?_
      rintro e W10 ⟨rfl, hb10⟩
      have bel10 : Below w2.heap.size w2 W10 := bel9.trans (hb10.mono bel9.size)
      have k0_10 := cell_carry k0_9 (Carries.of 0 hb10)
      have k1_10 := cell_carry k1_9 (Carries.of 0 hb10)
      have k2_10 := cell_carry k2_9 (Carries.of 0 hb10)
      have k3_10 := cell_carry k3_9 (Carries.of 0 hb10)
      have p8_10 := ArrAt.after p8_9 hb10
      rw [← HA.out, H1.out]
      refine hK.out _ _ ⟨k0_10, k1_10, k2_10, k3_10⟩ (fun hHeld => ?_)
      clear hK K
      try simp only [Act.put, List.setIfInBounds_toArray, List.set_cons_zero, List.set_cons_succ]
      refine tk8 (v := ?_) (by kernel_rfl) (by kernel_rfl) (by kernel_rfl) (by first | exact fun _ _ _ h => h | exact fun _ _ _ h => absurd h.1 (by simp)) (Or.inl ⟨by rfl, ?_⟩) (by assumption) ?_
      rotate_left 1
      focus (intro wx hSw; (try dsimp only at hSw); go_simp; try (with_reducible rfl))
      try simp only [Act.put, List.setIfInBounds_toArray, List.set_cons_zero, List.set_cons_succ]
      refine tk9 (v := ?_) (by kernel_rfl) (by kernel_rfl) (by kernel_rfl) (by first | exact fun _ _ _ h => h | exact fun _ _ _ h => absurd h.1 (by simp)) (Or.inl ⟨by rfl, ?_⟩) (by assumption) ?_
      rotate_left 1
      focus (intro wx hSw; (try dsimp only at hSw); go_simp; try (with_reducible rfl))
      try simp only [Act.put, List.setIfInBounds_toArray, List.set_cons_zero, List.set_cons_succ]
      refine tk10 (v := ?_) (by kernel_rfl) (by kernel_rfl) (by kernel_rfl) (by first | exact fun _ _ _ h => h | exact fun _ _ _ h => absurd h.1 (by simp)) (Or.inl ⟨by rfl, ?_⟩) (by assumption) ?_
      rotate_left 1
      focus (intro wx hSw; (try dsimp only at hSw); go_simp; try (with_reducible rfl))
      try simp only [Act.put, List.setIfInBounds_toArray, List.set_cons_zero, List.set_cons_succ]
      refine rd12 (by kernel_rfl) (fun K hK => ?_)
      rw [if_pos (by rfl)]
      refine wp_store_row 111 _ _ rfl W0.heap.size _ rfl rfl _ _ p8_10.1 (infoArr lA) (by simp [arr_length, lA, zeros_length]) (arr_all _) ?_
      have new11 : ArrAt (W10.setRow W0.heap.size (arr A).toArray) W0.heap.size A := ⟨setRow_heap _ _ _ _ _ _ p8_10.1, lA⟩
      have k0_11 : (W10.setRow W0.heap.size (arr A).toArray).cell? ⟨w.heap.size, 0, none⟩ = some (.int .i64 p) := (World.cell?_of_block (setRow_other _ _ _ _ (by have := bge8_p8; have := cell_old a2; simp at this ⊢; omega))).trans k0_10
      have k1_11 : (W10.setRow W0.heap.size (arr A).toArray).cell? ⟨w.heap.size, 1, none⟩ = some (.slice (some ⟨b, off, none⟩) ts.length cap) := (World.cell?_of_block (setRow_other _ _ _ _ (by have := bge8_p8; have := cell_old a3; simp at this ⊢; omega))).trans k1_10
      have k2_11 : (W10.setRow W0.heap.size (arr A).toArray).cell? ⟨b, off + tn * 2, none⟩ = some (.slice xa0 X.1.length xk0) := (World.cell?_of_block (setRow_other _ _ _ _ (by have := bge8_p8; have := cell_old d0; simp at this ⊢; omega))).trans k2_10
      have k3_11 : (W10.setRow W0.heap.size (arr A).toArray).cell? ⟨b, off + tn * 2 + 1, none⟩ = some (.slice xa1 X.2.length xk1) := (World.cell?_of_block (setRow_other _ _ _ _ (by have := bge8_p8; have := cell_old d1; simp at this ⊢; omega))).trans k3_10
      have bel11 : Below w2.heap.size w2 (W10.setRow W0.heap.size (arr A).toArray) := below_setRow bel10 bge8_p8 _
      generalize W10.setRow W0.heap.size (arr A).toArray = W11 at *
      refine hK.out _ _ ⟨k0_11, k1_11, k2_11, k3_11⟩ (fun hHeld => ?_)
      clear hK K
      try simp only [Act.put, List.setIfInBounds_toArray, List.set_cons_zero, List.set_cons_succ]
      refine tk13 (v := ?_) (by kernel_rfl) (by kernel_rfl) (by kernel_rfl) (by first | exact fun _ _ _ h => h | exact fun _ _ _ h => absurd h.1 (by simp)) (Or.inl ⟨by rfl, ?_⟩) (by assumption) ?_
      rotate_left 1
      focus (intro wx hSw; (try dsimp only at hSw); go_simp; try (with_reducible rfl))
      try simp only [Act.put, List.setIfInBounds_toArray, List.set_cons_zero, List.set_cons_succ]
      refine wpAnyH_done (by kernel_rfl) ?_ _
      exact ⟨rfl, _, rfl, new11, bel11, k0_11, k1_11⟩
    exact AllReadyH.nil
  rintro e a' wz ⟨rfl, b8, rfl, hT, hb2, g0, g1⟩
  have hw5 : Below w.heap.size w wz := hw2.trans (hb2.mono hw2.size)
  have HTr := Lib.hid hT; clear hT
  clear a2 a3 d0 d1 hb2
  have u1 := Try.underlying111
  cases O with
  | false =>
    have k := H3.out rfl
    subst k
    clear u1
    go_wp2_with fail
    go_ret2
    exact ⟨rfl, hw5⟩
  | true =>
    have k := H2.out rfl
    go_wp2_with (refine wpList_load_row rfl 111 _ rfl b8 rfl _ _ _ _ HTr.out.1 u1 rfl (infoArr lA) ?_)
    rw [hps2.out]
    refine (writeMarking_any s.size _ A lA _ hsp _ _ _ rfl).mono ?_
    rintro e w6 ⟨rfl, hb⟩
    rw [k]
    have hw6 : Below w.heap.size w w6 := hw5.trans (hb.mono hw5.size)
    clear hb k g0 g1
    go_wp2_with fail
    go_ret2
    exact ⟨rfl, hw6⟩

end Go.Proofs.Ytigkgfdnnfmmmaa
