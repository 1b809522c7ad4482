/- WALK of the law FnExactUnionSTGs. -/
import Derived.Test.YtgmnknlnlmcmfaaVUnsm
import Derived.Test.YtgmnknlnlmcmfaaVMkx
import Derived.Deep.RegionHeld3
namespace Go.Proofs.Ytgmnknlnlmcmfaa
open Go.RowKit

set_option maxRecDepth 100000 in
set_option maxHeartbeats 16000000 in
theorem lawUnionSTGs_any (va vb : Value) (s0 s1 : StgD) (w : World) (lo : Nat) (hva : StgAt lo w va s0) (hvb : StgAt lo w vb s1) (hoka : OkStg s0) (hokb : OkStg s1) :
    Calls Try.prog 8 #[va, vb] w (RetB w true) := by
  obtain ⟨aa0, ac0, aa1, ac1, aa2, ac2, rfl, h_1, h_2, h_3⟩ := hva.form
  obtain ⟨ba0, bc0, ba1, bc1, ba2, bc2, rfl, h_4, h_5, h_6⟩ := hvb.form
  clear h_1 h_2 h_3 h_4 h_5 h_6
  have HV := Lib.hid hva; clear hva
  have HU := Lib.hid hvb; clear hvb
  have HO := Lib.hid hoka; clear hoka
  have HO1 := Lib.hid hokb; clear hokb
  have hsmR : SmallStg s0 → SmallStg s1 → SmallStg (uniR s0 s1) := uniR_small
  obtain ⟨RN, hRN⟩ : ∃ RN, RN = uniR s0 s1 := ⟨_, rfl⟩
  obtain ⟨BB, hBB⟩ : ∃ BB, BB = uniB s0 s1 := ⟨_, rfl⟩
  rw [← hRN] at hsmR
  have HR := Lib.hid (And.intro hRN hBB); clear hRN hBB
  have HSM := Lib.hid hsmR; clear hsmR
  obtain ⟨p0, hp0⟩ : ∃ x, x = s0.net.places := ⟨_, rfl⟩
  obtain ⟨m0, hm0⟩ : ∃ x, x = s0.net.ts.length := ⟨_, rfl⟩
  obtain ⟨n0, hn0⟩ : ∃ x, x = s0.sigs.length := ⟨_, rfl⟩
  obtain ⟨l0, hl0⟩ : ∃ x, x = s0.labs.length := ⟨_, rfl⟩
  obtain ⟨t0, ht0⟩ : ∃ x, x = s0.start := ⟨_, rfl⟩
  rw [← hp0, ← hm0, ← hn0, ← hl0, ← ht0] at HV ⊢
  have HP0 := Lib.hid (And.intro hp0 (And.intro hm0 (And.intro hn0 (And.intro hl0 ht0)))); clear hp0 hm0 hn0 hl0 ht0
  obtain ⟨p1, hp1⟩ : ∃ x, x = s1.net.places := ⟨_, rfl⟩
  obtain ⟨m1, hm1⟩ : ∃ x, x = s1.net.ts.length := ⟨_, rfl⟩
  obtain ⟨n1, hn1⟩ : ∃ x, x = s1.sigs.length := ⟨_, rfl⟩
  obtain ⟨l1, hl1⟩ : ∃ x, x = s1.labs.length := ⟨_, rfl⟩
  obtain ⟨t1, ht1⟩ : ∃ x, x = s1.start := ⟨_, rfl⟩
  rw [← hp1, ← hm1, ← hn1, ← hl1, ← ht1] at HU ⊢
  have HP1 := Lib.hid (And.intro hp1 (And.intro hm1 (And.intro hn1 (And.intro hl1 ht1)))); clear hp1 hm1 hn1 hl1 ht1
  obtain ⟨rp, hrp⟩ : ∃ x, x = RN.net.places := ⟨_, rfl⟩
  obtain ⟨rm, hrm⟩ : ∃ x, x = RN.net.ts.length := ⟨_, rfl⟩
  obtain ⟨rns, hrns⟩ : ∃ x, x = RN.sigs.length := ⟨_, rfl⟩
  obtain ⟨rnl, hrnl⟩ : ∃ x, x = RN.labs.length := ⟨_, rfl⟩
  obtain ⟨rst, hrst⟩ : ∃ x, x = RN.start := ⟨_, rfl⟩
  have HQ := Lib.hid (And.intro hrp (And.intro hrm (And.intro hrns (And.intro hrnl hrst)))); clear hrp hrm hrns hrnl hrst
  go_enter Try.func8, Try.ntmps8
  go_wp2_with fail
  refine (szSTG_any _ s0 _ _ lo (HV.out.keep ?_) (by omega) (by omega) HO.out).mono ?_
  · (repeat' (first | (with_reducible exact Carries.refl _ _) | (with_reducible assumption) | (with_reducible refine Carries.alloc ?_ _) | (with_reducible refine Carries.drew ?_) | (with_reducible refine Carries.drewN ?_ _) | (with_reducible refine Carries.set ?_ ?_ _) | go_size))
  rintro e w1 ⟨r, rfl, hr, hb⟩
  have hw1 : Below w.heap.size w w1 := by
    refine Below.trans ?_ (hb.mono ?_)
    · (repeat' (first | (with_reducible exact Below.refl _ _) | (with_reducible assumption) | (with_reducible refine Below.alloc ?_ ?_ _) | (with_reducible refine Below.drew ?_) | (with_reducible refine below_drewN ?_ _) | (with_reducible refine Below.setCell ?_ ?_ _) | go_size))
    · simp; omega
  have A_0 : w1.cell? ⟨w.heap.size, 0, none⟩ = some (.int .i64 p0) := cell_carry (by simp) (Carries.of 0 hb)
  have A_1 : w1.cell? ⟨w.heap.size, 1, none⟩ = some (.slice aa0 m0 ac0) := cell_carry (by simp) (Carries.of 0 hb)
  have A_2 : w1.cell? ⟨w.heap.size, 2, none⟩ = some (.slice aa1 n0 ac1) := cell_carry (by simp) (Carries.of 0 hb)
  have A_3 : w1.cell? ⟨w.heap.size, 3, none⟩ = some (.slice aa2 l0 ac2) := cell_carry (by simp) (Carries.of 0 hb)
  have A_4 : w1.cell? ⟨w.heap.size, 4, none⟩ = some (.string t0) := cell_carry (by simp) (Carries.of 0 hb)
  have B_0 : w1.cell? ⟨w.heap.size + 1, 0, none⟩ = some (.int .i64 p1) := cell_carry (by simp) (Carries.of 0 hb)
  have B_1 : w1.cell? ⟨w.heap.size + 1, 1, none⟩ = some (.slice ba0 m1 bc0) := cell_carry (by simp) (Carries.of 0 hb)
  have B_2 : w1.cell? ⟨w.heap.size + 1, 2, none⟩ = some (.slice ba1 n1 bc1) := cell_carry (by simp) (Carries.of 0 hb)
  have B_3 : w1.cell? ⟨w.heap.size + 1, 3, none⟩ = some (.slice ba2 l1 bc2) := cell_carry (by simp) (Carries.of 0 hb)
  have B_4 : w1.cell? ⟨w.heap.size + 1, 4, none⟩ = some (.string t1) := cell_carry (by simp) (Carries.of 0 hb)
  have z1 : w.heap.size + 1 < w1.heap.size := by have := hb.size; simp at this; omega
  clear hb
  rcases hr with rfl | ⟨hr0, hr1, hsm⟩
  · go_wp2_with fail
    go_ret
    exact ⟨rfl, hw1⟩
  have HS := Lib.hid hsm; clear hsm
  go_wp2_with fail
  refine (szSTG_any _ s1 _ _ lo (HU.out.keep (Carries.of lo hw1)) hr0 (by omega) HO1.out).mono ?_
  rintro e w2 ⟨r2, rfl, hr2, hb⟩
  have hw2 : Below w.heap.size w w2 := hw1.trans (hb.mono hw1.size)
  have A_0 := cell_carry A_0 (Carries.of 0 hb)
  have A_1 := cell_carry A_1 (Carries.of 0 hb)
  have A_2 := cell_carry A_2 (Carries.of 0 hb)
  have A_3 := cell_carry A_3 (Carries.of 0 hb)
  have A_4 := cell_carry A_4 (Carries.of 0 hb)
  have B_0 := cell_carry B_0 (Carries.of 0 hb)
  have B_1 := cell_carry B_1 (Carries.of 0 hb)
  have B_2 := cell_carry B_2 (Carries.of 0 hb)
  have B_3 := cell_carry B_3 (Carries.of 0 hb)
  have B_4 := cell_carry B_4 (Carries.of 0 hb)
  have z2 : w1.heap.size ≤ w2.heap.size := hb.size
  clear hb hw1  
  rcases hr2 with rfl | ⟨hr3, hr4, hsm⟩
  · go_wp2_with fail
    go_ret
    exact ⟨rfl, hw2⟩
  have HS1 := Lib.hid hsm
  have HSR := Lib.hid (HSM.out HS.out hsm); clear hsm HSM
  go_wp2_with fail
  refine Code.wp_mono (Q := SMid w2 rp rm rns rnl rst RN (fun G v2 v3 ra0 rc0 ra1 rc1 ra2 rc2 => { tmps := #[.agg #[.int .i64 p0, .slice aa0 m0 ac0, .slice aa1 n0 ac1, .slice aa2 l0 ac2, .string t0], .agg #[.int .i64 p1, .slice ba0 m1 bc0, .slice ba1 n1 bc1, .slice ba2 l1 bc2, .string t1], .pointer (some ⟨w.heap.size, 0, none⟩), .pointer (some ⟨w.heap.size + 1, 0, none⟩), .bool false, .int .i64 r2, .pointer (some ⟨G, 0, none⟩), .bool BB, undef, undef, undef, undef, undef, undef, undef, undef, undef, .agg #[.int .i64 p0, .slice aa0 m0 ac0, .slice aa1 n0 ac1, .slice aa2 l0 ac2, .string t0], .int .i64 1048576, .int .i64 r, .int .i64 r, .bool (decide (r < 0)), .agg #[.int .i64 p1, .slice ba0 m1 bc0, .slice ba1 n1 bc1, .slice ba2 l1 bc2, .string t1], .int .i64 r, .int .i64 r2, .int .i64 r2, .bool (decide (r2 < 0)), .tuple #[.agg #[.int .i64 rp, .slice ra0 rm rc0, .slice ra1 rns rc1, .slice ra2 rnl rc2, .string rst], .bool BB], .agg #[.int .i64 p0, .slice aa0 m0 ac0, .slice aa1 n0 ac1, .slice aa2 l0 ac2, .string t0], v2, .agg #[.int .i64 p1, .slice ba0 m1 bc0, .slice ba1 n1 bc1, .slice ba2 l1 bc2, .string t1], v3, .tuple #[.agg #[.int .i64 rp, .slice ra0 rm rc0, .slice ra1 rns rc1, .slice ra2 rnl rc2, .string rst], .bool BB], .agg #[.int .i64 rp, .slice ra0 rm rc0, .slice ra1 rns rc1, .slice ra2 rnl rc2, .string rst], .bool BB, undef, undef, undef, undef, undef, undef, undef, undef, undef, undef, undef, undef, undef, undef, undef, undef, undef, undef, undef, undef, undef, undef, undef, undef, undef, undef, undef, undef, undef, undef, undef, undef, undef, undef, undef, undef, undef, undef, undef, undef, undef, undef, undef, undef, undef, undef, undef, undef, undef, undef, undef, undef, undef, undef, undef, undef, undef, undef, undef, undef, undef, undef, undef, undef, undef, undef, undef, undef, undef, undef, undef, undef, undef, undef, undef, undef, undef, undef, undef, undef, undef, undef, undef, undef], defers := [] })) ?_ ?_
  rotate_left 1
  · refine wp_region_held_drew (S := fun w' => w'.cell? ⟨w.heap.size, 0, none⟩ = some (.int .i64 p0) ∧ w'.cell? ⟨w.heap.size, 1, none⟩ = some (.slice aa0 m0 ac0) ∧ w'.cell? ⟨w.heap.size, 2, none⟩ = some (.slice aa1 n0 ac1) ∧ w'.cell? ⟨w.heap.size, 3, none⟩ = some (.slice aa2 l0 ac2) ∧ w'.cell? ⟨w.heap.size, 4, none⟩ = some (.string t0) ∧ w'.cell? ⟨w.heap.size + 1, 0, none⟩ = some (.int .i64 p1) ∧ w'.cell? ⟨w.heap.size + 1, 1, none⟩ = some (.slice ba0 m1 bc0) ∧ w'.cell? ⟨w.heap.size + 1, 2, none⟩ = some (.slice ba1 n1 bc1) ∧ w'.cell? ⟨w.heap.size + 1, 3, none⟩ = some (.slice ba2 l1 bc2) ∧ w'.cell? ⟨w.heap.size + 1, 4, none⟩ = some (.string t1)) (by kernel_rfl) ⟨A_0, A_1, A_2, A_3, A_4, B_0, B_1, B_2, B_3, B_4⟩ (fun hHeld => ?_)
    have belQ0 : Below w2.heap.size w2 w2.drew := (Below.refl _ _).drew
    have A_0Q0 : w2.drew.cell? ⟨w.heap.size, 0, none⟩ = some (.int .i64 p0) := A_0
    have A_1Q0 : w2.drew.cell? ⟨w.heap.size, 1, none⟩ = some (.slice aa0 m0 ac0) := A_1
    have A_2Q0 : w2.drew.cell? ⟨w.heap.size, 2, none⟩ = some (.slice aa1 n0 ac1) := A_2
    have A_3Q0 : w2.drew.cell? ⟨w.heap.size, 3, none⟩ = some (.slice aa2 l0 ac2) := A_3
    have A_4Q0 : w2.drew.cell? ⟨w.heap.size, 4, none⟩ = some (.string t0) := A_4
    have B_0Q0 : w2.drew.cell? ⟨w.heap.size + 1, 0, none⟩ = some (.int .i64 p1) := B_0
    have B_1Q0 : w2.drew.cell? ⟨w.heap.size + 1, 1, none⟩ = some (.slice ba0 m1 bc0) := B_1
    have B_2Q0 : w2.drew.cell? ⟨w.heap.size + 1, 2, none⟩ = some (.slice ba1 n1 bc1) := B_2
    have B_3Q0 : w2.drew.cell? ⟨w.heap.size + 1, 3, none⟩ = some (.slice ba2 l1 bc2) := B_3
    have B_4Q0 : w2.drew.cell? ⟨w.heap.size + 1, 4, none⟩ = some (.string t1) := B_4
    generalize w2.drew = Q0 at belQ0 A_0Q0 A_1Q0 A_2Q0 A_3Q0 A_4Q0 B_0Q0 B_1Q0 B_2Q0 B_3Q0 B_4Q0 hHeld ⊢
    have zsQ0 := belQ0.size
    refine tk0 (v := ?_) (by kernel_rfl) (by kernel_rfl) (by kernel_rfl) (by first | exact fun _ _ _ h => h | exact fun _ _ _ h => absurd h.1 (by simp)) (Or.inl ⟨by rfl, ?_⟩) (by assumption) ?_
    rotate_left 1
    focus (intro wx hSw; (try dsimp only at hSw); go_simp; try (with_reducible rfl))
    try simp only [Act.put, List.setIfInBounds_toArray, List.set_cons_zero, List.set_cons_succ]
    refine tk2 (v := ?_) (by kernel_rfl) (by kernel_rfl) (by kernel_rfl) (by first | exact fun _ _ _ h => h | exact fun _ _ _ h => absurd h.1 (by simp)) (Or.inl ⟨by rfl, ?_⟩) (by assumption) ?_
    rotate_left 1
    focus (intro wx hSw; (try dsimp only at hSw); go_simp; try (with_reducible rfl))
    try simp only [Act.put, List.setIfInBounds_toArray, List.set_cons_zero, List.set_cons_succ]
    refine wpAnyH_ready (rs := [1, 8]) (by kernel_rfl) (by simp) ?_
    refine ar1 (fun K hK => ?_) ?_
    · go_simp
      refine (toSTG_any _ s0 Q0 lo (HV.out.keep (Carries.of lo (hw2.trans (belQ0.mono hw2.size)))) HS.out).mono ?_
      rintro e Q1 ⟨v2, rfl, hn, hbb⟩
      have belQ1 := belQ0.trans (hbb.mono belQ0.size)
      have zsQ1 := hbb.size
      have A_0Q1 := cell_carry A_0Q0 (Carries.of 0 hbb)
      have A_1Q1 := cell_carry A_1Q0 (Carries.of 0 hbb)
      have A_2Q1 := cell_carry A_2Q0 (Carries.of 0 hbb)
      have A_3Q1 := cell_carry A_3Q0 (Carries.of 0 hbb)
      have A_4Q1 := cell_carry A_4Q0 (Carries.of 0 hbb)
      have B_0Q1 := cell_carry B_0Q0 (Carries.of 0 hbb)
      have B_1Q1 := cell_carry B_1Q0 (Carries.of 0 hbb)
      have B_2Q1 := cell_carry B_2Q0 (Carries.of 0 hbb)
      have B_3Q1 := cell_carry B_3Q0 (Carries.of 0 hbb)
      have B_4Q1 := cell_carry B_4Q0 (Carries.of 0 hbb)
      have H2Q1 := Lib.hid (hn.low (Nat.zero_le _)); clear hn hbb
      refine hK.out _ _ ⟨A_0Q1, A_1Q1, A_2Q1, A_3Q1, A_4Q1, B_0Q1, B_1Q1, B_2Q1, B_3Q1, B_4Q1⟩ (fun hHeld => ?_)
      clear hK K
      try simp only [Act.put, List.setIfInBounds_toArray, List.set_cons_zero, List.set_cons_succ]
      refine wpAnyH_ready (rs := [3, 8]) (by kernel_rfl) (by simp) ?_
      refine ar3 (fun K hK => ?_) ?_
      · go_simp
        refine (toSTG_any _ s1 Q1 lo (HU.out.keep (Carries.of lo (hw2.trans (belQ1.mono hw2.size)))) HS1.out).mono ?_
        rintro e Q2 ⟨v3, rfl, hn, hbb⟩
        have belQ2 := belQ1.trans (hbb.mono belQ1.size)
        have zsQ2 := hbb.size
        have A_0Q2 := cell_carry A_0Q1 (Carries.of 0 hbb)
        have A_1Q2 := cell_carry A_1Q1 (Carries.of 0 hbb)
        have A_2Q2 := cell_carry A_2Q1 (Carries.of 0 hbb)
        have A_3Q2 := cell_carry A_3Q1 (Carries.of 0 hbb)
        have A_4Q2 := cell_carry A_4Q1 (Carries.of 0 hbb)
        have B_0Q2 := cell_carry B_0Q1 (Carries.of 0 hbb)
        have B_1Q2 := cell_carry B_1Q1 (Carries.of 0 hbb)
        have B_2Q2 := cell_carry B_2Q1 (Carries.of 0 hbb)
        have B_3Q2 := cell_carry B_3Q1 (Carries.of 0 hbb)
        have B_4Q2 := cell_carry B_4Q1 (Carries.of 0 hbb)
        have H2Q2 := Lib.hid (H2Q1.out.keep (Carries.of _ hbb))
        have H3Q2 := Lib.hid (hn.low (Nat.zero_le _)); clear hn hbb
        refine hK.out _ _ ⟨A_0Q2, A_1Q2, A_2Q2, A_3Q2, A_4Q2, B_0Q2, B_1Q2, B_2Q2, B_3Q2, B_4Q2⟩ (fun hHeld => ?_)
        clear hK K
        try simp only [Act.put, List.setIfInBounds_toArray, List.set_cons_zero, List.set_cons_succ]
        refine wpAnyH_ready (rs := [4, 8]) (by kernel_rfl) (by simp) ?_
        refine ar4 (fun K hK => ?_) ?_
        · go_simp
          refine (specUnionSTGs_any _ _ s0 s1 Q2 0 H2Q2.out H3Q2.out HS.out HS1.out).mono ?_
          rintro e Q3 ⟨uw, rfl, hiw0, hbb⟩
          have hiw := hiw0
          clear hiw0
          rw [← HR.out.1] at hiw
          rw [← HR.out.2]
          obtain ⟨ra0, rc0, ra1, rc1, ra2, rc2, rfl, q1_, q2_, q3_⟩ := hiw.form
          clear q1_ q2_ q3_
          rw [← HQ.out.1, ← HQ.out.2.1, ← HQ.out.2.2.1, ← HQ.out.2.2.2.1, ← HQ.out.2.2.2.2] at hiw ⊢
          have belQ3 := belQ2.trans (hbb.mono belQ2.size)
          have zsQ3 := hbb.size
          have A_0Q3 := cell_carry A_0Q2 (Carries.of 0 hbb)
          have A_1Q3 := cell_carry A_1Q2 (Carries.of 0 hbb)
          have A_2Q3 := cell_carry A_2Q2 (Carries.of 0 hbb)
          have A_3Q3 := cell_carry A_3Q2 (Carries.of 0 hbb)
          have A_4Q3 := cell_carry A_4Q2 (Carries.of 0 hbb)
          have B_0Q3 := cell_carry B_0Q2 (Carries.of 0 hbb)
          have B_1Q3 := cell_carry B_1Q2 (Carries.of 0 hbb)
          have B_2Q3 := cell_carry B_2Q2 (Carries.of 0 hbb)
          have B_3Q3 := cell_carry B_3Q2 (Carries.of 0 hbb)
          have B_4Q3 := cell_carry B_4Q2 (Carries.of 0 hbb)
          have HWQ3 := Lib.hid hiw; clear hiw hbb
          refine hK.out _ _ ⟨A_0Q3, A_1Q3, A_2Q3, A_3Q3, A_4Q3, B_0Q3, B_1Q3, B_2Q3, B_3Q3, B_4Q3⟩ (fun hHeld => ?_)
          clear hK K
          try simp only [Act.put, List.setIfInBounds_toArray, List.set_cons_zero, List.set_cons_succ]
          refine tk5 (v := ?_) (by kernel_rfl) (by kernel_rfl) (by kernel_rfl) (by first | exact fun _ _ _ h => h | exact fun _ _ _ h => absurd h.1 (by simp)) (Or.inl ⟨by rfl, ?_⟩) (by assumption) ?_
          rotate_left 1
          focus (intro wx hSw; (try dsimp only at hSw); go_simp; try (with_reducible rfl))
          try simp only [Act.put, List.setIfInBounds_toArray, List.set_cons_zero, List.set_cons_succ]
          refine tk6 (v := ?_) (by kernel_rfl) (by kernel_rfl) (by kernel_rfl) (by first | exact fun _ _ _ h => h | exact fun _ _ _ h => absurd h.1 (by simp)) (Or.inl ⟨by rfl, ?_⟩) (by assumption) ?_
          rotate_left 1
          focus (intro wx hSw; (try dsimp only at hSw); go_simp; try (with_reducible rfl))
          try simp only [Act.put, List.setIfInBounds_toArray, List.set_cons_zero, List.set_cons_succ]
          refine tk7 (v := ?_) (by kernel_rfl) (by kernel_rfl) (by kernel_rfl) (by first | exact fun _ _ _ h => h | exact fun _ _ _ h => absurd h.1 (by simp)) (Or.inl ⟨by rfl, ?_⟩) (by assumption) ?_
          rotate_left 1
          focus (intro wx hSw; (try dsimp only at hSw); go_simp; try (with_reducible rfl))
          try simp only [Act.put, List.setIfInBounds_toArray, List.set_cons_zero, List.set_cons_succ]
          refine rd8 (by kernel_rfl) (fun K hK => ?_)
          go_simp
          have hbb : Below Q3.heap.size Q3 (Q3.alloc (.cells #[.int .i64 0, .slice none 0 0, .slice none 0 0, .slice none 0 0, .string ⟨#[]⟩] 63)) := (Below.refl _ _).alloc (Nat.le_refl _) _
          have g0Q4 : (Q3.alloc (.cells #[.int .i64 0, .slice none 0 0, .slice none 0 0, .slice none 0 0, .string ⟨#[]⟩] 63)).cell? ⟨Q3.heap.size, 0, none⟩ = some (.int .i64 0) := by simp
          have g1Q4 : (Q3.alloc (.cells #[.int .i64 0, .slice none 0 0, .slice none 0 0, .slice none 0 0, .string ⟨#[]⟩] 63)).cell? ⟨Q3.heap.size, 1, none⟩ = some (.slice none 0 0) := by simp
          have g2Q4 : (Q3.alloc (.cells #[.int .i64 0, .slice none 0 0, .slice none 0 0, .slice none 0 0, .string ⟨#[]⟩] 63)).cell? ⟨Q3.heap.size, 2, none⟩ = some (.slice none 0 0) := by simp
          have g3Q4 : (Q3.alloc (.cells #[.int .i64 0, .slice none 0 0, .slice none 0 0, .slice none 0 0, .string ⟨#[]⟩] 63)).cell? ⟨Q3.heap.size, 3, none⟩ = some (.slice none 0 0) := by simp
          have g4Q4 : (Q3.alloc (.cells #[.int .i64 0, .slice none 0 0, .slice none 0 0, .slice none 0 0, .string ⟨#[]⟩] 63)).cell? ⟨Q3.heap.size, 4, none⟩ = some (.string ⟨#[]⟩) := by simp
          have gf0Q4 : (Q3.alloc (.cells #[.int .i64 0, .slice none 0 0, .slice none 0 0, .slice none 0 0, .string ⟨#[]⟩] 63)).frozen? ⟨Q3.heap.size, 0, none⟩ = false := by simp
          have gf1Q4 : (Q3.alloc (.cells #[.int .i64 0, .slice none 0 0, .slice none 0 0, .slice none 0 0, .string ⟨#[]⟩] 63)).frozen? ⟨Q3.heap.size, 1, none⟩ = false := by simp
          have gf2Q4 : (Q3.alloc (.cells #[.int .i64 0, .slice none 0 0, .slice none 0 0, .slice none 0 0, .string ⟨#[]⟩] 63)).frozen? ⟨Q3.heap.size, 2, none⟩ = false := by simp
          have gf3Q4 : (Q3.alloc (.cells #[.int .i64 0, .slice none 0 0, .slice none 0 0, .slice none 0 0, .string ⟨#[]⟩] 63)).frozen? ⟨Q3.heap.size, 3, none⟩ = false := by simp
          have gf4Q4 : (Q3.alloc (.cells #[.int .i64 0, .slice none 0 0, .slice none 0 0, .slice none 0 0, .string ⟨#[]⟩] 63)).frozen? ⟨Q3.heap.size, 4, none⟩ = false := by simp
          have zgQ4 : Q3.heap.size < (Q3.alloc (.cells #[.int .i64 0, .slice none 0 0, .slice none 0 0, .slice none 0 0, .string ⟨#[]⟩] 63)).heap.size := by simp
          generalize Q3.alloc (.cells #[.int .i64 0, .slice none 0 0, .slice none 0 0, .slice none 0 0, .string ⟨#[]⟩] 63) = Q4 at hbb g0Q4 g1Q4 g2Q4 g3Q4 g4Q4 gf0Q4 gf1Q4 gf2Q4 gf3Q4 gf4Q4 zgQ4 ⊢
          have belQ4 := belQ3.trans (hbb.mono belQ3.size)
          have zsQ4 := hbb.size
          have A_0Q4 := cell_carry A_0Q3 (Carries.of 0 hbb)
          have A_1Q4 := cell_carry A_1Q3 (Carries.of 0 hbb)
          have A_2Q4 := cell_carry A_2Q3 (Carries.of 0 hbb)
          have A_3Q4 := cell_carry A_3Q3 (Carries.of 0 hbb)
          have A_4Q4 := cell_carry A_4Q3 (Carries.of 0 hbb)
          have B_0Q4 := cell_carry B_0Q3 (Carries.of 0 hbb)
          have B_1Q4 := cell_carry B_1Q3 (Carries.of 0 hbb)
          have B_2Q4 := cell_carry B_2Q3 (Carries.of 0 hbb)
          have B_3Q4 := cell_carry B_3Q3 (Carries.of 0 hbb)
          have B_4Q4 := cell_carry B_4Q3 (Carries.of 0 hbb)
          have HWQ4 := Lib.hid (HWQ3.out.keep (Carries.of _ hbb))
          have hbA := hbb
          refine hK.out _ _ ⟨A_0Q4, A_1Q4, A_2Q4, A_3Q4, A_4Q4, B_0Q4, B_1Q4, B_2Q4, B_3Q4, B_4Q4⟩ (fun hHeld => ?_)
          clear hK K
          try simp only [Act.put, List.setIfInBounds_toArray, List.set_cons_zero, List.set_cons_succ]
          refine rd9 (by kernel_rfl) (fun K hK => ?_)
          go_simp
          have HX : Hid (StgAt 0 (((((Q4.setCell ⟨Q3.heap.size, 0, none⟩ (.int .i64 rp)).setCell ⟨Q3.heap.size, 1, none⟩ (.slice ra0 rm rc0)).setCell ⟨Q3.heap.size, 2, none⟩ (.slice ra1 rns rc1)).setCell ⟨Q3.heap.size, 3, none⟩ (.slice ra2 rnl rc2)).setCell ⟨Q3.heap.size, 4, none⟩ (.string rst)) (.agg #[.int .i64 rp, .slice ra0 rm rc0, .slice ra1 rns rc1, .slice ra2 rnl rc2, .string rst]) RN) := Lib.hid ((HWQ3.out.keep (Carries.of _ (((((hbA.setCell (p := ⟨Q3.heap.size, 0, none⟩) (Nat.le_refl _) (.int .i64 rp)).setCell (p := ⟨Q3.heap.size, 1, none⟩) (Nat.le_refl _) (.slice ra0 rm rc0)).setCell (p := ⟨Q3.heap.size, 2, none⟩) (Nat.le_refl _) (.slice ra1 rns rc1)).setCell (p := ⟨Q3.heap.size, 3, none⟩) (Nat.le_refl _) (.slice ra2 rnl rc2)).setCell (p := ⟨Q3.heap.size, 4, none⟩) (Nat.le_refl _) (.string rst)))).low (Nat.zero_le _))
          generalize hWX : ((((Q4.setCell ⟨Q3.heap.size, 0, none⟩ (.int .i64 rp)).setCell ⟨Q3.heap.size, 1, none⟩ (.slice ra0 rm rc0)).setCell ⟨Q3.heap.size, 2, none⟩ (.slice ra1 rns rc1)).setCell ⟨Q3.heap.size, 3, none⟩ (.slice ra2 rnl rc2)).setCell ⟨Q3.heap.size, 4, none⟩ (.string rst) = WXQ5 at HX ⊢
          obtain ⟨q0, q1, q2, q3, q4⟩ := put5_cells hWX g0Q4 g1Q4 g2Q4 g3Q4 g4Q4
          have belX := put5_below hWX belQ4 (by omega)
          have qz : WXQ5.heap.size = Q4.heap.size := by rw [← hWX]; simp
          clear hWX
          have A_0X := cell_carry A_0 (Carries.of 0 belX)
          have A_1X := cell_carry A_1 (Carries.of 0 belX)
          have A_2X := cell_carry A_2 (Carries.of 0 belX)
          have A_3X := cell_carry A_3 (Carries.of 0 belX)
          have A_4X := cell_carry A_4 (Carries.of 0 belX)
          have B_0X := cell_carry B_0 (Carries.of 0 belX)
          have B_1X := cell_carry B_1 (Carries.of 0 belX)
          have B_2X := cell_carry B_2 (Carries.of 0 belX)
          have B_3X := cell_carry B_3 (Carries.of 0 belX)
          have B_4X := cell_carry B_4 (Carries.of 0 belX)
          refine hK.out _ _ ⟨A_0X, A_1X, A_2X, A_3X, A_4X, B_0X, B_1X, B_2X, B_3X, B_4X⟩ (fun hHeld => ?_)
          clear hK K
          try simp only [Act.put, List.setIfInBounds_toArray, List.set_cons_zero, List.set_cons_succ]
          refine rd10 (by kernel_rfl) (fun K hK => ?_)
          go_simp
          refine hK.out _ _ ⟨A_0X, A_1X, A_2X, A_3X, A_4X, B_0X, B_1X, B_2X, B_3X, B_4X⟩ (fun hHeld => ?_)
          clear hK K
          try simp only [Act.put, List.setIfInBounds_toArray, List.set_cons_zero, List.set_cons_succ]
          refine wpAnyH_done (by kernel_rfl) ?_ _
          exact ⟨rfl, Q3.heap.size, _, _, _, _, _, _, _, _, rfl, by omega, by omega, q0, q1, q2, q3, q4, HX.out, belX⟩
        refine ar8 (fun K hK => ?_) AllReadyH.nil
        go_simp
        have hbb : Below Q2.heap.size Q2 (Q2.alloc (.cells #[.int .i64 0, .slice none 0 0, .slice none 0 0, .slice none 0 0, .string ⟨#[]⟩] 63)) := (Below.refl _ _).alloc (Nat.le_refl _) _
        have g0Q7 : (Q2.alloc (.cells #[.int .i64 0, .slice none 0 0, .slice none 0 0, .slice none 0 0, .string ⟨#[]⟩] 63)).cell? ⟨Q2.heap.size, 0, none⟩ = some (.int .i64 0) := by simp
        have g1Q7 : (Q2.alloc (.cells #[.int .i64 0, .slice none 0 0, .slice none 0 0, .slice none 0 0, .string ⟨#[]⟩] 63)).cell? ⟨Q2.heap.size, 1, none⟩ = some (.slice none 0 0) := by simp
        have g2Q7 : (Q2.alloc (.cells #[.int .i64 0, .slice none 0 0, .slice none 0 0, .slice none 0 0, .string ⟨#[]⟩] 63)).cell? ⟨Q2.heap.size, 2, none⟩ = some (.slice none 0 0) := by simp
        have g3Q7 : (Q2.alloc (.cells #[.int .i64 0, .slice none 0 0, .slice none 0 0, .slice none 0 0, .string ⟨#[]⟩] 63)).cell? ⟨Q2.heap.size, 3, none⟩ = some (.slice none 0 0) := by simp
        have g4Q7 : (Q2.alloc (.cells #[.int .i64 0, .slice none 0 0, .slice none 0 0, .slice none 0 0, .string ⟨#[]⟩] 63)).cell? ⟨Q2.heap.size, 4, none⟩ = some (.string ⟨#[]⟩) := by simp
        have gf0Q7 : (Q2.alloc (.cells #[.int .i64 0, .slice none 0 0, .slice none 0 0, .slice none 0 0, .string ⟨#[]⟩] 63)).frozen? ⟨Q2.heap.size, 0, none⟩ = false := by simp
        have gf1Q7 : (Q2.alloc (.cells #[.int .i64 0, .slice none 0 0, .slice none 0 0, .slice none 0 0, .string ⟨#[]⟩] 63)).frozen? ⟨Q2.heap.size, 1, none⟩ = false := by simp
        have gf2Q7 : (Q2.alloc (.cells #[.int .i64 0, .slice none 0 0, .slice none 0 0, .slice none 0 0, .string ⟨#[]⟩] 63)).frozen? ⟨Q2.heap.size, 2, none⟩ = false := by simp
        have gf3Q7 : (Q2.alloc (.cells #[.int .i64 0, .slice none 0 0, .slice none 0 0, .slice none 0 0, .string ⟨#[]⟩] 63)).frozen? ⟨Q2.heap.size, 3, none⟩ = false := by simp
        have gf4Q7 : (Q2.alloc (.cells #[.int .i64 0, .slice none 0 0, .slice none 0 0, .slice none 0 0, .string ⟨#[]⟩] 63)).frozen? ⟨Q2.heap.size, 4, none⟩ = false := by simp
        have zgQ7 : Q2.heap.size < (Q2.alloc (.cells #[.int .i64 0, .slice none 0 0, .slice none 0 0, .slice none 0 0, .string ⟨#[]⟩] 63)).heap.size := by simp
        generalize Q2.alloc (.cells #[.int .i64 0, .slice none 0 0, .slice none 0 0, .slice none 0 0, .string ⟨#[]⟩] 63) = Q7 at hbb g0Q7 g1Q7 g2Q7 g3Q7 g4Q7 gf0Q7 gf1Q7 gf2Q7 gf3Q7 gf4Q7 zgQ7 ⊢
        have belQ7 := belQ2.trans (hbb.mono belQ2.size)
        have zsQ7 := hbb.size
        have A_0Q7 := cell_carry A_0Q2 (Carries.of 0 hbb)
        have A_1Q7 := cell_carry A_1Q2 (Carries.of 0 hbb)
        have A_2Q7 := cell_carry A_2Q2 (Carries.of 0 hbb)
        have A_3Q7 := cell_carry A_3Q2 (Carries.of 0 hbb)
        have A_4Q7 := cell_carry A_4Q2 (Carries.of 0 hbb)
        have B_0Q7 := cell_carry B_0Q2 (Carries.of 0 hbb)
        have B_1Q7 := cell_carry B_1Q2 (Carries.of 0 hbb)
        have B_2Q7 := cell_carry B_2Q2 (Carries.of 0 hbb)
        have B_3Q7 := cell_carry B_3Q2 (Carries.of 0 hbb)
        have B_4Q7 := cell_carry B_4Q2 (Carries.of 0 hbb)
        have H2Q7 := Lib.hid (H2Q2.out.keep (Carries.of _ hbb))
        have H3Q7 := Lib.hid (H3Q2.out.keep (Carries.of _ hbb))
        refine hK.out _ _ ⟨A_0Q7, A_1Q7, A_2Q7, A_3Q7, A_4Q7, B_0Q7, B_1Q7, B_2Q7, B_3Q7, B_4Q7⟩ (fun hHeld => ?_)
        clear hK K
        try simp only [Act.put, List.setIfInBounds_toArray, List.set_cons_zero, List.set_cons_succ]
        refine rd4 (by kernel_rfl) (fun K hK => ?_)
        go_simp
        refine (specUnionSTGs_any _ _ s0 s1 Q7 0 H2Q7.out H3Q7.out HS.out HS1.out).mono ?_
        rintro e Q8 ⟨uw, rfl, hiw0, hbb⟩
        have hiw := hiw0
        clear hiw0
        rw [← HR.out.1] at hiw
        rw [← HR.out.2]
        obtain ⟨ra0, rc0, ra1, rc1, ra2, rc2, rfl, q1_, q2_, q3_⟩ := hiw.form
        clear q1_ q2_ q3_
        rw [← HQ.out.1, ← HQ.out.2.1, ← HQ.out.2.2.1, ← HQ.out.2.2.2.1, ← HQ.out.2.2.2.2] at hiw ⊢
        have belQ8 := belQ7.trans (hbb.mono belQ7.size)
        have zsQ8 := hbb.size
        have A_0Q8 := cell_carry A_0Q7 (Carries.of 0 hbb)
        have A_1Q8 := cell_carry A_1Q7 (Carries.of 0 hbb)
        have A_2Q8 := cell_carry A_2Q7 (Carries.of 0 hbb)
        have A_3Q8 := cell_carry A_3Q7 (Carries.of 0 hbb)
        have A_4Q8 := cell_carry A_4Q7 (Carries.of 0 hbb)
        have B_0Q8 := cell_carry B_0Q7 (Carries.of 0 hbb)
        have B_1Q8 := cell_carry B_1Q7 (Carries.of 0 hbb)
        have B_2Q8 := cell_carry B_2Q7 (Carries.of 0 hbb)
        have B_3Q8 := cell_carry B_3Q7 (Carries.of 0 hbb)
        have B_4Q8 := cell_carry B_4Q7 (Carries.of 0 hbb)
        have g0Q8 := cell_carry g0Q7 (Carries.of 0 hbb)
        have g1Q8 := cell_carry g1Q7 (Carries.of 0 hbb)
        have g2Q8 := cell_carry g2Q7 (Carries.of 0 hbb)
        have g3Q8 := cell_carry g3Q7 (Carries.of 0 hbb)
        have g4Q8 := cell_carry g4Q7 (Carries.of 0 hbb)
        have gf0Q8 := (hbb.frozen (p := ⟨Q2.heap.size, 0, none⟩) (by simp; omega)).trans gf0Q7
        have gf1Q8 := (hbb.frozen (p := ⟨Q2.heap.size, 1, none⟩) (by simp; omega)).trans gf1Q7
        have gf2Q8 := (hbb.frozen (p := ⟨Q2.heap.size, 2, none⟩) (by simp; omega)).trans gf2Q7
        have gf3Q8 := (hbb.frozen (p := ⟨Q2.heap.size, 3, none⟩) (by simp; omega)).trans gf3Q7
        have gf4Q8 := (hbb.frozen (p := ⟨Q2.heap.size, 4, none⟩) (by simp; omega)).trans gf4Q7
        have HWQ8 := Lib.hid hiw; clear hiw hbb
        refine hK.out _ _ ⟨A_0Q8, A_1Q8, A_2Q8, A_3Q8, A_4Q8, B_0Q8, B_1Q8, B_2Q8, B_3Q8, B_4Q8⟩ (fun hHeld => ?_)
        clear hK K
        try simp only [Act.put, List.setIfInBounds_toArray, List.set_cons_zero, List.set_cons_succ]
        refine tk5 (v := ?_) (by kernel_rfl) (by kernel_rfl) (by kernel_rfl) (by first | exact fun _ _ _ h => h | exact fun _ _ _ h => absurd h.1 (by simp)) (Or.inl ⟨by rfl, ?_⟩) (by assumption) ?_
        rotate_left 1
        focus (intro wx hSw; (try dsimp only at hSw); go_simp; try (with_reducible rfl))
        try simp only [Act.put, List.setIfInBounds_toArray, List.set_cons_zero, List.set_cons_succ]
        refine tk6 (v := ?_) (by kernel_rfl) (by kernel_rfl) (by kernel_rfl) (by first | exact fun _ _ _ h => h | exact fun _ _ _ h => absurd h.1 (by simp)) (Or.inl ⟨by rfl, ?_⟩) (by assumption) ?_
        rotate_left 1
        focus (intro wx hSw; (try dsimp only at hSw); go_simp; try (with_reducible rfl))
        try simp only [Act.put, List.setIfInBounds_toArray, List.set_cons_zero, List.set_cons_succ]
        refine tk7 (v := ?_) (by kernel_rfl) (by kernel_rfl) (by kernel_rfl) (by first | exact fun _ _ _ h => h | exact fun _ _ _ h => absurd h.1 (by simp)) (Or.inl ⟨by rfl, ?_⟩) (by assumption) ?_
        rotate_left 1
        focus (intro wx hSw; (try dsimp only at hSw); go_simp; try (with_reducible rfl))
        try simp only [Act.put, List.setIfInBounds_toArray, List.set_cons_zero, List.set_cons_succ]
        refine rd9 (by kernel_rfl) (fun K hK => ?_)
        go_simp
        have HX : Hid (StgAt 0 (((((Q8.setCell ⟨Q2.heap.size, 0, none⟩ (.int .i64 rp)).setCell ⟨Q2.heap.size, 1, none⟩ (.slice ra0 rm rc0)).setCell ⟨Q2.heap.size, 2, none⟩ (.slice ra1 rns rc1)).setCell ⟨Q2.heap.size, 3, none⟩ (.slice ra2 rnl rc2)).setCell ⟨Q2.heap.size, 4, none⟩ (.string rst)) (.agg #[.int .i64 rp, .slice ra0 rm rc0, .slice ra1 rns rc1, .slice ra2 rnl rc2, .string rst]) RN) := Lib.hid ((HWQ8.out.keep ((((((Carries.refl _ _).set (p := ⟨Q2.heap.size, 0, none⟩) (by simp; omega) (.int .i64 rp)).set (p := ⟨Q2.heap.size, 1, none⟩) (by simp; omega) (.slice ra0 rm rc0)).set (p := ⟨Q2.heap.size, 2, none⟩) (by simp; omega) (.slice ra1 rns rc1)).set (p := ⟨Q2.heap.size, 3, none⟩) (by simp; omega) (.slice ra2 rnl rc2)).set (p := ⟨Q2.heap.size, 4, none⟩) (by simp; omega) (.string rst))).low (Nat.zero_le _))
        generalize hWX : ((((Q8.setCell ⟨Q2.heap.size, 0, none⟩ (.int .i64 rp)).setCell ⟨Q2.heap.size, 1, none⟩ (.slice ra0 rm rc0)).setCell ⟨Q2.heap.size, 2, none⟩ (.slice ra1 rns rc1)).setCell ⟨Q2.heap.size, 3, none⟩ (.slice ra2 rnl rc2)).setCell ⟨Q2.heap.size, 4, none⟩ (.string rst) = WXQ9 at HX ⊢
        obtain ⟨q0, q1, q2, q3, q4⟩ := put5_cells hWX g0Q8 g1Q8 g2Q8 g3Q8 g4Q8
        have belX := put5_below hWX belQ8 (by omega)
        have qz : WXQ9.heap.size = Q8.heap.size := by rw [← hWX]; simp
        clear hWX
        have A_0X := cell_carry A_0 (Carries.of 0 belX)
        have A_1X := cell_carry A_1 (Carries.of 0 belX)
        have A_2X := cell_carry A_2 (Carries.of 0 belX)
        have A_3X := cell_carry A_3 (Carries.of 0 belX)
        have A_4X := cell_carry A_4 (Carries.of 0 belX)
        have B_0X := cell_carry B_0 (Carries.of 0 belX)
        have B_1X := cell_carry B_1 (Carries.of 0 belX)
        have B_2X := cell_carry B_2 (Carries.of 0 belX)
        have B_3X := cell_carry B_3 (Carries.of 0 belX)
        have B_4X := cell_carry B_4 (Carries.of 0 belX)
        refine hK.out _ _ ⟨A_0X, A_1X, A_2X, A_3X, A_4X, B_0X, B_1X, B_2X, B_3X, B_4X⟩ (fun hHeld => ?_)
        clear hK K
        try simp only [Act.put, List.setIfInBounds_toArray, List.set_cons_zero, List.set_cons_succ]
        refine rd10 (by kernel_rfl) (fun K hK => ?_)
        go_simp
        refine hK.out _ _ ⟨A_0X, A_1X, A_2X, A_3X, A_4X, B_0X, B_1X, B_2X, B_3X, B_4X⟩ (fun hHeld => ?_)
        clear hK K
        try simp only [Act.put, List.setIfInBounds_toArray, List.set_cons_zero, List.set_cons_succ]
        refine wpAnyH_done (by kernel_rfl) ?_ _
        exact ⟨rfl, Q2.heap.size, _, _, _, _, _, _, _, _, rfl, by omega, by omega, q0, q1, q2, q3, q4, HX.out, belX⟩
      refine ar8 (fun K hK => ?_) AllReadyH.nil
      go_simp
      have hbb : Below Q1.heap.size Q1 (Q1.alloc (.cells #[.int .i64 0, .slice none 0 0, .slice none 0 0, .slice none 0 0, .string ⟨#[]⟩] 63)) := (Below.refl _ _).alloc (Nat.le_refl _) _
      have g0Q11 : (Q1.alloc (.cells #[.int .i64 0, .slice none 0 0, .slice none 0 0, .slice none 0 0, .string ⟨#[]⟩] 63)).cell? ⟨Q1.heap.size, 0, none⟩ = some (.int .i64 0) := by simp
      have g1Q11 : (Q1.alloc (.cells #[.int .i64 0, .slice none 0 0, .slice none 0 0, .slice none 0 0, .string ⟨#[]⟩] 63)).cell? ⟨Q1.heap.size, 1, none⟩ = some (.slice none 0 0) := by simp
      have g2Q11 : (Q1.alloc (.cells #[.int .i64 0, .slice none 0 0, .slice none 0 0, .slice none 0 0, .string ⟨#[]⟩] 63)).cell? ⟨Q1.heap.size, 2, none⟩ = some (.slice none 0 0) := by simp
      have g3Q11 : (Q1.alloc (.cells #[.int .i64 0, .slice none 0 0, .slice none 0 0, .slice none 0 0, .string ⟨#[]⟩] 63)).cell? ⟨Q1.heap.size, 3, none⟩ = some (.slice none 0 0) := by simp
      have g4Q11 : (Q1.alloc (.cells #[.int .i64 0, .slice none 0 0, .slice none 0 0, .slice none 0 0, .string ⟨#[]⟩] 63)).cell? ⟨Q1.heap.size, 4, none⟩ = some (.string ⟨#[]⟩) := by simp
      have gf0Q11 : (Q1.alloc (.cells #[.int .i64 0, .slice none 0 0, .slice none 0 0, .slice none 0 0, .string ⟨#[]⟩] 63)).frozen? ⟨Q1.heap.size, 0, none⟩ = false := by simp
      have gf1Q11 : (Q1.alloc (.cells #[.int .i64 0, .slice none 0 0, .slice none 0 0, .slice none 0 0, .string ⟨#[]⟩] 63)).frozen? ⟨Q1.heap.size, 1, none⟩ = false := by simp
      have gf2Q11 : (Q1.alloc (.cells #[.int .i64 0, .slice none 0 0, .slice none 0 0, .slice none 0 0, .string ⟨#[]⟩] 63)).frozen? ⟨Q1.heap.size, 2, none⟩ = false := by simp
      have gf3Q11 : (Q1.alloc (.cells #[.int .i64 0, .slice none 0 0, .slice none 0 0, .slice none 0 0, .string ⟨#[]⟩] 63)).frozen? ⟨Q1.heap.size, 3, none⟩ = false := by simp
      have gf4Q11 : (Q1.alloc (.cells #[.int .i64 0, .slice none 0 0, .slice none 0 0, .slice none 0 0, .string ⟨#[]⟩] 63)).frozen? ⟨Q1.heap.size, 4, none⟩ = false := by simp
      have zgQ11 : Q1.heap.size < (Q1.alloc (.cells #[.int .i64 0, .slice none 0 0, .slice none 0 0, .slice none 0 0, .string ⟨#[]⟩] 63)).heap.size := by simp
      generalize Q1.alloc (.cells #[.int .i64 0, .slice none 0 0, .slice none 0 0, .slice none 0 0, .string ⟨#[]⟩] 63) = Q11 at hbb g0Q11 g1Q11 g2Q11 g3Q11 g4Q11 gf0Q11 gf1Q11 gf2Q11 gf3Q11 gf4Q11 zgQ11 ⊢
      have belQ11 := belQ1.trans (hbb.mono belQ1.size)
      have zsQ11 := hbb.size
      have A_0Q11 := cell_carry A_0Q1 (Carries.of 0 hbb)
      have A_1Q11 := cell_carry A_1Q1 (Carries.of 0 hbb)
      have A_2Q11 := cell_carry A_2Q1 (Carries.of 0 hbb)
      have A_3Q11 := cell_carry A_3Q1 (Carries.of 0 hbb)
      have A_4Q11 := cell_carry A_4Q1 (Carries.of 0 hbb)
      have B_0Q11 := cell_carry B_0Q1 (Carries.of 0 hbb)
      have B_1Q11 := cell_carry B_1Q1 (Carries.of 0 hbb)
      have B_2Q11 := cell_carry B_2Q1 (Carries.of 0 hbb)
      have B_3Q11 := cell_carry B_3Q1 (Carries.of 0 hbb)
      have B_4Q11 := cell_carry B_4Q1 (Carries.of 0 hbb)
      have H2Q11 := Lib.hid (H2Q1.out.keep (Carries.of _ hbb))
      refine hK.out _ _ ⟨A_0Q11, A_1Q11, A_2Q11, A_3Q11, A_4Q11, B_0Q11, B_1Q11, B_2Q11, B_3Q11, B_4Q11⟩ (fun hHeld => ?_)
      clear hK K
      try simp only [Act.put, List.setIfInBounds_toArray, List.set_cons_zero, List.set_cons_succ]
      refine rd3 (by kernel_rfl) (fun K hK => ?_)
      go_simp
      refine (toSTG_any _ s1 Q11 lo (HU.out.keep (Carries.of lo (hw2.trans (belQ11.mono hw2.size)))) HS1.out).mono ?_
      rintro e Q12 ⟨v3, rfl, hn, hbb⟩
      have belQ12 := belQ11.trans (hbb.mono belQ11.size)
      have zsQ12 := hbb.size
      have A_0Q12 := cell_carry A_0Q11 (Carries.of 0 hbb)
      have A_1Q12 := cell_carry A_1Q11 (Carries.of 0 hbb)
      have A_2Q12 := cell_carry A_2Q11 (Carries.of 0 hbb)
      have A_3Q12 := cell_carry A_3Q11 (Carries.of 0 hbb)
      have A_4Q12 := cell_carry A_4Q11 (Carries.of 0 hbb)
      have B_0Q12 := cell_carry B_0Q11 (Carries.of 0 hbb)
      have B_1Q12 := cell_carry B_1Q11 (Carries.of 0 hbb)
      have B_2Q12 := cell_carry B_2Q11 (Carries.of 0 hbb)
      have B_3Q12 := cell_carry B_3Q11 (Carries.of 0 hbb)
      have B_4Q12 := cell_carry B_4Q11 (Carries.of 0 hbb)
      have g0Q12 := cell_carry g0Q11 (Carries.of 0 hbb)
      have g1Q12 := cell_carry g1Q11 (Carries.of 0 hbb)
      have g2Q12 := cell_carry g2Q11 (Carries.of 0 hbb)
      have g3Q12 := cell_carry g3Q11 (Carries.of 0 hbb)
      have g4Q12 := cell_carry g4Q11 (Carries.of 0 hbb)
      have gf0Q12 := (hbb.frozen (p := ⟨Q1.heap.size, 0, none⟩) (by simp; omega)).trans gf0Q11
      have gf1Q12 := (hbb.frozen (p := ⟨Q1.heap.size, 1, none⟩) (by simp; omega)).trans gf1Q11
      have gf2Q12 := (hbb.frozen (p := ⟨Q1.heap.size, 2, none⟩) (by simp; omega)).trans gf2Q11
      have gf3Q12 := (hbb.frozen (p := ⟨Q1.heap.size, 3, none⟩) (by simp; omega)).trans gf3Q11
      have gf4Q12 := (hbb.frozen (p := ⟨Q1.heap.size, 4, none⟩) (by simp; omega)).trans gf4Q11
      have H2Q12 := Lib.hid (H2Q11.out.keep (Carries.of _ hbb))
      have H3Q12 := Lib.hid (hn.low (Nat.zero_le _)); clear hn hbb
      refine hK.out _ _ ⟨A_0Q12, A_1Q12, A_2Q12, A_3Q12, A_4Q12, B_0Q12, B_1Q12, B_2Q12, B_3Q12, B_4Q12⟩ (fun hHeld => ?_)
      clear hK K
      try simp only [Act.put, List.setIfInBounds_toArray, List.set_cons_zero, List.set_cons_succ]
      refine rd4 (by kernel_rfl) (fun K hK => ?_)
      go_simp
      refine (specUnionSTGs_any _ _ s0 s1 Q12 0 H2Q12.out H3Q12.out HS.out HS1.out).mono ?_
      rintro e Q13 ⟨uw, rfl, hiw0, hbb⟩
      have hiw := hiw0
      clear hiw0
      rw [← HR.out.1] at hiw
      rw [← HR.out.2]
      obtain ⟨ra0, rc0, ra1, rc1, ra2, rc2, rfl, q1_, q2_, q3_⟩ := hiw.form
      clear q1_ q2_ q3_
      rw [← HQ.out.1, ← HQ.out.2.1, ← HQ.out.2.2.1, ← HQ.out.2.2.2.1, ← HQ.out.2.2.2.2] at hiw ⊢
      have belQ13 := belQ12.trans (hbb.mono belQ12.size)
      have zsQ13 := hbb.size
      have A_0Q13 := cell_carry A_0Q12 (Carries.of 0 hbb)
      have A_1Q13 := cell_carry A_1Q12 (Carries.of 0 hbb)
      have A_2Q13 := cell_carry A_2Q12 (Carries.of 0 hbb)
      have A_3Q13 := cell_carry A_3Q12 (Carries.of 0 hbb)
      have A_4Q13 := cell_carry A_4Q12 (Carries.of 0 hbb)
      have B_0Q13 := cell_carry B_0Q12 (Carries.of 0 hbb)
      have B_1Q13 := cell_carry B_1Q12 (Carries.of 0 hbb)
      have B_2Q13 := cell_carry B_2Q12 (Carries.of 0 hbb)
      have B_3Q13 := cell_carry B_3Q12 (Carries.of 0 hbb)
      have B_4Q13 := cell_carry B_4Q12 (Carries.of 0 hbb)
      have g0Q13 := cell_carry g0Q12 (Carries.of 0 hbb)
      have g1Q13 := cell_carry g1Q12 (Carries.of 0 hbb)
      have g2Q13 := cell_carry g2Q12 (Carries.of 0 hbb)
      have g3Q13 := cell_carry g3Q12 (Carries.of 0 hbb)
      have g4Q13 := cell_carry g4Q12 (Carries.of 0 hbb)
      have gf0Q13 := (hbb.frozen (p := ⟨Q1.heap.size, 0, none⟩) (by simp; omega)).trans gf0Q12
      have gf1Q13 := (hbb.frozen (p := ⟨Q1.heap.size, 1, none⟩) (by simp; omega)).trans gf1Q12
      have gf2Q13 := (hbb.frozen (p := ⟨Q1.heap.size, 2, none⟩) (by simp; omega)).trans gf2Q12
      have gf3Q13 := (hbb.frozen (p := ⟨Q1.heap.size, 3, none⟩) (by simp; omega)).trans gf3Q12
      have gf4Q13 := (hbb.frozen (p := ⟨Q1.heap.size, 4, none⟩) (by simp; omega)).trans gf4Q12
      have HWQ13 := Lib.hid hiw; clear hiw hbb
      refine hK.out _ _ ⟨A_0Q13, A_1Q13, A_2Q13, A_3Q13, A_4Q13, B_0Q13, B_1Q13, B_2Q13, B_3Q13, B_4Q13⟩ (fun hHeld => ?_)
      clear hK K
      try simp only [Act.put, List.setIfInBounds_toArray, List.set_cons_zero, List.set_cons_succ]
      refine tk5 (v := ?_) (by kernel_rfl) (by kernel_rfl) (by kernel_rfl) (by first | exact fun _ _ _ h => h | exact fun _ _ _ h => absurd h.1 (by simp)) (Or.inl ⟨by rfl, ?_⟩) (by assumption) ?_
      rotate_left 1
      focus (intro wx hSw; (try dsimp only at hSw); go_simp; try (with_reducible rfl))
      try simp only [Act.put, List.setIfInBounds_toArray, List.set_cons_zero, List.set_cons_succ]
      refine tk6 (v := ?_) (by kernel_rfl) (by kernel_rfl) (by kernel_rfl) (by first | exact fun _ _ _ h => h | exact fun _ _ _ h => absurd h.1 (by simp)) (Or.inl ⟨by rfl, ?_⟩) (by assumption) ?_
      rotate_left 1
      focus (intro wx hSw; (try dsimp only at hSw); go_simp; try (with_reducible rfl))
      try simp only [Act.put, List.setIfInBounds_toArray, List.set_cons_zero, List.set_cons_succ]
      refine tk7 (v := ?_) (by kernel_rfl) (by kernel_rfl) (by kernel_rfl) (by first | exact fun _ _ _ h => h | exact fun _ _ _ h => absurd h.1 (by simp)) (Or.inl ⟨by rfl, ?_⟩) (by assumption) ?_
      rotate_left 1
      focus (intro wx hSw; (try dsimp only at hSw); go_simp; try (with_reducible rfl))
      try simp only [Act.put, List.setIfInBounds_toArray, List.set_cons_zero, List.set_cons_succ]
      refine rd9 (by kernel_rfl) (fun K hK => ?_)
      go_simp
      have HX : Hid (StgAt 0 (((((Q13.setCell ⟨Q1.heap.size, 0, none⟩ (.int .i64 rp)).setCell ⟨Q1.heap.size, 1, none⟩ (.slice ra0 rm rc0)).setCell ⟨Q1.heap.size, 2, none⟩ (.slice ra1 rns rc1)).setCell ⟨Q1.heap.size, 3, none⟩ (.slice ra2 rnl rc2)).setCell ⟨Q1.heap.size, 4, none⟩ (.string rst)) (.agg #[.int .i64 rp, .slice ra0 rm rc0, .slice ra1 rns rc1, .slice ra2 rnl rc2, .string rst]) RN) := Lib.hid ((HWQ13.out.keep ((((((Carries.refl _ _).set (p := ⟨Q1.heap.size, 0, none⟩) (by simp; omega) (.int .i64 rp)).set (p := ⟨Q1.heap.size, 1, none⟩) (by simp; omega) (.slice ra0 rm rc0)).set (p := ⟨Q1.heap.size, 2, none⟩) (by simp; omega) (.slice ra1 rns rc1)).set (p := ⟨Q1.heap.size, 3, none⟩) (by simp; omega) (.slice ra2 rnl rc2)).set (p := ⟨Q1.heap.size, 4, none⟩) (by simp; omega) (.string rst))).low (Nat.zero_le _))
      generalize hWX : ((((Q13.setCell ⟨Q1.heap.size, 0, none⟩ (.int .i64 rp)).setCell ⟨Q1.heap.size, 1, none⟩ (.slice ra0 rm rc0)).setCell ⟨Q1.heap.size, 2, none⟩ (.slice ra1 rns rc1)).setCell ⟨Q1.heap.size, 3, none⟩ (.slice ra2 rnl rc2)).setCell ⟨Q1.heap.size, 4, none⟩ (.string rst) = WXQ14 at HX ⊢
      obtain ⟨q0, q1, q2, q3, q4⟩ := put5_cells hWX g0Q13 g1Q13 g2Q13 g3Q13 g4Q13
      have belX := put5_below hWX belQ13 (by omega)
      have qz : WXQ14.heap.size = Q13.heap.size := by rw [← hWX]; simp
      clear hWX
      have A_0X := cell_carry A_0 (Carries.of 0 belX)
      have A_1X := cell_carry A_1 (Carries.of 0 belX)
      have A_2X := cell_carry A_2 (Carries.of 0 belX)
      have A_3X := cell_carry A_3 (Carries.of 0 belX)
      have A_4X := cell_carry A_4 (Carries.of 0 belX)
      have B_0X := cell_carry B_0 (Carries.of 0 belX)
      have B_1X := cell_carry B_1 (Carries.of 0 belX)
      have B_2X := cell_carry B_2 (Carries.of 0 belX)
      have B_3X := cell_carry B_3 (Carries.of 0 belX)
      have B_4X := cell_carry B_4 (Carries.of 0 belX)
      refine hK.out _ _ ⟨A_0X, A_1X, A_2X, A_3X, A_4X, B_0X, B_1X, B_2X, B_3X, B_4X⟩ (fun hHeld => ?_)
      clear hK K
      try simp only [Act.put, List.setIfInBounds_toArray, List.set_cons_zero, List.set_cons_succ]
      refine rd10 (by kernel_rfl) (fun K hK => ?_)
      go_simp
      refine hK.out _ _ ⟨A_0X, A_1X, A_2X, A_3X, A_4X, B_0X, B_1X, B_2X, B_3X, B_4X⟩ (fun hHeld => ?_)
      clear hK K
      try simp only [Act.put, List.setIfInBounds_toArray, List.set_cons_zero, List.set_cons_succ]
      refine wpAnyH_done (by kernel_rfl) ?_ _
      exact ⟨rfl, Q1.heap.size, _, _, _, _, _, _, _, _, rfl, by omega, by omega, q0, q1, q2, q3, q4, HX.out, belX⟩
    refine ar8 (fun K hK => ?_) AllReadyH.nil
    go_simp
    have hbb : Below Q0.heap.size Q0 (Q0.alloc (.cells #[.int .i64 0, .slice none 0 0, .slice none 0 0, .slice none 0 0, .string ⟨#[]⟩] 63)) := (Below.refl _ _).alloc (Nat.le_refl _) _
    have g0Q16 : (Q0.alloc (.cells #[.int .i64 0, .slice none 0 0, .slice none 0 0, .slice none 0 0, .string ⟨#[]⟩] 63)).cell? ⟨Q0.heap.size, 0, none⟩ = some (.int .i64 0) := by simp
    have g1Q16 : (Q0.alloc (.cells #[.int .i64 0, .slice none 0 0, .slice none 0 0, .slice none 0 0, .string ⟨#[]⟩] 63)).cell? ⟨Q0.heap.size, 1, none⟩ = some (.slice none 0 0) := by simp
    have g2Q16 : (Q0.alloc (.cells #[.int .i64 0, .slice none 0 0, .slice none 0 0, .slice none 0 0, .string ⟨#[]⟩] 63)).cell? ⟨Q0.heap.size, 2, none⟩ = some (.slice none 0 0) := by simp
    have g3Q16 : (Q0.alloc (.cells #[.int .i64 0, .slice none 0 0, .slice none 0 0, .slice none 0 0, .string ⟨#[]⟩] 63)).cell? ⟨Q0.heap.size, 3, none⟩ = some (.slice none 0 0) := by simp
    have g4Q16 : (Q0.alloc (.cells #[.int .i64 0, .slice none 0 0, .slice none 0 0, .slice none 0 0, .string ⟨#[]⟩] 63)).cell? ⟨Q0.heap.size, 4, none⟩ = some (.string ⟨#[]⟩) := by simp
    have gf0Q16 : (Q0.alloc (.cells #[.int .i64 0, .slice none 0 0, .slice none 0 0, .slice none 0 0, .string ⟨#[]⟩] 63)).frozen? ⟨Q0.heap.size, 0, none⟩ = false := by simp
    have gf1Q16 : (Q0.alloc (.cells #[.int .i64 0, .slice none 0 0, .slice none 0 0, .slice none 0 0, .string ⟨#[]⟩] 63)).frozen? ⟨Q0.heap.size, 1, none⟩ = false := by simp
    have gf2Q16 : (Q0.alloc (.cells #[.int .i64 0, .slice none 0 0, .slice none 0 0, .slice none 0 0, .string ⟨#[]⟩] 63)).frozen? ⟨Q0.heap.size, 2, none⟩ = false := by simp
    have gf3Q16 : (Q0.alloc (.cells #[.int .i64 0, .slice none 0 0, .slice none 0 0, .slice none 0 0, .string ⟨#[]⟩] 63)).frozen? ⟨Q0.heap.size, 3, none⟩ = false := by simp
    have gf4Q16 : (Q0.alloc (.cells #[.int .i64 0, .slice none 0 0, .slice none 0 0, .slice none 0 0, .string ⟨#[]⟩] 63)).frozen? ⟨Q0.heap.size, 4, none⟩ = false := by simp
    have zgQ16 : Q0.heap.size < (Q0.alloc (.cells #[.int .i64 0, .slice none 0 0, .slice none 0 0, .slice none 0 0, .string ⟨#[]⟩] 63)).heap.size := by simp
    generalize Q0.alloc (.cells #[.int .i64 0, .slice none 0 0, .slice none 0 0, .slice none 0 0, .string ⟨#[]⟩] 63) = Q16 at hbb g0Q16 g1Q16 g2Q16 g3Q16 g4Q16 gf0Q16 gf1Q16 gf2Q16 gf3Q16 gf4Q16 zgQ16 ⊢
    have belQ16 := belQ0.trans (hbb.mono belQ0.size)
    have zsQ16 := hbb.size
    have A_0Q16 := cell_carry A_0Q0 (Carries.of 0 hbb)
    have A_1Q16 := cell_carry A_1Q0 (Carries.of 0 hbb)
    have A_2Q16 := cell_carry A_2Q0 (Carries.of 0 hbb)
    have A_3Q16 := cell_carry A_3Q0 (Carries.of 0 hbb)
    have A_4Q16 := cell_carry A_4Q0 (Carries.of 0 hbb)
    have B_0Q16 := cell_carry B_0Q0 (Carries.of 0 hbb)
    have B_1Q16 := cell_carry B_1Q0 (Carries.of 0 hbb)
    have B_2Q16 := cell_carry B_2Q0 (Carries.of 0 hbb)
    have B_3Q16 := cell_carry B_3Q0 (Carries.of 0 hbb)
    have B_4Q16 := cell_carry B_4Q0 (Carries.of 0 hbb)
    refine hK.out _ _ ⟨A_0Q16, A_1Q16, A_2Q16, A_3Q16, A_4Q16, B_0Q16, B_1Q16, B_2Q16, B_3Q16, B_4Q16⟩ (fun hHeld => ?_)
    clear hK K
    try simp only [Act.put, List.setIfInBounds_toArray, List.set_cons_zero, List.set_cons_succ]
    refine rd1 (by kernel_rfl) (fun K hK => ?_)
    go_simp
    refine (toSTG_any _ s0 Q16 lo (HV.out.keep (Carries.of lo (hw2.trans (belQ16.mono hw2.size)))) HS.out).mono ?_
    rintro e Q17 ⟨v2, rfl, hn, hbb⟩
    have belQ17 := belQ16.trans (hbb.mono belQ16.size)
    have zsQ17 := hbb.size
    have A_0Q17 := cell_carry A_0Q16 (Carries.of 0 hbb)
    have A_1Q17 := cell_carry A_1Q16 (Carries.of 0 hbb)
    have A_2Q17 := cell_carry A_2Q16 (Carries.of 0 hbb)
    have A_3Q17 := cell_carry A_3Q16 (Carries.of 0 hbb)
    have A_4Q17 := cell_carry A_4Q16 (Carries.of 0 hbb)
    have B_0Q17 := cell_carry B_0Q16 (Carries.of 0 hbb)
    have B_1Q17 := cell_carry B_1Q16 (Carries.of 0 hbb)
    have B_2Q17 := cell_carry B_2Q16 (Carries.of 0 hbb)
    have B_3Q17 := cell_carry B_3Q16 (Carries.of 0 hbb)
    have B_4Q17 := cell_carry B_4Q16 (Carries.of 0 hbb)
    have g0Q17 := cell_carry g0Q16 (Carries.of 0 hbb)
    have g1Q17 := cell_carry g1Q16 (Carries.of 0 hbb)
    have g2Q17 := cell_carry g2Q16 (Carries.of 0 hbb)
    have g3Q17 := cell_carry g3Q16 (Carries.of 0 hbb)
    have g4Q17 := cell_carry g4Q16 (Carries.of 0 hbb)
    have gf0Q17 := (hbb.frozen (p := ⟨Q0.heap.size, 0, none⟩) (by simp; omega)).trans gf0Q16
    have gf1Q17 := (hbb.frozen (p := ⟨Q0.heap.size, 1, none⟩) (by simp; omega)).trans gf1Q16
    have gf2Q17 := (hbb.frozen (p := ⟨Q0.heap.size, 2, none⟩) (by simp; omega)).trans gf2Q16
    have gf3Q17 := (hbb.frozen (p := ⟨Q0.heap.size, 3, none⟩) (by simp; omega)).trans gf3Q16
    have gf4Q17 := (hbb.frozen (p := ⟨Q0.heap.size, 4, none⟩) (by simp; omega)).trans gf4Q16
    have H2Q17 := Lib.hid (hn.low (Nat.zero_le _)); clear hn hbb
    refine hK.out _ _ ⟨A_0Q17, A_1Q17, A_2Q17, A_3Q17, A_4Q17, B_0Q17, B_1Q17, B_2Q17, B_3Q17, B_4Q17⟩ (fun hHeld => ?_)
    clear hK K
    try simp only [Act.put, List.setIfInBounds_toArray, List.set_cons_zero, List.set_cons_succ]
    refine rd3 (by kernel_rfl) (fun K hK => ?_)
    go_simp
    refine (toSTG_any _ s1 Q17 lo (HU.out.keep (Carries.of lo (hw2.trans (belQ17.mono hw2.size)))) HS1.out).mono ?_
    rintro e Q18 ⟨v3, rfl, hn, hbb⟩
    have belQ18 := belQ17.trans (hbb.mono belQ17.size)
    have zsQ18 := hbb.size
    have A_0Q18 := cell_carry A_0Q17 (Carries.of 0 hbb)
    have A_1Q18 := cell_carry A_1Q17 (Carries.of 0 hbb)
    have A_2Q18 := cell_carry A_2Q17 (Carries.of 0 hbb)
    have A_3Q18 := cell_carry A_3Q17 (Carries.of 0 hbb)
    have A_4Q18 := cell_carry A_4Q17 (Carries.of 0 hbb)
    have B_0Q18 := cell_carry B_0Q17 (Carries.of 0 hbb)
    have B_1Q18 := cell_carry B_1Q17 (Carries.of 0 hbb)
    have B_2Q18 := cell_carry B_2Q17 (Carries.of 0 hbb)
    have B_3Q18 := cell_carry B_3Q17 (Carries.of 0 hbb)
    have B_4Q18 := cell_carry B_4Q17 (Carries.of 0 hbb)
    have g0Q18 := cell_carry g0Q17 (Carries.of 0 hbb)
    have g1Q18 := cell_carry g1Q17 (Carries.of 0 hbb)
    have g2Q18 := cell_carry g2Q17 (Carries.of 0 hbb)
    have g3Q18 := cell_carry g3Q17 (Carries.of 0 hbb)
    have g4Q18 := cell_carry g4Q17 (Carries.of 0 hbb)
    have gf0Q18 := (hbb.frozen (p := ⟨Q0.heap.size, 0, none⟩) (by simp; omega)).trans gf0Q17
    have gf1Q18 := (hbb.frozen (p := ⟨Q0.heap.size, 1, none⟩) (by simp; omega)).trans gf1Q17
    have gf2Q18 := (hbb.frozen (p := ⟨Q0.heap.size, 2, none⟩) (by simp; omega)).trans gf2Q17
    have gf3Q18 := (hbb.frozen (p := ⟨Q0.heap.size, 3, none⟩) (by simp; omega)).trans gf3Q17
    have gf4Q18 := (hbb.frozen (p := ⟨Q0.heap.size, 4, none⟩) (by simp; omega)).trans gf4Q17
    have H2Q18 := Lib.hid (H2Q17.out.keep (Carries.of _ hbb))
    have H3Q18 := Lib.hid (hn.low (Nat.zero_le _)); clear hn hbb
    refine hK.out _ _ ⟨A_0Q18, A_1Q18, A_2Q18, A_3Q18, A_4Q18, B_0Q18, B_1Q18, B_2Q18, B_3Q18, B_4Q18⟩ (fun hHeld => ?_)
    clear hK K
    try simp only [Act.put, List.setIfInBounds_toArray, List.set_cons_zero, List.set_cons_succ]
    refine rd4 (by kernel_rfl) (fun K hK => ?_)
    go_simp
    refine (specUnionSTGs_any _ _ s0 s1 Q18 0 H2Q18.out H3Q18.out HS.out HS1.out).mono ?_
    rintro e Q19 ⟨uw, rfl, hiw0, hbb⟩
    have hiw := hiw0
    clear hiw0
    rw [← HR.out.1] at hiw
    rw [← HR.out.2]
    obtain ⟨ra0, rc0, ra1, rc1, ra2, rc2, rfl, q1_, q2_, q3_⟩ := hiw.form
    clear q1_ q2_ q3_
    rw [← HQ.out.1, ← HQ.out.2.1, ← HQ.out.2.2.1, ← HQ.out.2.2.2.1, ← HQ.out.2.2.2.2] at hiw ⊢
    have belQ19 := belQ18.trans (hbb.mono belQ18.size)
    have zsQ19 := hbb.size
    have A_0Q19 := cell_carry A_0Q18 (Carries.of 0 hbb)
    have A_1Q19 := cell_carry A_1Q18 (Carries.of 0 hbb)
    have A_2Q19 := cell_carry A_2Q18 (Carries.of 0 hbb)
    have A_3Q19 := cell_carry A_3Q18 (Carries.of 0 hbb)
    have A_4Q19 := cell_carry A_4Q18 (Carries.of 0 hbb)
    have B_0Q19 := cell_carry B_0Q18 (Carries.of 0 hbb)
    have B_1Q19 := cell_carry B_1Q18 (Carries.of 0 hbb)
    have B_2Q19 := cell_carry B_2Q18 (Carries.of 0 hbb)
    have B_3Q19 := cell_carry B_3Q18 (Carries.of 0 hbb)
    have B_4Q19 := cell_carry B_4Q18 (Carries.of 0 hbb)
    have g0Q19 := cell_carry g0Q18 (Carries.of 0 hbb)
    have g1Q19 := cell_carry g1Q18 (Carries.of 0 hbb)
    have g2Q19 := cell_carry g2Q18 (Carries.of 0 hbb)
    have g3Q19 := cell_carry g3Q18 (Carries.of 0 hbb)
    have g4Q19 := cell_carry g4Q18 (Carries.of 0 hbb)
    have gf0Q19 := (hbb.frozen (p := ⟨Q0.heap.size, 0, none⟩) (by simp; omega)).trans gf0Q18
    have gf1Q19 := (hbb.frozen (p := ⟨Q0.heap.size, 1, none⟩) (by simp; omega)).trans gf1Q18
    have gf2Q19 := (hbb.frozen (p := ⟨Q0.heap.size, 2, none⟩) (by simp; omega)).trans gf2Q18
    have gf3Q19 := (hbb.frozen (p := ⟨Q0.heap.size, 3, none⟩) (by simp; omega)).trans gf3Q18
    have gf4Q19 := (hbb.frozen (p := ⟨Q0.heap.size, 4, none⟩) (by simp; omega)).trans gf4Q18
    have HWQ19 := Lib.hid hiw; clear hiw hbb
    refine hK.out _ _ ⟨A_0Q19, A_1Q19, A_2Q19, A_3Q19, A_4Q19, B_0Q19, B_1Q19, B_2Q19, B_3Q19, B_4Q19⟩ (fun hHeld => ?_)
    clear hK K
    try simp only [Act.put, List.setIfInBounds_toArray, List.set_cons_zero, List.set_cons_succ]
    refine tk5 (v := ?_) (by kernel_rfl) (by kernel_rfl) (by kernel_rfl) (by first | exact fun _ _ _ h => h | exact fun _ _ _ h => absurd h.1 (by simp)) (Or.inl ⟨by rfl, ?_⟩) (by assumption) ?_
    rotate_left 1
    focus (intro wx hSw; (try dsimp only at hSw); go_simp; try (with_reducible rfl))
    try simp only [Act.put, List.setIfInBounds_toArray, List.set_cons_zero, List.set_cons_succ]
    refine tk6 (v := ?_) (by kernel_rfl) (by kernel_rfl) (by kernel_rfl) (by first | exact fun _ _ _ h => h | exact fun _ _ _ h => absurd h.1 (by simp)) (Or.inl ⟨by rfl, ?_⟩) (by assumption) ?_
    rotate_left 1
    focus (intro wx hSw; (try dsimp only at hSw); go_simp; try (with_reducible rfl))
    try simp only [Act.put, List.setIfInBounds_toArray, List.set_cons_zero, List.set_cons_succ]
    refine tk7 (v := ?_) (by kernel_rfl) (by kernel_rfl) (by kernel_rfl) (by first | exact fun _ _ _ h => h | exact fun _ _ _ h => absurd h.1 (by simp)) (Or.inl ⟨by rfl, ?_⟩) (by assumption) ?_
    rotate_left 1
    focus (intro wx hSw; (try dsimp only at hSw); go_simp; try (with_reducible rfl))
    try simp only [Act.put, List.setIfInBounds_toArray, List.set_cons_zero, List.set_cons_succ]
    refine rd9 (by kernel_rfl) (fun K hK => ?_)
    go_simp
    have HX : Hid (StgAt 0 (((((Q19.setCell ⟨Q0.heap.size, 0, none⟩ (.int .i64 rp)).setCell ⟨Q0.heap.size, 1, none⟩ (.slice ra0 rm rc0)).setCell ⟨Q0.heap.size, 2, none⟩ (.slice ra1 rns rc1)).setCell ⟨Q0.heap.size, 3, none⟩ (.slice ra2 rnl rc2)).setCell ⟨Q0.heap.size, 4, none⟩ (.string rst)) (.agg #[.int .i64 rp, .slice ra0 rm rc0, .slice ra1 rns rc1, .slice ra2 rnl rc2, .string rst]) RN) := Lib.hid ((HWQ19.out.keep ((((((Carries.refl _ _).set (p := ⟨Q0.heap.size, 0, none⟩) (by simp; omega) (.int .i64 rp)).set (p := ⟨Q0.heap.size, 1, none⟩) (by simp; omega) (.slice ra0 rm rc0)).set (p := ⟨Q0.heap.size, 2, none⟩) (by simp; omega) (.slice ra1 rns rc1)).set (p := ⟨Q0.heap.size, 3, none⟩) (by simp; omega) (.slice ra2 rnl rc2)).set (p := ⟨Q0.heap.size, 4, none⟩) (by simp; omega) (.string rst))).low (Nat.zero_le _))
    generalize hWX : ((((Q19.setCell ⟨Q0.heap.size, 0, none⟩ (.int .i64 rp)).setCell ⟨Q0.heap.size, 1, none⟩ (.slice ra0 rm rc0)).setCell ⟨Q0.heap.size, 2, none⟩ (.slice ra1 rns rc1)).setCell ⟨Q0.heap.size, 3, none⟩ (.slice ra2 rnl rc2)).setCell ⟨Q0.heap.size, 4, none⟩ (.string rst) = WXQ20 at HX ⊢
    obtain ⟨q0, q1, q2, q3, q4⟩ := put5_cells hWX g0Q19 g1Q19 g2Q19 g3Q19 g4Q19
    have belX := put5_below hWX belQ19 (by omega)
    have qz : WXQ20.heap.size = Q19.heap.size := by rw [← hWX]; simp
    clear hWX
    have A_0X := cell_carry A_0 (Carries.of 0 belX)
    have A_1X := cell_carry A_1 (Carries.of 0 belX)
    have A_2X := cell_carry A_2 (Carries.of 0 belX)
    have A_3X := cell_carry A_3 (Carries.of 0 belX)
    have A_4X := cell_carry A_4 (Carries.of 0 belX)
    have B_0X := cell_carry B_0 (Carries.of 0 belX)
    have B_1X := cell_carry B_1 (Carries.of 0 belX)
    have B_2X := cell_carry B_2 (Carries.of 0 belX)
    have B_3X := cell_carry B_3 (Carries.of 0 belX)
    have B_4X := cell_carry B_4 (Carries.of 0 belX)
    refine hK.out _ _ ⟨A_0X, A_1X, A_2X, A_3X, A_4X, B_0X, B_1X, B_2X, B_3X, B_4X⟩ (fun hHeld => ?_)
    clear hK K
    try simp only [Act.put, List.setIfInBounds_toArray, List.set_cons_zero, List.set_cons_succ]
    refine rd10 (by kernel_rfl) (fun K hK => ?_)
    go_simp
    refine hK.out _ _ ⟨A_0X, A_1X, A_2X, A_3X, A_4X, B_0X, B_1X, B_2X, B_3X, B_4X⟩ (fun hHeld => ?_)
    clear hK K
    try simp only [Act.put, List.setIfInBounds_toArray, List.set_cons_zero, List.set_cons_succ]
    refine wpAnyH_done (by kernel_rfl) ?_ _
    exact ⟨rfl, Q0.heap.size, _, _, _, _, _, _, _, _, rfl, by omega, by omega, q0, q1, q2, q3, q4, HX.out, belX⟩
  rintro e a' w3 ⟨rfl, G8, v28, v30, wa0, wc0, wa1, wc1, wa2, wc2, rfl, zA0, zA1, W_0, W_1, W_2, W_3, W_4, hiw, hb⟩
  have hw3 : Below w.heap.size w w3 := hw2.trans (hb.mono hw2.size)
  have A_0 := cell_carry A_0 (Carries.of 0 hb)
  have A_1 := cell_carry A_1 (Carries.of 0 hb)
  have A_2 := cell_carry A_2 (Carries.of 0 hb)
  have A_3 := cell_carry A_3 (Carries.of 0 hb)
  have A_4 := cell_carry A_4 (Carries.of 0 hb)
  have B_0 := cell_carry B_0 (Carries.of 0 hb)
  have B_1 := cell_carry B_1 (Carries.of 0 hb)
  have B_2 := cell_carry B_2 (Carries.of 0 hb)
  have B_3 := cell_carry B_3 (Carries.of 0 hb)
  have B_4 := cell_carry B_4 (Carries.of 0 hb)
  have z3 : w2.heap.size ≤ w3.heap.size := hb.size
  clear hb hw2  
  have HW := Lib.hid hiw; clear hiw
  have hk3 : Below w3.heap.size w3 w3 := Below.refl _ _
  go_wp2_with fail
  refine (toSTG_ow _ s0 _ lo (HV.out.keep (Carries.of lo hw3)) HS.out).mono ?_
  rintro e w4 ⟨v4, rfl, how, hb⟩
  have hat : StgAt w3.heap.size w4 v4 s0 := by obtain ⟨_, _, _, _, _, _, _, _, _, _, _, _, _, _, _, h⟩ := how; exact h
  obtain ⟨xa0, xc0, xa1, xc1, xa2, xc2, rfl, q1_, q2_, q3_⟩ := hat.form
  clear q1_ q2_ q3_
  rw [← HP0.out.1, ← HP0.out.2.1, ← HP0.out.2.2.1, ← HP0.out.2.2.2.1, ← HP0.out.2.2.2.2] at how hat ⊢
  have hw4 : Below w.heap.size w w4 := hw3.trans (hb.mono hw3.size)
  have A_0 := cell_carry A_0 (Carries.of 0 hb)
  have A_1 := cell_carry A_1 (Carries.of 0 hb)
  have A_2 := cell_carry A_2 (Carries.of 0 hb)
  have A_3 := cell_carry A_3 (Carries.of 0 hb)
  have A_4 := cell_carry A_4 (Carries.of 0 hb)
  have B_0 := cell_carry B_0 (Carries.of 0 hb)
  have B_1 := cell_carry B_1 (Carries.of 0 hb)
  have B_2 := cell_carry B_2 (Carries.of 0 hb)
  have B_3 := cell_carry B_3 (Carries.of 0 hb)
  have B_4 := cell_carry B_4 (Carries.of 0 hb)
  have W_0 := cell_carry W_0 (Carries.of 0 hb)
  have W_1 := cell_carry W_1 (Carries.of 0 hb)
  have W_2 := cell_carry W_2 (Carries.of 0 hb)
  have W_3 := cell_carry W_3 (Carries.of 0 hb)
  have W_4 := cell_carry W_4 (Carries.of 0 hb)
  have z4 : w3.heap.size ≤ w4.heap.size := hb.size
  have hk4 : Below w3.heap.size w3 w4 := hk3.trans (hb.mono hk3.size)
  clear hb hw3 hk3 
  have HOHX := Lib.hid how; clear how
  have SX4 := Lib.hid (Same.refl w3.heap.size w4)
  have HX4 := Lib.hid (hat.low (Nat.zero_le _)); clear hat
  have hal : Below w4.heap.size w4 (w4.alloc (.cells #[.int .i64 p0, .slice xa0 m0 xc0, .slice xa1 n0 xc1, .slice xa2 l0 xc2, .string t0] 63)) := (Below.refl _ _).alloc (Nat.le_refl _) _
  have A_0' := cell_carry A_0 (Carries.of 0 hal)
  have A_1' := cell_carry A_1 (Carries.of 0 hal)
  have A_2' := cell_carry A_2 (Carries.of 0 hal)
  have A_3' := cell_carry A_3 (Carries.of 0 hal)
  have A_4' := cell_carry A_4 (Carries.of 0 hal)
  have B_0' := cell_carry B_0 (Carries.of 0 hal)
  have B_1' := cell_carry B_1 (Carries.of 0 hal)
  have B_2' := cell_carry B_2 (Carries.of 0 hal)
  have B_3' := cell_carry B_3 (Carries.of 0 hal)
  have B_4' := cell_carry B_4 (Carries.of 0 hal)
  have W_0' := cell_carry W_0 (Carries.of 0 hal)
  have W_1' := cell_carry W_1 (Carries.of 0 hal)
  have W_2' := cell_carry W_2 (Carries.of 0 hal)
  have W_3' := cell_carry W_3 (Carries.of 0 hal)
  have W_4' := cell_carry W_4 (Carries.of 0 hal)
  go_wp2_with fail
  have X_0 : (w4.alloc (.cells #[.int .i64 p0, .slice xa0 m0 xc0, .slice xa1 n0 xc1, .slice xa2 l0 xc2, .string t0] 63)).cell? ⟨w4.heap.size, 0, none⟩ = some (.int .i64 p0) := by simp
  have X_1 : (w4.alloc (.cells #[.int .i64 p0, .slice xa0 m0 xc0, .slice xa1 n0 xc1, .slice xa2 l0 xc2, .string t0] 63)).cell? ⟨w4.heap.size, 1, none⟩ = some (.slice xa0 m0 xc0) := by simp
  have X_2 : (w4.alloc (.cells #[.int .i64 p0, .slice xa0 m0 xc0, .slice xa1 n0 xc1, .slice xa2 l0 xc2, .string t0] 63)).cell? ⟨w4.heap.size, 2, none⟩ = some (.slice xa1 n0 xc1) := by simp
  have X_3 : (w4.alloc (.cells #[.int .i64 p0, .slice xa0 m0 xc0, .slice xa1 n0 xc1, .slice xa2 l0 xc2, .string t0] 63)).cell? ⟨w4.heap.size, 3, none⟩ = some (.slice xa2 l0 xc2) := by simp
  have X_4 : (w4.alloc (.cells #[.int .i64 p0, .slice xa0 m0 xc0, .slice xa1 n0 xc1, .slice xa2 l0 xc2, .string t0] 63)).cell? ⟨w4.heap.size, 4, none⟩ = some (.string t0) := by simp
  have zzw5 : w4.heap.size < (w4.alloc (.cells #[.int .i64 p0, .slice xa0 m0 xc0, .slice xa1 n0 xc1, .slice xa2 l0 xc2, .string t0] 63)).heap.size := by simp
  clear A_0 A_1 A_2 A_3 A_4 B_0 B_1 B_2 B_3 B_4 W_0 W_1 W_2 W_3 W_4
  generalize w4.alloc (.cells #[.int .i64 p0, .slice xa0 m0 xc0, .slice xa1 n0 xc1, .slice xa2 l0 xc2, .string t0] 63) = w5 at hal A_0' A_1' A_2' A_3' A_4' B_0' B_1' B_2' B_3' B_4' W_0' W_1' W_2' W_3' W_4' X_0 X_1 X_2 X_3 X_4 zzw5 ⊢
  have A_0 := A_0'
  have A_1 := A_1'
  have A_2 := A_2'
  have A_3 := A_3'
  have A_4 := A_4'
  have B_0 := B_0'
  have B_1 := B_1'
  have B_2 := B_2'
  have B_3 := B_3'
  have B_4 := B_4'
  have W_0 := W_0'
  have W_1 := W_1'
  have W_2 := W_2'
  have W_3 := W_3'
  have W_4 := W_4'
  clear A_0' A_1' A_2' A_3' A_4' B_0' B_1' B_2' B_3' B_4' W_0' W_1' W_2' W_3' W_4'
  have hw5 : Below w.heap.size w w5 := hw4.trans (hal.mono hw4.size)
  have z5 : w4.heap.size ≤ w5.heap.size := hal.size
  have HX5 := Lib.hid (HX4.out.keep (Carries.of _ hal))
  have SX5 := Lib.hid (SX4.out.trans (Same.of _ hal))
  have hk5 : Below w3.heap.size w3 w5 := hk4.trans (hal.mono hk4.size)
  clear hal hw4 hk4 HX4 SX4
  refine (toSTG_ow _ s1 _ lo (HU.out.keep (Carries.of lo hw5)) HS1.out).mono ?_
  rintro e w6 ⟨v6, rfl, how, hb⟩
  have hat : StgAt w5.heap.size w6 v6 s1 := by obtain ⟨_, _, _, _, _, _, _, _, _, _, _, _, _, _, _, h⟩ := how; exact h
  obtain ⟨ya0, yc0, ya1, yc1, ya2, yc2, rfl, q1_, q2_, q3_⟩ := hat.form
  clear q1_ q2_ q3_
  rw [← HP1.out.1, ← HP1.out.2.1, ← HP1.out.2.2.1, ← HP1.out.2.2.2.1, ← HP1.out.2.2.2.2] at how hat ⊢
  have hw6 : Below w.heap.size w w6 := hw5.trans (hb.mono hw5.size)
  have A_0 := cell_carry A_0 (Carries.of 0 hb)
  have A_1 := cell_carry A_1 (Carries.of 0 hb)
  have A_2 := cell_carry A_2 (Carries.of 0 hb)
  have A_3 := cell_carry A_3 (Carries.of 0 hb)
  have A_4 := cell_carry A_4 (Carries.of 0 hb)
  have B_0 := cell_carry B_0 (Carries.of 0 hb)
  have B_1 := cell_carry B_1 (Carries.of 0 hb)
  have B_2 := cell_carry B_2 (Carries.of 0 hb)
  have B_3 := cell_carry B_3 (Carries.of 0 hb)
  have B_4 := cell_carry B_4 (Carries.of 0 hb)
  have W_0 := cell_carry W_0 (Carries.of 0 hb)
  have W_1 := cell_carry W_1 (Carries.of 0 hb)
  have W_2 := cell_carry W_2 (Carries.of 0 hb)
  have W_3 := cell_carry W_3 (Carries.of 0 hb)
  have W_4 := cell_carry W_4 (Carries.of 0 hb)
  have X_0 := cell_carry X_0 (Carries.of 0 hb)
  have X_1 := cell_carry X_1 (Carries.of 0 hb)
  have X_2 := cell_carry X_2 (Carries.of 0 hb)
  have X_3 := cell_carry X_3 (Carries.of 0 hb)
  have X_4 := cell_carry X_4 (Carries.of 0 hb)
  have z6 : w5.heap.size ≤ w6.heap.size := hb.size
  have HX6 := Lib.hid (HX5.out.keep (Carries.of _ hb))
  have SX6 := Lib.hid (SX5.out.trans (Same.of _ hb))
  have hk6 : Below w3.heap.size w3 w6 := hk5.trans (hb.mono hk5.size)
  clear hb hw5 hk5 HX5 SX5
  have HOHY := Lib.hid how; clear how
  have SY6 := Lib.hid (Same.refl w5.heap.size w6)
  have HY6 := Lib.hid (hat.low (Nat.zero_le _)); clear hat
  have hal : Below w6.heap.size w6 (w6.alloc (.cells #[.int .i64 p1, .slice ya0 m1 yc0, .slice ya1 n1 yc1, .slice ya2 l1 yc2, .string t1] 63)) := (Below.refl _ _).alloc (Nat.le_refl _) _
  have A_0' := cell_carry A_0 (Carries.of 0 hal)
  have A_1' := cell_carry A_1 (Carries.of 0 hal)
  have A_2' := cell_carry A_2 (Carries.of 0 hal)
  have A_3' := cell_carry A_3 (Carries.of 0 hal)
  have A_4' := cell_carry A_4 (Carries.of 0 hal)
  have B_0' := cell_carry B_0 (Carries.of 0 hal)
  have B_1' := cell_carry B_1 (Carries.of 0 hal)
  have B_2' := cell_carry B_2 (Carries.of 0 hal)
  have B_3' := cell_carry B_3 (Carries.of 0 hal)
  have B_4' := cell_carry B_4 (Carries.of 0 hal)
  have W_0' := cell_carry W_0 (Carries.of 0 hal)
  have W_1' := cell_carry W_1 (Carries.of 0 hal)
  have W_2' := cell_carry W_2 (Carries.of 0 hal)
  have W_3' := cell_carry W_3 (Carries.of 0 hal)
  have W_4' := cell_carry W_4 (Carries.of 0 hal)
  have X_0' := cell_carry X_0 (Carries.of 0 hal)
  have X_1' := cell_carry X_1 (Carries.of 0 hal)
  have X_2' := cell_carry X_2 (Carries.of 0 hal)
  have X_3' := cell_carry X_3 (Carries.of 0 hal)
  have X_4' := cell_carry X_4 (Carries.of 0 hal)
  go_wp2_with fail
  have Y_0 : (w6.alloc (.cells #[.int .i64 p1, .slice ya0 m1 yc0, .slice ya1 n1 yc1, .slice ya2 l1 yc2, .string t1] 63)).cell? ⟨w6.heap.size, 0, none⟩ = some (.int .i64 p1) := by simp
  have Y_1 : (w6.alloc (.cells #[.int .i64 p1, .slice ya0 m1 yc0, .slice ya1 n1 yc1, .slice ya2 l1 yc2, .string t1] 63)).cell? ⟨w6.heap.size, 1, none⟩ = some (.slice ya0 m1 yc0) := by simp
  have Y_2 : (w6.alloc (.cells #[.int .i64 p1, .slice ya0 m1 yc0, .slice ya1 n1 yc1, .slice ya2 l1 yc2, .string t1] 63)).cell? ⟨w6.heap.size, 2, none⟩ = some (.slice ya1 n1 yc1) := by simp
  have Y_3 : (w6.alloc (.cells #[.int .i64 p1, .slice ya0 m1 yc0, .slice ya1 n1 yc1, .slice ya2 l1 yc2, .string t1] 63)).cell? ⟨w6.heap.size, 3, none⟩ = some (.slice ya2 l1 yc2) := by simp
  have Y_4 : (w6.alloc (.cells #[.int .i64 p1, .slice ya0 m1 yc0, .slice ya1 n1 yc1, .slice ya2 l1 yc2, .string t1] 63)).cell? ⟨w6.heap.size, 4, none⟩ = some (.string t1) := by simp
  have zzw7 : w6.heap.size < (w6.alloc (.cells #[.int .i64 p1, .slice ya0 m1 yc0, .slice ya1 n1 yc1, .slice ya2 l1 yc2, .string t1] 63)).heap.size := by simp
  clear A_0 A_1 A_2 A_3 A_4 B_0 B_1 B_2 B_3 B_4 W_0 W_1 W_2 W_3 W_4 X_0 X_1 X_2 X_3 X_4
  generalize w6.alloc (.cells #[.int .i64 p1, .slice ya0 m1 yc0, .slice ya1 n1 yc1, .slice ya2 l1 yc2, .string t1] 63) = w7 at hal A_0' A_1' A_2' A_3' A_4' B_0' B_1' B_2' B_3' B_4' W_0' W_1' W_2' W_3' W_4' X_0' X_1' X_2' X_3' X_4' Y_0 Y_1 Y_2 Y_3 Y_4 zzw7 ⊢
  have A_0 := A_0'
  have A_1 := A_1'
  have A_2 := A_2'
  have A_3 := A_3'
  have A_4 := A_4'
  have B_0 := B_0'
  have B_1 := B_1'
  have B_2 := B_2'
  have B_3 := B_3'
  have B_4 := B_4'
  have W_0 := W_0'
  have W_1 := W_1'
  have W_2 := W_2'
  have W_3 := W_3'
  have W_4 := W_4'
  have X_0 := X_0'
  have X_1 := X_1'
  have X_2 := X_2'
  have X_3 := X_3'
  have X_4 := X_4'
  clear A_0' A_1' A_2' A_3' A_4' B_0' B_1' B_2' B_3' B_4' W_0' W_1' W_2' W_3' W_4' X_0' X_1' X_2' X_3' X_4'
  have hw7 : Below w.heap.size w w7 := hw6.trans (hal.mono hw6.size)
  have z7 : w6.heap.size ≤ w7.heap.size := hal.size
  have HX7 := Lib.hid (HX6.out.keep (Carries.of _ hal))
  have HY7 := Lib.hid (HY6.out.keep (Carries.of _ hal))
  have SX7 := Lib.hid (SX6.out.trans (Same.of _ hal))
  have SY7 := Lib.hid (SY6.out.trans (Same.of _ hal))
  have hk7 : Below w3.heap.size w3 w7 := hk6.trans (hal.mono hk6.size)
  clear hal hw6 hk6 HX6 HY6 SX6 SY6
  refine (UnionSTGs_any _ _ s0 s1 w7 0 HX7.out HY7.out HS.out HS1.out).mono ?_
  rintro e w8 ⟨vg, rfl, hig, hb⟩
  rw [← HR.out.1] at hig
  rw [← HR.out.2]
  obtain ⟨ga0, gc0, ga1, gc1, ga2, gc2, rfl, q1_, q2_, q3_⟩ := hig.at.form
  clear q1_ q2_ q3_
  rw [← HQ.out.1, ← HQ.out.2.1, ← HQ.out.2.2.1, ← HQ.out.2.2.2.1, ← HQ.out.2.2.2.2] at hig ⊢
  have hw8 : Below w.heap.size w w8 := hw7.trans (hb.mono hw7.size)
  have A_0 := cell_carry A_0 (Carries.of 0 hb)
  have A_1 := cell_carry A_1 (Carries.of 0 hb)
  have A_2 := cell_carry A_2 (Carries.of 0 hb)
  have A_3 := cell_carry A_3 (Carries.of 0 hb)
  have A_4 := cell_carry A_4 (Carries.of 0 hb)
  have B_0 := cell_carry B_0 (Carries.of 0 hb)
  have B_1 := cell_carry B_1 (Carries.of 0 hb)
  have B_2 := cell_carry B_2 (Carries.of 0 hb)
  have B_3 := cell_carry B_3 (Carries.of 0 hb)
  have B_4 := cell_carry B_4 (Carries.of 0 hb)
  have W_0 := cell_carry W_0 (Carries.of 0 hb)
  have W_1 := cell_carry W_1 (Carries.of 0 hb)
  have W_2 := cell_carry W_2 (Carries.of 0 hb)
  have W_3 := cell_carry W_3 (Carries.of 0 hb)
  have W_4 := cell_carry W_4 (Carries.of 0 hb)
  have X_0 := cell_carry X_0 (Carries.of 0 hb)
  have X_1 := cell_carry X_1 (Carries.of 0 hb)
  have X_2 := cell_carry X_2 (Carries.of 0 hb)
  have X_3 := cell_carry X_3 (Carries.of 0 hb)
  have X_4 := cell_carry X_4 (Carries.of 0 hb)
  have Y_0 := cell_carry Y_0 (Carries.of 0 hb)
  have Y_1 := cell_carry Y_1 (Carries.of 0 hb)
  have Y_2 := cell_carry Y_2 (Carries.of 0 hb)
  have Y_3 := cell_carry Y_3 (Carries.of 0 hb)
  have Y_4 := cell_carry Y_4 (Carries.of 0 hb)
  have z8 : w7.heap.size ≤ w8.heap.size := hb.size
  have HX8 := Lib.hid (HX7.out.keep (Carries.of _ hb))
  have HY8 := Lib.hid (HY7.out.keep (Carries.of _ hb))
  have SX8 := Lib.hid (SX7.out.trans (Same.of _ hb))
  have SY8 := Lib.hid (SY7.out.trans (Same.of _ hb))
  have hk8 : Below w3.heap.size w3 w8 := hk7.trans (hb.mono hk7.size)
  clear hb hw7 hk7 HX7 HY7 SX7 SY7
  have HG8 := Lib.hid hig; clear hig
  have hal : Below w8.heap.size w8 (w8.alloc (.cells #[.int .i64 rp, .slice ga0 rm gc0, .slice ga1 rns gc1, .slice ga2 rnl gc2, .string rst] 63)) := (Below.refl _ _).alloc (Nat.le_refl _) _
  have A_0' := cell_carry A_0 (Carries.of 0 hal)
  have A_1' := cell_carry A_1 (Carries.of 0 hal)
  have A_2' := cell_carry A_2 (Carries.of 0 hal)
  have A_3' := cell_carry A_3 (Carries.of 0 hal)
  have A_4' := cell_carry A_4 (Carries.of 0 hal)
  have B_0' := cell_carry B_0 (Carries.of 0 hal)
  have B_1' := cell_carry B_1 (Carries.of 0 hal)
  have B_2' := cell_carry B_2 (Carries.of 0 hal)
  have B_3' := cell_carry B_3 (Carries.of 0 hal)
  have B_4' := cell_carry B_4 (Carries.of 0 hal)
  have W_0' := cell_carry W_0 (Carries.of 0 hal)
  have W_1' := cell_carry W_1 (Carries.of 0 hal)
  have W_2' := cell_carry W_2 (Carries.of 0 hal)
  have W_3' := cell_carry W_3 (Carries.of 0 hal)
  have W_4' := cell_carry W_4 (Carries.of 0 hal)
  have X_0' := cell_carry X_0 (Carries.of 0 hal)
  have X_1' := cell_carry X_1 (Carries.of 0 hal)
  have X_2' := cell_carry X_2 (Carries.of 0 hal)
  have X_3' := cell_carry X_3 (Carries.of 0 hal)
  have X_4' := cell_carry X_4 (Carries.of 0 hal)
  have Y_0' := cell_carry Y_0 (Carries.of 0 hal)
  have Y_1' := cell_carry Y_1 (Carries.of 0 hal)
  have Y_2' := cell_carry Y_2 (Carries.of 0 hal)
  have Y_3' := cell_carry Y_3 (Carries.of 0 hal)
  have Y_4' := cell_carry Y_4 (Carries.of 0 hal)
  go_wp2_with fail
  have G_0 : (w8.alloc (.cells #[.int .i64 rp, .slice ga0 rm gc0, .slice ga1 rns gc1, .slice ga2 rnl gc2, .string rst] 63)).cell? ⟨w8.heap.size, 0, none⟩ = some (.int .i64 rp) := by simp
  have G_1 : (w8.alloc (.cells #[.int .i64 rp, .slice ga0 rm gc0, .slice ga1 rns gc1, .slice ga2 rnl gc2, .string rst] 63)).cell? ⟨w8.heap.size, 1, none⟩ = some (.slice ga0 rm gc0) := by simp
  have G_2 : (w8.alloc (.cells #[.int .i64 rp, .slice ga0 rm gc0, .slice ga1 rns gc1, .slice ga2 rnl gc2, .string rst] 63)).cell? ⟨w8.heap.size, 2, none⟩ = some (.slice ga1 rns gc1) := by simp
  have G_3 : (w8.alloc (.cells #[.int .i64 rp, .slice ga0 rm gc0, .slice ga1 rns gc1, .slice ga2 rnl gc2, .string rst] 63)).cell? ⟨w8.heap.size, 3, none⟩ = some (.slice ga2 rnl gc2) := by simp
  have G_4 : (w8.alloc (.cells #[.int .i64 rp, .slice ga0 rm gc0, .slice ga1 rns gc1, .slice ga2 rnl gc2, .string rst] 63)).cell? ⟨w8.heap.size, 4, none⟩ = some (.string rst) := by simp
  have zzw9 : w8.heap.size < (w8.alloc (.cells #[.int .i64 rp, .slice ga0 rm gc0, .slice ga1 rns gc1, .slice ga2 rnl gc2, .string rst] 63)).heap.size := by simp
  clear A_0 A_1 A_2 A_3 A_4 B_0 B_1 B_2 B_3 B_4 W_0 W_1 W_2 W_3 W_4 X_0 X_1 X_2 X_3 X_4 Y_0 Y_1 Y_2 Y_3 Y_4
  generalize w8.alloc (.cells #[.int .i64 rp, .slice ga0 rm gc0, .slice ga1 rns gc1, .slice ga2 rnl gc2, .string rst] 63) = w9 at hal A_0' A_1' A_2' A_3' A_4' B_0' B_1' B_2' B_3' B_4' W_0' W_1' W_2' W_3' W_4' X_0' X_1' X_2' X_3' X_4' Y_0' Y_1' Y_2' Y_3' Y_4' G_0 G_1 G_2 G_3 G_4 zzw9 ⊢
  have A_0 := A_0'
  have A_1 := A_1'
  have A_2 := A_2'
  have A_3 := A_3'
  have A_4 := A_4'
  have B_0 := B_0'
  have B_1 := B_1'
  have B_2 := B_2'
  have B_3 := B_3'
  have B_4 := B_4'
  have W_0 := W_0'
  have W_1 := W_1'
  have W_2 := W_2'
  have W_3 := W_3'
  have W_4 := W_4'
  have X_0 := X_0'
  have X_1 := X_1'
  have X_2 := X_2'
  have X_3 := X_3'
  have X_4 := X_4'
  have Y_0 := Y_0'
  have Y_1 := Y_1'
  have Y_2 := Y_2'
  have Y_3 := Y_3'
  have Y_4 := Y_4'
  clear A_0' A_1' A_2' A_3' A_4' B_0' B_1' B_2' B_3' B_4' W_0' W_1' W_2' W_3' W_4' X_0' X_1' X_2' X_3' X_4' Y_0' Y_1' Y_2' Y_3' Y_4'
  have hw9 : Below w.heap.size w w9 := hw8.trans (hal.mono hw8.size)
  have z9 : w8.heap.size ≤ w9.heap.size := hal.size
  have HX9 := Lib.hid (HX8.out.keep (Carries.of _ hal))
  have HY9 := Lib.hid (HY8.out.keep (Carries.of _ hal))
  have SX9 := Lib.hid (SX8.out.trans (Same.of _ hal))
  have SY9 := Lib.hid (SY8.out.trans (Same.of _ hal))
  have HG9 := Lib.hid (HG8.out.keep (Same.of _ hal))
  have hk9 : Below w3.heap.size w3 w9 := hk8.trans (hal.mono hk8.size)
  clear hal hw8 hk8 HX8 HY8 SX8 SY8 HG8
  refine (eqSTG_any _ _ RN RN _ _ _ HG9.out.at (HW.out.keep (Carries.of _ hk9)) HSR.out HSR.out).mono ?_
  rintro e wa ⟨rfl, hb⟩
  rw [eqStgB_self]
  have hwa : Below w.heap.size w wa := hw9.trans (hb.mono hw9.size)
  have A_0 := cell_carry A_0 (Carries.of 0 hb)
  have A_1 := cell_carry A_1 (Carries.of 0 hb)
  have A_2 := cell_carry A_2 (Carries.of 0 hb)
  have A_3 := cell_carry A_3 (Carries.of 0 hb)
  have A_4 := cell_carry A_4 (Carries.of 0 hb)
  have B_0 := cell_carry B_0 (Carries.of 0 hb)
  have B_1 := cell_carry B_1 (Carries.of 0 hb)
  have B_2 := cell_carry B_2 (Carries.of 0 hb)
  have B_3 := cell_carry B_3 (Carries.of 0 hb)
  have B_4 := cell_carry B_4 (Carries.of 0 hb)
  have W_0 := cell_carry W_0 (Carries.of 0 hb)
  have W_1 := cell_carry W_1 (Carries.of 0 hb)
  have W_2 := cell_carry W_2 (Carries.of 0 hb)
  have W_3 := cell_carry W_3 (Carries.of 0 hb)
  have W_4 := cell_carry W_4 (Carries.of 0 hb)
  have X_0 := cell_carry X_0 (Carries.of 0 hb)
  have X_1 := cell_carry X_1 (Carries.of 0 hb)
  have X_2 := cell_carry X_2 (Carries.of 0 hb)
  have X_3 := cell_carry X_3 (Carries.of 0 hb)
  have X_4 := cell_carry X_4 (Carries.of 0 hb)
  have Y_0 := cell_carry Y_0 (Carries.of 0 hb)
  have Y_1 := cell_carry Y_1 (Carries.of 0 hb)
  have Y_2 := cell_carry Y_2 (Carries.of 0 hb)
  have Y_3 := cell_carry Y_3 (Carries.of 0 hb)
  have Y_4 := cell_carry Y_4 (Carries.of 0 hb)
  have G_0 := cell_carry G_0 (Carries.of 0 hb)
  have G_1 := cell_carry G_1 (Carries.of 0 hb)
  have G_2 := cell_carry G_2 (Carries.of 0 hb)
  have G_3 := cell_carry G_3 (Carries.of 0 hb)
  have G_4 := cell_carry G_4 (Carries.of 0 hb)
  have za : w9.heap.size ≤ wa.heap.size := hb.size
  have HXa := Lib.hid (HX9.out.keep (Carries.of _ hb))
  have HYa := Lib.hid (HY9.out.keep (Carries.of _ hb))
  have SXa := Lib.hid (SX9.out.trans (Same.of _ hb))
  have SYa := Lib.hid (SY9.out.trans (Same.of _ hb))
  have HGa := Lib.hid (HG9.out.keep (Same.of _ hb))
  have hka : Below w3.heap.size w3 wa := hk9.trans (hb.mono hk9.size)
  clear hb hw9 hk9 HX9 HY9 SX9 SY9 HG9
  have hbb : (BB != BB) = false := by simp
  go_wp2_with fail
  go_region_held3 (fun w' => w'.cell? ⟨w.heap.size, 0, none⟩ = some (.int .i64 p0) ∧ w'.cell? ⟨w.heap.size, 1, none⟩ = some (.slice aa0 m0 ac0) ∧ w'.cell? ⟨w.heap.size, 2, none⟩ = some (.slice aa1 n0 ac1) ∧ w'.cell? ⟨w.heap.size, 3, none⟩ = some (.slice aa2 l0 ac2) ∧ w'.cell? ⟨w.heap.size, 4, none⟩ = some (.string t0) ∧ w'.cell? ⟨w4.heap.size, 0, none⟩ = some (.int .i64 p0) ∧ w'.cell? ⟨w4.heap.size, 1, none⟩ = some (.slice xa0 m0 xc0) ∧ w'.cell? ⟨w4.heap.size, 2, none⟩ = some (.slice xa1 n0 xc1) ∧ w'.cell? ⟨w4.heap.size, 3, none⟩ = some (.slice xa2 l0 xc2) ∧ w'.cell? ⟨w4.heap.size, 4, none⟩ = some (.string t0))
    (first
      | exact ⟨A_0, A_1, A_2, A_3, A_4, X_0, X_1, X_2, X_3, X_4⟩
      | exact ⟨cell_carry (w := wa.drew) A_0 (Carries.of 0 hb7), cell_carry (w := wa.drew) A_1 (Carries.of 0 hb7), cell_carry (w := wa.drew) A_2 (Carries.of 0 hb7), cell_carry (w := wa.drew) A_3 (Carries.of 0 hb7), cell_carry (w := wa.drew) A_4 (Carries.of 0 hb7), cell_carry (w := wa.drew) X_0 (Carries.of 0 hb7), cell_carry (w := wa.drew) X_1 (Carries.of 0 hb7), cell_carry (w := wa.drew) X_2 (Carries.of 0 hb7), cell_carry (w := wa.drew) X_3 (Carries.of 0 hb7), cell_carry (w := wa.drew) X_4 (Carries.of 0 hb7)⟩
      | exact ⟨cell_carry (cell_carry (w := wa.drew) A_0 (Carries.of 0 hb7)) (Carries.of 0 hb8), cell_carry (cell_carry (w := wa.drew) A_1 (Carries.of 0 hb7)) (Carries.of 0 hb8), cell_carry (cell_carry (w := wa.drew) A_2 (Carries.of 0 hb7)) (Carries.of 0 hb8), cell_carry (cell_carry (w := wa.drew) A_3 (Carries.of 0 hb7)) (Carries.of 0 hb8), cell_carry (cell_carry (w := wa.drew) A_4 (Carries.of 0 hb7)) (Carries.of 0 hb8), cell_carry (cell_carry (w := wa.drew) X_0 (Carries.of 0 hb7)) (Carries.of 0 hb8), cell_carry (cell_carry (w := wa.drew) X_1 (Carries.of 0 hb7)) (Carries.of 0 hb8), cell_carry (cell_carry (w := wa.drew) X_2 (Carries.of 0 hb7)) (Carries.of 0 hb8), cell_carry (cell_carry (w := wa.drew) X_3 (Carries.of 0 hb7)) (Carries.of 0 hb8), cell_carry (cell_carry (w := wa.drew) X_4 (Carries.of 0 hb7)) (Carries.of 0 hb8)⟩)
    (first
      | (go_at_call 37; refine (toSTG_any _ s0 wa.drew lo (HV.out.keep (Carries.of lo hwa.drew)) HS.out).mono ?_; rintro e wb ⟨v7a, rfl, hn7, hb7⟩)
      | (go_at_call 39; refine (eqSTG_any _ _ s0 s0 _ _ _ (HXa.out.keep (Carries.of (w := wa.drew) _ hb7)) hn7 HS.out HS.out).mono ?_; rintro e wc ⟨rfl, hb8⟩; rw [eqStgB_self]))
  have hb78 : Below wa.heap.size wa wc := (Below.trans (b := wa.drew) (Below.refl _ _).drew (Below.trans (hb7.mono (by simp)) (hb8.mono (by have := hb7.size; simp at this; omega))))
  clear hb7 hb8 hn7
  have hwc : Below w.heap.size w wc := hwa.trans (hb78.mono hwa.size)
  have A_0 := cell_carry A_0 (Carries.of 0 hb78)
  have A_1 := cell_carry A_1 (Carries.of 0 hb78)
  have A_2 := cell_carry A_2 (Carries.of 0 hb78)
  have A_3 := cell_carry A_3 (Carries.of 0 hb78)
  have A_4 := cell_carry A_4 (Carries.of 0 hb78)
  have B_0 := cell_carry B_0 (Carries.of 0 hb78)
  have B_1 := cell_carry B_1 (Carries.of 0 hb78)
  have B_2 := cell_carry B_2 (Carries.of 0 hb78)
  have B_3 := cell_carry B_3 (Carries.of 0 hb78)
  have B_4 := cell_carry B_4 (Carries.of 0 hb78)
  have W_0 := cell_carry W_0 (Carries.of 0 hb78)
  have W_1 := cell_carry W_1 (Carries.of 0 hb78)
  have W_2 := cell_carry W_2 (Carries.of 0 hb78)
  have W_3 := cell_carry W_3 (Carries.of 0 hb78)
  have W_4 := cell_carry W_4 (Carries.of 0 hb78)
  have X_0 := cell_carry X_0 (Carries.of 0 hb78)
  have X_1 := cell_carry X_1 (Carries.of 0 hb78)
  have X_2 := cell_carry X_2 (Carries.of 0 hb78)
  have X_3 := cell_carry X_3 (Carries.of 0 hb78)
  have X_4 := cell_carry X_4 (Carries.of 0 hb78)
  have Y_0 := cell_carry Y_0 (Carries.of 0 hb78)
  have Y_1 := cell_carry Y_1 (Carries.of 0 hb78)
  have Y_2 := cell_carry Y_2 (Carries.of 0 hb78)
  have Y_3 := cell_carry Y_3 (Carries.of 0 hb78)
  have Y_4 := cell_carry Y_4 (Carries.of 0 hb78)
  have G_0 := cell_carry G_0 (Carries.of 0 hb78)
  have G_1 := cell_carry G_1 (Carries.of 0 hb78)
  have G_2 := cell_carry G_2 (Carries.of 0 hb78)
  have G_3 := cell_carry G_3 (Carries.of 0 hb78)
  have G_4 := cell_carry G_4 (Carries.of 0 hb78)
  have zc : wa.heap.size ≤ wc.heap.size := hb78.size
  have HXc := Lib.hid (HXa.out.keep (Carries.of _ hb78))
  have HYc := Lib.hid (HYa.out.keep (Carries.of _ hb78))
  have SXc := Lib.hid (SXa.out.trans (Same.of _ hb78))
  have SYc := Lib.hid (SYa.out.trans (Same.of _ hb78))
  have HGc := Lib.hid (HGa.out.keep (Same.of _ hb78))
  have hkc : Below w3.heap.size w3 wc := hka.trans (hb78.mono hka.size)
  clear hb78 hwa hka HXa HYa SXa SYa HGa
  go_wp2_with fail
  go_region_held3 (fun w' => w'.cell? ⟨w.heap.size + 1, 0, none⟩ = some (.int .i64 p1) ∧ w'.cell? ⟨w.heap.size + 1, 1, none⟩ = some (.slice ba0 m1 bc0) ∧ w'.cell? ⟨w.heap.size + 1, 2, none⟩ = some (.slice ba1 n1 bc1) ∧ w'.cell? ⟨w.heap.size + 1, 3, none⟩ = some (.slice ba2 l1 bc2) ∧ w'.cell? ⟨w.heap.size + 1, 4, none⟩ = some (.string t1) ∧ w'.cell? ⟨w6.heap.size, 0, none⟩ = some (.int .i64 p1) ∧ w'.cell? ⟨w6.heap.size, 1, none⟩ = some (.slice ya0 m1 yc0) ∧ w'.cell? ⟨w6.heap.size, 2, none⟩ = some (.slice ya1 n1 yc1) ∧ w'.cell? ⟨w6.heap.size, 3, none⟩ = some (.slice ya2 l1 yc2) ∧ w'.cell? ⟨w6.heap.size, 4, none⟩ = some (.string t1))
    (first
      | exact ⟨B_0, B_1, B_2, B_3, B_4, Y_0, Y_1, Y_2, Y_3, Y_4⟩
      | exact ⟨cell_carry (w := wc.drew) B_0 (Carries.of 0 hb7), cell_carry (w := wc.drew) B_1 (Carries.of 0 hb7), cell_carry (w := wc.drew) B_2 (Carries.of 0 hb7), cell_carry (w := wc.drew) B_3 (Carries.of 0 hb7), cell_carry (w := wc.drew) B_4 (Carries.of 0 hb7), cell_carry (w := wc.drew) Y_0 (Carries.of 0 hb7), cell_carry (w := wc.drew) Y_1 (Carries.of 0 hb7), cell_carry (w := wc.drew) Y_2 (Carries.of 0 hb7), cell_carry (w := wc.drew) Y_3 (Carries.of 0 hb7), cell_carry (w := wc.drew) Y_4 (Carries.of 0 hb7)⟩
      | exact ⟨cell_carry (cell_carry (w := wc.drew) B_0 (Carries.of 0 hb7)) (Carries.of 0 hb8), cell_carry (cell_carry (w := wc.drew) B_1 (Carries.of 0 hb7)) (Carries.of 0 hb8), cell_carry (cell_carry (w := wc.drew) B_2 (Carries.of 0 hb7)) (Carries.of 0 hb8), cell_carry (cell_carry (w := wc.drew) B_3 (Carries.of 0 hb7)) (Carries.of 0 hb8), cell_carry (cell_carry (w := wc.drew) B_4 (Carries.of 0 hb7)) (Carries.of 0 hb8), cell_carry (cell_carry (w := wc.drew) Y_0 (Carries.of 0 hb7)) (Carries.of 0 hb8), cell_carry (cell_carry (w := wc.drew) Y_1 (Carries.of 0 hb7)) (Carries.of 0 hb8), cell_carry (cell_carry (w := wc.drew) Y_2 (Carries.of 0 hb7)) (Carries.of 0 hb8), cell_carry (cell_carry (w := wc.drew) Y_3 (Carries.of 0 hb7)) (Carries.of 0 hb8), cell_carry (cell_carry (w := wc.drew) Y_4 (Carries.of 0 hb7)) (Carries.of 0 hb8)⟩)
    (first
      | (go_at_call 37; refine (toSTG_any _ s1 wc.drew lo (HU.out.keep (Carries.of lo hwc.drew)) HS1.out).mono ?_; rintro e wd ⟨v7c, rfl, hn7, hb7⟩)
      | (go_at_call 39; refine (eqSTG_any _ _ s1 s1 _ _ _ (HYc.out.keep (Carries.of (w := wc.drew) _ hb7)) hn7 HS1.out HS1.out).mono ?_; rintro e we ⟨rfl, hb8⟩; rw [eqStgB_self]))
  have hb78 : Below wc.heap.size wc we := (Below.trans (b := wc.drew) (Below.refl _ _).drew (Below.trans (hb7.mono (by simp)) (hb8.mono (by have := hb7.size; simp at this; omega))))
  clear hb7 hb8 hn7
  have hwe : Below w.heap.size w we := hwc.trans (hb78.mono hwc.size)
  have A_0 := cell_carry A_0 (Carries.of 0 hb78)
  have A_1 := cell_carry A_1 (Carries.of 0 hb78)
  have A_2 := cell_carry A_2 (Carries.of 0 hb78)
  have A_3 := cell_carry A_3 (Carries.of 0 hb78)
  have A_4 := cell_carry A_4 (Carries.of 0 hb78)
  have B_0 := cell_carry B_0 (Carries.of 0 hb78)
  have B_1 := cell_carry B_1 (Carries.of 0 hb78)
  have B_2 := cell_carry B_2 (Carries.of 0 hb78)
  have B_3 := cell_carry B_3 (Carries.of 0 hb78)
  have B_4 := cell_carry B_4 (Carries.of 0 hb78)
  have W_0 := cell_carry W_0 (Carries.of 0 hb78)
  have W_1 := cell_carry W_1 (Carries.of 0 hb78)
  have W_2 := cell_carry W_2 (Carries.of 0 hb78)
  have W_3 := cell_carry W_3 (Carries.of 0 hb78)
  have W_4 := cell_carry W_4 (Carries.of 0 hb78)
  have X_0 := cell_carry X_0 (Carries.of 0 hb78)
  have X_1 := cell_carry X_1 (Carries.of 0 hb78)
  have X_2 := cell_carry X_2 (Carries.of 0 hb78)
  have X_3 := cell_carry X_3 (Carries.of 0 hb78)
  have X_4 := cell_carry X_4 (Carries.of 0 hb78)
  have Y_0 := cell_carry Y_0 (Carries.of 0 hb78)
  have Y_1 := cell_carry Y_1 (Carries.of 0 hb78)
  have Y_2 := cell_carry Y_2 (Carries.of 0 hb78)
  have Y_3 := cell_carry Y_3 (Carries.of 0 hb78)
  have Y_4 := cell_carry Y_4 (Carries.of 0 hb78)
  have G_0 := cell_carry G_0 (Carries.of 0 hb78)
  have G_1 := cell_carry G_1 (Carries.of 0 hb78)
  have G_2 := cell_carry G_2 (Carries.of 0 hb78)
  have G_3 := cell_carry G_3 (Carries.of 0 hb78)
  have G_4 := cell_carry G_4 (Carries.of 0 hb78)
  have ze : wc.heap.size ≤ we.heap.size := hb78.size
  have HXe := Lib.hid (HXc.out.keep (Carries.of _ hb78))
  have HYe := Lib.hid (HYc.out.keep (Carries.of _ hb78))
  have SXe := Lib.hid (SXc.out.trans (Same.of _ hb78))
  have SYe := Lib.hid (SYc.out.trans (Same.of _ hb78))
  have HGe := Lib.hid (HGc.out.keep (Same.of _ hb78))
  have hke : Below w3.heap.size w3 we := hkc.trans (hb78.mono hkc.size)
  clear hb78 hwc hkc HXc HYc SXc SYc HGc
  go_wp2_with fail
  clear HXe HYe
  refine (markSTG_le _ s0 w4 we w3.heap.size HOHX.out SXe.out HS.out).mono ?_
  rintro e wf ⟨T, rfl, hT0, hT1, hst⟩
  have hwf : Below w.heap.size w wf := hst.below hwe (by omega) (by omega)
  have hkf : Below w3.heap.size w3 wf := hst.below hke (by omega) (by omega)
  have zf : we.heap.size ≤ wf.heap.size := hst.size
  have A_0 := hst.cell (Or.inl (by simp; omega)) A_0
  have A_1 := hst.cell (Or.inl (by simp; omega)) A_1
  have A_2 := hst.cell (Or.inl (by simp; omega)) A_2
  have A_3 := hst.cell (Or.inl (by simp; omega)) A_3
  have A_4 := hst.cell (Or.inl (by simp; omega)) A_4
  have B_0 := hst.cell (Or.inl (by simp; omega)) B_0
  have B_1 := hst.cell (Or.inl (by simp; omega)) B_1
  have B_2 := hst.cell (Or.inl (by simp; omega)) B_2
  have B_3 := hst.cell (Or.inl (by simp; omega)) B_3
  have B_4 := hst.cell (Or.inl (by simp; omega)) B_4
  have W_0 := hst.cell (Or.inl (by simp; omega)) W_0
  have W_1 := hst.cell (Or.inl (by simp; omega)) W_1
  have W_2 := hst.cell (Or.inl (by simp; omega)) W_2
  have W_3 := hst.cell (Or.inl (by simp; omega)) W_3
  have W_4 := hst.cell (Or.inl (by simp; omega)) W_4
  have Y_0 := hst.cell (Or.inr (by simp; omega)) Y_0
  have Y_1 := hst.cell (Or.inr (by simp; omega)) Y_1
  have Y_2 := hst.cell (Or.inr (by simp; omega)) Y_2
  have Y_3 := hst.cell (Or.inr (by simp; omega)) Y_3
  have Y_4 := hst.cell (Or.inr (by simp; omega)) Y_4
  have G_0 := hst.cell (Or.inr (by simp; omega)) G_0
  have G_1 := hst.cell (Or.inr (by simp; omega)) G_1
  have G_2 := hst.cell (Or.inr (by simp; omega)) G_2
  have G_3 := hst.cell (Or.inr (by simp; omega)) G_3
  have G_4 := hst.cell (Or.inr (by simp; omega)) G_4
  have SYf := Lib.hid (SYe.out.trans (hst.sameOf (by omega)))
  have HGf := Lib.hid (HGe.out.keep (hst.sameOf (by omega)))
  clear hst hwe hke SYe HGe
  clear SXe HOHX X_0 X_1 X_2 X_3 X_4
  go_wp2_with fail
  refine (markSTG_wide _ s1 T w6 wf w5.heap.size HOHY.out SYf.out HS1.out hT0 hT1).mono ?_
  rintro e wg ⟨T2, rfl, hT2, hst⟩
  have hwg : Below w.heap.size w wg := hst.below hwf (by omega) (by omega)
  have hkg : Below w3.heap.size w3 wg := hst.below hkf (by omega) (by omega)
  have zg : wf.heap.size ≤ wg.heap.size := hst.size
  have A_0 := hst.cell (Or.inl (by simp; omega)) A_0
  have A_1 := hst.cell (Or.inl (by simp; omega)) A_1
  have A_2 := hst.cell (Or.inl (by simp; omega)) A_2
  have A_3 := hst.cell (Or.inl (by simp; omega)) A_3
  have A_4 := hst.cell (Or.inl (by simp; omega)) A_4
  have B_0 := hst.cell (Or.inl (by simp; omega)) B_0
  have B_1 := hst.cell (Or.inl (by simp; omega)) B_1
  have B_2 := hst.cell (Or.inl (by simp; omega)) B_2
  have B_3 := hst.cell (Or.inl (by simp; omega)) B_3
  have B_4 := hst.cell (Or.inl (by simp; omega)) B_4
  have W_0 := hst.cell (Or.inl (by simp; omega)) W_0
  have W_1 := hst.cell (Or.inl (by simp; omega)) W_1
  have W_2 := hst.cell (Or.inl (by simp; omega)) W_2
  have W_3 := hst.cell (Or.inl (by simp; omega)) W_3
  have W_4 := hst.cell (Or.inl (by simp; omega)) W_4
  have G_0 := hst.cell (Or.inr (by simp; omega)) G_0
  have G_1 := hst.cell (Or.inr (by simp; omega)) G_1
  have G_2 := hst.cell (Or.inr (by simp; omega)) G_2
  have G_3 := hst.cell (Or.inr (by simp; omega)) G_3
  have G_4 := hst.cell (Or.inr (by simp; omega)) G_4
  have HGg := Lib.hid (HGf.out.keep (hst.sameOf (by omega)))
  clear hst hwf hkf HGf
  clear SYf HOHY Y_0 Y_1 Y_2 Y_3 Y_4
  have hT : decide ((T2 : Int) < 0) = false := by rw [decide_eq_false_iff_not]; omega
  go_wp2_with fail
  refine (eqSTG_any _ _ RN RN _ _ _ HGg.out.at (HW.out.keep (Carries.of _ hkg)) HSR.out HSR.out).mono ?_
  rintro e wh ⟨rfl, hb⟩
  rw [eqStgB_self]
  have hwh : Below w.heap.size w wh := hwg.trans (hb.mono hwg.size)
  have A_0 := cell_carry A_0 (Carries.of 0 hb)
  have A_1 := cell_carry A_1 (Carries.of 0 hb)
  have A_2 := cell_carry A_2 (Carries.of 0 hb)
  have A_3 := cell_carry A_3 (Carries.of 0 hb)
  have A_4 := cell_carry A_4 (Carries.of 0 hb)
  have B_0 := cell_carry B_0 (Carries.of 0 hb)
  have B_1 := cell_carry B_1 (Carries.of 0 hb)
  have B_2 := cell_carry B_2 (Carries.of 0 hb)
  have B_3 := cell_carry B_3 (Carries.of 0 hb)
  have B_4 := cell_carry B_4 (Carries.of 0 hb)
  have W_0 := cell_carry W_0 (Carries.of 0 hb)
  have W_1 := cell_carry W_1 (Carries.of 0 hb)
  have W_2 := cell_carry W_2 (Carries.of 0 hb)
  have W_3 := cell_carry W_3 (Carries.of 0 hb)
  have W_4 := cell_carry W_4 (Carries.of 0 hb)
  have G_0 := cell_carry G_0 (Carries.of 0 hb)
  have G_1 := cell_carry G_1 (Carries.of 0 hb)
  have G_2 := cell_carry G_2 (Carries.of 0 hb)
  have G_3 := cell_carry G_3 (Carries.of 0 hb)
  have G_4 := cell_carry G_4 (Carries.of 0 hb)
  have zh : wg.heap.size ≤ wh.heap.size := hb.size
  have HGh := Lib.hid (HGg.out.keep (Same.of _ hb))
  have hkh : Below w3.heap.size w3 wh := hkg.trans (hb.mono hkg.size)
  clear hb hwg hkg HGg
  go_wp2_with fail
  refine (markSTG_sep _ RN _ _ _ HGh.out HSR.out).mono ?_
  rintro e wi ⟨rfl, hst, hheld⟩
  have hmk := markK_bounds HSR.out
  have hwi : Below w.heap.size w wi := hst.below hwh (by omega) (by omega)
  have hki : Below w3.heap.size w3 wi := hst.below hkh (by omega) (by omega)
  have zi : wh.heap.size ≤ wi.heap.size := hst.size
  have A_0 := hst.cell (Or.inl (by simp; omega)) A_0
  have A_1 := hst.cell (Or.inl (by simp; omega)) A_1
  have A_2 := hst.cell (Or.inl (by simp; omega)) A_2
  have A_3 := hst.cell (Or.inl (by simp; omega)) A_3
  have A_4 := hst.cell (Or.inl (by simp; omega)) A_4
  have B_0 := hst.cell (Or.inl (by simp; omega)) B_0
  have B_1 := hst.cell (Or.inl (by simp; omega)) B_1
  have B_2 := hst.cell (Or.inl (by simp; omega)) B_2
  have B_3 := hst.cell (Or.inl (by simp; omega)) B_3
  have B_4 := hst.cell (Or.inl (by simp; omega)) B_4
  have W_0 := hst.cell (Or.inl (by simp; omega)) W_0
  have W_1 := hst.cell (Or.inl (by simp; omega)) W_1
  have W_2 := hst.cell (Or.inl (by simp; omega)) W_2
  have W_3 := hst.cell (Or.inl (by simp; omega)) W_3
  have W_4 := hst.cell (Or.inl (by simp; omega)) W_4
  have G_0 := hst.cell (Or.inr (Nat.le_refl _)) G_0
  have G_1 := hst.cell (Or.inr (Nat.le_refl _)) G_1
  have G_2 := hst.cell (Or.inr (Nat.le_refl _)) G_2
  have G_3 := hst.cell (Or.inr (Nat.le_refl _)) G_3
  have G_4 := hst.cell (Or.inr (Nat.le_refl _)) G_4
  have HHi := Lib.hid hheld; clear hheld hst HGh hwh hkh
  obtain ⟨M, hM⟩ : ∃ M, M = markK3 RN := ⟨_, rfl⟩
  rw [← hM] at hmk ⊢
  have HM := Lib.hid hM; clear hM
  have hq : (M != M) = false := by simp
  have hq2 : decide (M < 0) = false := by rw [decide_eq_false_iff_not]; omega
  go_wp2_with fail
  refine (heldSTG_any _ RN _ HHi.out HSR.out).mono ?_
  rintro e wj ⟨rfl, hb⟩
  rw [← HM.out]
  have hwj : Below w.heap.size w wj := hwi.trans (hb.mono hwi.size)
  have A_0 := cell_carry A_0 (Carries.of 0 hb)
  have A_1 := cell_carry A_1 (Carries.of 0 hb)
  have A_2 := cell_carry A_2 (Carries.of 0 hb)
  have A_3 := cell_carry A_3 (Carries.of 0 hb)
  have A_4 := cell_carry A_4 (Carries.of 0 hb)
  have B_0 := cell_carry B_0 (Carries.of 0 hb)
  have B_1 := cell_carry B_1 (Carries.of 0 hb)
  have B_2 := cell_carry B_2 (Carries.of 0 hb)
  have B_3 := cell_carry B_3 (Carries.of 0 hb)
  have B_4 := cell_carry B_4 (Carries.of 0 hb)
  have W_0 := cell_carry W_0 (Carries.of 0 hb)
  have W_1 := cell_carry W_1 (Carries.of 0 hb)
  have W_2 := cell_carry W_2 (Carries.of 0 hb)
  have W_3 := cell_carry W_3 (Carries.of 0 hb)
  have W_4 := cell_carry W_4 (Carries.of 0 hb)
  have G_0 := cell_carry G_0 (Carries.of 0 hb)
  have G_1 := cell_carry G_1 (Carries.of 0 hb)
  have G_2 := cell_carry G_2 (Carries.of 0 hb)
  have G_3 := cell_carry G_3 (Carries.of 0 hb)
  have G_4 := cell_carry G_4 (Carries.of 0 hb)
  have zj : wi.heap.size ≤ wj.heap.size := hb.size
  have HHj := Lib.hid (HHi.out.keep (Carries.of _ hb))
  have hkj : Below w3.heap.size w3 wj := hki.trans (hb.mono hki.size)
  clear hb hwi hki HHi
  go_wp2_with fail
  refine Code.wp_mono (Q := SMid wj rp rm rns rnl rst RN (fun G v2 v3 ra0 rc0 ra1 rc1 ra2 rc2 => { tmps := #[Value.agg #[Value.int IntKind.i64 p0, Value.slice aa0 m0 ac0, Value.slice aa1 n0 ac1, Value.slice aa2 l0 ac2, Value.string t0], Value.agg #[Value.int IntKind.i64 p1, Value.slice ba0 m1 bc0, Value.slice ba1 n1 bc1, Value.slice ba2 l1 bc2, Value.string t1], Value.pointer (some { block := w.heap.size, off := 0 }), Value.pointer (some { block := w.heap.size + 1, off := 0 }), Value.bool false, Value.int IntKind.i64 r2, Value.pointer (some { block := G8, off := 0 }), Value.bool BB, Value.pointer (some { block := w4.heap.size, off := 0 }), Value.pointer (some { block := w6.heap.size, off := 0 }), Value.pointer (some { block := w8.heap.size, off := 0 }), Value.bool BB, Value.int IntKind.i64 T2, Value.int IntKind.i64 M, Value.int IntKind.i64 M, .pointer (some ⟨G, 0, none⟩), .bool BB, Value.agg #[Value.int IntKind.i64 p0, Value.slice aa0 m0 ac0, Value.slice aa1 n0 ac1, Value.slice aa2 l0 ac2, Value.string t0], Value.int IntKind.i64 1048576, Value.int IntKind.i64 r, Value.int IntKind.i64 r, Value.bool (decide (r < 0)), Value.agg #[Value.int IntKind.i64 p1, Value.slice ba0 m1 bc0, Value.slice ba1 n1 bc1, Value.slice ba2 l1 bc2, Value.string t1], Value.int IntKind.i64 r, Value.int IntKind.i64 r2, Value.int IntKind.i64 r2, Value.bool (decide (r2 < 0)), Value.tuple #[Value.agg #[Value.int IntKind.i64 rp, Value.slice wa0 rm wc0, Value.slice wa1 rns wc1, Value.slice wa2 rnl wc2, Value.string rst], Value.bool BB], Value.agg #[Value.int IntKind.i64 p0, Value.slice aa0 m0 ac0, Value.slice aa1 n0 ac1, Value.slice aa2 l0 ac2, Value.string t0], v28, Value.agg #[Value.int IntKind.i64 p1, Value.slice ba0 m1 bc0, Value.slice ba1 n1 bc1, Value.slice ba2 l1 bc2, Value.string t1], v30, Value.tuple #[Value.agg #[Value.int IntKind.i64 rp, Value.slice wa0 rm wc0, Value.slice wa1 rns wc1, Value.slice wa2 rnl wc2, Value.string rst], Value.bool BB], Value.agg #[Value.int IntKind.i64 rp, Value.slice wa0 rm wc0, Value.slice wa1 rns wc1, Value.slice wa2 rnl wc2, Value.string rst], Value.bool BB, Value.agg #[Value.int IntKind.i64 p0, Value.slice aa0 m0 ac0, Value.slice aa1 n0 ac1, Value.slice aa2 l0 ac2, Value.string t0], Value.agg #[Value.int IntKind.i64 p0, Value.slice xa0 m0 xc0, Value.slice xa1 n0 xc1, Value.slice xa2 l0 xc2, Value.string t0], Value.agg #[Value.int IntKind.i64 p1, Value.slice ba0 m1 bc0, Value.slice ba1 n1 bc1, Value.slice ba2 l1 bc2, Value.string t1], Value.agg #[Value.int IntKind.i64 p1, Value.slice ya0 m1 yc0, Value.slice ya1 n1 yc1, Value.slice ya2 l1 yc2, Value.string t1], Value.tuple #[Value.agg #[Value.int IntKind.i64 rp, Value.slice ga0 rm gc0, Value.slice ga1 rns gc1, Value.slice ga2 rnl gc2, Value.string rst], Value.bool BB], Value.agg #[Value.int IntKind.i64 p0, Value.slice xa0 m0 xc0, Value.slice xa1 n0 xc1, Value.slice xa2 l0 xc2, Value.string t0], Value.agg #[Value.int IntKind.i64 p1, Value.slice ya0 m1 yc0, Value.slice ya1 n1 yc1, Value.slice ya2 l1 yc2, Value.string t1], Value.tuple #[Value.agg #[Value.int IntKind.i64 rp, Value.slice ga0 rm gc0, Value.slice ga1 rns gc1, Value.slice ga2 rnl gc2, Value.string rst], Value.bool BB], Value.agg #[Value.int IntKind.i64 rp, Value.slice ga0 rm gc0, Value.slice ga1 rns gc1, Value.slice ga2 rnl gc2, Value.string rst], Value.bool BB, Value.agg #[Value.int IntKind.i64 rp, Value.slice ga0 rm gc0, Value.slice ga1 rns gc1, Value.slice ga2 rnl gc2, Value.string rst], Value.agg #[Value.int IntKind.i64 rp, Value.slice wa0 rm wc0, Value.slice wa1 rns wc1, Value.slice wa2 rnl wc2, Value.string rst], Value.bool true, Value.bool false, Value.bool false, Value.bool BB, Value.bool BB, Value.bool false, Value.bool false, Value.agg #[Value.int IntKind.i64 p0, Value.slice xa0 m0 xc0, Value.slice xa1 n0 xc1, Value.slice xa2 l0 xc2, Value.string t0], Value.agg #[Value.int IntKind.i64 p0, Value.slice aa0 m0 ac0, Value.slice aa1 n0 ac1, Value.slice aa2 l0 ac2, Value.string t0], v7a, Value.bool true, Value.bool false, Value.agg #[Value.int IntKind.i64 p1, Value.slice ya0 m1 yc0, Value.slice ya1 n1 yc1, Value.slice ya2 l1 yc2, Value.string t1], Value.agg #[Value.int IntKind.i64 p1, Value.slice ba0 m1 bc0, Value.slice ba1 n1 bc1, Value.slice ba2 l1 bc2, Value.string t1], v7c, Value.bool true, Value.bool false, Value.agg #[Value.int IntKind.i64 p0, Value.slice xa0 m0 xc0, Value.slice xa1 n0 xc1, Value.slice xa2 l0 xc2, Value.string t0], Value.int IntKind.i64 1, Value.int IntKind.i64 T, Value.agg #[Value.int IntKind.i64 p1, Value.slice ya0 m1 yc0, Value.slice ya1 n1 yc1, Value.slice ya2 l1 yc2, Value.string t1], Value.int IntKind.i64 T, Value.int IntKind.i64 T2, Value.int IntKind.i64 T2, Value.bool false, Value.bool false, Value.agg #[Value.int IntKind.i64 rp, Value.slice ga0 rm gc0, Value.slice ga1 rns gc1, Value.slice ga2 rnl gc2, Value.string rst], Value.agg #[Value.int IntKind.i64 rp, Value.slice wa0 rm wc0, Value.slice wa1 rns wc1, Value.slice wa2 rnl wc2, Value.string rst], Value.bool true, Value.bool false, Value.bool false, Value.bool false, Value.bool BB, Value.bool BB, Value.bool false, Value.bool false, Value.agg #[Value.int IntKind.i64 rp, Value.slice ga0 rm gc0, Value.slice ga1 rns gc1, Value.slice ga2 rnl gc2, Value.string rst], Value.int IntKind.i64 1, Value.int IntKind.i64 M, Value.agg #[Value.int IntKind.i64 rp, Value.slice ga0 rm gc0, Value.slice ga1 rns gc1, Value.slice ga2 rnl gc2, Value.string rst], Value.int IntKind.i64 1, Value.int IntKind.i64 M, Value.int IntKind.i64 M, Value.bool false, Value.int IntKind.i64 M, Value.int IntKind.i64 M, Value.bool false, .tuple #[.agg #[.int .i64 rp, .slice ra0 rm rc0, .slice ra1 rns rc1, .slice ra2 rnl rc2, .string rst], .bool BB], .agg #[.int .i64 p0, .slice aa0 m0 ac0, .slice aa1 n0 ac1, .slice aa2 l0 ac2, .string t0], v2, .agg #[.int .i64 p1, .slice ba0 m1 bc0, .slice ba1 n1 bc1, .slice ba2 l1 bc2, .string t1], v3, .tuple #[.agg #[.int .i64 rp, .slice ra0 rm rc0, .slice ra1 rns rc1, .slice ra2 rnl rc2, .string rst], .bool BB], .agg #[.int .i64 rp, .slice ra0 rm rc0, .slice ra1 rns rc1, .slice ra2 rnl rc2, .string rst], .bool BB, undef, undef, undef, undef, undef, undef, undef, undef, undef, undef, undef, undef, undef, undef, undef, undef, undef], defers := [] })) ?_ ?_
  rotate_left 1
  · refine wp_region_held_drew (S := fun w' => w'.cell? ⟨w.heap.size, 0, none⟩ = some (.int .i64 p0) ∧ w'.cell? ⟨w.heap.size, 1, none⟩ = some (.slice aa0 m0 ac0) ∧ w'.cell? ⟨w.heap.size, 2, none⟩ = some (.slice aa1 n0 ac1) ∧ w'.cell? ⟨w.heap.size, 3, none⟩ = some (.slice aa2 l0 ac2) ∧ w'.cell? ⟨w.heap.size, 4, none⟩ = some (.string t0) ∧ w'.cell? ⟨w.heap.size + 1, 0, none⟩ = some (.int .i64 p1) ∧ w'.cell? ⟨w.heap.size + 1, 1, none⟩ = some (.slice ba0 m1 bc0) ∧ w'.cell? ⟨w.heap.size + 1, 2, none⟩ = some (.slice ba1 n1 bc1) ∧ w'.cell? ⟨w.heap.size + 1, 3, none⟩ = some (.slice ba2 l1 bc2) ∧ w'.cell? ⟨w.heap.size + 1, 4, none⟩ = some (.string t1)) (by kernel_rfl) ⟨A_0, A_1, A_2, A_3, A_4, B_0, B_1, B_2, B_3, B_4⟩ (fun hHeld => ?_)
    have belQ0 : Below wj.heap.size wj wj.drew := (Below.refl _ _).drew
    have A_0Q0 : wj.drew.cell? ⟨w.heap.size, 0, none⟩ = some (.int .i64 p0) := A_0
    have A_1Q0 : wj.drew.cell? ⟨w.heap.size, 1, none⟩ = some (.slice aa0 m0 ac0) := A_1
    have A_2Q0 : wj.drew.cell? ⟨w.heap.size, 2, none⟩ = some (.slice aa1 n0 ac1) := A_2
    have A_3Q0 : wj.drew.cell? ⟨w.heap.size, 3, none⟩ = some (.slice aa2 l0 ac2) := A_3
    have A_4Q0 : wj.drew.cell? ⟨w.heap.size, 4, none⟩ = some (.string t0) := A_4
    have B_0Q0 : wj.drew.cell? ⟨w.heap.size + 1, 0, none⟩ = some (.int .i64 p1) := B_0
    have B_1Q0 : wj.drew.cell? ⟨w.heap.size + 1, 1, none⟩ = some (.slice ba0 m1 bc0) := B_1
    have B_2Q0 : wj.drew.cell? ⟨w.heap.size + 1, 2, none⟩ = some (.slice ba1 n1 bc1) := B_2
    have B_3Q0 : wj.drew.cell? ⟨w.heap.size + 1, 3, none⟩ = some (.slice ba2 l1 bc2) := B_3
    have B_4Q0 : wj.drew.cell? ⟨w.heap.size + 1, 4, none⟩ = some (.string t1) := B_4
    generalize wj.drew = Q0 at belQ0 A_0Q0 A_1Q0 A_2Q0 A_3Q0 A_4Q0 B_0Q0 B_1Q0 B_2Q0 B_3Q0 B_4Q0 hHeld ⊢
    have zsQ0 := belQ0.size
    refine tk0 (v := ?_) (by kernel_rfl) (by kernel_rfl) (by kernel_rfl) (by first | exact fun _ _ _ h => h | exact fun _ _ _ h => absurd h.1 (by simp)) (Or.inl ⟨by rfl, ?_⟩) (by assumption) ?_
    rotate_left 1
    focus (intro wx hSw; (try dsimp only at hSw); go_simp; try (with_reducible rfl))
    try simp only [Act.put, List.setIfInBounds_toArray, List.set_cons_zero, List.set_cons_succ]
    refine tk2 (v := ?_) (by kernel_rfl) (by kernel_rfl) (by kernel_rfl) (by first | exact fun _ _ _ h => h | exact fun _ _ _ h => absurd h.1 (by simp)) (Or.inl ⟨by rfl, ?_⟩) (by assumption) ?_
    rotate_left 1
    focus (intro wx hSw; (try dsimp only at hSw); go_simp; try (with_reducible rfl))
    try simp only [Act.put, List.setIfInBounds_toArray, List.set_cons_zero, List.set_cons_succ]
    refine wpAnyH_ready (rs := [1, 8]) (by kernel_rfl) (by simp) ?_
    refine ar1 (fun K hK => ?_) ?_
    · go_simp
      refine (toSTG_any _ s0 Q0 lo (HV.out.keep (Carries.of lo (hwj.trans (belQ0.mono hwj.size)))) HS.out).mono ?_
      rintro e Q1 ⟨v2, rfl, hn, hbb⟩
      have belQ1 := belQ0.trans (hbb.mono belQ0.size)
      have zsQ1 := hbb.size
      have A_0Q1 := cell_carry A_0Q0 (Carries.of 0 hbb)
      have A_1Q1 := cell_carry A_1Q0 (Carries.of 0 hbb)
      have A_2Q1 := cell_carry A_2Q0 (Carries.of 0 hbb)
      have A_3Q1 := cell_carry A_3Q0 (Carries.of 0 hbb)
      have A_4Q1 := cell_carry A_4Q0 (Carries.of 0 hbb)
      have B_0Q1 := cell_carry B_0Q0 (Carries.of 0 hbb)
      have B_1Q1 := cell_carry B_1Q0 (Carries.of 0 hbb)
      have B_2Q1 := cell_carry B_2Q0 (Carries.of 0 hbb)
      have B_3Q1 := cell_carry B_3Q0 (Carries.of 0 hbb)
      have B_4Q1 := cell_carry B_4Q0 (Carries.of 0 hbb)
      have H2Q1 := Lib.hid (hn.low (Nat.zero_le _)); clear hn hbb
      refine hK.out _ _ ⟨A_0Q1, A_1Q1, A_2Q1, A_3Q1, A_4Q1, B_0Q1, B_1Q1, B_2Q1, B_3Q1, B_4Q1⟩ (fun hHeld => ?_)
      clear hK K
      try simp only [Act.put, List.setIfInBounds_toArray, List.set_cons_zero, List.set_cons_succ]
      refine wpAnyH_ready (rs := [3, 8]) (by kernel_rfl) (by simp) ?_
      refine ar3 (fun K hK => ?_) ?_
      · go_simp
        refine (toSTG_any _ s1 Q1 lo (HU.out.keep (Carries.of lo (hwj.trans (belQ1.mono hwj.size)))) HS1.out).mono ?_
        rintro e Q2 ⟨v3, rfl, hn, hbb⟩
        have belQ2 := belQ1.trans (hbb.mono belQ1.size)
        have zsQ2 := hbb.size
        have A_0Q2 := cell_carry A_0Q1 (Carries.of 0 hbb)
        have A_1Q2 := cell_carry A_1Q1 (Carries.of 0 hbb)
        have A_2Q2 := cell_carry A_2Q1 (Carries.of 0 hbb)
        have A_3Q2 := cell_carry A_3Q1 (Carries.of 0 hbb)
        have A_4Q2 := cell_carry A_4Q1 (Carries.of 0 hbb)
        have B_0Q2 := cell_carry B_0Q1 (Carries.of 0 hbb)
        have B_1Q2 := cell_carry B_1Q1 (Carries.of 0 hbb)
        have B_2Q2 := cell_carry B_2Q1 (Carries.of 0 hbb)
        have B_3Q2 := cell_carry B_3Q1 (Carries.of 0 hbb)
        have B_4Q2 := cell_carry B_4Q1 (Carries.of 0 hbb)
        have H2Q2 := Lib.hid (H2Q1.out.keep (Carries.of _ hbb))
        have H3Q2 := Lib.hid (hn.low (Nat.zero_le _)); clear hn hbb
        refine hK.out _ _ ⟨A_0Q2, A_1Q2, A_2Q2, A_3Q2, A_4Q2, B_0Q2, B_1Q2, B_2Q2, B_3Q2, B_4Q2⟩ (fun hHeld => ?_)
        clear hK K
        try simp only [Act.put, List.setIfInBounds_toArray, List.set_cons_zero, List.set_cons_succ]
        refine wpAnyH_ready (rs := [4, 8]) (by kernel_rfl) (by simp) ?_
        refine ar4 (fun K hK => ?_) ?_
        · go_simp
          refine (UnionSTGs_any _ _ s0 s1 Q2 0 H2Q2.out H3Q2.out HS.out HS1.out).mono ?_
          rintro e Q3 ⟨uw, rfl, hiw0, hbb⟩
          have hiw := hiw0.at
          clear hiw0
          rw [← HR.out.1] at hiw
          rw [← HR.out.2]
          obtain ⟨ra0, rc0, ra1, rc1, ra2, rc2, rfl, q1_, q2_, q3_⟩ := hiw.form
          clear q1_ q2_ q3_
          rw [← HQ.out.1, ← HQ.out.2.1, ← HQ.out.2.2.1, ← HQ.out.2.2.2.1, ← HQ.out.2.2.2.2] at hiw ⊢
          have belQ3 := belQ2.trans (hbb.mono belQ2.size)
          have zsQ3 := hbb.size
          have A_0Q3 := cell_carry A_0Q2 (Carries.of 0 hbb)
          have A_1Q3 := cell_carry A_1Q2 (Carries.of 0 hbb)
          have A_2Q3 := cell_carry A_2Q2 (Carries.of 0 hbb)
          have A_3Q3 := cell_carry A_3Q2 (Carries.of 0 hbb)
          have A_4Q3 := cell_carry A_4Q2 (Carries.of 0 hbb)
          have B_0Q3 := cell_carry B_0Q2 (Carries.of 0 hbb)
          have B_1Q3 := cell_carry B_1Q2 (Carries.of 0 hbb)
          have B_2Q3 := cell_carry B_2Q2 (Carries.of 0 hbb)
          have B_3Q3 := cell_carry B_3Q2 (Carries.of 0 hbb)
          have B_4Q3 := cell_carry B_4Q2 (Carries.of 0 hbb)
          have HWQ3 := Lib.hid hiw; clear hiw hbb
          refine hK.out _ _ ⟨A_0Q3, A_1Q3, A_2Q3, A_3Q3, A_4Q3, B_0Q3, B_1Q3, B_2Q3, B_3Q3, B_4Q3⟩ (fun hHeld => ?_)
          clear hK K
          try simp only [Act.put, List.setIfInBounds_toArray, List.set_cons_zero, List.set_cons_succ]
          refine tk5 (v := ?_) (by kernel_rfl) (by kernel_rfl) (by kernel_rfl) (by first | exact fun _ _ _ h => h | exact fun _ _ _ h => absurd h.1 (by simp)) (Or.inl ⟨by rfl, ?_⟩) (by assumption) ?_
          rotate_left 1
          focus (intro wx hSw; (try dsimp only at hSw); go_simp; try (with_reducible rfl))
          try simp only [Act.put, List.setIfInBounds_toArray, List.set_cons_zero, List.set_cons_succ]
          refine tk6 (v := ?_) (by kernel_rfl) (by kernel_rfl) (by kernel_rfl) (by first | exact fun _ _ _ h => h | exact fun _ _ _ h => absurd h.1 (by simp)) (Or.inl ⟨by rfl, ?_⟩) (by assumption) ?_
          rotate_left 1
          focus (intro wx hSw; (try dsimp only at hSw); go_simp; try (with_reducible rfl))
          try simp only [Act.put, List.setIfInBounds_toArray, List.set_cons_zero, List.set_cons_succ]
          refine tk7 (v := ?_) (by kernel_rfl) (by kernel_rfl) (by kernel_rfl) (by first | exact fun _ _ _ h => h | exact fun _ _ _ h => absurd h.1 (by simp)) (Or.inl ⟨by rfl, ?_⟩) (by assumption) ?_
          rotate_left 1
          focus (intro wx hSw; (try dsimp only at hSw); go_simp; try (with_reducible rfl))
          try simp only [Act.put, List.setIfInBounds_toArray, List.set_cons_zero, List.set_cons_succ]
          refine rd8 (by kernel_rfl) (fun K hK => ?_)
          go_simp
          have hbb : Below Q3.heap.size Q3 (Q3.alloc (.cells #[.int .i64 0, .slice none 0 0, .slice none 0 0, .slice none 0 0, .string ⟨#[]⟩] 63)) := (Below.refl _ _).alloc (Nat.le_refl _) _
          have g0Q4 : (Q3.alloc (.cells #[.int .i64 0, .slice none 0 0, .slice none 0 0, .slice none 0 0, .string ⟨#[]⟩] 63)).cell? ⟨Q3.heap.size, 0, none⟩ = some (.int .i64 0) := by simp
          have g1Q4 : (Q3.alloc (.cells #[.int .i64 0, .slice none 0 0, .slice none 0 0, .slice none 0 0, .string ⟨#[]⟩] 63)).cell? ⟨Q3.heap.size, 1, none⟩ = some (.slice none 0 0) := by simp
          have g2Q4 : (Q3.alloc (.cells #[.int .i64 0, .slice none 0 0, .slice none 0 0, .slice none 0 0, .string ⟨#[]⟩] 63)).cell? ⟨Q3.heap.size, 2, none⟩ = some (.slice none 0 0) := by simp
          have g3Q4 : (Q3.alloc (.cells #[.int .i64 0, .slice none 0 0, .slice none 0 0, .slice none 0 0, .string ⟨#[]⟩] 63)).cell? ⟨Q3.heap.size, 3, none⟩ = some (.slice none 0 0) := by simp
          have g4Q4 : (Q3.alloc (.cells #[.int .i64 0, .slice none 0 0, .slice none 0 0, .slice none 0 0, .string ⟨#[]⟩] 63)).cell? ⟨Q3.heap.size, 4, none⟩ = some (.string ⟨#[]⟩) := by simp
          have gf0Q4 : (Q3.alloc (.cells #[.int .i64 0, .slice none 0 0, .slice none 0 0, .slice none 0 0, .string ⟨#[]⟩] 63)).frozen? ⟨Q3.heap.size, 0, none⟩ = false := by simp
          have gf1Q4 : (Q3.alloc (.cells #[.int .i64 0, .slice none 0 0, .slice none 0 0, .slice none 0 0, .string ⟨#[]⟩] 63)).frozen? ⟨Q3.heap.size, 1, none⟩ = false := by simp
          have gf2Q4 : (Q3.alloc (.cells #[.int .i64 0, .slice none 0 0, .slice none 0 0, .slice none 0 0, .string ⟨#[]⟩] 63)).frozen? ⟨Q3.heap.size, 2, none⟩ = false := by simp
          have gf3Q4 : (Q3.alloc (.cells #[.int .i64 0, .slice none 0 0, .slice none 0 0, .slice none 0 0, .string ⟨#[]⟩] 63)).frozen? ⟨Q3.heap.size, 3, none⟩ = false := by simp
          have gf4Q4 : (Q3.alloc (.cells #[.int .i64 0, .slice none 0 0, .slice none 0 0, .slice none 0 0, .string ⟨#[]⟩] 63)).frozen? ⟨Q3.heap.size, 4, none⟩ = false := by simp
          have zgQ4 : Q3.heap.size < (Q3.alloc (.cells #[.int .i64 0, .slice none 0 0, .slice none 0 0, .slice none 0 0, .string ⟨#[]⟩] 63)).heap.size := by simp
          generalize Q3.alloc (.cells #[.int .i64 0, .slice none 0 0, .slice none 0 0, .slice none 0 0, .string ⟨#[]⟩] 63) = Q4 at hbb g0Q4 g1Q4 g2Q4 g3Q4 g4Q4 gf0Q4 gf1Q4 gf2Q4 gf3Q4 gf4Q4 zgQ4 ⊢
          have belQ4 := belQ3.trans (hbb.mono belQ3.size)
          have zsQ4 := hbb.size
          have A_0Q4 := cell_carry A_0Q3 (Carries.of 0 hbb)
          have A_1Q4 := cell_carry A_1Q3 (Carries.of 0 hbb)
          have A_2Q4 := cell_carry A_2Q3 (Carries.of 0 hbb)
          have A_3Q4 := cell_carry A_3Q3 (Carries.of 0 hbb)
          have A_4Q4 := cell_carry A_4Q3 (Carries.of 0 hbb)
          have B_0Q4 := cell_carry B_0Q3 (Carries.of 0 hbb)
          have B_1Q4 := cell_carry B_1Q3 (Carries.of 0 hbb)
          have B_2Q4 := cell_carry B_2Q3 (Carries.of 0 hbb)
          have B_3Q4 := cell_carry B_3Q3 (Carries.of 0 hbb)
          have B_4Q4 := cell_carry B_4Q3 (Carries.of 0 hbb)
          have HWQ4 := Lib.hid (HWQ3.out.keep (Carries.of _ hbb))
          have hbA := hbb
          refine hK.out _ _ ⟨A_0Q4, A_1Q4, A_2Q4, A_3Q4, A_4Q4, B_0Q4, B_1Q4, B_2Q4, B_3Q4, B_4Q4⟩ (fun hHeld => ?_)
          clear hK K
          try simp only [Act.put, List.setIfInBounds_toArray, List.set_cons_zero, List.set_cons_succ]
          refine rd9 (by kernel_rfl) (fun K hK => ?_)
          go_simp
          have HX : Hid (StgAt 0 (((((Q4.setCell ⟨Q3.heap.size, 0, none⟩ (.int .i64 rp)).setCell ⟨Q3.heap.size, 1, none⟩ (.slice ra0 rm rc0)).setCell ⟨Q3.heap.size, 2, none⟩ (.slice ra1 rns rc1)).setCell ⟨Q3.heap.size, 3, none⟩ (.slice ra2 rnl rc2)).setCell ⟨Q3.heap.size, 4, none⟩ (.string rst)) (.agg #[.int .i64 rp, .slice ra0 rm rc0, .slice ra1 rns rc1, .slice ra2 rnl rc2, .string rst]) RN) := Lib.hid ((HWQ3.out.keep (Carries.of _ (((((hbA.setCell (p := ⟨Q3.heap.size, 0, none⟩) (Nat.le_refl _) (.int .i64 rp)).setCell (p := ⟨Q3.heap.size, 1, none⟩) (Nat.le_refl _) (.slice ra0 rm rc0)).setCell (p := ⟨Q3.heap.size, 2, none⟩) (Nat.le_refl _) (.slice ra1 rns rc1)).setCell (p := ⟨Q3.heap.size, 3, none⟩) (Nat.le_refl _) (.slice ra2 rnl rc2)).setCell (p := ⟨Q3.heap.size, 4, none⟩) (Nat.le_refl _) (.string rst)))).low (Nat.zero_le _))
          generalize hWX : ((((Q4.setCell ⟨Q3.heap.size, 0, none⟩ (.int .i64 rp)).setCell ⟨Q3.heap.size, 1, none⟩ (.slice ra0 rm rc0)).setCell ⟨Q3.heap.size, 2, none⟩ (.slice ra1 rns rc1)).setCell ⟨Q3.heap.size, 3, none⟩ (.slice ra2 rnl rc2)).setCell ⟨Q3.heap.size, 4, none⟩ (.string rst) = WXQ5 at HX ⊢
          obtain ⟨q0, q1, q2, q3, q4⟩ := put5_cells hWX g0Q4 g1Q4 g2Q4 g3Q4 g4Q4
          have belX := put5_below hWX belQ4 (by omega)
          have qz : WXQ5.heap.size = Q4.heap.size := by rw [← hWX]; simp
          clear hWX
          have A_0X := cell_carry A_0 (Carries.of 0 belX)
          have A_1X := cell_carry A_1 (Carries.of 0 belX)
          have A_2X := cell_carry A_2 (Carries.of 0 belX)
          have A_3X := cell_carry A_3 (Carries.of 0 belX)
          have A_4X := cell_carry A_4 (Carries.of 0 belX)
          have B_0X := cell_carry B_0 (Carries.of 0 belX)
          have B_1X := cell_carry B_1 (Carries.of 0 belX)
          have B_2X := cell_carry B_2 (Carries.of 0 belX)
          have B_3X := cell_carry B_3 (Carries.of 0 belX)
          have B_4X := cell_carry B_4 (Carries.of 0 belX)
          refine hK.out _ _ ⟨A_0X, A_1X, A_2X, A_3X, A_4X, B_0X, B_1X, B_2X, B_3X, B_4X⟩ (fun hHeld => ?_)
          clear hK K
          try simp only [Act.put, List.setIfInBounds_toArray, List.set_cons_zero, List.set_cons_succ]
          refine rd10 (by kernel_rfl) (fun K hK => ?_)
          go_simp
          refine hK.out _ _ ⟨A_0X, A_1X, A_2X, A_3X, A_4X, B_0X, B_1X, B_2X, B_3X, B_4X⟩ (fun hHeld => ?_)
          clear hK K
          try simp only [Act.put, List.setIfInBounds_toArray, List.set_cons_zero, List.set_cons_succ]
          refine wpAnyH_done (by kernel_rfl) ?_ _
          exact ⟨rfl, Q3.heap.size, _, _, _, _, _, _, _, _, rfl, by omega, by omega, q0, q1, q2, q3, q4, HX.out, belX⟩
        refine ar8 (fun K hK => ?_) AllReadyH.nil
        go_simp
        have hbb : Below Q2.heap.size Q2 (Q2.alloc (.cells #[.int .i64 0, .slice none 0 0, .slice none 0 0, .slice none 0 0, .string ⟨#[]⟩] 63)) := (Below.refl _ _).alloc (Nat.le_refl _) _
        have g0Q7 : (Q2.alloc (.cells #[.int .i64 0, .slice none 0 0, .slice none 0 0, .slice none 0 0, .string ⟨#[]⟩] 63)).cell? ⟨Q2.heap.size, 0, none⟩ = some (.int .i64 0) := by simp
        have g1Q7 : (Q2.alloc (.cells #[.int .i64 0, .slice none 0 0, .slice none 0 0, .slice none 0 0, .string ⟨#[]⟩] 63)).cell? ⟨Q2.heap.size, 1, none⟩ = some (.slice none 0 0) := by simp
        have g2Q7 : (Q2.alloc (.cells #[.int .i64 0, .slice none 0 0, .slice none 0 0, .slice none 0 0, .string ⟨#[]⟩] 63)).cell? ⟨Q2.heap.size, 2, none⟩ = some (.slice none 0 0) := by simp
        have g3Q7 : (Q2.alloc (.cells #[.int .i64 0, .slice none 0 0, .slice none 0 0, .slice none 0 0, .string ⟨#[]⟩] 63)).cell? ⟨Q2.heap.size, 3, none⟩ = some (.slice none 0 0) := by simp
        have g4Q7 : (Q2.alloc (.cells #[.int .i64 0, .slice none 0 0, .slice none 0 0, .slice none 0 0, .string ⟨#[]⟩] 63)).cell? ⟨Q2.heap.size, 4, none⟩ = some (.string ⟨#[]⟩) := by simp
        have gf0Q7 : (Q2.alloc (.cells #[.int .i64 0, .slice none 0 0, .slice none 0 0, .slice none 0 0, .string ⟨#[]⟩] 63)).frozen? ⟨Q2.heap.size, 0, none⟩ = false := by simp
        have gf1Q7 : (Q2.alloc (.cells #[.int .i64 0, .slice none 0 0, .slice none 0 0, .slice none 0 0, .string ⟨#[]⟩] 63)).frozen? ⟨Q2.heap.size, 1, none⟩ = false := by simp
        have gf2Q7 : (Q2.alloc (.cells #[.int .i64 0, .slice none 0 0, .slice none 0 0, .slice none 0 0, .string ⟨#[]⟩] 63)).frozen? ⟨Q2.heap.size, 2, none⟩ = false := by simp
        have gf3Q7 : (Q2.alloc (.cells #[.int .i64 0, .slice none 0 0, .slice none 0 0, .slice none 0 0, .string ⟨#[]⟩] 63)).frozen? ⟨Q2.heap.size, 3, none⟩ = false := by simp
        have gf4Q7 : (Q2.alloc (.cells #[.int .i64 0, .slice none 0 0, .slice none 0 0, .slice none 0 0, .string ⟨#[]⟩] 63)).frozen? ⟨Q2.heap.size, 4, none⟩ = false := by simp
        have zgQ7 : Q2.heap.size < (Q2.alloc (.cells #[.int .i64 0, .slice none 0 0, .slice none 0 0, .slice none 0 0, .string ⟨#[]⟩] 63)).heap.size := by simp
        generalize Q2.alloc (.cells #[.int .i64 0, .slice none 0 0, .slice none 0 0, .slice none 0 0, .string ⟨#[]⟩] 63) = Q7 at hbb g0Q7 g1Q7 g2Q7 g3Q7 g4Q7 gf0Q7 gf1Q7 gf2Q7 gf3Q7 gf4Q7 zgQ7 ⊢
        have belQ7 := belQ2.trans (hbb.mono belQ2.size)
        have zsQ7 := hbb.size
        have A_0Q7 := cell_carry A_0Q2 (Carries.of 0 hbb)
        have A_1Q7 := cell_carry A_1Q2 (Carries.of 0 hbb)
        have A_2Q7 := cell_carry A_2Q2 (Carries.of 0 hbb)
        have A_3Q7 := cell_carry A_3Q2 (Carries.of 0 hbb)
        have A_4Q7 := cell_carry A_4Q2 (Carries.of 0 hbb)
        have B_0Q7 := cell_carry B_0Q2 (Carries.of 0 hbb)
        have B_1Q7 := cell_carry B_1Q2 (Carries.of 0 hbb)
        have B_2Q7 := cell_carry B_2Q2 (Carries.of 0 hbb)
        have B_3Q7 := cell_carry B_3Q2 (Carries.of 0 hbb)
        have B_4Q7 := cell_carry B_4Q2 (Carries.of 0 hbb)
        have H2Q7 := Lib.hid (H2Q2.out.keep (Carries.of _ hbb))
        have H3Q7 := Lib.hid (H3Q2.out.keep (Carries.of _ hbb))
        refine hK.out _ _ ⟨A_0Q7, A_1Q7, A_2Q7, A_3Q7, A_4Q7, B_0Q7, B_1Q7, B_2Q7, B_3Q7, B_4Q7⟩ (fun hHeld => ?_)
        clear hK K
        try simp only [Act.put, List.setIfInBounds_toArray, List.set_cons_zero, List.set_cons_succ]
        refine rd4 (by kernel_rfl) (fun K hK => ?_)
        go_simp
        refine (UnionSTGs_any _ _ s0 s1 Q7 0 H2Q7.out H3Q7.out HS.out HS1.out).mono ?_
        rintro e Q8 ⟨uw, rfl, hiw0, hbb⟩
        have hiw := hiw0.at
        clear hiw0
        rw [← HR.out.1] at hiw
        rw [← HR.out.2]
        obtain ⟨ra0, rc0, ra1, rc1, ra2, rc2, rfl, q1_, q2_, q3_⟩ := hiw.form
        clear q1_ q2_ q3_
        rw [← HQ.out.1, ← HQ.out.2.1, ← HQ.out.2.2.1, ← HQ.out.2.2.2.1, ← HQ.out.2.2.2.2] at hiw ⊢
        have belQ8 := belQ7.trans (hbb.mono belQ7.size)
        have zsQ8 := hbb.size
        have A_0Q8 := cell_carry A_0Q7 (Carries.of 0 hbb)
        have A_1Q8 := cell_carry A_1Q7 (Carries.of 0 hbb)
        have A_2Q8 := cell_carry A_2Q7 (Carries.of 0 hbb)
        have A_3Q8 := cell_carry A_3Q7 (Carries.of 0 hbb)
        have A_4Q8 := cell_carry A_4Q7 (Carries.of 0 hbb)
        have B_0Q8 := cell_carry B_0Q7 (Carries.of 0 hbb)
        have B_1Q8 := cell_carry B_1Q7 (Carries.of 0 hbb)
        have B_2Q8 := cell_carry B_2Q7 (Carries.of 0 hbb)
        have B_3Q8 := cell_carry B_3Q7 (Carries.of 0 hbb)
        have B_4Q8 := cell_carry B_4Q7 (Carries.of 0 hbb)
        have g0Q8 := cell_carry g0Q7 (Carries.of 0 hbb)
        have g1Q8 := cell_carry g1Q7 (Carries.of 0 hbb)
        have g2Q8 := cell_carry g2Q7 (Carries.of 0 hbb)
        have g3Q8 := cell_carry g3Q7 (Carries.of 0 hbb)
        have g4Q8 := cell_carry g4Q7 (Carries.of 0 hbb)
        have gf0Q8 := (hbb.frozen (p := ⟨Q2.heap.size, 0, none⟩) (by simp; omega)).trans gf0Q7
        have gf1Q8 := (hbb.frozen (p := ⟨Q2.heap.size, 1, none⟩) (by simp; omega)).trans gf1Q7
        have gf2Q8 := (hbb.frozen (p := ⟨Q2.heap.size, 2, none⟩) (by simp; omega)).trans gf2Q7
        have gf3Q8 := (hbb.frozen (p := ⟨Q2.heap.size, 3, none⟩) (by simp; omega)).trans gf3Q7
        have gf4Q8 := (hbb.frozen (p := ⟨Q2.heap.size, 4, none⟩) (by simp; omega)).trans gf4Q7
        have HWQ8 := Lib.hid hiw; clear hiw hbb
        refine hK.out _ _ ⟨A_0Q8, A_1Q8, A_2Q8, A_3Q8, A_4Q8, B_0Q8, B_1Q8, B_2Q8, B_3Q8, B_4Q8⟩ (fun hHeld => ?_)
        clear hK K
        try simp only [Act.put, List.setIfInBounds_toArray, List.set_cons_zero, List.set_cons_succ]
        refine tk5 (v := ?_) (by kernel_rfl) (by kernel_rfl) (by kernel_rfl) (by first | exact fun _ _ _ h => h | exact fun _ _ _ h => absurd h.1 (by simp)) (Or.inl ⟨by rfl, ?_⟩) (by assumption) ?_
        rotate_left 1
        focus (intro wx hSw; (try dsimp only at hSw); go_simp; try (with_reducible rfl))
        try simp only [Act.put, List.setIfInBounds_toArray, List.set_cons_zero, List.set_cons_succ]
        refine tk6 (v := ?_) (by kernel_rfl) (by kernel_rfl) (by kernel_rfl) (by first | exact fun _ _ _ h => h | exact fun _ _ _ h => absurd h.1 (by simp)) (Or.inl ⟨by rfl, ?_⟩) (by assumption) ?_
        rotate_left 1
        focus (intro wx hSw; (try dsimp only at hSw); go_simp; try (with_reducible rfl))
        try simp only [Act.put, List.setIfInBounds_toArray, List.set_cons_zero, List.set_cons_succ]
        refine tk7 (v := ?_) (by kernel_rfl) (by kernel_rfl) (by kernel_rfl) (by first | exact fun _ _ _ h => h | exact fun _ _ _ h => absurd h.1 (by simp)) (Or.inl ⟨by rfl, ?_⟩) (by assumption) ?_
        rotate_left 1
        focus (intro wx hSw; (try dsimp only at hSw); go_simp; try (with_reducible rfl))
        try simp only [Act.put, List.setIfInBounds_toArray, List.set_cons_zero, List.set_cons_succ]
        refine rd9 (by kernel_rfl) (fun K hK => ?_)
        go_simp
        have HX : Hid (StgAt 0 (((((Q8.setCell ⟨Q2.heap.size, 0, none⟩ (.int .i64 rp)).setCell ⟨Q2.heap.size, 1, none⟩ (.slice ra0 rm rc0)).setCell ⟨Q2.heap.size, 2, none⟩ (.slice ra1 rns rc1)).setCell ⟨Q2.heap.size, 3, none⟩ (.slice ra2 rnl rc2)).setCell ⟨Q2.heap.size, 4, none⟩ (.string rst)) (.agg #[.int .i64 rp, .slice ra0 rm rc0, .slice ra1 rns rc1, .slice ra2 rnl rc2, .string rst]) RN) := Lib.hid ((HWQ8.out.keep ((((((Carries.refl _ _).set (p := ⟨Q2.heap.size, 0, none⟩) (by simp; omega) (.int .i64 rp)).set (p := ⟨Q2.heap.size, 1, none⟩) (by simp; omega) (.slice ra0 rm rc0)).set (p := ⟨Q2.heap.size, 2, none⟩) (by simp; omega) (.slice ra1 rns rc1)).set (p := ⟨Q2.heap.size, 3, none⟩) (by simp; omega) (.slice ra2 rnl rc2)).set (p := ⟨Q2.heap.size, 4, none⟩) (by simp; omega) (.string rst))).low (Nat.zero_le _))
        generalize hWX : ((((Q8.setCell ⟨Q2.heap.size, 0, none⟩ (.int .i64 rp)).setCell ⟨Q2.heap.size, 1, none⟩ (.slice ra0 rm rc0)).setCell ⟨Q2.heap.size, 2, none⟩ (.slice ra1 rns rc1)).setCell ⟨Q2.heap.size, 3, none⟩ (.slice ra2 rnl rc2)).setCell ⟨Q2.heap.size, 4, none⟩ (.string rst) = WXQ9 at HX ⊢
        obtain ⟨q0, q1, q2, q3, q4⟩ := put5_cells hWX g0Q8 g1Q8 g2Q8 g3Q8 g4Q8
        have belX := put5_below hWX belQ8 (by omega)
        have qz : WXQ9.heap.size = Q8.heap.size := by rw [← hWX]; simp
        clear hWX
        have A_0X := cell_carry A_0 (Carries.of 0 belX)
        have A_1X := cell_carry A_1 (Carries.of 0 belX)
        have A_2X := cell_carry A_2 (Carries.of 0 belX)
        have A_3X := cell_carry A_3 (Carries.of 0 belX)
        have A_4X := cell_carry A_4 (Carries.of 0 belX)
        have B_0X := cell_carry B_0 (Carries.of 0 belX)
        have B_1X := cell_carry B_1 (Carries.of 0 belX)
        have B_2X := cell_carry B_2 (Carries.of 0 belX)
        have B_3X := cell_carry B_3 (Carries.of 0 belX)
        have B_4X := cell_carry B_4 (Carries.of 0 belX)
        refine hK.out _ _ ⟨A_0X, A_1X, A_2X, A_3X, A_4X, B_0X, B_1X, B_2X, B_3X, B_4X⟩ (fun hHeld => ?_)
        clear hK K
        try simp only [Act.put, List.setIfInBounds_toArray, List.set_cons_zero, List.set_cons_succ]
        refine rd10 (by kernel_rfl) (fun K hK => ?_)
        go_simp
        refine hK.out _ _ ⟨A_0X, A_1X, A_2X, A_3X, A_4X, B_0X, B_1X, B_2X, B_3X, B_4X⟩ (fun hHeld => ?_)
        clear hK K
        try simp only [Act.put, List.setIfInBounds_toArray, List.set_cons_zero, List.set_cons_succ]
        refine wpAnyH_done (by kernel_rfl) ?_ _
        exact ⟨rfl, Q2.heap.size, _, _, _, _, _, _, _, _, rfl, by omega, by omega, q0, q1, q2, q3, q4, HX.out, belX⟩
      refine ar8 (fun K hK => ?_) AllReadyH.nil
      go_simp
      have hbb : Below Q1.heap.size Q1 (Q1.alloc (.cells #[.int .i64 0, .slice none 0 0, .slice none 0 0, .slice none 0 0, .string ⟨#[]⟩] 63)) := (Below.refl _ _).alloc (Nat.le_refl _) _
      have g0Q11 : (Q1.alloc (.cells #[.int .i64 0, .slice none 0 0, .slice none 0 0, .slice none 0 0, .string ⟨#[]⟩] 63)).cell? ⟨Q1.heap.size, 0, none⟩ = some (.int .i64 0) := by simp
      have g1Q11 : (Q1.alloc (.cells #[.int .i64 0, .slice none 0 0, .slice none 0 0, .slice none 0 0, .string ⟨#[]⟩] 63)).cell? ⟨Q1.heap.size, 1, none⟩ = some (.slice none 0 0) := by simp
      have g2Q11 : (Q1.alloc (.cells #[.int .i64 0, .slice none 0 0, .slice none 0 0, .slice none 0 0, .string ⟨#[]⟩] 63)).cell? ⟨Q1.heap.size, 2, none⟩ = some (.slice none 0 0) := by simp
      have g3Q11 : (Q1.alloc (.cells #[.int .i64 0, .slice none 0 0, .slice none 0 0, .slice none 0 0, .string ⟨#[]⟩] 63)).cell? ⟨Q1.heap.size, 3, none⟩ = some (.slice none 0 0) := by simp
      have g4Q11 : (Q1.alloc (.cells #[.int .i64 0, .slice none 0 0, .slice none 0 0, .slice none 0 0, .string ⟨#[]⟩] 63)).cell? ⟨Q1.heap.size, 4, none⟩ = some (.string ⟨#[]⟩) := by simp
      have gf0Q11 : (Q1.alloc (.cells #[.int .i64 0, .slice none 0 0, .slice none 0 0, .slice none 0 0, .string ⟨#[]⟩] 63)).frozen? ⟨Q1.heap.size, 0, none⟩ = false := by simp
      have gf1Q11 : (Q1.alloc (.cells #[.int .i64 0, .slice none 0 0, .slice none 0 0, .slice none 0 0, .string ⟨#[]⟩] 63)).frozen? ⟨Q1.heap.size, 1, none⟩ = false := by simp
      have gf2Q11 : (Q1.alloc (.cells #[.int .i64 0, .slice none 0 0, .slice none 0 0, .slice none 0 0, .string ⟨#[]⟩] 63)).frozen? ⟨Q1.heap.size, 2, none⟩ = false := by simp
      have gf3Q11 : (Q1.alloc (.cells #[.int .i64 0, .slice none 0 0, .slice none 0 0, .slice none 0 0, .string ⟨#[]⟩] 63)).frozen? ⟨Q1.heap.size, 3, none⟩ = false := by simp
      have gf4Q11 : (Q1.alloc (.cells #[.int .i64 0, .slice none 0 0, .slice none 0 0, .slice none 0 0, .string ⟨#[]⟩] 63)).frozen? ⟨Q1.heap.size, 4, none⟩ = false := by simp
      have zgQ11 : Q1.heap.size < (Q1.alloc (.cells #[.int .i64 0, .slice none 0 0, .slice none 0 0, .slice none 0 0, .string ⟨#[]⟩] 63)).heap.size := by simp
      generalize Q1.alloc (.cells #[.int .i64 0, .slice none 0 0, .slice none 0 0, .slice none 0 0, .string ⟨#[]⟩] 63) = Q11 at hbb g0Q11 g1Q11 g2Q11 g3Q11 g4Q11 gf0Q11 gf1Q11 gf2Q11 gf3Q11 gf4Q11 zgQ11 ⊢
      have belQ11 := belQ1.trans (hbb.mono belQ1.size)
      have zsQ11 := hbb.size
      have A_0Q11 := cell_carry A_0Q1 (Carries.of 0 hbb)
      have A_1Q11 := cell_carry A_1Q1 (Carries.of 0 hbb)
      have A_2Q11 := cell_carry A_2Q1 (Carries.of 0 hbb)
      have A_3Q11 := cell_carry A_3Q1 (Carries.of 0 hbb)
      have A_4Q11 := cell_carry A_4Q1 (Carries.of 0 hbb)
      have B_0Q11 := cell_carry B_0Q1 (Carries.of 0 hbb)
      have B_1Q11 := cell_carry B_1Q1 (Carries.of 0 hbb)
      have B_2Q11 := cell_carry B_2Q1 (Carries.of 0 hbb)
      have B_3Q11 := cell_carry B_3Q1 (Carries.of 0 hbb)
      have B_4Q11 := cell_carry B_4Q1 (Carries.of 0 hbb)
      have H2Q11 := Lib.hid (H2Q1.out.keep (Carries.of _ hbb))
      refine hK.out _ _ ⟨A_0Q11, A_1Q11, A_2Q11, A_3Q11, A_4Q11, B_0Q11, B_1Q11, B_2Q11, B_3Q11, B_4Q11⟩ (fun hHeld => ?_)
      clear hK K
      try simp only [Act.put, List.setIfInBounds_toArray, List.set_cons_zero, List.set_cons_succ]
      refine rd3 (by kernel_rfl) (fun K hK => ?_)
      go_simp
      refine (toSTG_any _ s1 Q11 lo (HU.out.keep (Carries.of lo (hwj.trans (belQ11.mono hwj.size)))) HS1.out).mono ?_
      rintro e Q12 ⟨v3, rfl, hn, hbb⟩
      have belQ12 := belQ11.trans (hbb.mono belQ11.size)
      have zsQ12 := hbb.size
      have A_0Q12 := cell_carry A_0Q11 (Carries.of 0 hbb)
      have A_1Q12 := cell_carry A_1Q11 (Carries.of 0 hbb)
      have A_2Q12 := cell_carry A_2Q11 (Carries.of 0 hbb)
      have A_3Q12 := cell_carry A_3Q11 (Carries.of 0 hbb)
      have A_4Q12 := cell_carry A_4Q11 (Carries.of 0 hbb)
      have B_0Q12 := cell_carry B_0Q11 (Carries.of 0 hbb)
      have B_1Q12 := cell_carry B_1Q11 (Carries.of 0 hbb)
      have B_2Q12 := cell_carry B_2Q11 (Carries.of 0 hbb)
      have B_3Q12 := cell_carry B_3Q11 (Carries.of 0 hbb)
      have B_4Q12 := cell_carry B_4Q11 (Carries.of 0 hbb)
      have g0Q12 := cell_carry g0Q11 (Carries.of 0 hbb)
      have g1Q12 := cell_carry g1Q11 (Carries.of 0 hbb)
      have g2Q12 := cell_carry g2Q11 (Carries.of 0 hbb)
      have g3Q12 := cell_carry g3Q11 (Carries.of 0 hbb)
      have g4Q12 := cell_carry g4Q11 (Carries.of 0 hbb)
      have gf0Q12 := (hbb.frozen (p := ⟨Q1.heap.size, 0, none⟩) (by simp; omega)).trans gf0Q11
      have gf1Q12 := (hbb.frozen (p := ⟨Q1.heap.size, 1, none⟩) (by simp; omega)).trans gf1Q11
      have gf2Q12 := (hbb.frozen (p := ⟨Q1.heap.size, 2, none⟩) (by simp; omega)).trans gf2Q11
      have gf3Q12 := (hbb.frozen (p := ⟨Q1.heap.size, 3, none⟩) (by simp; omega)).trans gf3Q11
      have gf4Q12 := (hbb.frozen (p := ⟨Q1.heap.size, 4, none⟩) (by simp; omega)).trans gf4Q11
      have H2Q12 := Lib.hid (H2Q11.out.keep (Carries.of _ hbb))
      have H3Q12 := Lib.hid (hn.low (Nat.zero_le _)); clear hn hbb
      refine hK.out _ _ ⟨A_0Q12, A_1Q12, A_2Q12, A_3Q12, A_4Q12, B_0Q12, B_1Q12, B_2Q12, B_3Q12, B_4Q12⟩ (fun hHeld => ?_)
      clear hK K
      try simp only [Act.put, List.setIfInBounds_toArray, List.set_cons_zero, List.set_cons_succ]
      refine rd4 (by kernel_rfl) (fun K hK => ?_)
      go_simp
      refine (UnionSTGs_any _ _ s0 s1 Q12 0 H2Q12.out H3Q12.out HS.out HS1.out).mono ?_
      rintro e Q13 ⟨uw, rfl, hiw0, hbb⟩
      have hiw := hiw0.at
      clear hiw0
      rw [← HR.out.1] at hiw
      rw [← HR.out.2]
      obtain ⟨ra0, rc0, ra1, rc1, ra2, rc2, rfl, q1_, q2_, q3_⟩ := hiw.form
      clear q1_ q2_ q3_
      rw [← HQ.out.1, ← HQ.out.2.1, ← HQ.out.2.2.1, ← HQ.out.2.2.2.1, ← HQ.out.2.2.2.2] at hiw ⊢
      have belQ13 := belQ12.trans (hbb.mono belQ12.size)
      have zsQ13 := hbb.size
      have A_0Q13 := cell_carry A_0Q12 (Carries.of 0 hbb)
      have A_1Q13 := cell_carry A_1Q12 (Carries.of 0 hbb)
      have A_2Q13 := cell_carry A_2Q12 (Carries.of 0 hbb)
      have A_3Q13 := cell_carry A_3Q12 (Carries.of 0 hbb)
      have A_4Q13 := cell_carry A_4Q12 (Carries.of 0 hbb)
      have B_0Q13 := cell_carry B_0Q12 (Carries.of 0 hbb)
      have B_1Q13 := cell_carry B_1Q12 (Carries.of 0 hbb)
      have B_2Q13 := cell_carry B_2Q12 (Carries.of 0 hbb)
      have B_3Q13 := cell_carry B_3Q12 (Carries.of 0 hbb)
      have B_4Q13 := cell_carry B_4Q12 (Carries.of 0 hbb)
      have g0Q13 := cell_carry g0Q12 (Carries.of 0 hbb)
      have g1Q13 := cell_carry g1Q12 (Carries.of 0 hbb)
      have g2Q13 := cell_carry g2Q12 (Carries.of 0 hbb)
      have g3Q13 := cell_carry g3Q12 (Carries.of 0 hbb)
      have g4Q13 := cell_carry g4Q12 (Carries.of 0 hbb)
      have gf0Q13 := (hbb.frozen (p := ⟨Q1.heap.size, 0, none⟩) (by simp; omega)).trans gf0Q12
      have gf1Q13 := (hbb.frozen (p := ⟨Q1.heap.size, 1, none⟩) (by simp; omega)).trans gf1Q12
      have gf2Q13 := (hbb.frozen (p := ⟨Q1.heap.size, 2, none⟩) (by simp; omega)).trans gf2Q12
      have gf3Q13 := (hbb.frozen (p := ⟨Q1.heap.size, 3, none⟩) (by simp; omega)).trans gf3Q12
      have gf4Q13 := (hbb.frozen (p := ⟨Q1.heap.size, 4, none⟩) (by simp; omega)).trans gf4Q12
      have HWQ13 := Lib.hid hiw; clear hiw hbb
      refine hK.out _ _ ⟨A_0Q13, A_1Q13, A_2Q13, A_3Q13, A_4Q13, B_0Q13, B_1Q13, B_2Q13, B_3Q13, B_4Q13⟩ (fun hHeld => ?_)
      clear hK K
      try simp only [Act.put, List.setIfInBounds_toArray, List.set_cons_zero, List.set_cons_succ]
      refine tk5 (v := ?_) (by kernel_rfl) (by kernel_rfl) (by kernel_rfl) (by first | exact fun _ _ _ h => h | exact fun _ _ _ h => absurd h.1 (by simp)) (Or.inl ⟨by rfl, ?_⟩) (by assumption) ?_
      rotate_left 1
      focus (intro wx hSw; (try dsimp only at hSw); go_simp; try (with_reducible rfl))
      try simp only [Act.put, List.setIfInBounds_toArray, List.set_cons_zero, List.set_cons_succ]
      refine tk6 (v := ?_) (by kernel_rfl) (by kernel_rfl) (by kernel_rfl) (by first | exact fun _ _ _ h => h | exact fun _ _ _ h => absurd h.1 (by simp)) (Or.inl ⟨by rfl, ?_⟩) (by assumption) ?_
      rotate_left 1
      focus (intro wx hSw; (try dsimp only at hSw); go_simp; try (with_reducible rfl))
      try simp only [Act.put, List.setIfInBounds_toArray, List.set_cons_zero, List.set_cons_succ]
      refine tk7 (v := ?_) (by kernel_rfl) (by kernel_rfl) (by kernel_rfl) (by first | exact fun _ _ _ h => h | exact fun _ _ _ h => absurd h.1 (by simp)) (Or.inl ⟨by rfl, ?_⟩) (by assumption) ?_
      rotate_left 1
      focus (intro wx hSw; (try dsimp only at hSw); go_simp; try (with_reducible rfl))
      try simp only [Act.put, List.setIfInBounds_toArray, List.set_cons_zero, List.set_cons_succ]
      refine rd9 (by kernel_rfl) (fun K hK => ?_)
      go_simp
      have HX : Hid (StgAt 0 (((((Q13.setCell ⟨Q1.heap.size, 0, none⟩ (.int .i64 rp)).setCell ⟨Q1.heap.size, 1, none⟩ (.slice ra0 rm rc0)).setCell ⟨Q1.heap.size, 2, none⟩ (.slice ra1 rns rc1)).setCell ⟨Q1.heap.size, 3, none⟩ (.slice ra2 rnl rc2)).setCell ⟨Q1.heap.size, 4, none⟩ (.string rst)) (.agg #[.int .i64 rp, .slice ra0 rm rc0, .slice ra1 rns rc1, .slice ra2 rnl rc2, .string rst]) RN) := Lib.hid ((HWQ13.out.keep ((((((Carries.refl _ _).set (p := ⟨Q1.heap.size, 0, none⟩) (by simp; omega) (.int .i64 rp)).set (p := ⟨Q1.heap.size, 1, none⟩) (by simp; omega) (.slice ra0 rm rc0)).set (p := ⟨Q1.heap.size, 2, none⟩) (by simp; omega) (.slice ra1 rns rc1)).set (p := ⟨Q1.heap.size, 3, none⟩) (by simp; omega) (.slice ra2 rnl rc2)).set (p := ⟨Q1.heap.size, 4, none⟩) (by simp; omega) (.string rst))).low (Nat.zero_le _))
      generalize hWX : ((((Q13.setCell ⟨Q1.heap.size, 0, none⟩ (.int .i64 rp)).setCell ⟨Q1.heap.size, 1, none⟩ (.slice ra0 rm rc0)).setCell ⟨Q1.heap.size, 2, none⟩ (.slice ra1 rns rc1)).setCell ⟨Q1.heap.size, 3, none⟩ (.slice ra2 rnl rc2)).setCell ⟨Q1.heap.size, 4, none⟩ (.string rst) = WXQ14 at HX ⊢
      obtain ⟨q0, q1, q2, q3, q4⟩ := put5_cells hWX g0Q13 g1Q13 g2Q13 g3Q13 g4Q13
      have belX := put5_below hWX belQ13 (by omega)
      have qz : WXQ14.heap.size = Q13.heap.size := by rw [← hWX]; simp
      clear hWX
      have A_0X := cell_carry A_0 (Carries.of 0 belX)
      have A_1X := cell_carry A_1 (Carries.of 0 belX)
      have A_2X := cell_carry A_2 (Carries.of 0 belX)
      have A_3X := cell_carry A_3 (Carries.of 0 belX)
      have A_4X := cell_carry A_4 (Carries.of 0 belX)
      have B_0X := cell_carry B_0 (Carries.of 0 belX)
      have B_1X := cell_carry B_1 (Carries.of 0 belX)
      have B_2X := cell_carry B_2 (Carries.of 0 belX)
      have B_3X := cell_carry B_3 (Carries.of 0 belX)
      have B_4X := cell_carry B_4 (Carries.of 0 belX)
      refine hK.out _ _ ⟨A_0X, A_1X, A_2X, A_3X, A_4X, B_0X, B_1X, B_2X, B_3X, B_4X⟩ (fun hHeld => ?_)
      clear hK K
      try simp only [Act.put, List.setIfInBounds_toArray, List.set_cons_zero, List.set_cons_succ]
      refine rd10 (by kernel_rfl) (fun K hK => ?_)
      go_simp
      refine hK.out _ _ ⟨A_0X, A_1X, A_2X, A_3X, A_4X, B_0X, B_1X, B_2X, B_3X, B_4X⟩ (fun hHeld => ?_)
      clear hK K
      try simp only [Act.put, List.setIfInBounds_toArray, List.set_cons_zero, List.set_cons_succ]
      refine wpAnyH_done (by kernel_rfl) ?_ _
      exact ⟨rfl, Q1.heap.size, _, _, _, _, _, _, _, _, rfl, by omega, by omega, q0, q1, q2, q3, q4, HX.out, belX⟩
    refine ar8 (fun K hK => ?_) AllReadyH.nil
    go_simp
    have hbb : Below Q0.heap.size Q0 (Q0.alloc (.cells #[.int .i64 0, .slice none 0 0, .slice none 0 0, .slice none 0 0, .string ⟨#[]⟩] 63)) := (Below.refl _ _).alloc (Nat.le_refl _) _
    have g0Q16 : (Q0.alloc (.cells #[.int .i64 0, .slice none 0 0, .slice none 0 0, .slice none 0 0, .string ⟨#[]⟩] 63)).cell? ⟨Q0.heap.size, 0, none⟩ = some (.int .i64 0) := by simp
    have g1Q16 : (Q0.alloc (.cells #[.int .i64 0, .slice none 0 0, .slice none 0 0, .slice none 0 0, .string ⟨#[]⟩] 63)).cell? ⟨Q0.heap.size, 1, none⟩ = some (.slice none 0 0) := by simp
    have g2Q16 : (Q0.alloc (.cells #[.int .i64 0, .slice none 0 0, .slice none 0 0, .slice none 0 0, .string ⟨#[]⟩] 63)).cell? ⟨Q0.heap.size, 2, none⟩ = some (.slice none 0 0) := by simp
    have g3Q16 : (Q0.alloc (.cells #[.int .i64 0, .slice none 0 0, .slice none 0 0, .slice none 0 0, .string ⟨#[]⟩] 63)).cell? ⟨Q0.heap.size, 3, none⟩ = some (.slice none 0 0) := by simp
    have g4Q16 : (Q0.alloc (.cells #[.int .i64 0, .slice none 0 0, .slice none 0 0, .slice none 0 0, .string ⟨#[]⟩] 63)).cell? ⟨Q0.heap.size, 4, none⟩ = some (.string ⟨#[]⟩) := by simp
    have gf0Q16 : (Q0.alloc (.cells #[.int .i64 0, .slice none 0 0, .slice none 0 0, .slice none 0 0, .string ⟨#[]⟩] 63)).frozen? ⟨Q0.heap.size, 0, none⟩ = false := by simp
    have gf1Q16 : (Q0.alloc (.cells #[.int .i64 0, .slice none 0 0, .slice none 0 0, .slice none 0 0, .string ⟨#[]⟩] 63)).frozen? ⟨Q0.heap.size, 1, none⟩ = false := by simp
    have gf2Q16 : (Q0.alloc (.cells #[.int .i64 0, .slice none 0 0, .slice none 0 0, .slice none 0 0, .string ⟨#[]⟩] 63)).frozen? ⟨Q0.heap.size, 2, none⟩ = false := by simp
    have gf3Q16 : (Q0.alloc (.cells #[.int .i64 0, .slice none 0 0, .slice none 0 0, .slice none 0 0, .string ⟨#[]⟩] 63)).frozen? ⟨Q0.heap.size, 3, none⟩ = false := by simp
    have gf4Q16 : (Q0.alloc (.cells #[.int .i64 0, .slice none 0 0, .slice none 0 0, .slice none 0 0, .string ⟨#[]⟩] 63)).frozen? ⟨Q0.heap.size, 4, none⟩ = false := by simp
    have zgQ16 : Q0.heap.size < (Q0.alloc (.cells #[.int .i64 0, .slice none 0 0, .slice none 0 0, .slice none 0 0, .string ⟨#[]⟩] 63)).heap.size := by simp
    generalize Q0.alloc (.cells #[.int .i64 0, .slice none 0 0, .slice none 0 0, .slice none 0 0, .string ⟨#[]⟩] 63) = Q16 at hbb g0Q16 g1Q16 g2Q16 g3Q16 g4Q16 gf0Q16 gf1Q16 gf2Q16 gf3Q16 gf4Q16 zgQ16 ⊢
    have belQ16 := belQ0.trans (hbb.mono belQ0.size)
    have zsQ16 := hbb.size
    have A_0Q16 := cell_carry A_0Q0 (Carries.of 0 hbb)
    have A_1Q16 := cell_carry A_1Q0 (Carries.of 0 hbb)
    have A_2Q16 := cell_carry A_2Q0 (Carries.of 0 hbb)
    have A_3Q16 := cell_carry A_3Q0 (Carries.of 0 hbb)
    have A_4Q16 := cell_carry A_4Q0 (Carries.of 0 hbb)
    have B_0Q16 := cell_carry B_0Q0 (Carries.of 0 hbb)
    have B_1Q16 := cell_carry B_1Q0 (Carries.of 0 hbb)
    have B_2Q16 := cell_carry B_2Q0 (Carries.of 0 hbb)
    have B_3Q16 := cell_carry B_3Q0 (Carries.of 0 hbb)
    have B_4Q16 := cell_carry B_4Q0 (Carries.of 0 hbb)
    refine hK.out _ _ ⟨A_0Q16, A_1Q16, A_2Q16, A_3Q16, A_4Q16, B_0Q16, B_1Q16, B_2Q16, B_3Q16, B_4Q16⟩ (fun hHeld => ?_)
    clear hK K
    try simp only [Act.put, List.setIfInBounds_toArray, List.set_cons_zero, List.set_cons_succ]
    refine rd1 (by kernel_rfl) (fun K hK => ?_)
    go_simp
    refine (toSTG_any _ s0 Q16 lo (HV.out.keep (Carries.of lo (hwj.trans (belQ16.mono hwj.size)))) HS.out).mono ?_
    rintro e Q17 ⟨v2, rfl, hn, hbb⟩
    have belQ17 := belQ16.trans (hbb.mono belQ16.size)
    have zsQ17 := hbb.size
    have A_0Q17 := cell_carry A_0Q16 (Carries.of 0 hbb)
    have A_1Q17 := cell_carry A_1Q16 (Carries.of 0 hbb)
    have A_2Q17 := cell_carry A_2Q16 (Carries.of 0 hbb)
    have A_3Q17 := cell_carry A_3Q16 (Carries.of 0 hbb)
    have A_4Q17 := cell_carry A_4Q16 (Carries.of 0 hbb)
    have B_0Q17 := cell_carry B_0Q16 (Carries.of 0 hbb)
    have B_1Q17 := cell_carry B_1Q16 (Carries.of 0 hbb)
    have B_2Q17 := cell_carry B_2Q16 (Carries.of 0 hbb)
    have B_3Q17 := cell_carry B_3Q16 (Carries.of 0 hbb)
    have B_4Q17 := cell_carry B_4Q16 (Carries.of 0 hbb)
    have g0Q17 := cell_carry g0Q16 (Carries.of 0 hbb)
    have g1Q17 := cell_carry g1Q16 (Carries.of 0 hbb)
    have g2Q17 := cell_carry g2Q16 (Carries.of 0 hbb)
    have g3Q17 := cell_carry g3Q16 (Carries.of 0 hbb)
    have g4Q17 := cell_carry g4Q16 (Carries.of 0 hbb)
    have gf0Q17 := (hbb.frozen (p := ⟨Q0.heap.size, 0, none⟩) (by simp; omega)).trans gf0Q16
    have gf1Q17 := (hbb.frozen (p := ⟨Q0.heap.size, 1, none⟩) (by simp; omega)).trans gf1Q16
    have gf2Q17 := (hbb.frozen (p := ⟨Q0.heap.size, 2, none⟩) (by simp; omega)).trans gf2Q16
    have gf3Q17 := (hbb.frozen (p := ⟨Q0.heap.size, 3, none⟩) (by simp; omega)).trans gf3Q16
    have gf4Q17 := (hbb.frozen (p := ⟨Q0.heap.size, 4, none⟩) (by simp; omega)).trans gf4Q16
    have H2Q17 := Lib.hid (hn.low (Nat.zero_le _)); clear hn hbb
    refine hK.out _ _ ⟨A_0Q17, A_1Q17, A_2Q17, A_3Q17, A_4Q17, B_0Q17, B_1Q17, B_2Q17, B_3Q17, B_4Q17⟩ (fun hHeld => ?_)
    clear hK K
    try simp only [Act.put, List.setIfInBounds_toArray, List.set_cons_zero, List.set_cons_succ]
    refine rd3 (by kernel_rfl) (fun K hK => ?_)
    go_simp
    refine (toSTG_any _ s1 Q17 lo (HU.out.keep (Carries.of lo (hwj.trans (belQ17.mono hwj.size)))) HS1.out).mono ?_
    rintro e Q18 ⟨v3, rfl, hn, hbb⟩
    have belQ18 := belQ17.trans (hbb.mono belQ17.size)
    have zsQ18 := hbb.size
    have A_0Q18 := cell_carry A_0Q17 (Carries.of 0 hbb)
    have A_1Q18 := cell_carry A_1Q17 (Carries.of 0 hbb)
    have A_2Q18 := cell_carry A_2Q17 (Carries.of 0 hbb)
    have A_3Q18 := cell_carry A_3Q17 (Carries.of 0 hbb)
    have A_4Q18 := cell_carry A_4Q17 (Carries.of 0 hbb)
    have B_0Q18 := cell_carry B_0Q17 (Carries.of 0 hbb)
    have B_1Q18 := cell_carry B_1Q17 (Carries.of 0 hbb)
    have B_2Q18 := cell_carry B_2Q17 (Carries.of 0 hbb)
    have B_3Q18 := cell_carry B_3Q17 (Carries.of 0 hbb)
    have B_4Q18 := cell_carry B_4Q17 (Carries.of 0 hbb)
    have g0Q18 := cell_carry g0Q17 (Carries.of 0 hbb)
    have g1Q18 := cell_carry g1Q17 (Carries.of 0 hbb)
    have g2Q18 := cell_carry g2Q17 (Carries.of 0 hbb)
    have g3Q18 := cell_carry g3Q17 (Carries.of 0 hbb)
    have g4Q18 := cell_carry g4Q17 (Carries.of 0 hbb)
    have gf0Q18 := (hbb.frozen (p := ⟨Q0.heap.size, 0, none⟩) (by simp; omega)).trans gf0Q17
    have gf1Q18 := (hbb.frozen (p := ⟨Q0.heap.size, 1, none⟩) (by simp; omega)).trans gf1Q17
    have gf2Q18 := (hbb.frozen (p := ⟨Q0.heap.size, 2, none⟩) (by simp; omega)).trans gf2Q17
    have gf3Q18 := (hbb.frozen (p := ⟨Q0.heap.size, 3, none⟩) (by simp; omega)).trans gf3Q17
    have gf4Q18 := (hbb.frozen (p := ⟨Q0.heap.size, 4, none⟩) (by simp; omega)).trans gf4Q17
    have H2Q18 := Lib.hid (H2Q17.out.keep (Carries.of _ hbb))
    have H3Q18 := Lib.hid (hn.low (Nat.zero_le _)); clear hn hbb
    refine hK.out _ _ ⟨A_0Q18, A_1Q18, A_2Q18, A_3Q18, A_4Q18, B_0Q18, B_1Q18, B_2Q18, B_3Q18, B_4Q18⟩ (fun hHeld => ?_)
    clear hK K
    try simp only [Act.put, List.setIfInBounds_toArray, List.set_cons_zero, List.set_cons_succ]
    refine rd4 (by kernel_rfl) (fun K hK => ?_)
    go_simp
    refine (UnionSTGs_any _ _ s0 s1 Q18 0 H2Q18.out H3Q18.out HS.out HS1.out).mono ?_
    rintro e Q19 ⟨uw, rfl, hiw0, hbb⟩
    have hiw := hiw0.at
    clear hiw0
    rw [← HR.out.1] at hiw
    rw [← HR.out.2]
    obtain ⟨ra0, rc0, ra1, rc1, ra2, rc2, rfl, q1_, q2_, q3_⟩ := hiw.form
    clear q1_ q2_ q3_
    rw [← HQ.out.1, ← HQ.out.2.1, ← HQ.out.2.2.1, ← HQ.out.2.2.2.1, ← HQ.out.2.2.2.2] at hiw ⊢
    have belQ19 := belQ18.trans (hbb.mono belQ18.size)
    have zsQ19 := hbb.size
    have A_0Q19 := cell_carry A_0Q18 (Carries.of 0 hbb)
    have A_1Q19 := cell_carry A_1Q18 (Carries.of 0 hbb)
    have A_2Q19 := cell_carry A_2Q18 (Carries.of 0 hbb)
    have A_3Q19 := cell_carry A_3Q18 (Carries.of 0 hbb)
    have A_4Q19 := cell_carry A_4Q18 (Carries.of 0 hbb)
    have B_0Q19 := cell_carry B_0Q18 (Carries.of 0 hbb)
    have B_1Q19 := cell_carry B_1Q18 (Carries.of 0 hbb)
    have B_2Q19 := cell_carry B_2Q18 (Carries.of 0 hbb)
    have B_3Q19 := cell_carry B_3Q18 (Carries.of 0 hbb)
    have B_4Q19 := cell_carry B_4Q18 (Carries.of 0 hbb)
    have g0Q19 := cell_carry g0Q18 (Carries.of 0 hbb)
    have g1Q19 := cell_carry g1Q18 (Carries.of 0 hbb)
    have g2Q19 := cell_carry g2Q18 (Carries.of 0 hbb)
    have g3Q19 := cell_carry g3Q18 (Carries.of 0 hbb)
    have g4Q19 := cell_carry g4Q18 (Carries.of 0 hbb)
    have gf0Q19 := (hbb.frozen (p := ⟨Q0.heap.size, 0, none⟩) (by simp; omega)).trans gf0Q18
    have gf1Q19 := (hbb.frozen (p := ⟨Q0.heap.size, 1, none⟩) (by simp; omega)).trans gf1Q18
    have gf2Q19 := (hbb.frozen (p := ⟨Q0.heap.size, 2, none⟩) (by simp; omega)).trans gf2Q18
    have gf3Q19 := (hbb.frozen (p := ⟨Q0.heap.size, 3, none⟩) (by simp; omega)).trans gf3Q18
    have gf4Q19 := (hbb.frozen (p := ⟨Q0.heap.size, 4, none⟩) (by simp; omega)).trans gf4Q18
    have HWQ19 := Lib.hid hiw; clear hiw hbb
    refine hK.out _ _ ⟨A_0Q19, A_1Q19, A_2Q19, A_3Q19, A_4Q19, B_0Q19, B_1Q19, B_2Q19, B_3Q19, B_4Q19⟩ (fun hHeld => ?_)
    clear hK K
    try simp only [Act.put, List.setIfInBounds_toArray, List.set_cons_zero, List.set_cons_succ]
    refine tk5 (v := ?_) (by kernel_rfl) (by kernel_rfl) (by kernel_rfl) (by first | exact fun _ _ _ h => h | exact fun _ _ _ h => absurd h.1 (by simp)) (Or.inl ⟨by rfl, ?_⟩) (by assumption) ?_
    rotate_left 1
    focus (intro wx hSw; (try dsimp only at hSw); go_simp; try (with_reducible rfl))
    try simp only [Act.put, List.setIfInBounds_toArray, List.set_cons_zero, List.set_cons_succ]
    refine tk6 (v := ?_) (by kernel_rfl) (by kernel_rfl) (by kernel_rfl) (by first | exact fun _ _ _ h => h | exact fun _ _ _ h => absurd h.1 (by simp)) (Or.inl ⟨by rfl, ?_⟩) (by assumption) ?_
    rotate_left 1
    focus (intro wx hSw; (try dsimp only at hSw); go_simp; try (with_reducible rfl))
    try simp only [Act.put, List.setIfInBounds_toArray, List.set_cons_zero, List.set_cons_succ]
    refine tk7 (v := ?_) (by kernel_rfl) (by kernel_rfl) (by kernel_rfl) (by first | exact fun _ _ _ h => h | exact fun _ _ _ h => absurd h.1 (by simp)) (Or.inl ⟨by rfl, ?_⟩) (by assumption) ?_
    rotate_left 1
    focus (intro wx hSw; (try dsimp only at hSw); go_simp; try (with_reducible rfl))
    try simp only [Act.put, List.setIfInBounds_toArray, List.set_cons_zero, List.set_cons_succ]
    refine rd9 (by kernel_rfl) (fun K hK => ?_)
    go_simp
    have HX : Hid (StgAt 0 (((((Q19.setCell ⟨Q0.heap.size, 0, none⟩ (.int .i64 rp)).setCell ⟨Q0.heap.size, 1, none⟩ (.slice ra0 rm rc0)).setCell ⟨Q0.heap.size, 2, none⟩ (.slice ra1 rns rc1)).setCell ⟨Q0.heap.size, 3, none⟩ (.slice ra2 rnl rc2)).setCell ⟨Q0.heap.size, 4, none⟩ (.string rst)) (.agg #[.int .i64 rp, .slice ra0 rm rc0, .slice ra1 rns rc1, .slice ra2 rnl rc2, .string rst]) RN) := Lib.hid ((HWQ19.out.keep ((((((Carries.refl _ _).set (p := ⟨Q0.heap.size, 0, none⟩) (by simp; omega) (.int .i64 rp)).set (p := ⟨Q0.heap.size, 1, none⟩) (by simp; omega) (.slice ra0 rm rc0)).set (p := ⟨Q0.heap.size, 2, none⟩) (by simp; omega) (.slice ra1 rns rc1)).set (p := ⟨Q0.heap.size, 3, none⟩) (by simp; omega) (.slice ra2 rnl rc2)).set (p := ⟨Q0.heap.size, 4, none⟩) (by simp; omega) (.string rst))).low (Nat.zero_le _))
    generalize hWX : ((((Q19.setCell ⟨Q0.heap.size, 0, none⟩ (.int .i64 rp)).setCell ⟨Q0.heap.size, 1, none⟩ (.slice ra0 rm rc0)).setCell ⟨Q0.heap.size, 2, none⟩ (.slice ra1 rns rc1)).setCell ⟨Q0.heap.size, 3, none⟩ (.slice ra2 rnl rc2)).setCell ⟨Q0.heap.size, 4, none⟩ (.string rst) = WXQ20 at HX ⊢
    obtain ⟨q0, q1, q2, q3, q4⟩ := put5_cells hWX g0Q19 g1Q19 g2Q19 g3Q19 g4Q19
    have belX := put5_below hWX belQ19 (by omega)
    have qz : WXQ20.heap.size = Q19.heap.size := by rw [← hWX]; simp
    clear hWX
    have A_0X := cell_carry A_0 (Carries.of 0 belX)
    have A_1X := cell_carry A_1 (Carries.of 0 belX)
    have A_2X := cell_carry A_2 (Carries.of 0 belX)
    have A_3X := cell_carry A_3 (Carries.of 0 belX)
    have A_4X := cell_carry A_4 (Carries.of 0 belX)
    have B_0X := cell_carry B_0 (Carries.of 0 belX)
    have B_1X := cell_carry B_1 (Carries.of 0 belX)
    have B_2X := cell_carry B_2 (Carries.of 0 belX)
    have B_3X := cell_carry B_3 (Carries.of 0 belX)
    have B_4X := cell_carry B_4 (Carries.of 0 belX)
    refine hK.out _ _ ⟨A_0X, A_1X, A_2X, A_3X, A_4X, B_0X, B_1X, B_2X, B_3X, B_4X⟩ (fun hHeld => ?_)
    clear hK K
    try simp only [Act.put, List.setIfInBounds_toArray, List.set_cons_zero, List.set_cons_succ]
    refine rd10 (by kernel_rfl) (fun K hK => ?_)
    go_simp
    refine hK.out _ _ ⟨A_0X, A_1X, A_2X, A_3X, A_4X, B_0X, B_1X, B_2X, B_3X, B_4X⟩ (fun hHeld => ?_)
    clear hK K
    try simp only [Act.put, List.setIfInBounds_toArray, List.set_cons_zero, List.set_cons_succ]
    refine wpAnyH_done (by kernel_rfl) ?_ _
    exact ⟨rfl, Q0.heap.size, _, _, _, _, _, _, _, _, rfl, by omega, by omega, q0, q1, q2, q3, q4, HX.out, belX⟩
  rintro e a' wk ⟨rfl, Gh, v96, v98, ha0, hc0, ha1, hc1, ha2, hc2, rfl, zG0, zG1, H_0, H_1, H_2, H_3, H_4, hih, hb⟩
  have hwk : Below w.heap.size w wk := hwj.trans (hb.mono hwj.size)
  have W_0 := cell_carry W_0 (Carries.of 0 hb)
  have W_1 := cell_carry W_1 (Carries.of 0 hb)
  have W_2 := cell_carry W_2 (Carries.of 0 hb)
  have W_3 := cell_carry W_3 (Carries.of 0 hb)
  have W_4 := cell_carry W_4 (Carries.of 0 hb)
  have G_0 := cell_carry G_0 (Carries.of 0 hb)
  have G_1 := cell_carry G_1 (Carries.of 0 hb)
  have G_2 := cell_carry G_2 (Carries.of 0 hb)
  have G_3 := cell_carry G_3 (Carries.of 0 hb)
  have G_4 := cell_carry G_4 (Carries.of 0 hb)
  have zk : wj.heap.size ≤ wk.heap.size := hb.size
  have HHk := Lib.hid (HHj.out.keep (Carries.of _ hb))
  have hkk : Below w3.heap.size w3 wk := hkj.trans (hb.mono hkj.size)
  clear hb hwj hkj HHj
  have HIH := Lib.hid hih; clear hih A_0 A_1 A_2 A_3 A_4 B_0 B_1 B_2 B_3 B_4
  go_wp2_with fail
  refine (eqSTG_any _ _ RN RN _ _ _ HIH.out (HW.out.keep (Carries.of _ hkk)) HSR.out HSR.out).mono ?_
  rintro e wl ⟨rfl, hb⟩
  rw [eqStgB_self]
  have hwl : Below w.heap.size w wl := hwk.trans (hb.mono hwk.size)
  have G_0 := cell_carry G_0 (Carries.of 0 hb)
  have G_1 := cell_carry G_1 (Carries.of 0 hb)
  have G_2 := cell_carry G_2 (Carries.of 0 hb)
  have G_3 := cell_carry G_3 (Carries.of 0 hb)
  have G_4 := cell_carry G_4 (Carries.of 0 hb)
  have zl : wk.heap.size ≤ wl.heap.size := hb.size
  have HHl := Lib.hid (HHk.out.keep (Carries.of _ hb))
  have hkl : Below w3.heap.size w3 wl := hkk.trans (hb.mono hkk.size)
  clear hb hwk hkk HHk
  clear H_0 H_1 H_2 H_3 H_4 W_0 W_1 W_2 W_3 W_4
  go_wp2_with fail
  refine (heldSTG_any _ RN _ HHl.out HSR.out).mono ?_
  rintro e wm ⟨rfl, hb⟩
  rw [← HM.out]
  have hwm : Below w.heap.size w wm := hwl.trans (hb.mono hwl.size)
  go_wp2_with fail
  go_ret
  exact ⟨rfl, hwm⟩

end Go.Proofs.Ytgmnknlnlmcmfaa
