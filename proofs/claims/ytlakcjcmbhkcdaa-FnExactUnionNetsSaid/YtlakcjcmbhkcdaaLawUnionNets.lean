/-
  WALK of the law FnExactUnionNets.
-/
import Derived.Test.YtlakcjcmbhkcdaaUng
import Derived.Test.YtlakcjcmbhkcdaaNetin
import Derived.Test.YtlakcjcmbhkcdaaMkw
import Derived.Test.YtlakcjcmbhkcdaaSteps
import Derived.Deep.RegionHeld3
namespace Go.Proofs.Ytlakcjcmbhkcdaa
open Go.RowKit

theorem unR_small {a b : NetD} (ha : SmallTrs a.ts) (hb : SmallTrs b.ts) : SmallTrs (unR a b).ts := by
  unfold unR
  by_cases h : unB a b = true
  · rw [if_pos h]
    unfold unB at h
    simp only [Bool.and_eq_true] at h
    exact unT_small ha hb h.1 h.2.1
  · rw [if_neg h]; exact ⟨Nat.zero_le _, fun i hi => absurd hi (Nat.not_lt_zero _)⟩
theorem selfNet (RN : NetD) : decide (RN.places = RN.places ∧ RN.ts = RN.ts) = true := decide_eq_true ⟨rfl, rfl⟩
theorem unR_places (a b : NetD) : -9223372036854775808 ≤ (unR a b).places ∧ (unR a b).places ≤ 9223372036854775807 := by
  unfold unR
  by_cases h : unB a b = true
  · rw [if_pos h]
    unfold unB at h
    simp only [Bool.and_eq_true] at h
    have := goodN_parts h.2.2
    omega
  · rw [if_neg h]; decide

/-- behind the region that makes a union: its box, its value -/
def UMid (W : World) (rp : Int) (rm : Nat) (ts : List Tr) (mk : Nat → Option Addr → Nat → Option Addr → Nat → Option Addr → Nat → Act) (e : Exit) (a' : Act) (w' : World) : Prop :=
  e = .normal ∧ ∃ (G : Nat) (a2 : Option Addr) (k2 : Nat) (a3 : Option Addr) (k3 : Nat) (aw : Option Addr) (kw : Nat), a' = mk G a2 k2 a3 k3 aw kw ∧ W.heap.size ≤ G ∧ G < w'.heap.size ∧
    w'.cell? ⟨G, 0, none⟩ = some (.int .i64 rp) ∧ w'.cell? ⟨G, 1, none⟩ = some (.slice aw rm kw) ∧ TrsAt 0 w' (.slice aw rm kw) ts ∧ Below W.heap.size W w'

set_option maxRecDepth 100000 in
set_option maxHeartbeats 8000000 in
theorem lawUnionNets_any (va vb : Value) (a b : NetD) (w : World) (lo : Nat) (hva : NetAt lo w va a) (hvb : NetAt lo w vb b) (hoka : OkTrs a.ts) (hokb : OkTrs b.ts) :
    Calls Try.prog 9 #[va, vb] w (RetB w true) := by
  obtain ⟨hp0, hp1, _, rfl, hta⟩ := id hva
  obtain ⟨hq0, hq1, _, rfl, htb⟩ := id hvb
  obtain ⟨aa, ka, rfl, _, _⟩ := hta
  obtain ⟨ab, kb, rfl, _, _⟩ := htb
  have HV := Lib.hid hva; clear hva
  have HU := Lib.hid hvb; clear hvb
  have HO := Lib.hid hoka; clear hoka
  have HO1 := Lib.hid hokb; clear hokb
  have hpl := unR_places a b
  have hsmR : SmallTrs a.ts → SmallTrs b.ts → SmallTrs (unR a b).ts := unR_small
  obtain ⟨RN, hRN⟩ : ∃ RN, RN = unR a b := ⟨_, rfl⟩
  obtain ⟨BB, hBB⟩ : ∃ BB, BB = unB a b := ⟨_, rfl⟩
  rw [← hRN] at hpl hsmR
  have HR := Lib.hid (And.intro hRN hBB); clear hRN hBB
  have HPL := Lib.hid hpl; clear hpl
  have HSM := Lib.hid hsmR; clear hsmR
  obtain ⟨m, hm⟩ : ∃ m, m = a.ts.length := ⟨_, rfl⟩
  obtain ⟨p, hp⟩ : ∃ p, p = a.places := ⟨_, rfl⟩
  obtain ⟨l, hl⟩ : ∃ l, l = b.ts.length := ⟨_, rfl⟩
  obtain ⟨q, hq⟩ : ∃ q, q = b.places := ⟨_, rfl⟩
  rw [← hm, ← hp] at HV ⊢
  rw [← hl, ← hq] at HU ⊢
  rw [← hp] at hp0 hp1
  rw [← hq] at hq0 hq1
  have HM := Lib.hid hm; clear hm
  have HP := Lib.hid hp; clear hp
  have HL := Lib.hid hl; clear hl
  have HQ := Lib.hid hq; clear hq
  obtain ⟨rm, hrm⟩ : ∃ rm, rm = RN.ts.length := ⟨_, rfl⟩
  obtain ⟨rp, hrp⟩ : ∃ rp, rp = RN.places := ⟨_, rfl⟩
  have HRM := Lib.hid hrm; clear hrm
  have HRP := Lib.hid hrp; clear hrp
  have hnet : ∀ (l : Nat) (W : World) (a : Option Addr) (c : Nat), TrsAt l W (.slice a rm c) RN.ts → NetAt l W (.agg #[.int .i64 rp, .slice a rm c]) RN := fun l W a c h => ⟨HPL.out.1, HPL.out.2, _, by rw [HRP.out], h⟩
  have HNET := Lib.hid hnet; clear hnet
  go_enter Try.func9, Try.ntmps9
  go_wp2_with fail
  refine (szNet_any _ a _ _ lo (HV.out.keep ?_) (by omega) (by omega) HO.out).mono ?_
  · (repeat' (first | (with_reducible exact Carries.refl _ _) | (with_reducible assumption) | (with_reducible refine Carries.alloc ?_ _) | (with_reducible refine Carries.drew ?_) | (with_reducible refine Carries.drewN ?_ _) | (with_reducible refine Carries.set ?_ ?_ _) | go_size))
  rintro e w1 ⟨r, rfl, hr, hb1⟩
  have hw1 : Below w.heap.size w w1 := by
    refine Below.trans ?_ (hb1.mono ?_)
    · (repeat' (first | (with_reducible exact Below.refl _ _) | (with_reducible assumption) | (with_reducible refine Below.alloc ?_ ?_ _) | (with_reducible refine Below.drew ?_) | (with_reducible refine below_drewN ?_ _) | (with_reducible refine Below.setCell ?_ ?_ _) | go_size))
    · simp; omega
  have a0 : w1.cell? ⟨w.heap.size, 0, none⟩ = some (.int .i64 p) := cell_carry (by simp) (Carries.of 0 hb1)
  have a1 : w1.cell? ⟨w.heap.size, 1, none⟩ = some (.slice aa m ka) := cell_carry (by simp) (Carries.of 0 hb1)
  have c0 : w1.cell? ⟨w.heap.size + 1, 0, none⟩ = some (.int .i64 q) := cell_carry (by simp) (Carries.of 0 hb1)
  have c1 : w1.cell? ⟨w.heap.size + 1, 1, none⟩ = some (.slice ab l kb) := cell_carry (by simp) (Carries.of 0 hb1)
  have z1 : w.heap.size + 1 < w1.heap.size := by have := hb1.size; simp at this; omega
  clear hb1
  rcases hr with rfl | ⟨hr0, hr1, hsm⟩
  · go_wp2_with fail
    go_ret
    exact ⟨rfl, hw1⟩
  have HS := Lib.hid hsm; clear hsm
  go_wp2_with fail
  refine (szNet_any _ b _ _ lo (HU.out.keep (Carries.of lo hw1)) hr0 (by omega) HO1.out).mono ?_
  rintro e w2 ⟨r2, rfl, hr2, hb⟩
  have hw2 : Below w.heap.size w w2 := hw1.trans (hb.mono hw1.size)
  have a0 := cell_carry a0 (Carries.of 0 hb)
  have a1 := cell_carry a1 (Carries.of 0 hb)
  have c0 := cell_carry c0 (Carries.of 0 hb)
  have c1 := cell_carry c1 (Carries.of 0 hb)
  have z2 : w1.heap.size ≤ w2.heap.size := hb.size
  clear hb
  rcases hr2 with rfl | ⟨hr3, hr4, hsm⟩
  · go_wp2_with fail
    go_ret
    exact ⟨rfl, hw2⟩
  have HS1 := Lib.hid hsm
  have HSR := Lib.hid (HSM.out HS.out hsm); clear hsm HSM
  go_wp2_with fail
  refine Code.wp_mono (Q := UMid w2 rp rm RN.ts (fun G a2 k2 a3 k3 aw kw => { tmps := #[.agg #[.int .i64 p, .slice aa m ka], .agg #[.int .i64 q, .slice ab l kb], .pointer (some ⟨w.heap.size, 0, none⟩), .pointer (some ⟨w.heap.size + 1, 0, none⟩), .bool false, .int .i64 r2, .pointer (some ⟨G, 0, none⟩), .bool BB, undef, undef, undef, undef, undef, undef, undef, undef, undef, .agg #[.int .i64 p, .slice aa m ka], .int .i64 1048576, .int .i64 r, .int .i64 r, .bool (decide (r < 0)), .agg #[.int .i64 q, .slice ab l kb], .int .i64 r, .int .i64 r2, .int .i64 r2, .bool (decide (r2 < 0)), .tuple #[.agg #[.int .i64 rp, .slice aw rm kw], .bool BB], .agg #[.int .i64 p, .slice aa m ka], .agg #[.int .i64 p, .slice a2 m k2], .agg #[.int .i64 q, .slice ab l kb], .agg #[.int .i64 q, .slice a3 l k3], .tuple #[.agg #[.int .i64 rp, .slice aw rm kw], .bool BB], .agg #[.int .i64 rp, .slice aw rm kw], .bool BB, undef, undef, undef, undef, undef, undef, undef, undef, undef, undef, undef, undef, undef, undef, undef, undef, undef, undef, undef, undef, undef, undef, undef, undef, undef, undef, undef, undef, undef, undef, undef, undef, undef, undef, undef, undef, undef, undef, undef, undef, undef, undef, undef, undef, undef, undef, undef, undef, undef, undef, undef, undef, undef, undef, undef, undef, undef, undef, undef, undef, undef, undef, undef, undef, undef, undef, undef, undef, undef, undef, undef, undef, undef, undef, undef, undef, undef, undef, undef, undef, undef, undef, undef, undef], defers := [] })) ?_ ?_
  rotate_left 1
  · refine wp_region_held_drew (S := fun w' => w'.cell? ⟨w.heap.size, 0, none⟩ = some (.int .i64 p) ∧ w'.cell? ⟨w.heap.size, 1, none⟩ = some (.slice aa m ka) ∧ w'.cell? ⟨w.heap.size + 1, 0, none⟩ = some (.int .i64 q) ∧ w'.cell? ⟨w.heap.size + 1, 1, none⟩ = some (.slice ab l kb)) (by kernel_rfl) ⟨a0, a1, c0, c1⟩ (fun hHeld => ?_)
    have belW0 : Below w2.heap.size w2 w2.drew := (Below.refl _ _).drew
    have a0W0 : w2.drew.cell? ⟨w.heap.size, 0, none⟩ = some (.int .i64 p) := a0
    have a1W0 : w2.drew.cell? ⟨w.heap.size, 1, none⟩ = some (.slice aa m ka) := a1
    have c0W0 : w2.drew.cell? ⟨w.heap.size + 1, 0, none⟩ = some (.int .i64 q) := c0
    have c1W0 : w2.drew.cell? ⟨w.heap.size + 1, 1, none⟩ = some (.slice ab l kb) := c1
    generalize w2.drew = W0 at belW0 a0W0 a1W0 c0W0 c1W0 hHeld ⊢
    have zsW0 := belW0.size
    refine tk0 (v := ?_) (by kernel_rfl) (by kernel_rfl) (by kernel_rfl) (by first | exact fun _ _ _ h => h | exact fun _ _ _ h => absurd h.1 (by simp)) (Or.inl ⟨by rfl, ?_⟩) (by assumption) ?_
    rotate_left 1
    focus (intro wx hSw; (try dsimp only at hSw); go_simp; try (with_reducible rfl))
    try simp only [Act.put, List.setIfInBounds_toArray, List.set_cons_zero, List.set_cons_succ]
    refine tk2 (v := ?_) (by kernel_rfl) (by kernel_rfl) (by kernel_rfl) (by first | exact fun _ _ _ h => h | exact fun _ _ _ h => absurd h.1 (by simp)) (Or.inl ⟨by rfl, ?_⟩) (by assumption) ?_
    rotate_left 1
    focus (intro wx hSw; (try dsimp only at hSw); go_simp; try (with_reducible rfl))
    try simp only [Act.put, List.setIfInBounds_toArray, List.set_cons_zero, List.set_cons_succ]
    refine wpAnyH_ready (rs := [1, 8]) (by kernel_rfl) (by simp) ?_
    refine ar1 (fun K hK => ?_) ?_
    · go_simp
      refine (toNet_any _ a W0 lo (HV.out.keep (Carries.of lo (hw2.trans (belW0.mono hw2.size)))) HS.out).mono ?_
      rintro e W1 ⟨v2, rfl, hn, hbb⟩
      obtain ⟨a2, k2, rfl⟩ : ∃ x y, v2 = .agg #[.int .i64 p, .slice x m y] := by
        obtain ⟨_, _, u4, rfl, ⟨x4, y4, rfl, _, _⟩⟩ := hn
        rw [← HM.out, ← HP.out]; exact ⟨_, _, rfl⟩
      have belW1 := belW0.trans (hbb.mono belW0.size)
      have zsW1 := hbb.size
      have a0W1 := cell_carry a0W0 (Carries.of 0 hbb)
      have a1W1 := cell_carry a1W0 (Carries.of 0 hbb)
      have c0W1 := cell_carry c0W0 (Carries.of 0 hbb)
      have c1W1 := cell_carry c1W0 (Carries.of 0 hbb)
      have H2W1 := Lib.hid (hn.low (Nat.zero_le _)); clear hn hbb
      refine hK.out _ _ ⟨a0W1, a1W1, c0W1, c1W1⟩ (fun hHeld => ?_)
      clear hK K
      try simp only [Act.put, List.setIfInBounds_toArray, List.set_cons_zero, List.set_cons_succ]
      refine wpAnyH_ready (rs := [3, 8]) (by kernel_rfl) (by simp) ?_
      refine ar3 (fun K hK => ?_) ?_
      · go_simp
        refine (toNet_any _ b W1 lo (HU.out.keep (Carries.of lo (hw2.trans (belW1.mono hw2.size)))) HS1.out).mono ?_
        rintro e W2 ⟨v3, rfl, hn, hbb⟩
        obtain ⟨a3, k3, rfl⟩ : ∃ x y, v3 = .agg #[.int .i64 q, .slice x l y] := by
          obtain ⟨_, _, u4, rfl, ⟨x4, y4, rfl, _, _⟩⟩ := hn
          rw [← HL.out, ← HQ.out]; exact ⟨_, _, rfl⟩
        have belW2 := belW1.trans (hbb.mono belW1.size)
        have zsW2 := hbb.size
        have a0W2 := cell_carry a0W1 (Carries.of 0 hbb)
        have a1W2 := cell_carry a1W1 (Carries.of 0 hbb)
        have c0W2 := cell_carry c0W1 (Carries.of 0 hbb)
        have c1W2 := cell_carry c1W1 (Carries.of 0 hbb)
        have H2W2 := Lib.hid (H2W1.out.keep (Carries.of _ hbb))
        have H3W2 := Lib.hid (hn.low (Nat.zero_le _)); clear hn hbb
        refine hK.out _ _ ⟨a0W2, a1W2, c0W2, c1W2⟩ (fun hHeld => ?_)
        clear hK K
        try simp only [Act.put, List.setIfInBounds_toArray, List.set_cons_zero, List.set_cons_succ]
        refine wpAnyH_ready (rs := [4, 8]) (by kernel_rfl) (by simp) ?_
        refine ar4 (fun K hK => ?_) ?_
        · go_simp
          refine (specUnionNets_any _ _ a b W2 0 H2W2.out HS.out H3W2.out HS1.out).mono ?_
          rintro e W3 ⟨uw, rfl, hiw, hbb⟩
          rw [← HR.out.1] at hiw ⊢
          rw [← HR.out.2, ← HRP.out]
          obtain ⟨aw, kw, rfl, _, _⟩ := id hiw
          rw [← HRM.out] at hiw ⊢
          have belW3 := belW2.trans (hbb.mono belW2.size)
          have zsW3 := hbb.size
          have a0W3 := cell_carry a0W2 (Carries.of 0 hbb)
          have a1W3 := cell_carry a1W2 (Carries.of 0 hbb)
          have c0W3 := cell_carry c0W2 (Carries.of 0 hbb)
          have c1W3 := cell_carry c1W2 (Carries.of 0 hbb)
          have HWW3 := Lib.hid hiw; clear hiw hbb
          refine hK.out _ _ ⟨a0W3, a1W3, c0W3, c1W3⟩ (fun hHeld => ?_)
          clear hK K
          try simp only [Act.put, List.setIfInBounds_toArray, List.set_cons_zero, List.set_cons_succ]
          refine tk5 (v := ?_) (by kernel_rfl) (by kernel_rfl) (by kernel_rfl) (by first | exact fun _ _ _ h => h | exact fun _ _ _ h => absurd h.1 (by simp)) (Or.inl ⟨by rfl, ?_⟩) (by assumption) ?_
          rotate_left 1
          focus (intro wx hSw; (try dsimp only at hSw); go_simp; try (with_reducible rfl))
          try simp only [Act.put, List.setIfInBounds_toArray, List.set_cons_zero, List.set_cons_succ]
          refine tk6 (v := ?_) (by kernel_rfl) (by kernel_rfl) (by kernel_rfl) (by first | exact fun _ _ _ h => h | exact fun _ _ _ h => absurd h.1 (by simp)) (Or.inl ⟨by rfl, ?_⟩) (by assumption) ?_
          rotate_left 1
          focus (intro wx hSw; (try dsimp only at hSw); go_simp; try (with_reducible rfl))
          try simp only [Act.put, List.setIfInBounds_toArray, List.set_cons_zero, List.set_cons_succ]
          refine tk7 (v := ?_) (by kernel_rfl) (by kernel_rfl) (by kernel_rfl) (by first | exact fun _ _ _ h => h | exact fun _ _ _ h => absurd h.1 (by simp)) (Or.inl ⟨by rfl, ?_⟩) (by assumption) ?_
          rotate_left 1
          focus (intro wx hSw; (try dsimp only at hSw); go_simp; try (with_reducible rfl))
          try simp only [Act.put, List.setIfInBounds_toArray, List.set_cons_zero, List.set_cons_succ]
          refine rd8 (by kernel_rfl) (fun K hK => ?_)
          go_simp
          have hbb : Below W3.heap.size W3 (W3.alloc (.cells #[.int .i64 0, .slice none 0 0] 29)) := (Below.refl _ _).alloc (Nat.le_refl _) _
          have g0W4 : (W3.alloc (.cells #[.int .i64 0, .slice none 0 0] 29)).cell? ⟨W3.heap.size, 0, none⟩ = some (.int .i64 0) := by simp
          have g1W4 : (W3.alloc (.cells #[.int .i64 0, .slice none 0 0] 29)).cell? ⟨W3.heap.size, 1, none⟩ = some (.slice none 0 0) := by simp
          have gf0W4 : (W3.alloc (.cells #[.int .i64 0, .slice none 0 0] 29)).frozen? ⟨W3.heap.size, 0, none⟩ = false := by simp
          have gf1W4 : (W3.alloc (.cells #[.int .i64 0, .slice none 0 0] 29)).frozen? ⟨W3.heap.size, 1, none⟩ = false := by simp
          have zgW4 : W3.heap.size < (W3.alloc (.cells #[.int .i64 0, .slice none 0 0] 29)).heap.size := by simp
          generalize W3.alloc (.cells #[.int .i64 0, .slice none 0 0] 29) = W4 at hbb g0W4 g1W4 gf0W4 gf1W4 zgW4 ⊢
          have belW4 := belW3.trans (hbb.mono belW3.size)
          have zsW4 := hbb.size
          have a0W4 := cell_carry a0W3 (Carries.of 0 hbb)
          have a1W4 := cell_carry a1W3 (Carries.of 0 hbb)
          have c0W4 := cell_carry c0W3 (Carries.of 0 hbb)
          have c1W4 := cell_carry c1W3 (Carries.of 0 hbb)
          have HWW4 := Lib.hid (HWW3.out.keep (Carries.of _ hbb))
          have hbA := hbb
          refine hK.out _ _ ⟨a0W4, a1W4, c0W4, c1W4⟩ (fun hHeld => ?_)
          clear hK K
          try simp only [Act.put, List.setIfInBounds_toArray, List.set_cons_zero, List.set_cons_succ]
          refine rd9 (by kernel_rfl) (fun K hK => ?_)
          go_simp
          have belX : Below w2.heap.size w2 ((W4.setCell ⟨W3.heap.size, 0, none⟩ (.int .i64 rp)).setCell ⟨W3.heap.size, 1, none⟩ (.slice aw rm kw)) := (belW4.setCell (by simp; omega) _).setCell (by simp; omega) _
          have q0 : ((W4.setCell ⟨W3.heap.size, 0, none⟩ (.int .i64 rp)).setCell ⟨W3.heap.size, 1, none⟩ (.slice aw rm kw)).cell? ⟨W3.heap.size, 0, none⟩ = some (.int .i64 rp) := (World.cell?_setCell_other _ _ _ _ (by simp)).trans (World.cell?_setCell_same _ _ _ g0W4)
          have q1 : ((W4.setCell ⟨W3.heap.size, 0, none⟩ (.int .i64 rp)).setCell ⟨W3.heap.size, 1, none⟩ (.slice aw rm kw)).cell? ⟨W3.heap.size, 1, none⟩ = some (.slice aw rm kw) := World.cell?_setCell_same _ _ _ ((World.cell?_setCell_other W4 ⟨W3.heap.size, 0, none⟩ ⟨W3.heap.size, 1, none⟩ _ (by simp)).trans g1W4)
          have ya0 : ((W4.setCell ⟨W3.heap.size, 0, none⟩ (.int .i64 rp)).setCell ⟨W3.heap.size, 1, none⟩ (.slice aw rm kw)).cell? ⟨w.heap.size, 0, none⟩ = some (.int .i64 p) := (World.cell?_setCell_far _ _ _ _ (by simp; omega)).trans ((World.cell?_setCell_far _ _ _ _ (by simp; omega)).trans a0W4)
          have ya1 : ((W4.setCell ⟨W3.heap.size, 0, none⟩ (.int .i64 rp)).setCell ⟨W3.heap.size, 1, none⟩ (.slice aw rm kw)).cell? ⟨w.heap.size, 1, none⟩ = some (.slice aa m ka) := (World.cell?_setCell_far _ _ _ _ (by simp; omega)).trans ((World.cell?_setCell_far _ _ _ _ (by simp; omega)).trans a1W4)
          have yc0 : ((W4.setCell ⟨W3.heap.size, 0, none⟩ (.int .i64 rp)).setCell ⟨W3.heap.size, 1, none⟩ (.slice aw rm kw)).cell? ⟨w.heap.size + 1, 0, none⟩ = some (.int .i64 q) := (World.cell?_setCell_far _ _ _ _ (by simp; omega)).trans ((World.cell?_setCell_far _ _ _ _ (by simp; omega)).trans c0W4)
          have yc1 : ((W4.setCell ⟨W3.heap.size, 0, none⟩ (.int .i64 rp)).setCell ⟨W3.heap.size, 1, none⟩ (.slice aw rm kw)).cell? ⟨w.heap.size + 1, 1, none⟩ = some (.slice ab l kb) := (World.cell?_setCell_far _ _ _ _ (by simp; omega)).trans ((World.cell?_setCell_far _ _ _ _ (by simp; omega)).trans c1W4)
          have qz : ((W4.setCell ⟨W3.heap.size, 0, none⟩ (.int .i64 rp)).setCell ⟨W3.heap.size, 1, none⟩ (.slice aw rm kw)).heap.size = W4.heap.size := by simp
          have HX := Lib.hid ((HWW3.out.keep (Carries.of _ ((hbA.setCell (p := ⟨W3.heap.size, 0, none⟩) (Nat.le_refl _) (.int .i64 rp)).setCell (p := ⟨W3.heap.size, 1, none⟩) (Nat.le_refl _) (.slice aw rm kw)))).low (Nat.zero_le _))
          generalize (W4.setCell ⟨W3.heap.size, 0, none⟩ (.int .i64 rp)).setCell ⟨W3.heap.size, 1, none⟩ (.slice aw rm kw) = W5 at belX q0 q1 ya0 ya1 yc0 yc1 qz HX ⊢
          refine hK.out _ _ ⟨ya0, ya1, yc0, yc1⟩ (fun hHeld => ?_)
          clear hK K
          try simp only [Act.put, List.setIfInBounds_toArray, List.set_cons_zero, List.set_cons_succ]
          refine rd10 (by kernel_rfl) (fun K hK => ?_)
          go_simp
          refine hK.out _ _ ⟨ya0, ya1, yc0, yc1⟩ (fun hHeld => ?_)
          clear hK K
          try simp only [Act.put, List.setIfInBounds_toArray, List.set_cons_zero, List.set_cons_succ]
          refine wpAnyH_done (by kernel_rfl) ?_ _
          exact ⟨rfl, W3.heap.size, _, _, _, _, _, _, rfl, by omega, by omega, q0, q1, HX.out, belX⟩
        refine ar8 (fun K hK => ?_) AllReadyH.nil
        go_simp
        have hbb : Below W2.heap.size W2 (W2.alloc (.cells #[.int .i64 0, .slice none 0 0] 29)) := (Below.refl _ _).alloc (Nat.le_refl _) _
        have g0W7 : (W2.alloc (.cells #[.int .i64 0, .slice none 0 0] 29)).cell? ⟨W2.heap.size, 0, none⟩ = some (.int .i64 0) := by simp
        have g1W7 : (W2.alloc (.cells #[.int .i64 0, .slice none 0 0] 29)).cell? ⟨W2.heap.size, 1, none⟩ = some (.slice none 0 0) := by simp
        have gf0W7 : (W2.alloc (.cells #[.int .i64 0, .slice none 0 0] 29)).frozen? ⟨W2.heap.size, 0, none⟩ = false := by simp
        have gf1W7 : (W2.alloc (.cells #[.int .i64 0, .slice none 0 0] 29)).frozen? ⟨W2.heap.size, 1, none⟩ = false := by simp
        have zgW7 : W2.heap.size < (W2.alloc (.cells #[.int .i64 0, .slice none 0 0] 29)).heap.size := by simp
        generalize W2.alloc (.cells #[.int .i64 0, .slice none 0 0] 29) = W7 at hbb g0W7 g1W7 gf0W7 gf1W7 zgW7 ⊢
        have belW7 := belW2.trans (hbb.mono belW2.size)
        have zsW7 := hbb.size
        have a0W7 := cell_carry a0W2 (Carries.of 0 hbb)
        have a1W7 := cell_carry a1W2 (Carries.of 0 hbb)
        have c0W7 := cell_carry c0W2 (Carries.of 0 hbb)
        have c1W7 := cell_carry c1W2 (Carries.of 0 hbb)
        have H2W7 := Lib.hid (H2W2.out.keep (Carries.of _ hbb))
        have H3W7 := Lib.hid (H3W2.out.keep (Carries.of _ hbb))
        refine hK.out _ _ ⟨a0W7, a1W7, c0W7, c1W7⟩ (fun hHeld => ?_)
        clear hK K
        try simp only [Act.put, List.setIfInBounds_toArray, List.set_cons_zero, List.set_cons_succ]
        refine rd4 (by kernel_rfl) (fun K hK => ?_)
        go_simp
        refine (specUnionNets_any _ _ a b W7 0 H2W7.out HS.out H3W7.out HS1.out).mono ?_
        rintro e W8 ⟨uw, rfl, hiw, hbb⟩
        rw [← HR.out.1] at hiw ⊢
        rw [← HR.out.2, ← HRP.out]
        obtain ⟨aw, kw, rfl, _, _⟩ := id hiw
        rw [← HRM.out] at hiw ⊢
        have belW8 := belW7.trans (hbb.mono belW7.size)
        have zsW8 := hbb.size
        have a0W8 := cell_carry a0W7 (Carries.of 0 hbb)
        have a1W8 := cell_carry a1W7 (Carries.of 0 hbb)
        have c0W8 := cell_carry c0W7 (Carries.of 0 hbb)
        have c1W8 := cell_carry c1W7 (Carries.of 0 hbb)
        have g0W8 := cell_carry g0W7 (Carries.of 0 hbb)
        have g1W8 := cell_carry g1W7 (Carries.of 0 hbb)
        have gf0W8 := (hbb.frozen (p := ⟨W2.heap.size, 0, none⟩) (by simp; omega)).trans gf0W7
        have gf1W8 := (hbb.frozen (p := ⟨W2.heap.size, 1, none⟩) (by simp; omega)).trans gf1W7
        have HWW8 := Lib.hid hiw; clear hiw hbb
        refine hK.out _ _ ⟨a0W8, a1W8, c0W8, c1W8⟩ (fun hHeld => ?_)
        clear hK K
        try simp only [Act.put, List.setIfInBounds_toArray, List.set_cons_zero, List.set_cons_succ]
        refine tk5 (v := ?_) (by kernel_rfl) (by kernel_rfl) (by kernel_rfl) (by first | exact fun _ _ _ h => h | exact fun _ _ _ h => absurd h.1 (by simp)) (Or.inl ⟨by rfl, ?_⟩) (by assumption) ?_
        rotate_left 1
        focus (intro wx hSw; (try dsimp only at hSw); go_simp; try (with_reducible rfl))
        try simp only [Act.put, List.setIfInBounds_toArray, List.set_cons_zero, List.set_cons_succ]
        refine tk6 (v := ?_) (by kernel_rfl) (by kernel_rfl) (by kernel_rfl) (by first | exact fun _ _ _ h => h | exact fun _ _ _ h => absurd h.1 (by simp)) (Or.inl ⟨by rfl, ?_⟩) (by assumption) ?_
        rotate_left 1
        focus (intro wx hSw; (try dsimp only at hSw); go_simp; try (with_reducible rfl))
        try simp only [Act.put, List.setIfInBounds_toArray, List.set_cons_zero, List.set_cons_succ]
        refine tk7 (v := ?_) (by kernel_rfl) (by kernel_rfl) (by kernel_rfl) (by first | exact fun _ _ _ h => h | exact fun _ _ _ h => absurd h.1 (by simp)) (Or.inl ⟨by rfl, ?_⟩) (by assumption) ?_
        rotate_left 1
        focus (intro wx hSw; (try dsimp only at hSw); go_simp; try (with_reducible rfl))
        try simp only [Act.put, List.setIfInBounds_toArray, List.set_cons_zero, List.set_cons_succ]
        refine rd9 (by kernel_rfl) (fun K hK => ?_)
        go_simp
        have belX : Below w2.heap.size w2 ((W8.setCell ⟨W2.heap.size, 0, none⟩ (.int .i64 rp)).setCell ⟨W2.heap.size, 1, none⟩ (.slice aw rm kw)) := (belW8.setCell (by simp; omega) _).setCell (by simp; omega) _
        have q0 : ((W8.setCell ⟨W2.heap.size, 0, none⟩ (.int .i64 rp)).setCell ⟨W2.heap.size, 1, none⟩ (.slice aw rm kw)).cell? ⟨W2.heap.size, 0, none⟩ = some (.int .i64 rp) := (World.cell?_setCell_other _ _ _ _ (by simp)).trans (World.cell?_setCell_same _ _ _ g0W8)
        have q1 : ((W8.setCell ⟨W2.heap.size, 0, none⟩ (.int .i64 rp)).setCell ⟨W2.heap.size, 1, none⟩ (.slice aw rm kw)).cell? ⟨W2.heap.size, 1, none⟩ = some (.slice aw rm kw) := World.cell?_setCell_same _ _ _ ((World.cell?_setCell_other W8 ⟨W2.heap.size, 0, none⟩ ⟨W2.heap.size, 1, none⟩ _ (by simp)).trans g1W8)
        have ya0 : ((W8.setCell ⟨W2.heap.size, 0, none⟩ (.int .i64 rp)).setCell ⟨W2.heap.size, 1, none⟩ (.slice aw rm kw)).cell? ⟨w.heap.size, 0, none⟩ = some (.int .i64 p) := (World.cell?_setCell_far _ _ _ _ (by simp; omega)).trans ((World.cell?_setCell_far _ _ _ _ (by simp; omega)).trans a0W8)
        have ya1 : ((W8.setCell ⟨W2.heap.size, 0, none⟩ (.int .i64 rp)).setCell ⟨W2.heap.size, 1, none⟩ (.slice aw rm kw)).cell? ⟨w.heap.size, 1, none⟩ = some (.slice aa m ka) := (World.cell?_setCell_far _ _ _ _ (by simp; omega)).trans ((World.cell?_setCell_far _ _ _ _ (by simp; omega)).trans a1W8)
        have yc0 : ((W8.setCell ⟨W2.heap.size, 0, none⟩ (.int .i64 rp)).setCell ⟨W2.heap.size, 1, none⟩ (.slice aw rm kw)).cell? ⟨w.heap.size + 1, 0, none⟩ = some (.int .i64 q) := (World.cell?_setCell_far _ _ _ _ (by simp; omega)).trans ((World.cell?_setCell_far _ _ _ _ (by simp; omega)).trans c0W8)
        have yc1 : ((W8.setCell ⟨W2.heap.size, 0, none⟩ (.int .i64 rp)).setCell ⟨W2.heap.size, 1, none⟩ (.slice aw rm kw)).cell? ⟨w.heap.size + 1, 1, none⟩ = some (.slice ab l kb) := (World.cell?_setCell_far _ _ _ _ (by simp; omega)).trans ((World.cell?_setCell_far _ _ _ _ (by simp; omega)).trans c1W8)
        have qz : ((W8.setCell ⟨W2.heap.size, 0, none⟩ (.int .i64 rp)).setCell ⟨W2.heap.size, 1, none⟩ (.slice aw rm kw)).heap.size = W8.heap.size := by simp
        have HX := Lib.hid ((HWW8.out.keep (((Carries.refl _ _).set (p := ⟨W2.heap.size, 0, none⟩) (by simp; omega) (.int .i64 rp)).set (p := ⟨W2.heap.size, 1, none⟩) (by simp; omega) (.slice aw rm kw))).low (Nat.zero_le _))
        generalize (W8.setCell ⟨W2.heap.size, 0, none⟩ (.int .i64 rp)).setCell ⟨W2.heap.size, 1, none⟩ (.slice aw rm kw) = W9 at belX q0 q1 ya0 ya1 yc0 yc1 qz HX ⊢
        refine hK.out _ _ ⟨ya0, ya1, yc0, yc1⟩ (fun hHeld => ?_)
        clear hK K
        try simp only [Act.put, List.setIfInBounds_toArray, List.set_cons_zero, List.set_cons_succ]
        refine rd10 (by kernel_rfl) (fun K hK => ?_)
        go_simp
        refine hK.out _ _ ⟨ya0, ya1, yc0, yc1⟩ (fun hHeld => ?_)
        clear hK K
        try simp only [Act.put, List.setIfInBounds_toArray, List.set_cons_zero, List.set_cons_succ]
        refine wpAnyH_done (by kernel_rfl) ?_ _
        exact ⟨rfl, W2.heap.size, _, _, _, _, _, _, rfl, by omega, by omega, q0, q1, HX.out, belX⟩
      refine ar8 (fun K hK => ?_) AllReadyH.nil
      go_simp
      have hbb : Below W1.heap.size W1 (W1.alloc (.cells #[.int .i64 0, .slice none 0 0] 29)) := (Below.refl _ _).alloc (Nat.le_refl _) _
      have g0W11 : (W1.alloc (.cells #[.int .i64 0, .slice none 0 0] 29)).cell? ⟨W1.heap.size, 0, none⟩ = some (.int .i64 0) := by simp
      have g1W11 : (W1.alloc (.cells #[.int .i64 0, .slice none 0 0] 29)).cell? ⟨W1.heap.size, 1, none⟩ = some (.slice none 0 0) := by simp
      have gf0W11 : (W1.alloc (.cells #[.int .i64 0, .slice none 0 0] 29)).frozen? ⟨W1.heap.size, 0, none⟩ = false := by simp
      have gf1W11 : (W1.alloc (.cells #[.int .i64 0, .slice none 0 0] 29)).frozen? ⟨W1.heap.size, 1, none⟩ = false := by simp
      have zgW11 : W1.heap.size < (W1.alloc (.cells #[.int .i64 0, .slice none 0 0] 29)).heap.size := by simp
      generalize W1.alloc (.cells #[.int .i64 0, .slice none 0 0] 29) = W11 at hbb g0W11 g1W11 gf0W11 gf1W11 zgW11 ⊢
      have belW11 := belW1.trans (hbb.mono belW1.size)
      have zsW11 := hbb.size
      have a0W11 := cell_carry a0W1 (Carries.of 0 hbb)
      have a1W11 := cell_carry a1W1 (Carries.of 0 hbb)
      have c0W11 := cell_carry c0W1 (Carries.of 0 hbb)
      have c1W11 := cell_carry c1W1 (Carries.of 0 hbb)
      have H2W11 := Lib.hid (H2W1.out.keep (Carries.of _ hbb))
      refine hK.out _ _ ⟨a0W11, a1W11, c0W11, c1W11⟩ (fun hHeld => ?_)
      clear hK K
      try simp only [Act.put, List.setIfInBounds_toArray, List.set_cons_zero, List.set_cons_succ]
      refine rd3 (by kernel_rfl) (fun K hK => ?_)
      go_simp
      refine (toNet_any _ b W11 lo (HU.out.keep (Carries.of lo (hw2.trans (belW11.mono hw2.size)))) HS1.out).mono ?_
      rintro e W12 ⟨v3, rfl, hn, hbb⟩
      obtain ⟨a3, k3, rfl⟩ : ∃ x y, v3 = .agg #[.int .i64 q, .slice x l y] := by
        obtain ⟨_, _, u4, rfl, ⟨x4, y4, rfl, _, _⟩⟩ := hn
        rw [← HL.out, ← HQ.out]; exact ⟨_, _, rfl⟩
      have belW12 := belW11.trans (hbb.mono belW11.size)
      have zsW12 := hbb.size
      have a0W12 := cell_carry a0W11 (Carries.of 0 hbb)
      have a1W12 := cell_carry a1W11 (Carries.of 0 hbb)
      have c0W12 := cell_carry c0W11 (Carries.of 0 hbb)
      have c1W12 := cell_carry c1W11 (Carries.of 0 hbb)
      have g0W12 := cell_carry g0W11 (Carries.of 0 hbb)
      have g1W12 := cell_carry g1W11 (Carries.of 0 hbb)
      have gf0W12 := (hbb.frozen (p := ⟨W1.heap.size, 0, none⟩) (by simp; omega)).trans gf0W11
      have gf1W12 := (hbb.frozen (p := ⟨W1.heap.size, 1, none⟩) (by simp; omega)).trans gf1W11
      have H2W12 := Lib.hid (H2W11.out.keep (Carries.of _ hbb))
      have H3W12 := Lib.hid (hn.low (Nat.zero_le _)); clear hn hbb
      refine hK.out _ _ ⟨a0W12, a1W12, c0W12, c1W12⟩ (fun hHeld => ?_)
      clear hK K
      try simp only [Act.put, List.setIfInBounds_toArray, List.set_cons_zero, List.set_cons_succ]
      refine rd4 (by kernel_rfl) (fun K hK => ?_)
      go_simp
      refine (specUnionNets_any _ _ a b W12 0 H2W12.out HS.out H3W12.out HS1.out).mono ?_
      rintro e W13 ⟨uw, rfl, hiw, hbb⟩
      rw [← HR.out.1] at hiw ⊢
      rw [← HR.out.2, ← HRP.out]
      obtain ⟨aw, kw, rfl, _, _⟩ := id hiw
      rw [← HRM.out] at hiw ⊢
      have belW13 := belW12.trans (hbb.mono belW12.size)
      have zsW13 := hbb.size
      have a0W13 := cell_carry a0W12 (Carries.of 0 hbb)
      have a1W13 := cell_carry a1W12 (Carries.of 0 hbb)
      have c0W13 := cell_carry c0W12 (Carries.of 0 hbb)
      have c1W13 := cell_carry c1W12 (Carries.of 0 hbb)
      have g0W13 := cell_carry g0W12 (Carries.of 0 hbb)
      have g1W13 := cell_carry g1W12 (Carries.of 0 hbb)
      have gf0W13 := (hbb.frozen (p := ⟨W1.heap.size, 0, none⟩) (by simp; omega)).trans gf0W12
      have gf1W13 := (hbb.frozen (p := ⟨W1.heap.size, 1, none⟩) (by simp; omega)).trans gf1W12
      have HWW13 := Lib.hid hiw; clear hiw hbb
      refine hK.out _ _ ⟨a0W13, a1W13, c0W13, c1W13⟩ (fun hHeld => ?_)
      clear hK K
      try simp only [Act.put, List.setIfInBounds_toArray, List.set_cons_zero, List.set_cons_succ]
      refine tk5 (v := ?_) (by kernel_rfl) (by kernel_rfl) (by kernel_rfl) (by first | exact fun _ _ _ h => h | exact fun _ _ _ h => absurd h.1 (by simp)) (Or.inl ⟨by rfl, ?_⟩) (by assumption) ?_
      rotate_left 1
      focus (intro wx hSw; (try dsimp only at hSw); go_simp; try (with_reducible rfl))
      try simp only [Act.put, List.setIfInBounds_toArray, List.set_cons_zero, List.set_cons_succ]
      refine tk6 (v := ?_) (by kernel_rfl) (by kernel_rfl) (by kernel_rfl) (by first | exact fun _ _ _ h => h | exact fun _ _ _ h => absurd h.1 (by simp)) (Or.inl ⟨by rfl, ?_⟩) (by assumption) ?_
      rotate_left 1
      focus (intro wx hSw; (try dsimp only at hSw); go_simp; try (with_reducible rfl))
      try simp only [Act.put, List.setIfInBounds_toArray, List.set_cons_zero, List.set_cons_succ]
      refine tk7 (v := ?_) (by kernel_rfl) (by kernel_rfl) (by kernel_rfl) (by first | exact fun _ _ _ h => h | exact fun _ _ _ h => absurd h.1 (by simp)) (Or.inl ⟨by rfl, ?_⟩) (by assumption) ?_
      rotate_left 1
      focus (intro wx hSw; (try dsimp only at hSw); go_simp; try (with_reducible rfl))
      try simp only [Act.put, List.setIfInBounds_toArray, List.set_cons_zero, List.set_cons_succ]
      refine rd9 (by kernel_rfl) (fun K hK => ?_)
      go_simp
      have belX : Below w2.heap.size w2 ((W13.setCell ⟨W1.heap.size, 0, none⟩ (.int .i64 rp)).setCell ⟨W1.heap.size, 1, none⟩ (.slice aw rm kw)) := (belW13.setCell (by simp; omega) _).setCell (by simp; omega) _
      have q0 : ((W13.setCell ⟨W1.heap.size, 0, none⟩ (.int .i64 rp)).setCell ⟨W1.heap.size, 1, none⟩ (.slice aw rm kw)).cell? ⟨W1.heap.size, 0, none⟩ = some (.int .i64 rp) := (World.cell?_setCell_other _ _ _ _ (by simp)).trans (World.cell?_setCell_same _ _ _ g0W13)
      have q1 : ((W13.setCell ⟨W1.heap.size, 0, none⟩ (.int .i64 rp)).setCell ⟨W1.heap.size, 1, none⟩ (.slice aw rm kw)).cell? ⟨W1.heap.size, 1, none⟩ = some (.slice aw rm kw) := World.cell?_setCell_same _ _ _ ((World.cell?_setCell_other W13 ⟨W1.heap.size, 0, none⟩ ⟨W1.heap.size, 1, none⟩ _ (by simp)).trans g1W13)
      have ya0 : ((W13.setCell ⟨W1.heap.size, 0, none⟩ (.int .i64 rp)).setCell ⟨W1.heap.size, 1, none⟩ (.slice aw rm kw)).cell? ⟨w.heap.size, 0, none⟩ = some (.int .i64 p) := (World.cell?_setCell_far _ _ _ _ (by simp; omega)).trans ((World.cell?_setCell_far _ _ _ _ (by simp; omega)).trans a0W13)
      have ya1 : ((W13.setCell ⟨W1.heap.size, 0, none⟩ (.int .i64 rp)).setCell ⟨W1.heap.size, 1, none⟩ (.slice aw rm kw)).cell? ⟨w.heap.size, 1, none⟩ = some (.slice aa m ka) := (World.cell?_setCell_far _ _ _ _ (by simp; omega)).trans ((World.cell?_setCell_far _ _ _ _ (by simp; omega)).trans a1W13)
      have yc0 : ((W13.setCell ⟨W1.heap.size, 0, none⟩ (.int .i64 rp)).setCell ⟨W1.heap.size, 1, none⟩ (.slice aw rm kw)).cell? ⟨w.heap.size + 1, 0, none⟩ = some (.int .i64 q) := (World.cell?_setCell_far _ _ _ _ (by simp; omega)).trans ((World.cell?_setCell_far _ _ _ _ (by simp; omega)).trans c0W13)
      have yc1 : ((W13.setCell ⟨W1.heap.size, 0, none⟩ (.int .i64 rp)).setCell ⟨W1.heap.size, 1, none⟩ (.slice aw rm kw)).cell? ⟨w.heap.size + 1, 1, none⟩ = some (.slice ab l kb) := (World.cell?_setCell_far _ _ _ _ (by simp; omega)).trans ((World.cell?_setCell_far _ _ _ _ (by simp; omega)).trans c1W13)
      have qz : ((W13.setCell ⟨W1.heap.size, 0, none⟩ (.int .i64 rp)).setCell ⟨W1.heap.size, 1, none⟩ (.slice aw rm kw)).heap.size = W13.heap.size := by simp
      have HX := Lib.hid ((HWW13.out.keep (((Carries.refl _ _).set (p := ⟨W1.heap.size, 0, none⟩) (by simp; omega) (.int .i64 rp)).set (p := ⟨W1.heap.size, 1, none⟩) (by simp; omega) (.slice aw rm kw))).low (Nat.zero_le _))
      generalize (W13.setCell ⟨W1.heap.size, 0, none⟩ (.int .i64 rp)).setCell ⟨W1.heap.size, 1, none⟩ (.slice aw rm kw) = W14 at belX q0 q1 ya0 ya1 yc0 yc1 qz HX ⊢
      refine hK.out _ _ ⟨ya0, ya1, yc0, yc1⟩ (fun hHeld => ?_)
      clear hK K
      try simp only [Act.put, List.setIfInBounds_toArray, List.set_cons_zero, List.set_cons_succ]
      refine rd10 (by kernel_rfl) (fun K hK => ?_)
      go_simp
      refine hK.out _ _ ⟨ya0, ya1, yc0, yc1⟩ (fun hHeld => ?_)
      clear hK K
      try simp only [Act.put, List.setIfInBounds_toArray, List.set_cons_zero, List.set_cons_succ]
      refine wpAnyH_done (by kernel_rfl) ?_ _
      exact ⟨rfl, W1.heap.size, _, _, _, _, _, _, rfl, by omega, by omega, q0, q1, HX.out, belX⟩
    refine ar8 (fun K hK => ?_) AllReadyH.nil
    go_simp
    have hbb : Below W0.heap.size W0 (W0.alloc (.cells #[.int .i64 0, .slice none 0 0] 29)) := (Below.refl _ _).alloc (Nat.le_refl _) _
    have g0W16 : (W0.alloc (.cells #[.int .i64 0, .slice none 0 0] 29)).cell? ⟨W0.heap.size, 0, none⟩ = some (.int .i64 0) := by simp
    have g1W16 : (W0.alloc (.cells #[.int .i64 0, .slice none 0 0] 29)).cell? ⟨W0.heap.size, 1, none⟩ = some (.slice none 0 0) := by simp
    have gf0W16 : (W0.alloc (.cells #[.int .i64 0, .slice none 0 0] 29)).frozen? ⟨W0.heap.size, 0, none⟩ = false := by simp
    have gf1W16 : (W0.alloc (.cells #[.int .i64 0, .slice none 0 0] 29)).frozen? ⟨W0.heap.size, 1, none⟩ = false := by simp
    have zgW16 : W0.heap.size < (W0.alloc (.cells #[.int .i64 0, .slice none 0 0] 29)).heap.size := by simp
    generalize W0.alloc (.cells #[.int .i64 0, .slice none 0 0] 29) = W16 at hbb g0W16 g1W16 gf0W16 gf1W16 zgW16 ⊢
    have belW16 := belW0.trans (hbb.mono belW0.size)
    have zsW16 := hbb.size
    have a0W16 := cell_carry a0W0 (Carries.of 0 hbb)
    have a1W16 := cell_carry a1W0 (Carries.of 0 hbb)
    have c0W16 := cell_carry c0W0 (Carries.of 0 hbb)
    have c1W16 := cell_carry c1W0 (Carries.of 0 hbb)
    refine hK.out _ _ ⟨a0W16, a1W16, c0W16, c1W16⟩ (fun hHeld => ?_)
    clear hK K
    try simp only [Act.put, List.setIfInBounds_toArray, List.set_cons_zero, List.set_cons_succ]
    refine rd1 (by kernel_rfl) (fun K hK => ?_)
    go_simp
    refine (toNet_any _ a W16 lo (HV.out.keep (Carries.of lo (hw2.trans (belW16.mono hw2.size)))) HS.out).mono ?_
    rintro e W17 ⟨v2, rfl, hn, hbb⟩
    obtain ⟨a2, k2, rfl⟩ : ∃ x y, v2 = .agg #[.int .i64 p, .slice x m y] := by
      obtain ⟨_, _, u4, rfl, ⟨x4, y4, rfl, _, _⟩⟩ := hn
      rw [← HM.out, ← HP.out]; exact ⟨_, _, rfl⟩
    have belW17 := belW16.trans (hbb.mono belW16.size)
    have zsW17 := hbb.size
    have a0W17 := cell_carry a0W16 (Carries.of 0 hbb)
    have a1W17 := cell_carry a1W16 (Carries.of 0 hbb)
    have c0W17 := cell_carry c0W16 (Carries.of 0 hbb)
    have c1W17 := cell_carry c1W16 (Carries.of 0 hbb)
    have g0W17 := cell_carry g0W16 (Carries.of 0 hbb)
    have g1W17 := cell_carry g1W16 (Carries.of 0 hbb)
    have gf0W17 := (hbb.frozen (p := ⟨W0.heap.size, 0, none⟩) (by simp; omega)).trans gf0W16
    have gf1W17 := (hbb.frozen (p := ⟨W0.heap.size, 1, none⟩) (by simp; omega)).trans gf1W16
    have H2W17 := Lib.hid (hn.low (Nat.zero_le _)); clear hn hbb
    refine hK.out _ _ ⟨a0W17, a1W17, c0W17, c1W17⟩ (fun hHeld => ?_)
    clear hK K
    try simp only [Act.put, List.setIfInBounds_toArray, List.set_cons_zero, List.set_cons_succ]
    refine rd3 (by kernel_rfl) (fun K hK => ?_)
    go_simp
    refine (toNet_any _ b W17 lo (HU.out.keep (Carries.of lo (hw2.trans (belW17.mono hw2.size)))) HS1.out).mono ?_
    rintro e W18 ⟨v3, rfl, hn, hbb⟩
    obtain ⟨a3, k3, rfl⟩ : ∃ x y, v3 = .agg #[.int .i64 q, .slice x l y] := by
      obtain ⟨_, _, u4, rfl, ⟨x4, y4, rfl, _, _⟩⟩ := hn
      rw [← HL.out, ← HQ.out]; exact ⟨_, _, rfl⟩
    have belW18 := belW17.trans (hbb.mono belW17.size)
    have zsW18 := hbb.size
    have a0W18 := cell_carry a0W17 (Carries.of 0 hbb)
    have a1W18 := cell_carry a1W17 (Carries.of 0 hbb)
    have c0W18 := cell_carry c0W17 (Carries.of 0 hbb)
    have c1W18 := cell_carry c1W17 (Carries.of 0 hbb)
    have g0W18 := cell_carry g0W17 (Carries.of 0 hbb)
    have g1W18 := cell_carry g1W17 (Carries.of 0 hbb)
    have gf0W18 := (hbb.frozen (p := ⟨W0.heap.size, 0, none⟩) (by simp; omega)).trans gf0W17
    have gf1W18 := (hbb.frozen (p := ⟨W0.heap.size, 1, none⟩) (by simp; omega)).trans gf1W17
    have H2W18 := Lib.hid (H2W17.out.keep (Carries.of _ hbb))
    have H3W18 := Lib.hid (hn.low (Nat.zero_le _)); clear hn hbb
    refine hK.out _ _ ⟨a0W18, a1W18, c0W18, c1W18⟩ (fun hHeld => ?_)
    clear hK K
    try simp only [Act.put, List.setIfInBounds_toArray, List.set_cons_zero, List.set_cons_succ]
    refine rd4 (by kernel_rfl) (fun K hK => ?_)
    go_simp
    refine (specUnionNets_any _ _ a b W18 0 H2W18.out HS.out H3W18.out HS1.out).mono ?_
    rintro e W19 ⟨uw, rfl, hiw, hbb⟩
    rw [← HR.out.1] at hiw ⊢
    rw [← HR.out.2, ← HRP.out]
    obtain ⟨aw, kw, rfl, _, _⟩ := id hiw
    rw [← HRM.out] at hiw ⊢
    have belW19 := belW18.trans (hbb.mono belW18.size)
    have zsW19 := hbb.size
    have a0W19 := cell_carry a0W18 (Carries.of 0 hbb)
    have a1W19 := cell_carry a1W18 (Carries.of 0 hbb)
    have c0W19 := cell_carry c0W18 (Carries.of 0 hbb)
    have c1W19 := cell_carry c1W18 (Carries.of 0 hbb)
    have g0W19 := cell_carry g0W18 (Carries.of 0 hbb)
    have g1W19 := cell_carry g1W18 (Carries.of 0 hbb)
    have gf0W19 := (hbb.frozen (p := ⟨W0.heap.size, 0, none⟩) (by simp; omega)).trans gf0W18
    have gf1W19 := (hbb.frozen (p := ⟨W0.heap.size, 1, none⟩) (by simp; omega)).trans gf1W18
    have HWW19 := Lib.hid hiw; clear hiw hbb
    refine hK.out _ _ ⟨a0W19, a1W19, c0W19, c1W19⟩ (fun hHeld => ?_)
    clear hK K
    try simp only [Act.put, List.setIfInBounds_toArray, List.set_cons_zero, List.set_cons_succ]
    refine tk5 (v := ?_) (by kernel_rfl) (by kernel_rfl) (by kernel_rfl) (by first | exact fun _ _ _ h => h | exact fun _ _ _ h => absurd h.1 (by simp)) (Or.inl ⟨by rfl, ?_⟩) (by assumption) ?_
    rotate_left 1
    focus (intro wx hSw; (try dsimp only at hSw); go_simp; try (with_reducible rfl))
    try simp only [Act.put, List.setIfInBounds_toArray, List.set_cons_zero, List.set_cons_succ]
    refine tk6 (v := ?_) (by kernel_rfl) (by kernel_rfl) (by kernel_rfl) (by first | exact fun _ _ _ h => h | exact fun _ _ _ h => absurd h.1 (by simp)) (Or.inl ⟨by rfl, ?_⟩) (by assumption) ?_
    rotate_left 1
    focus (intro wx hSw; (try dsimp only at hSw); go_simp; try (with_reducible rfl))
    try simp only [Act.put, List.setIfInBounds_toArray, List.set_cons_zero, List.set_cons_succ]
    refine tk7 (v := ?_) (by kernel_rfl) (by kernel_rfl) (by kernel_rfl) (by first | exact fun _ _ _ h => h | exact fun _ _ _ h => absurd h.1 (by simp)) (Or.inl ⟨by rfl, ?_⟩) (by assumption) ?_
    rotate_left 1
    focus (intro wx hSw; (try dsimp only at hSw); go_simp; try (with_reducible rfl))
    try simp only [Act.put, List.setIfInBounds_toArray, List.set_cons_zero, List.set_cons_succ]
    refine rd9 (by kernel_rfl) (fun K hK => ?_)
    go_simp
    have belX : Below w2.heap.size w2 ((W19.setCell ⟨W0.heap.size, 0, none⟩ (.int .i64 rp)).setCell ⟨W0.heap.size, 1, none⟩ (.slice aw rm kw)) := (belW19.setCell (by simp; omega) _).setCell (by simp; omega) _
    have q0 : ((W19.setCell ⟨W0.heap.size, 0, none⟩ (.int .i64 rp)).setCell ⟨W0.heap.size, 1, none⟩ (.slice aw rm kw)).cell? ⟨W0.heap.size, 0, none⟩ = some (.int .i64 rp) := (World.cell?_setCell_other _ _ _ _ (by simp)).trans (World.cell?_setCell_same _ _ _ g0W19)
    have q1 : ((W19.setCell ⟨W0.heap.size, 0, none⟩ (.int .i64 rp)).setCell ⟨W0.heap.size, 1, none⟩ (.slice aw rm kw)).cell? ⟨W0.heap.size, 1, none⟩ = some (.slice aw rm kw) := World.cell?_setCell_same _ _ _ ((World.cell?_setCell_other W19 ⟨W0.heap.size, 0, none⟩ ⟨W0.heap.size, 1, none⟩ _ (by simp)).trans g1W19)
    have ya0 : ((W19.setCell ⟨W0.heap.size, 0, none⟩ (.int .i64 rp)).setCell ⟨W0.heap.size, 1, none⟩ (.slice aw rm kw)).cell? ⟨w.heap.size, 0, none⟩ = some (.int .i64 p) := (World.cell?_setCell_far _ _ _ _ (by simp; omega)).trans ((World.cell?_setCell_far _ _ _ _ (by simp; omega)).trans a0W19)
    have ya1 : ((W19.setCell ⟨W0.heap.size, 0, none⟩ (.int .i64 rp)).setCell ⟨W0.heap.size, 1, none⟩ (.slice aw rm kw)).cell? ⟨w.heap.size, 1, none⟩ = some (.slice aa m ka) := (World.cell?_setCell_far _ _ _ _ (by simp; omega)).trans ((World.cell?_setCell_far _ _ _ _ (by simp; omega)).trans a1W19)
    have yc0 : ((W19.setCell ⟨W0.heap.size, 0, none⟩ (.int .i64 rp)).setCell ⟨W0.heap.size, 1, none⟩ (.slice aw rm kw)).cell? ⟨w.heap.size + 1, 0, none⟩ = some (.int .i64 q) := (World.cell?_setCell_far _ _ _ _ (by simp; omega)).trans ((World.cell?_setCell_far _ _ _ _ (by simp; omega)).trans c0W19)
    have yc1 : ((W19.setCell ⟨W0.heap.size, 0, none⟩ (.int .i64 rp)).setCell ⟨W0.heap.size, 1, none⟩ (.slice aw rm kw)).cell? ⟨w.heap.size + 1, 1, none⟩ = some (.slice ab l kb) := (World.cell?_setCell_far _ _ _ _ (by simp; omega)).trans ((World.cell?_setCell_far _ _ _ _ (by simp; omega)).trans c1W19)
    have qz : ((W19.setCell ⟨W0.heap.size, 0, none⟩ (.int .i64 rp)).setCell ⟨W0.heap.size, 1, none⟩ (.slice aw rm kw)).heap.size = W19.heap.size := by simp
    have HX := Lib.hid ((HWW19.out.keep (((Carries.refl _ _).set (p := ⟨W0.heap.size, 0, none⟩) (by simp; omega) (.int .i64 rp)).set (p := ⟨W0.heap.size, 1, none⟩) (by simp; omega) (.slice aw rm kw))).low (Nat.zero_le _))
    generalize (W19.setCell ⟨W0.heap.size, 0, none⟩ (.int .i64 rp)).setCell ⟨W0.heap.size, 1, none⟩ (.slice aw rm kw) = W20 at belX q0 q1 ya0 ya1 yc0 yc1 qz HX ⊢
    refine hK.out _ _ ⟨ya0, ya1, yc0, yc1⟩ (fun hHeld => ?_)
    clear hK K
    try simp only [Act.put, List.setIfInBounds_toArray, List.set_cons_zero, List.set_cons_succ]
    refine rd10 (by kernel_rfl) (fun K hK => ?_)
    go_simp
    refine hK.out _ _ ⟨ya0, ya1, yc0, yc1⟩ (fun hHeld => ?_)
    clear hK K
    try simp only [Act.put, List.setIfInBounds_toArray, List.set_cons_zero, List.set_cons_succ]
    refine wpAnyH_done (by kernel_rfl) ?_ _
    exact ⟨rfl, W0.heap.size, _, _, _, _, _, _, rfl, by omega, by omega, q0, q1, HX.out, belX⟩
  rintro e a' w3 ⟨rfl, A, a2, k2, a3, k3, aw, kw, rfl, zA0, zA1, b0, b1, hiw, hb⟩
  have hw3 : Below w.heap.size w w3 := hw2.trans (hb.mono hw2.size)
  have a0 := cell_carry a0 (Carries.of 0 hb)
  have a1 := cell_carry a1 (Carries.of 0 hb)
  have c0 := cell_carry c0 (Carries.of 0 hb)
  have c1 := cell_carry c1 (Carries.of 0 hb)
  have z3 : w2.heap.size ≤ w3.heap.size := hb.size
  clear hb
  have HW3 := Lib.hid hiw.in; clear hiw
  go_wp2_with fail
  refine (toNet_ow _ a _ lo (HV.out.keep (Carries.of lo hw3)) HS.out).mono ?_
  rintro e w4 ⟨v4, rfl, hn4, hb⟩
  obtain ⟨a4, k4, rfl⟩ : ∃ x k, v4 = .agg #[.int .i64 p, .slice x m k] := by
    obtain ⟨_, _, u4, rfl, ⟨a4, k4, rfl, _, _⟩⟩ := hn4
    rw [← HM.out, ← HP.out]; exact ⟨_, _, rfl⟩
  have hw4 : Below w.heap.size w w4 := hw3.trans (hb.mono hw3.size)
  have a0 := cell_carry a0 (Carries.of 0 hb)
  have a1 := cell_carry a1 (Carries.of 0 hb)
  have c0 := cell_carry c0 (Carries.of 0 hb)
  have c1 := cell_carry c1 (Carries.of 0 hb)
  have b0 := cell_carry b0 (Carries.of 0 hb)
  have b1 := cell_carry b1 (Carries.of 0 hb)
  have z4 : w3.heap.size ≤ w4.heap.size := hb.size
  have HW4 := Lib.hid (HW3.out.keep (Carries.of _ hb))
  clear hb HW3 hw3
  have H4 := Lib.hid hn4; clear hn4
  have S44 := Lib.hid (Same.refl w3.heap.size w4)
  have hal : Below w4.heap.size w4 (w4.alloc (.cells #[.int .i64 p, .slice a4 m k4] 29)) := (Below.refl _ _).alloc (Nat.le_refl _) _
  have a0' := cell_carry a0 (Carries.of 0 hal)
  have a1' := cell_carry a1 (Carries.of 0 hal)
  have c0' := cell_carry c0 (Carries.of 0 hal)
  have c1' := cell_carry c1 (Carries.of 0 hal)
  have b0' := cell_carry b0 (Carries.of 0 hal)
  have b1' := cell_carry b1 (Carries.of 0 hal)
  go_wp2_with fail
  have x0 : (w4.alloc (.cells #[.int .i64 p, .slice a4 m k4] 29)).cell? ⟨w4.heap.size, 0, none⟩ = some (.int .i64 p) := by simp
  have x1 : (w4.alloc (.cells #[.int .i64 p, .slice a4 m k4] 29)).cell? ⟨w4.heap.size, 1, none⟩ = some (.slice a4 m k4) := by simp
  have zzw5 : w4.heap.size < (w4.alloc (.cells #[.int .i64 p, .slice a4 m k4] 29)).heap.size := by simp
  clear a0 a1 c0 c1 b0 b1
  generalize w4.alloc (.cells #[.int .i64 p, .slice a4 m k4] 29) = w5 at hal a0' a1' c0' c1' b0' b1' x0 x1 zzw5 ⊢
  have a0 := a0'
  have a1 := a1'
  have c0 := c0'
  have c1 := c1'
  have b0 := b0'
  have b1 := b1'
  clear a0' a1' c0' c1' b0' b1'
  have hw5 : Below w.heap.size w w5 := hw4.trans (hal.mono hw4.size)
  have HW5 := Lib.hid (HW4.out.keep (Carries.of _ hal))
  have S45 := Lib.hid (S44.out.trans (Same.of _ hal))
  clear hal hw4 HW4 S44
  refine (toNet_ow _ b _ lo (HU.out.keep (Carries.of lo hw5)) HS1.out).mono ?_
  rintro e w6 ⟨v6, rfl, hn6, hb⟩
  obtain ⟨a6, k6, rfl⟩ : ∃ x k, v6 = .agg #[.int .i64 q, .slice x l k] := by
    obtain ⟨_, _, u6, rfl, ⟨a6, k6, rfl, _, _⟩⟩ := hn6
    rw [← HL.out, ← HQ.out]; exact ⟨_, _, rfl⟩
  have hw6 : Below w.heap.size w w6 := hw5.trans (hb.mono hw5.size)
  have a0 := cell_carry a0 (Carries.of 0 hb)
  have a1 := cell_carry a1 (Carries.of 0 hb)
  have c0 := cell_carry c0 (Carries.of 0 hb)
  have c1 := cell_carry c1 (Carries.of 0 hb)
  have b0 := cell_carry b0 (Carries.of 0 hb)
  have b1 := cell_carry b1 (Carries.of 0 hb)
  have x0 := cell_carry x0 (Carries.of 0 hb)
  have x1 := cell_carry x1 (Carries.of 0 hb)
  have z6 : w5.heap.size ≤ w6.heap.size := hb.size
  have HW6 := Lib.hid (HW5.out.keep (Carries.of _ hb))
  have S46 := Lib.hid (S45.out.trans (Same.of _ hb))
  clear hb HW5 S45 hw5
  have H6 := Lib.hid hn6; clear hn6
  have S66 := Lib.hid (Same.refl w5.heap.size w6)
  have hal : Below w6.heap.size w6 (w6.alloc (.cells #[.int .i64 q, .slice a6 l k6] 29)) := (Below.refl _ _).alloc (Nat.le_refl _) _
  have a0' := cell_carry a0 (Carries.of 0 hal)
  have a1' := cell_carry a1 (Carries.of 0 hal)
  have c0' := cell_carry c0 (Carries.of 0 hal)
  have c1' := cell_carry c1 (Carries.of 0 hal)
  have b0' := cell_carry b0 (Carries.of 0 hal)
  have b1' := cell_carry b1 (Carries.of 0 hal)
  have x0' := cell_carry x0 (Carries.of 0 hal)
  have x1' := cell_carry x1 (Carries.of 0 hal)
  go_wp2_with fail
  have y0 : (w6.alloc (.cells #[.int .i64 q, .slice a6 l k6] 29)).cell? ⟨w6.heap.size, 0, none⟩ = some (.int .i64 q) := by simp
  have y1 : (w6.alloc (.cells #[.int .i64 q, .slice a6 l k6] 29)).cell? ⟨w6.heap.size, 1, none⟩ = some (.slice a6 l k6) := by simp
  have zzw7 : w6.heap.size < (w6.alloc (.cells #[.int .i64 q, .slice a6 l k6] 29)).heap.size := by simp
  clear a0 a1 c0 c1 b0 b1 x0 x1
  generalize w6.alloc (.cells #[.int .i64 q, .slice a6 l k6] 29) = w7 at hal a0' a1' c0' c1' b0' b1' x0' x1' y0 y1 zzw7 ⊢
  have a0 := a0'
  have a1 := a1'
  have c0 := c0'
  have c1 := c1'
  have b0 := b0'
  have b1 := b1'
  have x0 := x0'
  have x1 := x1'
  clear a0' a1' c0' c1' b0' b1' x0' x1'
  have hw7 : Below w.heap.size w w7 := hw6.trans (hal.mono hw6.size)
  have HW7 := Lib.hid (HW6.out.keep (Carries.of _ hal))
  have S47 := Lib.hid (S46.out.trans (Same.of _ hal))
  have S67 := Lib.hid (S66.out.trans (Same.of _ hal))
  clear hal hw6 HW6 S46 S66
  refine (UnionNets_any _ _ a b w7 0 ((H4.out.keep S47.out).at.low (Nat.zero_le _)) HS.out ((H6.out.keep S67.out).at.low (Nat.zero_le _)) HS1.out).mono ?_
  rintro e w8 ⟨ug, rfl, ⟨c, hc0, hc1, hsep⟩, _, hb⟩
  rw [← HR.out.1] at hsep hc1 ⊢
  rw [← HR.out.2, ← HRP.out]
  obtain ⟨ag, kg, rfl⟩ := hsep.form
  rw [← HRM.out] at hsep hc1 ⊢
  have hw8 : Below w.heap.size w w8 := hw7.trans (hb.mono hw7.size)
  have a0 := cell_carry a0 (Carries.of 0 hb)
  have a1 := cell_carry a1 (Carries.of 0 hb)
  have c0 := cell_carry c0 (Carries.of 0 hb)
  have c1 := cell_carry c1 (Carries.of 0 hb)
  have b0 := cell_carry b0 (Carries.of 0 hb)
  have b1 := cell_carry b1 (Carries.of 0 hb)
  have x0 := cell_carry x0 (Carries.of 0 hb)
  have x1 := cell_carry x1 (Carries.of 0 hb)
  have y0 := cell_carry y0 (Carries.of 0 hb)
  have y1 := cell_carry y1 (Carries.of 0 hb)
  have z8 : w7.heap.size ≤ w8.heap.size := hb.size
  have HW8 := Lib.hid (HW7.out.keep (Carries.of _ hb))
  have S48 := Lib.hid (S47.out.trans (Same.of _ hb))
  have S68 := Lib.hid (S67.out.trans (Same.of _ hb))
  clear hb HW7 S47 S67 hw7
  have HG8 := Lib.hid hsep; clear hsep
  have hal : Below w8.heap.size w8 (w8.alloc (.cells #[.int .i64 rp, .slice ag rm kg] 29)) := (Below.refl _ _).alloc (Nat.le_refl _) _
  have a0' := cell_carry a0 (Carries.of 0 hal)
  have a1' := cell_carry a1 (Carries.of 0 hal)
  have c0' := cell_carry c0 (Carries.of 0 hal)
  have c1' := cell_carry c1 (Carries.of 0 hal)
  have b0' := cell_carry b0 (Carries.of 0 hal)
  have b1' := cell_carry b1 (Carries.of 0 hal)
  have x0' := cell_carry x0 (Carries.of 0 hal)
  have x1' := cell_carry x1 (Carries.of 0 hal)
  have y0' := cell_carry y0 (Carries.of 0 hal)
  have y1' := cell_carry y1 (Carries.of 0 hal)
  go_wp2_with fail
  have g0 : (w8.alloc (.cells #[.int .i64 rp, .slice ag rm kg] 29)).cell? ⟨w8.heap.size, 0, none⟩ = some (.int .i64 rp) := by simp
  have g1 : (w8.alloc (.cells #[.int .i64 rp, .slice ag rm kg] 29)).cell? ⟨w8.heap.size, 1, none⟩ = some (.slice ag rm kg) := by simp
  have zzw9 : w8.heap.size < (w8.alloc (.cells #[.int .i64 rp, .slice ag rm kg] 29)).heap.size := by simp
  clear a0 a1 c0 c1 b0 b1 x0 x1 y0 y1
  generalize w8.alloc (.cells #[.int .i64 rp, .slice ag rm kg] 29) = w9 at hal a0' a1' c0' c1' b0' b1' x0' x1' y0' y1' g0 g1 zzw9 ⊢
  have a0 := a0'
  have a1 := a1'
  have c0 := c0'
  have c1 := c1'
  have b0 := b0'
  have b1 := b1'
  have x0 := x0'
  have x1 := x1'
  have y0 := y0'
  have y1 := y1'
  clear a0' a1' c0' c1' b0' b1' x0' x1' y0' y1'
  have hw9 : Below w.heap.size w w9 := hw8.trans (hal.mono hw8.size)
  have HW9 := Lib.hid (HW8.out.keep (Carries.of _ hal))
  have HG9 := Lib.hid (HG8.out.keep hal)
  have S49 := Lib.hid (S48.out.trans (Same.of _ hal))
  have S69 := Lib.hid (S68.out.trans (Same.of _ hal))
  clear hal hw8 HW8 HG8 S48 S68
  refine (eqNet_any _ _ RN RN _ _ _ (HNET.out _ _ _ _ HG9.out.at) (HNET.out _ _ _ _ HW9.out.at) HSR.out HSR.out).mono ?_
  rintro e wa ⟨rfl, hb⟩
  rw [selfNet]
  have hwa : Below w.heap.size w wa := hw9.trans (hb.mono hw9.size)
  have a0 := cell_carry a0 (Carries.of 0 hb)
  have a1 := cell_carry a1 (Carries.of 0 hb)
  have c0 := cell_carry c0 (Carries.of 0 hb)
  have c1 := cell_carry c1 (Carries.of 0 hb)
  have b0 := cell_carry b0 (Carries.of 0 hb)
  have b1 := cell_carry b1 (Carries.of 0 hb)
  have x0 := cell_carry x0 (Carries.of 0 hb)
  have x1 := cell_carry x1 (Carries.of 0 hb)
  have y0 := cell_carry y0 (Carries.of 0 hb)
  have y1 := cell_carry y1 (Carries.of 0 hb)
  have g0 := cell_carry g0 (Carries.of 0 hb)
  have g1 := cell_carry g1 (Carries.of 0 hb)
  have za : w9.heap.size ≤ wa.heap.size := hb.size
  have HWa := Lib.hid (HW9.out.keep (Carries.of _ hb))
  have HGa := Lib.hid (HG9.out.keep hb)
  have S4a := Lib.hid (S49.out.trans (Same.of _ hb))
  have S6a := Lib.hid (S69.out.trans (Same.of _ hb))
  clear hb HW9 HG9 S49 S69 hw9
  have hbb : (BB != BB) = false := by simp
  go_wp2_with fail
  go_region_held3 (fun w' => w'.cell? ⟨w.heap.size, 0, none⟩ = some (.int .i64 p) ∧ w'.cell? ⟨w.heap.size, 1, none⟩ = some (.slice aa m ka) ∧ w'.cell? ⟨w4.heap.size, 0, none⟩ = some (.int .i64 p) ∧ w'.cell? ⟨w4.heap.size, 1, none⟩ = some (.slice a4 m k4))
    (first
      | exact ⟨a0, a1, x0, x1⟩
      | exact ⟨cell_carry (w := wa.drew) a0 (Carries.of 0 hb7), cell_carry (w := wa.drew) a1 (Carries.of 0 hb7), cell_carry (w := wa.drew) x0 (Carries.of 0 hb7), cell_carry (w := wa.drew) x1 (Carries.of 0 hb7)⟩
      | exact ⟨cell_carry (cell_carry (w := wa.drew) a0 (Carries.of 0 hb7)) (Carries.of 0 hb8), cell_carry (cell_carry (w := wa.drew) a1 (Carries.of 0 hb7)) (Carries.of 0 hb8), cell_carry (cell_carry (w := wa.drew) x0 (Carries.of 0 hb7)) (Carries.of 0 hb8), cell_carry (cell_carry (w := wa.drew) x1 (Carries.of 0 hb7)) (Carries.of 0 hb8)⟩)
    (first
      | (go_at_call 17; refine (toNet_any _ a wa.drew lo (HV.out.keep (Carries.of lo hwa.drew)) HS.out).mono ?_; rintro e wb ⟨v7a, rfl, hn7, hb7⟩)
      | (go_at_call 19; refine (eqNet_any _ _ a a _ _ _ ((H4.out.keep S4a.out).at.keep (Carries.of (w := wa.drew) _ hb7)) hn7 HS.out HS.out).mono ?_; rintro e wc ⟨rfl, hb8⟩))
  have hb78 : Below wa.heap.size wa wc := (Below.trans (b := wa.drew) (Below.refl _ _).drew (Below.trans (hb7.mono (by simp)) (hb8.mono (by have := hb7.size; simp at this; omega))))
  clear hb7 hb8 hn7
  have hwc : Below w.heap.size w wc := hwa.trans (hb78.mono hwa.size)
  have a0 := cell_carry a0 (Carries.of 0 hb78)
  have a1 := cell_carry a1 (Carries.of 0 hb78)
  have c0 := cell_carry c0 (Carries.of 0 hb78)
  have c1 := cell_carry c1 (Carries.of 0 hb78)
  have b0 := cell_carry b0 (Carries.of 0 hb78)
  have b1 := cell_carry b1 (Carries.of 0 hb78)
  have x0 := cell_carry x0 (Carries.of 0 hb78)
  have x1 := cell_carry x1 (Carries.of 0 hb78)
  have y0 := cell_carry y0 (Carries.of 0 hb78)
  have y1 := cell_carry y1 (Carries.of 0 hb78)
  have g0 := cell_carry g0 (Carries.of 0 hb78)
  have g1 := cell_carry g1 (Carries.of 0 hb78)
  have zc : wa.heap.size ≤ wc.heap.size := hb78.size
  have HWc := Lib.hid (HWa.out.keep (Carries.of _ hb78))
  have HGc := Lib.hid (HGa.out.keep hb78)
  have S4c := Lib.hid (S4a.out.trans (Same.of _ hb78))
  have S6c := Lib.hid (S6a.out.trans (Same.of _ hb78))
  clear hb78 HWa HGa S4a S6a hwa
  go_wp2_with fail
  go_region_held3 (fun w' => w'.cell? ⟨w.heap.size + 1, 0, none⟩ = some (.int .i64 q) ∧ w'.cell? ⟨w.heap.size + 1, 1, none⟩ = some (.slice ab l kb) ∧ w'.cell? ⟨w6.heap.size, 0, none⟩ = some (.int .i64 q) ∧ w'.cell? ⟨w6.heap.size, 1, none⟩ = some (.slice a6 l k6))
    (first
      | exact ⟨c0, c1, y0, y1⟩
      | exact ⟨cell_carry (w := wc.drew) c0 (Carries.of 0 hb7), cell_carry (w := wc.drew) c1 (Carries.of 0 hb7), cell_carry (w := wc.drew) y0 (Carries.of 0 hb7), cell_carry (w := wc.drew) y1 (Carries.of 0 hb7)⟩
      | exact ⟨cell_carry (cell_carry (w := wc.drew) c0 (Carries.of 0 hb7)) (Carries.of 0 hb8), cell_carry (cell_carry (w := wc.drew) c1 (Carries.of 0 hb7)) (Carries.of 0 hb8), cell_carry (cell_carry (w := wc.drew) y0 (Carries.of 0 hb7)) (Carries.of 0 hb8), cell_carry (cell_carry (w := wc.drew) y1 (Carries.of 0 hb7)) (Carries.of 0 hb8)⟩)
    (first
      | (go_at_call 17; refine (toNet_any _ b wc.drew lo (HU.out.keep (Carries.of lo hwc.drew)) HS1.out).mono ?_; rintro e wd ⟨v7b, rfl, hn7, hb7⟩)
      | (go_at_call 19; refine (eqNet_any _ _ b b _ _ _ ((H6.out.keep S6c.out).at.keep (Carries.of (w := wc.drew) _ hb7)) hn7 HS1.out HS1.out).mono ?_; rintro e we ⟨rfl, hb8⟩))
  have hb78 : Below wc.heap.size wc we := (Below.trans (b := wc.drew) (Below.refl _ _).drew (Below.trans (hb7.mono (by simp)) (hb8.mono (by have := hb7.size; simp at this; omega))))
  clear hb7 hb8 hn7
  have hwe : Below w.heap.size w we := hwc.trans (hb78.mono hwc.size)
  have a0 := cell_carry a0 (Carries.of 0 hb78)
  have a1 := cell_carry a1 (Carries.of 0 hb78)
  have c0 := cell_carry c0 (Carries.of 0 hb78)
  have c1 := cell_carry c1 (Carries.of 0 hb78)
  have b0 := cell_carry b0 (Carries.of 0 hb78)
  have b1 := cell_carry b1 (Carries.of 0 hb78)
  have x0 := cell_carry x0 (Carries.of 0 hb78)
  have x1 := cell_carry x1 (Carries.of 0 hb78)
  have y0 := cell_carry y0 (Carries.of 0 hb78)
  have y1 := cell_carry y1 (Carries.of 0 hb78)
  have g0 := cell_carry g0 (Carries.of 0 hb78)
  have g1 := cell_carry g1 (Carries.of 0 hb78)
  have ze : wc.heap.size ≤ we.heap.size := hb78.size
  have HWe := Lib.hid (HWc.out.keep (Carries.of _ hb78))
  have HGe := Lib.hid (HGc.out.keep hb78)
  have S4e := Lib.hid (S4c.out.trans (Same.of _ hb78))
  have S6e := Lib.hid (S6c.out.trans (Same.of _ hb78))
  clear hb78 HWc HGc S4c S6c hwc
  go_wp2_with fail
  refine (markNet_any _ a 1 w4 we w3.heap.size H4.out S4e.out HS.out (by omega) (by omega)).mono ?_
  rintro e wf ⟨wx, rfl, hba, hmk⟩
  have hTb := totTo_le HS.out a.ts.length (Nat.le_refl _)
  generalize totTo a.ts a.ts.length = T at hTb ⊢
  have hT1 : T ≤ 2199023255552 := by have := HS.out.1; omega
  clear hTb
  have ha := hwe.trans (hba.mono hwe.size)
  have hwf : Below w.heap.size w wf := hmk.below ha (by omega)
  have zf : we.heap.size ≤ wf.heap.size := by have := hba.size; have := hmk.size; omega
  have a0 := hmk.cell (Or.inl (by simp; omega)) (cell_carry a0 (Carries.of 0 hba))
  have a1 := hmk.cell (Or.inl (by simp; omega)) (cell_carry a1 (Carries.of 0 hba))
  have c0 := hmk.cell (Or.inl (by simp; omega)) (cell_carry c0 (Carries.of 0 hba))
  have c1 := hmk.cell (Or.inl (by simp; omega)) (cell_carry c1 (Carries.of 0 hba))
  have b0 := hmk.cell (Or.inl (by simp; omega)) (cell_carry b0 (Carries.of 0 hba))
  have b1 := hmk.cell (Or.inl (by simp; omega)) (cell_carry b1 (Carries.of 0 hba))
  have y0 := hmk.cell (Or.inr (by simp; omega)) (cell_carry y0 (Carries.of 0 hba))
  have y1 := hmk.cell (Or.inr (by simp; omega)) (cell_carry y1 (Carries.of 0 hba))
  have g0 := hmk.cell (Or.inr (by simp; omega)) (cell_carry g0 (Carries.of 0 hba))
  have g1 := hmk.cell (Or.inr (by simp; omega)) (cell_carry g1 (Carries.of 0 hba))
  have HWf := Lib.hid ((HWe.out.keep (Carries.of _ hba)).marks hmk (by omega))
  have HGf := Lib.hid ((HGe.out.keep hba).above hmk (by omega))
  have S6f := Lib.hid ((S6e.out.trans (Same.of _ hba)).marks hmk (by omega))
  clear hba hmk ha hwe HWe HGe S4e S6e x0 x1
  go_wp2_with fail
  refine (markNet_wide _ b (1 + (T : Int)) w6 wf w5.heap.size H6.out S6f.out HS1.out (by omega) (by omega)).mono ?_
  rintro e wg ⟨wx, rfl, hba, hmk⟩
  generalize totTo b.ts b.ts.length = T2
  have ha := hwf.trans (hba.mono hwf.size)
  have hwg : Below w.heap.size w wg := hmk.below ha (by omega)
  have zg : wf.heap.size ≤ wg.heap.size := by have := hba.size; have := hmk.size; omega
  have a0 := hmk.cell (Or.inl (by simp; omega)) (cell_carry a0 (Carries.of 0 hba))
  have a1 := hmk.cell (Or.inl (by simp; omega)) (cell_carry a1 (Carries.of 0 hba))
  have c0 := hmk.cell (Or.inl (by simp; omega)) (cell_carry c0 (Carries.of 0 hba))
  have c1 := hmk.cell (Or.inl (by simp; omega)) (cell_carry c1 (Carries.of 0 hba))
  have b0 := hmk.cell (Or.inl (by simp; omega)) (cell_carry b0 (Carries.of 0 hba))
  have b1 := hmk.cell (Or.inl (by simp; omega)) (cell_carry b1 (Carries.of 0 hba))
  have g0 := hmk.cell (Or.inr (by simp; omega)) (cell_carry g0 (Carries.of 0 hba))
  have g1 := hmk.cell (Or.inr (by simp; omega)) (cell_carry g1 (Carries.of 0 hba))
  have HWg := Lib.hid ((HWf.out.keep (Carries.of _ hba)).marks hmk (by omega))
  have HGg := Lib.hid ((HGf.out.keep hba).above hmk (by omega))
  clear hba hmk ha hwf HWf HGf S6f y0 y1
  have hT : decide ((1 : Int) + (T : Int) + (T2 : Int) < 0) = false := by rw [decide_eq_false_iff_not]; omega
  go_wp2_with fail
  refine (eqNet_any _ _ RN RN _ _ _ (HNET.out _ _ _ _ HGg.out.at) (HNET.out _ _ _ _ HWg.out.at) HSR.out HSR.out).mono ?_
  rintro e wh ⟨rfl, hb⟩
  rw [selfNet]
  have hwh : Below w.heap.size w wh := hwg.trans (hb.mono hwg.size)
  have a0 := cell_carry a0 (Carries.of 0 hb)
  have a1 := cell_carry a1 (Carries.of 0 hb)
  have c0 := cell_carry c0 (Carries.of 0 hb)
  have c1 := cell_carry c1 (Carries.of 0 hb)
  have b0 := cell_carry b0 (Carries.of 0 hb)
  have b1 := cell_carry b1 (Carries.of 0 hb)
  have g0 := cell_carry g0 (Carries.of 0 hb)
  have g1 := cell_carry g1 (Carries.of 0 hb)
  have zh : wg.heap.size ≤ wh.heap.size := hb.size
  have HWh := Lib.hid (HWg.out.keep (Carries.of _ hb))
  have HGh := Lib.hid (HGg.out.keep hb)
  clear hb HWg HGg hwg
  go_wp2_with fail
  refine (markNet_sep rp c _ RN.ts 1 _ HGh.out HSR.out (by omega) (by omega)).mono ?_
  rintro e wi ⟨wx, rfl, hba, hmk, hheld⟩
  rw [← HRM.out] at hmk
  have ha := hwh.trans (hba.mono hwh.size)
  have hwi : Below w.heap.size w wi := hmk.below ha (by omega)
  have zi : wh.heap.size ≤ wi.heap.size := by have := hba.size; have := hmk.size; omega
  have a0 := hmk.cell (Or.inl (by simp; omega)) (cell_carry a0 (Carries.of 0 hba))
  have a1 := hmk.cell (Or.inl (by simp; omega)) (cell_carry a1 (Carries.of 0 hba))
  have c0 := hmk.cell (Or.inl (by simp; omega)) (cell_carry c0 (Carries.of 0 hba))
  have c1 := hmk.cell (Or.inl (by simp; omega)) (cell_carry c1 (Carries.of 0 hba))
  have b0 := hmk.cell (Or.inl (by simp; omega)) (cell_carry b0 (Carries.of 0 hba))
  have b1 := hmk.cell (Or.inl (by simp; omega)) (cell_carry b1 (Carries.of 0 hba))
  have g0 := hmk.cell (Or.inr (by simp; omega)) (cell_carry g0 (Carries.of 0 hba))
  have g1 := hmk.cell (Or.inr (by simp; omega)) (cell_carry g1 (Carries.of 0 hba))
  have HWi := Lib.hid ((HWh.out.keep (Carries.of _ hba)).marks hmk (by omega))
  have HHi := Lib.hid hheld
  clear hba hmk ha hwh HWh HGh hheld
  have hTr := totTo_le HSR.out RN.ts.length (Nat.le_refl _)
  generalize hTT : totTo RN.ts RN.ts.length = TT at hTr
  have HTT := Lib.hid hTT; clear hTT
  go_wp2_with fail
  refine (heldNet_any rp _ RN.ts 1 _ 0 HHi.out HSR.out (by omega) (by omega)).mono ?_
  rintro e wj ⟨rfl, hb⟩
  rw [HTT.out]
  have hwj : Below w.heap.size w wj := hwi.trans (hb.mono hwi.size)
  have a0 := cell_carry a0 (Carries.of 0 hb)
  have a1 := cell_carry a1 (Carries.of 0 hb)
  have c0 := cell_carry c0 (Carries.of 0 hb)
  have c1 := cell_carry c1 (Carries.of 0 hb)
  have b0 := cell_carry b0 (Carries.of 0 hb)
  have b1 := cell_carry b1 (Carries.of 0 hb)
  have g0 := cell_carry g0 (Carries.of 0 hb)
  have g1 := cell_carry g1 (Carries.of 0 hb)
  have zj : wi.heap.size ≤ wj.heap.size := hb.size
  have HWj := Lib.hid (HWi.out.keep (Carries.of _ hb))
  have HHj := Lib.hid (HHi.out.keep (Carries.of _ hb))
  clear hb HWi HHi hwi
  have hq1 : ((1 : Int) + (TT : Int) != 1 + (TT : Int)) = false := by simp
  have hq2 : decide ((1 : Int) + (TT : Int) < 0) = false := by rw [decide_eq_false_iff_not]; omega
  go_wp2_with fail
  refine Code.wp_mono (Q := UMid wj rp rm RN.ts (fun Gh b2 j2 b3 j3 ah kh => { tmps := #[Value.agg #[Value.int IntKind.i64 p, Value.slice aa m ka], Value.agg #[Value.int IntKind.i64 q, Value.slice ab l kb], Value.pointer (some { block := w.heap.size, off := 0 }), Value.pointer (some { block := w.heap.size + 1, off := 0 }), Value.bool false, Value.int IntKind.i64 r2, Value.pointer (some { block := A, off := 0 }), Value.bool BB, Value.pointer (some { block := w4.heap.size, off := 0 }), Value.pointer (some { block := w6.heap.size, off := 0 }), Value.pointer (some { block := w8.heap.size, off := 0 }), Value.bool BB, Value.int IntKind.i64 (1 + ↑T + ↑T2), Value.int IntKind.i64 (1 + ↑TT), Value.int IntKind.i64 (1 + ↑TT), .pointer (some ⟨Gh, 0, none⟩), .bool BB, Value.agg #[Value.int IntKind.i64 p, Value.slice aa m ka], Value.int IntKind.i64 1048576, Value.int IntKind.i64 r, Value.int IntKind.i64 r, Value.bool (decide (r < 0)), Value.agg #[Value.int IntKind.i64 q, Value.slice ab l kb], Value.int IntKind.i64 r, Value.int IntKind.i64 r2, Value.int IntKind.i64 r2, Value.bool (decide (r2 < 0)), Value.tuple #[Value.agg #[Value.int IntKind.i64 rp, Value.slice aw rm kw], Value.bool BB], Value.agg #[Value.int IntKind.i64 p, Value.slice aa m ka], Value.agg #[Value.int IntKind.i64 p, Value.slice a2 m k2], Value.agg #[Value.int IntKind.i64 q, Value.slice ab l kb], Value.agg #[Value.int IntKind.i64 q, Value.slice a3 l k3], Value.tuple #[Value.agg #[Value.int IntKind.i64 rp, Value.slice aw rm kw], Value.bool BB], Value.agg #[Value.int IntKind.i64 rp, Value.slice aw rm kw], Value.bool BB, Value.agg #[Value.int IntKind.i64 p, Value.slice aa m ka], Value.agg #[Value.int IntKind.i64 p, Value.slice a4 m k4], Value.agg #[Value.int IntKind.i64 q, Value.slice ab l kb], Value.agg #[Value.int IntKind.i64 q, Value.slice a6 l k6], Value.tuple #[Value.agg #[Value.int IntKind.i64 rp, Value.slice ag rm kg], Value.bool BB], Value.agg #[Value.int IntKind.i64 p, Value.slice a4 m k4], Value.agg #[Value.int IntKind.i64 q, Value.slice a6 l k6], Value.tuple #[Value.agg #[Value.int IntKind.i64 rp, Value.slice ag rm kg], Value.bool BB], Value.agg #[Value.int IntKind.i64 rp, Value.slice ag rm kg], Value.bool BB, Value.agg #[Value.int IntKind.i64 rp, Value.slice ag rm kg], Value.agg #[Value.int IntKind.i64 rp, Value.slice aw rm kw], Value.bool true, Value.bool false, Value.bool false, Value.bool BB, Value.bool BB, Value.bool false, Value.bool false, Value.agg #[Value.int IntKind.i64 p, Value.slice a4 m k4], Value.agg #[Value.int IntKind.i64 p, Value.slice aa m ka], v7a, Value.bool true, Value.bool false, Value.agg #[Value.int IntKind.i64 q, Value.slice a6 l k6], Value.agg #[Value.int IntKind.i64 q, Value.slice ab l kb], v7b, Value.bool true, Value.bool false, Value.agg #[Value.int IntKind.i64 p, Value.slice a4 m k4], Value.int IntKind.i64 1, Value.int IntKind.i64 (1 + ↑T), Value.agg #[Value.int IntKind.i64 q, Value.slice a6 l k6], Value.int IntKind.i64 (1 + ↑T), Value.int IntKind.i64 (1 + ↑T + ↑T2), Value.int IntKind.i64 (1 + ↑T + ↑T2), Value.bool false, Value.bool false, Value.agg #[Value.int IntKind.i64 rp, Value.slice ag rm kg], Value.agg #[Value.int IntKind.i64 rp, Value.slice aw rm kw], Value.bool true, Value.bool false, Value.bool false, Value.bool false, Value.bool BB, Value.bool BB, Value.bool false, Value.bool false, Value.agg #[Value.int IntKind.i64 rp, Value.slice ag rm kg], Value.int IntKind.i64 1, Value.int IntKind.i64 (1 + ↑TT), Value.agg #[Value.int IntKind.i64 rp, Value.slice ag rm kg], Value.int IntKind.i64 1, Value.int IntKind.i64 (1 + ↑TT), Value.int IntKind.i64 (1 + ↑TT), Value.bool false, Value.int IntKind.i64 (1 + ↑TT), Value.int IntKind.i64 (1 + ↑TT), Value.bool false, .tuple #[.agg #[.int .i64 rp, .slice ah rm kh], .bool BB], .agg #[.int .i64 p, .slice aa m ka], .agg #[.int .i64 p, .slice b2 m j2], .agg #[.int .i64 q, .slice ab l kb], .agg #[.int .i64 q, .slice b3 l j3], .tuple #[.agg #[.int .i64 rp, .slice ah rm kh], .bool BB], .agg #[.int .i64 rp, .slice ah rm kh], .bool BB, undef, undef, undef, undef, undef, undef, undef, undef, undef, undef, undef, undef, undef, undef, undef, undef, undef], defers := [] })) ?_ ?_
  rotate_left 1
  · clear b0 b1 g0 g1
    refine wp_region_held_drew (S := fun w' => w'.cell? ⟨w.heap.size, 0, none⟩ = some (.int .i64 p) ∧ w'.cell? ⟨w.heap.size, 1, none⟩ = some (.slice aa m ka) ∧ w'.cell? ⟨w.heap.size + 1, 0, none⟩ = some (.int .i64 q) ∧ w'.cell? ⟨w.heap.size + 1, 1, none⟩ = some (.slice ab l kb)) (by kernel_rfl) ⟨a0, a1, c0, c1⟩ (fun hHeld => ?_)
    have belW0 : Below wj.heap.size wj wj.drew := (Below.refl _ _).drew
    have a0W0 : wj.drew.cell? ⟨w.heap.size, 0, none⟩ = some (.int .i64 p) := a0
    have a1W0 : wj.drew.cell? ⟨w.heap.size, 1, none⟩ = some (.slice aa m ka) := a1
    have c0W0 : wj.drew.cell? ⟨w.heap.size + 1, 0, none⟩ = some (.int .i64 q) := c0
    have c1W0 : wj.drew.cell? ⟨w.heap.size + 1, 1, none⟩ = some (.slice ab l kb) := c1
    generalize wj.drew = W0 at belW0 a0W0 a1W0 c0W0 c1W0 hHeld ⊢
    have zsW0 := belW0.size
    refine tk0 (v := ?_) (by kernel_rfl) (by kernel_rfl) (by kernel_rfl) (by first | exact fun _ _ _ h => h | exact fun _ _ _ h => absurd h.1 (by simp)) (Or.inl ⟨by rfl, ?_⟩) (by assumption) ?_
    rotate_left 1
    focus (intro wx hSw; (try dsimp only at hSw); go_simp; try (with_reducible rfl))
    try simp only [Act.put, List.setIfInBounds_toArray, List.set_cons_zero, List.set_cons_succ]
    refine tk2 (v := ?_) (by kernel_rfl) (by kernel_rfl) (by kernel_rfl) (by first | exact fun _ _ _ h => h | exact fun _ _ _ h => absurd h.1 (by simp)) (Or.inl ⟨by rfl, ?_⟩) (by assumption) ?_
    rotate_left 1
    focus (intro wx hSw; (try dsimp only at hSw); go_simp; try (with_reducible rfl))
    try simp only [Act.put, List.setIfInBounds_toArray, List.set_cons_zero, List.set_cons_succ]
    refine wpAnyH_ready (rs := [1, 8]) (by kernel_rfl) (by simp) ?_
    refine ar1 (fun K hK => ?_) ?_
    · go_simp
      refine (toNet_any _ a W0 lo (HV.out.keep (Carries.of lo (hwj.trans (belW0.mono hwj.size)))) HS.out).mono ?_
      rintro e W1 ⟨v2, rfl, hn, hbb⟩
      obtain ⟨a2, k2, rfl⟩ : ∃ x y, v2 = .agg #[.int .i64 p, .slice x m y] := by
        obtain ⟨_, _, u4, rfl, ⟨x4, y4, rfl, _, _⟩⟩ := hn
        rw [← HM.out, ← HP.out]; exact ⟨_, _, rfl⟩
      have belW1 := belW0.trans (hbb.mono belW0.size)
      have zsW1 := hbb.size
      have a0W1 := cell_carry a0W0 (Carries.of 0 hbb)
      have a1W1 := cell_carry a1W0 (Carries.of 0 hbb)
      have c0W1 := cell_carry c0W0 (Carries.of 0 hbb)
      have c1W1 := cell_carry c1W0 (Carries.of 0 hbb)
      have H2W1 := Lib.hid (hn.low (Nat.zero_le _)); clear hn hbb
      refine hK.out _ _ ⟨a0W1, a1W1, c0W1, c1W1⟩ (fun hHeld => ?_)
      clear hK K
      try simp only [Act.put, List.setIfInBounds_toArray, List.set_cons_zero, List.set_cons_succ]
      refine wpAnyH_ready (rs := [3, 8]) (by kernel_rfl) (by simp) ?_
      refine ar3 (fun K hK => ?_) ?_
      · go_simp
        refine (toNet_any _ b W1 lo (HU.out.keep (Carries.of lo (hwj.trans (belW1.mono hwj.size)))) HS1.out).mono ?_
        rintro e W2 ⟨v3, rfl, hn, hbb⟩
        obtain ⟨a3, k3, rfl⟩ : ∃ x y, v3 = .agg #[.int .i64 q, .slice x l y] := by
          obtain ⟨_, _, u4, rfl, ⟨x4, y4, rfl, _, _⟩⟩ := hn
          rw [← HL.out, ← HQ.out]; exact ⟨_, _, rfl⟩
        have belW2 := belW1.trans (hbb.mono belW1.size)
        have zsW2 := hbb.size
        have a0W2 := cell_carry a0W1 (Carries.of 0 hbb)
        have a1W2 := cell_carry a1W1 (Carries.of 0 hbb)
        have c0W2 := cell_carry c0W1 (Carries.of 0 hbb)
        have c1W2 := cell_carry c1W1 (Carries.of 0 hbb)
        have H2W2 := Lib.hid (H2W1.out.keep (Carries.of _ hbb))
        have H3W2 := Lib.hid (hn.low (Nat.zero_le _)); clear hn hbb
        refine hK.out _ _ ⟨a0W2, a1W2, c0W2, c1W2⟩ (fun hHeld => ?_)
        clear hK K
        try simp only [Act.put, List.setIfInBounds_toArray, List.set_cons_zero, List.set_cons_succ]
        refine wpAnyH_ready (rs := [4, 8]) (by kernel_rfl) (by simp) ?_
        refine ar4 (fun K hK => ?_) ?_
        · go_simp
          refine (UnionNets_any _ _ a b W2 0 H2W2.out HS.out H3W2.out HS1.out).mono ?_
          rintro e W3 ⟨uw, rfl, _, hiw, hbb⟩
          rw [← HR.out.1] at hiw ⊢
          rw [← HR.out.2, ← HRP.out]
          obtain ⟨aw, kw, rfl, _, _⟩ := id hiw
          rw [← HRM.out] at hiw ⊢
          have belW3 := belW2.trans (hbb.mono belW2.size)
          have zsW3 := hbb.size
          have a0W3 := cell_carry a0W2 (Carries.of 0 hbb)
          have a1W3 := cell_carry a1W2 (Carries.of 0 hbb)
          have c0W3 := cell_carry c0W2 (Carries.of 0 hbb)
          have c1W3 := cell_carry c1W2 (Carries.of 0 hbb)
          have HWW3 := Lib.hid hiw; clear hiw hbb
          refine hK.out _ _ ⟨a0W3, a1W3, c0W3, c1W3⟩ (fun hHeld => ?_)
          clear hK K
          try simp only [Act.put, List.setIfInBounds_toArray, List.set_cons_zero, List.set_cons_succ]
          refine tk5 (v := ?_) (by kernel_rfl) (by kernel_rfl) (by kernel_rfl) (by first | exact fun _ _ _ h => h | exact fun _ _ _ h => absurd h.1 (by simp)) (Or.inl ⟨by rfl, ?_⟩) (by assumption) ?_
          rotate_left 1
          focus (intro wx hSw; (try dsimp only at hSw); go_simp; try (with_reducible rfl))
          try simp only [Act.put, List.setIfInBounds_toArray, List.set_cons_zero, List.set_cons_succ]
          refine tk6 (v := ?_) (by kernel_rfl) (by kernel_rfl) (by kernel_rfl) (by first | exact fun _ _ _ h => h | exact fun _ _ _ h => absurd h.1 (by simp)) (Or.inl ⟨by rfl, ?_⟩) (by assumption) ?_
          rotate_left 1
          focus (intro wx hSw; (try dsimp only at hSw); go_simp; try (with_reducible rfl))
          try simp only [Act.put, List.setIfInBounds_toArray, List.set_cons_zero, List.set_cons_succ]
          refine tk7 (v := ?_) (by kernel_rfl) (by kernel_rfl) (by kernel_rfl) (by first | exact fun _ _ _ h => h | exact fun _ _ _ h => absurd h.1 (by simp)) (Or.inl ⟨by rfl, ?_⟩) (by assumption) ?_
          rotate_left 1
          focus (intro wx hSw; (try dsimp only at hSw); go_simp; try (with_reducible rfl))
          try simp only [Act.put, List.setIfInBounds_toArray, List.set_cons_zero, List.set_cons_succ]
          refine rd8 (by kernel_rfl) (fun K hK => ?_)
          go_simp
          have hbb : Below W3.heap.size W3 (W3.alloc (.cells #[.int .i64 0, .slice none 0 0] 29)) := (Below.refl _ _).alloc (Nat.le_refl _) _
          have g0W4 : (W3.alloc (.cells #[.int .i64 0, .slice none 0 0] 29)).cell? ⟨W3.heap.size, 0, none⟩ = some (.int .i64 0) := by simp
          have g1W4 : (W3.alloc (.cells #[.int .i64 0, .slice none 0 0] 29)).cell? ⟨W3.heap.size, 1, none⟩ = some (.slice none 0 0) := by simp
          have gf0W4 : (W3.alloc (.cells #[.int .i64 0, .slice none 0 0] 29)).frozen? ⟨W3.heap.size, 0, none⟩ = false := by simp
          have gf1W4 : (W3.alloc (.cells #[.int .i64 0, .slice none 0 0] 29)).frozen? ⟨W3.heap.size, 1, none⟩ = false := by simp
          have zgW4 : W3.heap.size < (W3.alloc (.cells #[.int .i64 0, .slice none 0 0] 29)).heap.size := by simp
          generalize W3.alloc (.cells #[.int .i64 0, .slice none 0 0] 29) = W4 at hbb g0W4 g1W4 gf0W4 gf1W4 zgW4 ⊢
          have belW4 := belW3.trans (hbb.mono belW3.size)
          have zsW4 := hbb.size
          have a0W4 := cell_carry a0W3 (Carries.of 0 hbb)
          have a1W4 := cell_carry a1W3 (Carries.of 0 hbb)
          have c0W4 := cell_carry c0W3 (Carries.of 0 hbb)
          have c1W4 := cell_carry c1W3 (Carries.of 0 hbb)
          have HWW4 := Lib.hid (HWW3.out.keep (Carries.of _ hbb))
          have hbA := hbb
          refine hK.out _ _ ⟨a0W4, a1W4, c0W4, c1W4⟩ (fun hHeld => ?_)
          clear hK K
          try simp only [Act.put, List.setIfInBounds_toArray, List.set_cons_zero, List.set_cons_succ]
          refine rd9 (by kernel_rfl) (fun K hK => ?_)
          go_simp
          have belX : Below wj.heap.size wj ((W4.setCell ⟨W3.heap.size, 0, none⟩ (.int .i64 rp)).setCell ⟨W3.heap.size, 1, none⟩ (.slice aw rm kw)) := (belW4.setCell (by simp; omega) _).setCell (by simp; omega) _
          have q0 : ((W4.setCell ⟨W3.heap.size, 0, none⟩ (.int .i64 rp)).setCell ⟨W3.heap.size, 1, none⟩ (.slice aw rm kw)).cell? ⟨W3.heap.size, 0, none⟩ = some (.int .i64 rp) := (World.cell?_setCell_other _ _ _ _ (by simp)).trans (World.cell?_setCell_same _ _ _ g0W4)
          have q1 : ((W4.setCell ⟨W3.heap.size, 0, none⟩ (.int .i64 rp)).setCell ⟨W3.heap.size, 1, none⟩ (.slice aw rm kw)).cell? ⟨W3.heap.size, 1, none⟩ = some (.slice aw rm kw) := World.cell?_setCell_same _ _ _ ((World.cell?_setCell_other W4 ⟨W3.heap.size, 0, none⟩ ⟨W3.heap.size, 1, none⟩ _ (by simp)).trans g1W4)
          have ya0 : ((W4.setCell ⟨W3.heap.size, 0, none⟩ (.int .i64 rp)).setCell ⟨W3.heap.size, 1, none⟩ (.slice aw rm kw)).cell? ⟨w.heap.size, 0, none⟩ = some (.int .i64 p) := (World.cell?_setCell_far _ _ _ _ (by simp; omega)).trans ((World.cell?_setCell_far _ _ _ _ (by simp; omega)).trans a0W4)
          have ya1 : ((W4.setCell ⟨W3.heap.size, 0, none⟩ (.int .i64 rp)).setCell ⟨W3.heap.size, 1, none⟩ (.slice aw rm kw)).cell? ⟨w.heap.size, 1, none⟩ = some (.slice aa m ka) := (World.cell?_setCell_far _ _ _ _ (by simp; omega)).trans ((World.cell?_setCell_far _ _ _ _ (by simp; omega)).trans a1W4)
          have yc0 : ((W4.setCell ⟨W3.heap.size, 0, none⟩ (.int .i64 rp)).setCell ⟨W3.heap.size, 1, none⟩ (.slice aw rm kw)).cell? ⟨w.heap.size + 1, 0, none⟩ = some (.int .i64 q) := (World.cell?_setCell_far _ _ _ _ (by simp; omega)).trans ((World.cell?_setCell_far _ _ _ _ (by simp; omega)).trans c0W4)
          have yc1 : ((W4.setCell ⟨W3.heap.size, 0, none⟩ (.int .i64 rp)).setCell ⟨W3.heap.size, 1, none⟩ (.slice aw rm kw)).cell? ⟨w.heap.size + 1, 1, none⟩ = some (.slice ab l kb) := (World.cell?_setCell_far _ _ _ _ (by simp; omega)).trans ((World.cell?_setCell_far _ _ _ _ (by simp; omega)).trans c1W4)
          have qz : ((W4.setCell ⟨W3.heap.size, 0, none⟩ (.int .i64 rp)).setCell ⟨W3.heap.size, 1, none⟩ (.slice aw rm kw)).heap.size = W4.heap.size := by simp
          have HX := Lib.hid ((HWW3.out.keep (Carries.of _ ((hbA.setCell (p := ⟨W3.heap.size, 0, none⟩) (Nat.le_refl _) (.int .i64 rp)).setCell (p := ⟨W3.heap.size, 1, none⟩) (Nat.le_refl _) (.slice aw rm kw)))).low (Nat.zero_le _))
          generalize (W4.setCell ⟨W3.heap.size, 0, none⟩ (.int .i64 rp)).setCell ⟨W3.heap.size, 1, none⟩ (.slice aw rm kw) = W5 at belX q0 q1 ya0 ya1 yc0 yc1 qz HX ⊢
          refine hK.out _ _ ⟨ya0, ya1, yc0, yc1⟩ (fun hHeld => ?_)
          clear hK K
          try simp only [Act.put, List.setIfInBounds_toArray, List.set_cons_zero, List.set_cons_succ]
          refine rd10 (by kernel_rfl) (fun K hK => ?_)
          go_simp
          refine hK.out _ _ ⟨ya0, ya1, yc0, yc1⟩ (fun hHeld => ?_)
          clear hK K
          try simp only [Act.put, List.setIfInBounds_toArray, List.set_cons_zero, List.set_cons_succ]
          refine wpAnyH_done (by kernel_rfl) ?_ _
          exact ⟨rfl, W3.heap.size, _, _, _, _, _, _, rfl, by omega, by omega, q0, q1, HX.out, belX⟩
        refine ar8 (fun K hK => ?_) AllReadyH.nil
        go_simp
        have hbb : Below W2.heap.size W2 (W2.alloc (.cells #[.int .i64 0, .slice none 0 0] 29)) := (Below.refl _ _).alloc (Nat.le_refl _) _
        have g0W7 : (W2.alloc (.cells #[.int .i64 0, .slice none 0 0] 29)).cell? ⟨W2.heap.size, 0, none⟩ = some (.int .i64 0) := by simp
        have g1W7 : (W2.alloc (.cells #[.int .i64 0, .slice none 0 0] 29)).cell? ⟨W2.heap.size, 1, none⟩ = some (.slice none 0 0) := by simp
        have gf0W7 : (W2.alloc (.cells #[.int .i64 0, .slice none 0 0] 29)).frozen? ⟨W2.heap.size, 0, none⟩ = false := by simp
        have gf1W7 : (W2.alloc (.cells #[.int .i64 0, .slice none 0 0] 29)).frozen? ⟨W2.heap.size, 1, none⟩ = false := by simp
        have zgW7 : W2.heap.size < (W2.alloc (.cells #[.int .i64 0, .slice none 0 0] 29)).heap.size := by simp
        generalize W2.alloc (.cells #[.int .i64 0, .slice none 0 0] 29) = W7 at hbb g0W7 g1W7 gf0W7 gf1W7 zgW7 ⊢
        have belW7 := belW2.trans (hbb.mono belW2.size)
        have zsW7 := hbb.size
        have a0W7 := cell_carry a0W2 (Carries.of 0 hbb)
        have a1W7 := cell_carry a1W2 (Carries.of 0 hbb)
        have c0W7 := cell_carry c0W2 (Carries.of 0 hbb)
        have c1W7 := cell_carry c1W2 (Carries.of 0 hbb)
        have H2W7 := Lib.hid (H2W2.out.keep (Carries.of _ hbb))
        have H3W7 := Lib.hid (H3W2.out.keep (Carries.of _ hbb))
        refine hK.out _ _ ⟨a0W7, a1W7, c0W7, c1W7⟩ (fun hHeld => ?_)
        clear hK K
        try simp only [Act.put, List.setIfInBounds_toArray, List.set_cons_zero, List.set_cons_succ]
        refine rd4 (by kernel_rfl) (fun K hK => ?_)
        go_simp
        refine (UnionNets_any _ _ a b W7 0 H2W7.out HS.out H3W7.out HS1.out).mono ?_
        rintro e W8 ⟨uw, rfl, _, hiw, hbb⟩
        rw [← HR.out.1] at hiw ⊢
        rw [← HR.out.2, ← HRP.out]
        obtain ⟨aw, kw, rfl, _, _⟩ := id hiw
        rw [← HRM.out] at hiw ⊢
        have belW8 := belW7.trans (hbb.mono belW7.size)
        have zsW8 := hbb.size
        have a0W8 := cell_carry a0W7 (Carries.of 0 hbb)
        have a1W8 := cell_carry a1W7 (Carries.of 0 hbb)
        have c0W8 := cell_carry c0W7 (Carries.of 0 hbb)
        have c1W8 := cell_carry c1W7 (Carries.of 0 hbb)
        have g0W8 := cell_carry g0W7 (Carries.of 0 hbb)
        have g1W8 := cell_carry g1W7 (Carries.of 0 hbb)
        have gf0W8 := (hbb.frozen (p := ⟨W2.heap.size, 0, none⟩) (by simp; omega)).trans gf0W7
        have gf1W8 := (hbb.frozen (p := ⟨W2.heap.size, 1, none⟩) (by simp; omega)).trans gf1W7
        have HWW8 := Lib.hid hiw; clear hiw hbb
        refine hK.out _ _ ⟨a0W8, a1W8, c0W8, c1W8⟩ (fun hHeld => ?_)
        clear hK K
        try simp only [Act.put, List.setIfInBounds_toArray, List.set_cons_zero, List.set_cons_succ]
        refine tk5 (v := ?_) (by kernel_rfl) (by kernel_rfl) (by kernel_rfl) (by first | exact fun _ _ _ h => h | exact fun _ _ _ h => absurd h.1 (by simp)) (Or.inl ⟨by rfl, ?_⟩) (by assumption) ?_
        rotate_left 1
        focus (intro wx hSw; (try dsimp only at hSw); go_simp; try (with_reducible rfl))
        try simp only [Act.put, List.setIfInBounds_toArray, List.set_cons_zero, List.set_cons_succ]
        refine tk6 (v := ?_) (by kernel_rfl) (by kernel_rfl) (by kernel_rfl) (by first | exact fun _ _ _ h => h | exact fun _ _ _ h => absurd h.1 (by simp)) (Or.inl ⟨by rfl, ?_⟩) (by assumption) ?_
        rotate_left 1
        focus (intro wx hSw; (try dsimp only at hSw); go_simp; try (with_reducible rfl))
        try simp only [Act.put, List.setIfInBounds_toArray, List.set_cons_zero, List.set_cons_succ]
        refine tk7 (v := ?_) (by kernel_rfl) (by kernel_rfl) (by kernel_rfl) (by first | exact fun _ _ _ h => h | exact fun _ _ _ h => absurd h.1 (by simp)) (Or.inl ⟨by rfl, ?_⟩) (by assumption) ?_
        rotate_left 1
        focus (intro wx hSw; (try dsimp only at hSw); go_simp; try (with_reducible rfl))
        try simp only [Act.put, List.setIfInBounds_toArray, List.set_cons_zero, List.set_cons_succ]
        refine rd9 (by kernel_rfl) (fun K hK => ?_)
        go_simp
        have belX : Below wj.heap.size wj ((W8.setCell ⟨W2.heap.size, 0, none⟩ (.int .i64 rp)).setCell ⟨W2.heap.size, 1, none⟩ (.slice aw rm kw)) := (belW8.setCell (by simp; omega) _).setCell (by simp; omega) _
        have q0 : ((W8.setCell ⟨W2.heap.size, 0, none⟩ (.int .i64 rp)).setCell ⟨W2.heap.size, 1, none⟩ (.slice aw rm kw)).cell? ⟨W2.heap.size, 0, none⟩ = some (.int .i64 rp) := (World.cell?_setCell_other _ _ _ _ (by simp)).trans (World.cell?_setCell_same _ _ _ g0W8)
        have q1 : ((W8.setCell ⟨W2.heap.size, 0, none⟩ (.int .i64 rp)).setCell ⟨W2.heap.size, 1, none⟩ (.slice aw rm kw)).cell? ⟨W2.heap.size, 1, none⟩ = some (.slice aw rm kw) := World.cell?_setCell_same _ _ _ ((World.cell?_setCell_other W8 ⟨W2.heap.size, 0, none⟩ ⟨W2.heap.size, 1, none⟩ _ (by simp)).trans g1W8)
        have ya0 : ((W8.setCell ⟨W2.heap.size, 0, none⟩ (.int .i64 rp)).setCell ⟨W2.heap.size, 1, none⟩ (.slice aw rm kw)).cell? ⟨w.heap.size, 0, none⟩ = some (.int .i64 p) := (World.cell?_setCell_far _ _ _ _ (by simp; omega)).trans ((World.cell?_setCell_far _ _ _ _ (by simp; omega)).trans a0W8)
        have ya1 : ((W8.setCell ⟨W2.heap.size, 0, none⟩ (.int .i64 rp)).setCell ⟨W2.heap.size, 1, none⟩ (.slice aw rm kw)).cell? ⟨w.heap.size, 1, none⟩ = some (.slice aa m ka) := (World.cell?_setCell_far _ _ _ _ (by simp; omega)).trans ((World.cell?_setCell_far _ _ _ _ (by simp; omega)).trans a1W8)
        have yc0 : ((W8.setCell ⟨W2.heap.size, 0, none⟩ (.int .i64 rp)).setCell ⟨W2.heap.size, 1, none⟩ (.slice aw rm kw)).cell? ⟨w.heap.size + 1, 0, none⟩ = some (.int .i64 q) := (World.cell?_setCell_far _ _ _ _ (by simp; omega)).trans ((World.cell?_setCell_far _ _ _ _ (by simp; omega)).trans c0W8)
        have yc1 : ((W8.setCell ⟨W2.heap.size, 0, none⟩ (.int .i64 rp)).setCell ⟨W2.heap.size, 1, none⟩ (.slice aw rm kw)).cell? ⟨w.heap.size + 1, 1, none⟩ = some (.slice ab l kb) := (World.cell?_setCell_far _ _ _ _ (by simp; omega)).trans ((World.cell?_setCell_far _ _ _ _ (by simp; omega)).trans c1W8)
        have qz : ((W8.setCell ⟨W2.heap.size, 0, none⟩ (.int .i64 rp)).setCell ⟨W2.heap.size, 1, none⟩ (.slice aw rm kw)).heap.size = W8.heap.size := by simp
        have HX := Lib.hid ((HWW8.out.keep (((Carries.refl _ _).set (p := ⟨W2.heap.size, 0, none⟩) (by simp; omega) (.int .i64 rp)).set (p := ⟨W2.heap.size, 1, none⟩) (by simp; omega) (.slice aw rm kw))).low (Nat.zero_le _))
        generalize (W8.setCell ⟨W2.heap.size, 0, none⟩ (.int .i64 rp)).setCell ⟨W2.heap.size, 1, none⟩ (.slice aw rm kw) = W9 at belX q0 q1 ya0 ya1 yc0 yc1 qz HX ⊢
        refine hK.out _ _ ⟨ya0, ya1, yc0, yc1⟩ (fun hHeld => ?_)
        clear hK K
        try simp only [Act.put, List.setIfInBounds_toArray, List.set_cons_zero, List.set_cons_succ]
        refine rd10 (by kernel_rfl) (fun K hK => ?_)
        go_simp
        refine hK.out _ _ ⟨ya0, ya1, yc0, yc1⟩ (fun hHeld => ?_)
        clear hK K
        try simp only [Act.put, List.setIfInBounds_toArray, List.set_cons_zero, List.set_cons_succ]
        refine wpAnyH_done (by kernel_rfl) ?_ _
        exact ⟨rfl, W2.heap.size, _, _, _, _, _, _, rfl, by omega, by omega, q0, q1, HX.out, belX⟩
      refine ar8 (fun K hK => ?_) AllReadyH.nil
      go_simp
      have hbb : Below W1.heap.size W1 (W1.alloc (.cells #[.int .i64 0, .slice none 0 0] 29)) := (Below.refl _ _).alloc (Nat.le_refl _) _
      have g0W11 : (W1.alloc (.cells #[.int .i64 0, .slice none 0 0] 29)).cell? ⟨W1.heap.size, 0, none⟩ = some (.int .i64 0) := by simp
      have g1W11 : (W1.alloc (.cells #[.int .i64 0, .slice none 0 0] 29)).cell? ⟨W1.heap.size, 1, none⟩ = some (.slice none 0 0) := by simp
      have gf0W11 : (W1.alloc (.cells #[.int .i64 0, .slice none 0 0] 29)).frozen? ⟨W1.heap.size, 0, none⟩ = false := by simp
      have gf1W11 : (W1.alloc (.cells #[.int .i64 0, .slice none 0 0] 29)).frozen? ⟨W1.heap.size, 1, none⟩ = false := by simp
      have zgW11 : W1.heap.size < (W1.alloc (.cells #[.int .i64 0, .slice none 0 0] 29)).heap.size := by simp
      generalize W1.alloc (.cells #[.int .i64 0, .slice none 0 0] 29) = W11 at hbb g0W11 g1W11 gf0W11 gf1W11 zgW11 ⊢
      have belW11 := belW1.trans (hbb.mono belW1.size)
      have zsW11 := hbb.size
      have a0W11 := cell_carry a0W1 (Carries.of 0 hbb)
      have a1W11 := cell_carry a1W1 (Carries.of 0 hbb)
      have c0W11 := cell_carry c0W1 (Carries.of 0 hbb)
      have c1W11 := cell_carry c1W1 (Carries.of 0 hbb)
      have H2W11 := Lib.hid (H2W1.out.keep (Carries.of _ hbb))
      refine hK.out _ _ ⟨a0W11, a1W11, c0W11, c1W11⟩ (fun hHeld => ?_)
      clear hK K
      try simp only [Act.put, List.setIfInBounds_toArray, List.set_cons_zero, List.set_cons_succ]
      refine rd3 (by kernel_rfl) (fun K hK => ?_)
      go_simp
      refine (toNet_any _ b W11 lo (HU.out.keep (Carries.of lo (hwj.trans (belW11.mono hwj.size)))) HS1.out).mono ?_
      rintro e W12 ⟨v3, rfl, hn, hbb⟩
      obtain ⟨a3, k3, rfl⟩ : ∃ x y, v3 = .agg #[.int .i64 q, .slice x l y] := by
        obtain ⟨_, _, u4, rfl, ⟨x4, y4, rfl, _, _⟩⟩ := hn
        rw [← HL.out, ← HQ.out]; exact ⟨_, _, rfl⟩
      have belW12 := belW11.trans (hbb.mono belW11.size)
      have zsW12 := hbb.size
      have a0W12 := cell_carry a0W11 (Carries.of 0 hbb)
      have a1W12 := cell_carry a1W11 (Carries.of 0 hbb)
      have c0W12 := cell_carry c0W11 (Carries.of 0 hbb)
      have c1W12 := cell_carry c1W11 (Carries.of 0 hbb)
      have g0W12 := cell_carry g0W11 (Carries.of 0 hbb)
      have g1W12 := cell_carry g1W11 (Carries.of 0 hbb)
      have gf0W12 := (hbb.frozen (p := ⟨W1.heap.size, 0, none⟩) (by simp; omega)).trans gf0W11
      have gf1W12 := (hbb.frozen (p := ⟨W1.heap.size, 1, none⟩) (by simp; omega)).trans gf1W11
      have H2W12 := Lib.hid (H2W11.out.keep (Carries.of _ hbb))
      have H3W12 := Lib.hid (hn.low (Nat.zero_le _)); clear hn hbb
      refine hK.out _ _ ⟨a0W12, a1W12, c0W12, c1W12⟩ (fun hHeld => ?_)
      clear hK K
      try simp only [Act.put, List.setIfInBounds_toArray, List.set_cons_zero, List.set_cons_succ]
      refine rd4 (by kernel_rfl) (fun K hK => ?_)
      go_simp
      refine (UnionNets_any _ _ a b W12 0 H2W12.out HS.out H3W12.out HS1.out).mono ?_
      rintro e W13 ⟨uw, rfl, _, hiw, hbb⟩
      rw [← HR.out.1] at hiw ⊢
      rw [← HR.out.2, ← HRP.out]
      obtain ⟨aw, kw, rfl, _, _⟩ := id hiw
      rw [← HRM.out] at hiw ⊢
      have belW13 := belW12.trans (hbb.mono belW12.size)
      have zsW13 := hbb.size
      have a0W13 := cell_carry a0W12 (Carries.of 0 hbb)
      have a1W13 := cell_carry a1W12 (Carries.of 0 hbb)
      have c0W13 := cell_carry c0W12 (Carries.of 0 hbb)
      have c1W13 := cell_carry c1W12 (Carries.of 0 hbb)
      have g0W13 := cell_carry g0W12 (Carries.of 0 hbb)
      have g1W13 := cell_carry g1W12 (Carries.of 0 hbb)
      have gf0W13 := (hbb.frozen (p := ⟨W1.heap.size, 0, none⟩) (by simp; omega)).trans gf0W12
      have gf1W13 := (hbb.frozen (p := ⟨W1.heap.size, 1, none⟩) (by simp; omega)).trans gf1W12
      have HWW13 := Lib.hid hiw; clear hiw hbb
      refine hK.out _ _ ⟨a0W13, a1W13, c0W13, c1W13⟩ (fun hHeld => ?_)
      clear hK K
      try simp only [Act.put, List.setIfInBounds_toArray, List.set_cons_zero, List.set_cons_succ]
      refine tk5 (v := ?_) (by kernel_rfl) (by kernel_rfl) (by kernel_rfl) (by first | exact fun _ _ _ h => h | exact fun _ _ _ h => absurd h.1 (by simp)) (Or.inl ⟨by rfl, ?_⟩) (by assumption) ?_
      rotate_left 1
      focus (intro wx hSw; (try dsimp only at hSw); go_simp; try (with_reducible rfl))
      try simp only [Act.put, List.setIfInBounds_toArray, List.set_cons_zero, List.set_cons_succ]
      refine tk6 (v := ?_) (by kernel_rfl) (by kernel_rfl) (by kernel_rfl) (by first | exact fun _ _ _ h => h | exact fun _ _ _ h => absurd h.1 (by simp)) (Or.inl ⟨by rfl, ?_⟩) (by assumption) ?_
      rotate_left 1
      focus (intro wx hSw; (try dsimp only at hSw); go_simp; try (with_reducible rfl))
      try simp only [Act.put, List.setIfInBounds_toArray, List.set_cons_zero, List.set_cons_succ]
      refine tk7 (v := ?_) (by kernel_rfl) (by kernel_rfl) (by kernel_rfl) (by first | exact fun _ _ _ h => h | exact fun _ _ _ h => absurd h.1 (by simp)) (Or.inl ⟨by rfl, ?_⟩) (by assumption) ?_
      rotate_left 1
      focus (intro wx hSw; (try dsimp only at hSw); go_simp; try (with_reducible rfl))
      try simp only [Act.put, List.setIfInBounds_toArray, List.set_cons_zero, List.set_cons_succ]
      refine rd9 (by kernel_rfl) (fun K hK => ?_)
      go_simp
      have belX : Below wj.heap.size wj ((W13.setCell ⟨W1.heap.size, 0, none⟩ (.int .i64 rp)).setCell ⟨W1.heap.size, 1, none⟩ (.slice aw rm kw)) := (belW13.setCell (by simp; omega) _).setCell (by simp; omega) _
      have q0 : ((W13.setCell ⟨W1.heap.size, 0, none⟩ (.int .i64 rp)).setCell ⟨W1.heap.size, 1, none⟩ (.slice aw rm kw)).cell? ⟨W1.heap.size, 0, none⟩ = some (.int .i64 rp) := (World.cell?_setCell_other _ _ _ _ (by simp)).trans (World.cell?_setCell_same _ _ _ g0W13)
      have q1 : ((W13.setCell ⟨W1.heap.size, 0, none⟩ (.int .i64 rp)).setCell ⟨W1.heap.size, 1, none⟩ (.slice aw rm kw)).cell? ⟨W1.heap.size, 1, none⟩ = some (.slice aw rm kw) := World.cell?_setCell_same _ _ _ ((World.cell?_setCell_other W13 ⟨W1.heap.size, 0, none⟩ ⟨W1.heap.size, 1, none⟩ _ (by simp)).trans g1W13)
      have ya0 : ((W13.setCell ⟨W1.heap.size, 0, none⟩ (.int .i64 rp)).setCell ⟨W1.heap.size, 1, none⟩ (.slice aw rm kw)).cell? ⟨w.heap.size, 0, none⟩ = some (.int .i64 p) := (World.cell?_setCell_far _ _ _ _ (by simp; omega)).trans ((World.cell?_setCell_far _ _ _ _ (by simp; omega)).trans a0W13)
      have ya1 : ((W13.setCell ⟨W1.heap.size, 0, none⟩ (.int .i64 rp)).setCell ⟨W1.heap.size, 1, none⟩ (.slice aw rm kw)).cell? ⟨w.heap.size, 1, none⟩ = some (.slice aa m ka) := (World.cell?_setCell_far _ _ _ _ (by simp; omega)).trans ((World.cell?_setCell_far _ _ _ _ (by simp; omega)).trans a1W13)
      have yc0 : ((W13.setCell ⟨W1.heap.size, 0, none⟩ (.int .i64 rp)).setCell ⟨W1.heap.size, 1, none⟩ (.slice aw rm kw)).cell? ⟨w.heap.size + 1, 0, none⟩ = some (.int .i64 q) := (World.cell?_setCell_far _ _ _ _ (by simp; omega)).trans ((World.cell?_setCell_far _ _ _ _ (by simp; omega)).trans c0W13)
      have yc1 : ((W13.setCell ⟨W1.heap.size, 0, none⟩ (.int .i64 rp)).setCell ⟨W1.heap.size, 1, none⟩ (.slice aw rm kw)).cell? ⟨w.heap.size + 1, 1, none⟩ = some (.slice ab l kb) := (World.cell?_setCell_far _ _ _ _ (by simp; omega)).trans ((World.cell?_setCell_far _ _ _ _ (by simp; omega)).trans c1W13)
      have qz : ((W13.setCell ⟨W1.heap.size, 0, none⟩ (.int .i64 rp)).setCell ⟨W1.heap.size, 1, none⟩ (.slice aw rm kw)).heap.size = W13.heap.size := by simp
      have HX := Lib.hid ((HWW13.out.keep (((Carries.refl _ _).set (p := ⟨W1.heap.size, 0, none⟩) (by simp; omega) (.int .i64 rp)).set (p := ⟨W1.heap.size, 1, none⟩) (by simp; omega) (.slice aw rm kw))).low (Nat.zero_le _))
      generalize (W13.setCell ⟨W1.heap.size, 0, none⟩ (.int .i64 rp)).setCell ⟨W1.heap.size, 1, none⟩ (.slice aw rm kw) = W14 at belX q0 q1 ya0 ya1 yc0 yc1 qz HX ⊢
      refine hK.out _ _ ⟨ya0, ya1, yc0, yc1⟩ (fun hHeld => ?_)
      clear hK K
      try simp only [Act.put, List.setIfInBounds_toArray, List.set_cons_zero, List.set_cons_succ]
      refine rd10 (by kernel_rfl) (fun K hK => ?_)
      go_simp
      refine hK.out _ _ ⟨ya0, ya1, yc0, yc1⟩ (fun hHeld => ?_)
      clear hK K
      try simp only [Act.put, List.setIfInBounds_toArray, List.set_cons_zero, List.set_cons_succ]
      refine wpAnyH_done (by kernel_rfl) ?_ _
      exact ⟨rfl, W1.heap.size, _, _, _, _, _, _, rfl, by omega, by omega, q0, q1, HX.out, belX⟩
    refine ar8 (fun K hK => ?_) AllReadyH.nil
    go_simp
    have hbb : Below W0.heap.size W0 (W0.alloc (.cells #[.int .i64 0, .slice none 0 0] 29)) := (Below.refl _ _).alloc (Nat.le_refl _) _
    have g0W16 : (W0.alloc (.cells #[.int .i64 0, .slice none 0 0] 29)).cell? ⟨W0.heap.size, 0, none⟩ = some (.int .i64 0) := by simp
    have g1W16 : (W0.alloc (.cells #[.int .i64 0, .slice none 0 0] 29)).cell? ⟨W0.heap.size, 1, none⟩ = some (.slice none 0 0) := by simp
    have gf0W16 : (W0.alloc (.cells #[.int .i64 0, .slice none 0 0] 29)).frozen? ⟨W0.heap.size, 0, none⟩ = false := by simp
    have gf1W16 : (W0.alloc (.cells #[.int .i64 0, .slice none 0 0] 29)).frozen? ⟨W0.heap.size, 1, none⟩ = false := by simp
    have zgW16 : W0.heap.size < (W0.alloc (.cells #[.int .i64 0, .slice none 0 0] 29)).heap.size := by simp
    generalize W0.alloc (.cells #[.int .i64 0, .slice none 0 0] 29) = W16 at hbb g0W16 g1W16 gf0W16 gf1W16 zgW16 ⊢
    have belW16 := belW0.trans (hbb.mono belW0.size)
    have zsW16 := hbb.size
    have a0W16 := cell_carry a0W0 (Carries.of 0 hbb)
    have a1W16 := cell_carry a1W0 (Carries.of 0 hbb)
    have c0W16 := cell_carry c0W0 (Carries.of 0 hbb)
    have c1W16 := cell_carry c1W0 (Carries.of 0 hbb)
    refine hK.out _ _ ⟨a0W16, a1W16, c0W16, c1W16⟩ (fun hHeld => ?_)
    clear hK K
    try simp only [Act.put, List.setIfInBounds_toArray, List.set_cons_zero, List.set_cons_succ]
    refine rd1 (by kernel_rfl) (fun K hK => ?_)
    go_simp
    refine (toNet_any _ a W16 lo (HV.out.keep (Carries.of lo (hwj.trans (belW16.mono hwj.size)))) HS.out).mono ?_
    rintro e W17 ⟨v2, rfl, hn, hbb⟩
    obtain ⟨a2, k2, rfl⟩ : ∃ x y, v2 = .agg #[.int .i64 p, .slice x m y] := by
      obtain ⟨_, _, u4, rfl, ⟨x4, y4, rfl, _, _⟩⟩ := hn
      rw [← HM.out, ← HP.out]; exact ⟨_, _, rfl⟩
    have belW17 := belW16.trans (hbb.mono belW16.size)
    have zsW17 := hbb.size
    have a0W17 := cell_carry a0W16 (Carries.of 0 hbb)
    have a1W17 := cell_carry a1W16 (Carries.of 0 hbb)
    have c0W17 := cell_carry c0W16 (Carries.of 0 hbb)
    have c1W17 := cell_carry c1W16 (Carries.of 0 hbb)
    have g0W17 := cell_carry g0W16 (Carries.of 0 hbb)
    have g1W17 := cell_carry g1W16 (Carries.of 0 hbb)
    have gf0W17 := (hbb.frozen (p := ⟨W0.heap.size, 0, none⟩) (by simp; omega)).trans gf0W16
    have gf1W17 := (hbb.frozen (p := ⟨W0.heap.size, 1, none⟩) (by simp; omega)).trans gf1W16
    have H2W17 := Lib.hid (hn.low (Nat.zero_le _)); clear hn hbb
    refine hK.out _ _ ⟨a0W17, a1W17, c0W17, c1W17⟩ (fun hHeld => ?_)
    clear hK K
    try simp only [Act.put, List.setIfInBounds_toArray, List.set_cons_zero, List.set_cons_succ]
    refine rd3 (by kernel_rfl) (fun K hK => ?_)
    go_simp
    refine (toNet_any _ b W17 lo (HU.out.keep (Carries.of lo (hwj.trans (belW17.mono hwj.size)))) HS1.out).mono ?_
    rintro e W18 ⟨v3, rfl, hn, hbb⟩
    obtain ⟨a3, k3, rfl⟩ : ∃ x y, v3 = .agg #[.int .i64 q, .slice x l y] := by
      obtain ⟨_, _, u4, rfl, ⟨x4, y4, rfl, _, _⟩⟩ := hn
      rw [← HL.out, ← HQ.out]; exact ⟨_, _, rfl⟩
    have belW18 := belW17.trans (hbb.mono belW17.size)
    have zsW18 := hbb.size
    have a0W18 := cell_carry a0W17 (Carries.of 0 hbb)
    have a1W18 := cell_carry a1W17 (Carries.of 0 hbb)
    have c0W18 := cell_carry c0W17 (Carries.of 0 hbb)
    have c1W18 := cell_carry c1W17 (Carries.of 0 hbb)
    have g0W18 := cell_carry g0W17 (Carries.of 0 hbb)
    have g1W18 := cell_carry g1W17 (Carries.of 0 hbb)
    have gf0W18 := (hbb.frozen (p := ⟨W0.heap.size, 0, none⟩) (by simp; omega)).trans gf0W17
    have gf1W18 := (hbb.frozen (p := ⟨W0.heap.size, 1, none⟩) (by simp; omega)).trans gf1W17
    have H2W18 := Lib.hid (H2W17.out.keep (Carries.of _ hbb))
    have H3W18 := Lib.hid (hn.low (Nat.zero_le _)); clear hn hbb
    refine hK.out _ _ ⟨a0W18, a1W18, c0W18, c1W18⟩ (fun hHeld => ?_)
    clear hK K
    try simp only [Act.put, List.setIfInBounds_toArray, List.set_cons_zero, List.set_cons_succ]
    refine rd4 (by kernel_rfl) (fun K hK => ?_)
    go_simp
    refine (UnionNets_any _ _ a b W18 0 H2W18.out HS.out H3W18.out HS1.out).mono ?_
    rintro e W19 ⟨uw, rfl, _, hiw, hbb⟩
    rw [← HR.out.1] at hiw ⊢
    rw [← HR.out.2, ← HRP.out]
    obtain ⟨aw, kw, rfl, _, _⟩ := id hiw
    rw [← HRM.out] at hiw ⊢
    have belW19 := belW18.trans (hbb.mono belW18.size)
    have zsW19 := hbb.size
    have a0W19 := cell_carry a0W18 (Carries.of 0 hbb)
    have a1W19 := cell_carry a1W18 (Carries.of 0 hbb)
    have c0W19 := cell_carry c0W18 (Carries.of 0 hbb)
    have c1W19 := cell_carry c1W18 (Carries.of 0 hbb)
    have g0W19 := cell_carry g0W18 (Carries.of 0 hbb)
    have g1W19 := cell_carry g1W18 (Carries.of 0 hbb)
    have gf0W19 := (hbb.frozen (p := ⟨W0.heap.size, 0, none⟩) (by simp; omega)).trans gf0W18
    have gf1W19 := (hbb.frozen (p := ⟨W0.heap.size, 1, none⟩) (by simp; omega)).trans gf1W18
    have HWW19 := Lib.hid hiw; clear hiw hbb
    refine hK.out _ _ ⟨a0W19, a1W19, c0W19, c1W19⟩ (fun hHeld => ?_)
    clear hK K
    try simp only [Act.put, List.setIfInBounds_toArray, List.set_cons_zero, List.set_cons_succ]
    refine tk5 (v := ?_) (by kernel_rfl) (by kernel_rfl) (by kernel_rfl) (by first | exact fun _ _ _ h => h | exact fun _ _ _ h => absurd h.1 (by simp)) (Or.inl ⟨by rfl, ?_⟩) (by assumption) ?_
    rotate_left 1
    focus (intro wx hSw; (try dsimp only at hSw); go_simp; try (with_reducible rfl))
    try simp only [Act.put, List.setIfInBounds_toArray, List.set_cons_zero, List.set_cons_succ]
    refine tk6 (v := ?_) (by kernel_rfl) (by kernel_rfl) (by kernel_rfl) (by first | exact fun _ _ _ h => h | exact fun _ _ _ h => absurd h.1 (by simp)) (Or.inl ⟨by rfl, ?_⟩) (by assumption) ?_
    rotate_left 1
    focus (intro wx hSw; (try dsimp only at hSw); go_simp; try (with_reducible rfl))
    try simp only [Act.put, List.setIfInBounds_toArray, List.set_cons_zero, List.set_cons_succ]
    refine tk7 (v := ?_) (by kernel_rfl) (by kernel_rfl) (by kernel_rfl) (by first | exact fun _ _ _ h => h | exact fun _ _ _ h => absurd h.1 (by simp)) (Or.inl ⟨by rfl, ?_⟩) (by assumption) ?_
    rotate_left 1
    focus (intro wx hSw; (try dsimp only at hSw); go_simp; try (with_reducible rfl))
    try simp only [Act.put, List.setIfInBounds_toArray, List.set_cons_zero, List.set_cons_succ]
    refine rd9 (by kernel_rfl) (fun K hK => ?_)
    go_simp
    have belX : Below wj.heap.size wj ((W19.setCell ⟨W0.heap.size, 0, none⟩ (.int .i64 rp)).setCell ⟨W0.heap.size, 1, none⟩ (.slice aw rm kw)) := (belW19.setCell (by simp; omega) _).setCell (by simp; omega) _
    have q0 : ((W19.setCell ⟨W0.heap.size, 0, none⟩ (.int .i64 rp)).setCell ⟨W0.heap.size, 1, none⟩ (.slice aw rm kw)).cell? ⟨W0.heap.size, 0, none⟩ = some (.int .i64 rp) := (World.cell?_setCell_other _ _ _ _ (by simp)).trans (World.cell?_setCell_same _ _ _ g0W19)
    have q1 : ((W19.setCell ⟨W0.heap.size, 0, none⟩ (.int .i64 rp)).setCell ⟨W0.heap.size, 1, none⟩ (.slice aw rm kw)).cell? ⟨W0.heap.size, 1, none⟩ = some (.slice aw rm kw) := World.cell?_setCell_same _ _ _ ((World.cell?_setCell_other W19 ⟨W0.heap.size, 0, none⟩ ⟨W0.heap.size, 1, none⟩ _ (by simp)).trans g1W19)
    have ya0 : ((W19.setCell ⟨W0.heap.size, 0, none⟩ (.int .i64 rp)).setCell ⟨W0.heap.size, 1, none⟩ (.slice aw rm kw)).cell? ⟨w.heap.size, 0, none⟩ = some (.int .i64 p) := (World.cell?_setCell_far _ _ _ _ (by simp; omega)).trans ((World.cell?_setCell_far _ _ _ _ (by simp; omega)).trans a0W19)
    have ya1 : ((W19.setCell ⟨W0.heap.size, 0, none⟩ (.int .i64 rp)).setCell ⟨W0.heap.size, 1, none⟩ (.slice aw rm kw)).cell? ⟨w.heap.size, 1, none⟩ = some (.slice aa m ka) := (World.cell?_setCell_far _ _ _ _ (by simp; omega)).trans ((World.cell?_setCell_far _ _ _ _ (by simp; omega)).trans a1W19)
    have yc0 : ((W19.setCell ⟨W0.heap.size, 0, none⟩ (.int .i64 rp)).setCell ⟨W0.heap.size, 1, none⟩ (.slice aw rm kw)).cell? ⟨w.heap.size + 1, 0, none⟩ = some (.int .i64 q) := (World.cell?_setCell_far _ _ _ _ (by simp; omega)).trans ((World.cell?_setCell_far _ _ _ _ (by simp; omega)).trans c0W19)
    have yc1 : ((W19.setCell ⟨W0.heap.size, 0, none⟩ (.int .i64 rp)).setCell ⟨W0.heap.size, 1, none⟩ (.slice aw rm kw)).cell? ⟨w.heap.size + 1, 1, none⟩ = some (.slice ab l kb) := (World.cell?_setCell_far _ _ _ _ (by simp; omega)).trans ((World.cell?_setCell_far _ _ _ _ (by simp; omega)).trans c1W19)
    have qz : ((W19.setCell ⟨W0.heap.size, 0, none⟩ (.int .i64 rp)).setCell ⟨W0.heap.size, 1, none⟩ (.slice aw rm kw)).heap.size = W19.heap.size := by simp
    have HX := Lib.hid ((HWW19.out.keep (((Carries.refl _ _).set (p := ⟨W0.heap.size, 0, none⟩) (by simp; omega) (.int .i64 rp)).set (p := ⟨W0.heap.size, 1, none⟩) (by simp; omega) (.slice aw rm kw))).low (Nat.zero_le _))
    generalize (W19.setCell ⟨W0.heap.size, 0, none⟩ (.int .i64 rp)).setCell ⟨W0.heap.size, 1, none⟩ (.slice aw rm kw) = W20 at belX q0 q1 ya0 ya1 yc0 yc1 qz HX ⊢
    refine hK.out _ _ ⟨ya0, ya1, yc0, yc1⟩ (fun hHeld => ?_)
    clear hK K
    try simp only [Act.put, List.setIfInBounds_toArray, List.set_cons_zero, List.set_cons_succ]
    refine rd10 (by kernel_rfl) (fun K hK => ?_)
    go_simp
    refine hK.out _ _ ⟨ya0, ya1, yc0, yc1⟩ (fun hHeld => ?_)
    clear hK K
    try simp only [Act.put, List.setIfInBounds_toArray, List.set_cons_zero, List.set_cons_succ]
    refine wpAnyH_done (by kernel_rfl) ?_ _
    exact ⟨rfl, W0.heap.size, _, _, _, _, _, _, rfl, by omega, by omega, q0, q1, HX.out, belX⟩
  rintro e a' wk ⟨rfl, Gh, b2, j2, b3, j3, ah, kh, rfl, zG0, zG1, y0, y1, hih, hb⟩
  have hwk : Below w.heap.size w wk := hwj.trans (hb.mono hwj.size)
  have b0 := cell_carry b0 (Carries.of 0 hb)
  have b1 := cell_carry b1 (Carries.of 0 hb)
  have g0 := cell_carry g0 (Carries.of 0 hb)
  have g1 := cell_carry g1 (Carries.of 0 hb)
  have zk : wj.heap.size ≤ wk.heap.size := hb.size
  have HWk := Lib.hid (HWj.out.keep (Carries.of _ hb))
  have HHk := Lib.hid (HHj.out.keep (Carries.of _ hb))
  clear hb HWj HHj hwj
  have HIH := Lib.hid hih; clear hih
  clear a0 a1 c0 c1
  go_wp2_with fail
  refine (eqNet_any _ _ RN RN _ _ _ (HNET.out _ _ _ _ HIH.out) (HNET.out _ _ _ _ HWk.out.at) HSR.out HSR.out).mono ?_
  rintro e wl ⟨rfl, hb⟩
  rw [selfNet]
  have hwl : Below w.heap.size w wl := hwk.trans (hb.mono hwk.size)
  have g0 := cell_carry g0 (Carries.of 0 hb)
  have g1 := cell_carry g1 (Carries.of 0 hb)
  have zl : wk.heap.size ≤ wl.heap.size := hb.size
  have HWl := Lib.hid (HWk.out.keep (Carries.of _ hb))
  have HHl := Lib.hid (HHk.out.keep (Carries.of _ hb))
  clear hb HWk HHk hwk
  clear b0 b1 y0 y1
  go_wp2_with fail
  refine (heldNet_any rp _ RN.ts 1 _ 0 HHl.out HSR.out (by omega) (by omega)).mono ?_
  rintro e wm ⟨rfl, hb⟩
  rw [HTT.out]
  have hwm : Below w.heap.size w wm := hwl.trans (hb.mono hwl.size)
  go_wp2_with fail
  go_ret
  exact ⟨rfl, hwm⟩

end Go.Proofs.Ytlakcjcmbhkcdaa
