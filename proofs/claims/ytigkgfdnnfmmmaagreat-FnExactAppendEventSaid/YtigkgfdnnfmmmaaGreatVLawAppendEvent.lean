/- WALK of the law FnExactAppendEvent (written by gen9/glawap.py). -/
import Derived.Test.YtigkgfdnnfmmmaaGreatVApl
import Derived.Test.YtigkgfdnnfmmmaaGreatVSep
import Derived.Test.YtigkgfdnnfmmmaaGreatVUfw
import Derived.Test.YtigkgfdnnfmmmaaGreatVUfr
import Derived.Test.YtigkgfdnnfmmmaaGreatVUfq
import Derived.Deep.RegionHeld3
import Derived.Deep.CutRange
namespace Go.Proofs.YtigkgfdnnfmmmaaGreat
open Go.RowKit

theorem six_carry {w w' : World} {b0 b1 b2 b3 b4 b5 : Addr} {v0 v1 v2 v3 v4 v5 : Value} (h : w.cell? b0 = some v0 ∧ w.cell? b1 = some v1 ∧ w.cell? b2 = some v2 ∧ w.cell? b3 = some v3 ∧ w.cell? b4 = some v4 ∧ w.cell? b5 = some v5) (hc : Carries 0 w w') : w'.cell? b0 = some v0 ∧ w'.cell? b1 = some v1 ∧ w'.cell? b2 = some v2 ∧ w'.cell? b3 = some v3 ∧ w'.cell? b4 = some v4 ∧ w'.cell? b5 = some v5 :=
  ⟨cell_carry h.1 hc, cell_carry h.2.1 hc, cell_carry h.2.2.1 hc, cell_carry h.2.2.2.1 hc, cell_carry h.2.2.2.2.1 hc, cell_carry h.2.2.2.2.2 hc⟩
theorem put2 {Q X : World} {g : Nat} {a b x0 x1 : Value} (h : (Q.setCell ⟨g, 0, none⟩ a).setCell ⟨g, 1, none⟩ b = X) (c0 : Q.cell? ⟨g, 0, none⟩ = some x0) (c1 : Q.cell? ⟨g, 1, none⟩ = some x1) :
    X.cell? ⟨g, 0, none⟩ = some a ∧ X.cell? ⟨g, 1, none⟩ = some b ∧ X.heap.size = Q.heap.size ∧ (∀ B w0, Below B w0 Q → B ≤ g → Below B w0 X) ∧ (∀ l, g < l → Carries l Q X) := by
  subst h
  refine ⟨?_, ?_, by simp, fun B w0 hb hg => (hb.setCell hg _).setCell hg _, fun l hl => ?_⟩
  · simp [go_sem, c0, c1]
  · simp [go_sem, c0, c1]
  · exact Carries.set (Carries.set (Carries.refl _ _) hl _) hl _
theorem marks_stirA {lo hi : Nat} {w w' : World} (h : Marks lo hi w w') : Stir lo hi w w' := ⟨h.os, h.tape, h.output, by rw [h.size]; exact Nat.le_refl _, fun b _ hc => h.block b hc⟩
theorem stir_sameA {lo hi l : Nat} {w w' : World} (h : Stir lo hi w w') (hl : hi ≤ l) : Same l w w' := ⟨h.size, fun b h1 h2 => h.block b h2 (Or.inr (by omega))⟩
/-- what agrees in the blocks from l to h -/
def Agr (l h : Nat) (w w' : World) : Prop := ∀ b, l ≤ b → b < h → w'.heap[b]? = w.heap[b]?
theorem Agr.refl (l h : Nat) (w : World) : Agr l h w w := fun _ _ _ => rfl
theorem Agr.trans {l h : Nat} {a b c : World} (x : Agr l h a b) (y : Agr l h b c) : Agr l h a c := fun k h1 h2 => (y k h1 h2).trans (x k h1 h2)
theorem Agr.below {l h B : Nat} {w w' : World} (x : Below B w w') (hb : h ≤ B) : Agr l h w w' := fun k _ h2 => x.block k (by omega)
theorem Agr.stir {l h lo hi : Nat} {w w' : World} (x : Stir lo hi w w') (hw : h ≤ w.heap.size) (hs : h ≤ lo ∨ hi ≤ l) : Agr l h w w' := fun k h1 h2 => x.block k (by omega) (by omega)
theorem Agr.carries {l : Nat} {w w' : World} (x : Agr l w.heap.size w w') : Carries l w w' := fun a v h1 h2 => (World.cell?_of_block (x a.block h1 (cell_old h2))).trans h2

set_option maxRecDepth 100000 in
set_option maxHeartbeats 4000000 in
theorem lawAppendEvent_any (v : Value) (n : NetD) (s : ByteArray) (vu : Value) (u : UnfD) (t : Int) (vl : Value) (L : List Int) (w : World) (lo : Nat) (hv : NetAt lo w v n) (hvu : UnfAt lo w vu u) (hvl : IntsAt lo w vl L) (hok : OkTrs n.ts) (hoku : OkUnf u) (hokl : L.length ≤ 9223372036854775807) (hs : s.size ≤ 9223372036854775807) :
    Calls Tryz.prog 3 #[v, .string s, vu, .agg #[.int .i64 t, vl]] w (RetB w true) := by
  have hv' := hv
  obtain ⟨hp0, hp1, u0, rfl, ht⟩ := hv'
  obtain ⟨ao, cap, rfl, _, hz⟩ := ht
  obtain ⟨a0, k0, a1, k1, rfl, hcc, hee⟩ := hvu.form
  have HVL := Lib.hid hvl
  obtain ⟨al, kl, rfl, hxa, hxb⟩ := hvl
  obtain ⟨nl, hnl⟩ : ∃ x, x = L.length := ⟨_, rfl⟩
  rw [← hnl] at HVL hokl ⊢
  have HNL := Lib.hid hnl
  clear hxa hxb hnl
  have HV := Lib.hid hv; clear hv hz
  have HVU := Lib.hid hvu; clear hvu hcc hee
  have HO := Lib.hid hok; clear hok
  have HOU := Lib.hid hoku; clear hoku
  obtain ⟨m, hm⟩ : ∃ m, m = n.ts.length := ⟨_, rfl⟩
  obtain ⟨p, hp⟩ : ∃ p, p = n.places := ⟨_, rfl⟩
  obtain ⟨nc, hnc⟩ : ∃ m, m = u.cs.length := ⟨_, rfl⟩
  obtain ⟨ne, hne⟩ : ∃ m, m = u.es.length := ⟨_, rfl⟩
  rw [← hm, ← hp] at HV ⊢
  rw [← hnc, ← hne] at HVU ⊢
  rw [← hp] at hp0 hp1
  have HM := Lib.hid hm; clear hm
  have HP := Lib.hid hp; clear hp
  have HNC := Lib.hid hnc; clear hnc
  have HNE := Lib.hid hne; clear hne
  by_cases hz_s : s.size ≤ 1048576
  case neg =>
    go_enter Tryz.func3, Tryz.ntmps3
    go_wp2_with fail
    go_ret
    exact ⟨rfl, by (repeat' (first | (with_reducible exact Below.refl _ _) | (with_reducible assumption) | (with_reducible refine Below.alloc ?_ ?_ _) | (with_reducible refine Below.drew ?_) | (with_reducible refine below_drewN ?_ _) | (with_reducible refine Below.setCell ?_ ?_ _) | go_size))⟩
  go_enter Tryz.func3, Tryz.ntmps3
  go_wp2_with fail
  refine (szNet_any _ n _ _ lo (HV.out.keep ?_) (by omega) (by omega) HO.out).mono ?_
  · (repeat' (first | (with_reducible exact Carries.refl _ _) | (with_reducible assumption) | (with_reducible refine Carries.alloc ?_ _) | (with_reducible refine Carries.drew ?_) | (with_reducible refine Carries.drewN ?_ _) | (with_reducible refine Carries.set ?_ ?_ _) | go_size))
  rintro e w1 ⟨r, rfl, hr, hb1⟩
  have hw1 : Below w.heap.size w w1 := by
    refine Below.trans ?_ (hb1.mono ?_)
    · (repeat' (first | (with_reducible exact Below.refl _ _) | (with_reducible assumption) | (with_reducible refine Below.alloc ?_ ?_ _) | (with_reducible refine Below.drew ?_) | (with_reducible refine below_drewN ?_ _) | (with_reducible refine Below.setCell ?_ ?_ _) | go_size))
    · simp; omega
  have a0_ : w1.cell? ⟨w.heap.size, 0, none⟩ = some (.int .i64 p) := cell_carry (by simp [go_sem]) (Carries.of 0 hb1)
  have a1_ : w1.cell? ⟨w.heap.size, 1, none⟩ = some (.slice ao m cap) := cell_carry (by simp [go_sem]) (Carries.of 0 hb1)
  have a2_ : w1.cell? ⟨w.heap.size + 1, 0, none⟩ = some (.slice a0 nc k0) := cell_carry (by simp [go_sem]) (Carries.of 0 hb1)
  have a3_ : w1.cell? ⟨w.heap.size + 1, 1, none⟩ = some (.slice a1 ne k1) := cell_carry (by simp [go_sem]) (Carries.of 0 hb1)
  have a4_ : w1.cell? ⟨w.heap.size + 2, 0, none⟩ = some (.int .i64 t) := cell_carry (by simp [go_sem]) (Carries.of 0 hb1)
  have a5_ : w1.cell? ⟨w.heap.size + 2, 1, none⟩ = some (.slice al nl kl) := cell_carry (by simp [go_sem]) (Carries.of 0 hb1)
  have z1 : w.heap.size + 2 < w1.heap.size := by have := hb1.size; simp at this; omega
  clear hb1
  rcases hr with rfl | ⟨hr0, hr1, hsm⟩
  · go_wp2_with fail
    go_ret
    exact ⟨rfl, hw1⟩
  have HS := Lib.hid hsm; clear hsm
  go_wp2_with fail
  refine (szUnfolding_any _ u _ _ lo (HVU.out.keep (Carries.of lo hw1)) hr0 (by omega) HOU.out).mono ?_
  rintro e w1b ⟨r2, rfl, hr2, hb1b⟩
  have hw1b : Below w.heap.size w w1b := hw1.trans (hb1b.mono hw1.size)
  have a0_ := cell_carry a0_ (Carries.of 0 hb1b)
  have a1_ := cell_carry a1_ (Carries.of 0 hb1b)
  have a2_ := cell_carry a2_ (Carries.of 0 hb1b)
  have a3_ := cell_carry a3_ (Carries.of 0 hb1b)
  have a4_ := cell_carry a4_ (Carries.of 0 hb1b)
  have a5_ := cell_carry a5_ (Carries.of 0 hb1b)
  have z1b : w.heap.size + 2 < w1b.heap.size := by have := hb1b.size; omega
  clear hb1b hw1 z1
  rcases hr2 with rfl | ⟨hr20, hr21, hsu⟩
  · go_wp2_with fail
    go_ret
    exact ⟨rfl, hw1b⟩
  have HSU := Lib.hid hsu; clear hsu
  go_wp2_with fail
  refine (szEvent_any t _ L _ _ lo (HVL.out.keep (Carries.of lo hw1b)) hr20 (by omega) (by have := HNL.out; omega)).mono ?_
  rintro e w1c ⟨r3, rfl, hr3, hb1c⟩
  have hw1 : Below w.heap.size w w1c := hw1b.trans (hb1c.mono hw1b.size)
  have a0_ := cell_carry a0_ (Carries.of 0 hb1c)
  have a1_ := cell_carry a1_ (Carries.of 0 hb1c)
  have a2_ := cell_carry a2_ (Carries.of 0 hb1c)
  have a3_ := cell_carry a3_ (Carries.of 0 hb1c)
  have a4_ := cell_carry a4_ (Carries.of 0 hb1c)
  have a5_ := cell_carry a5_ (Carries.of 0 hb1c)
  have z1 : w.heap.size + 2 < w1c.heap.size := by have := hb1c.size; omega
  clear hb1c hw1b z1b
  rcases hr3 with rfl | ⟨hr30, _, hsl⟩
  · go_wp2_with fail
    go_ret
    exact ⟨rfl, hw1⟩
  have HLL := Lib.hid hsl; clear hsl
  obtain ⟨G, hG⟩ : ∃ x, x = apB n s u t L := ⟨_, rfl⟩
  obtain ⟨V, hV⟩ : ∃ x, x = apV n s u t L := ⟨_, rfl⟩
  have hVS : SmallUnf V ∧ (V.es.length = 0 → V.cs.length = 0) := by rw [hV]; exact apV_small HSU.out HLL.out
  have HVS := Lib.hid hVS
  obtain ⟨xc, hxc⟩ : ∃ x, x = V.cs.length := ⟨_, rfl⟩
  obtain ⟨xe, hxe⟩ : ∃ x, x = V.es.length := ⟨_, rfl⟩
  have HXC := Lib.hid hxc; have HXE := Lib.hid hxe
  have HVV := Lib.hid hV; have HGG := Lib.hid hG
  clear hG hV hVS hxc hxe
  go_upto_region 13 with fail
  go_cut [10, 11] from 40 to 50 (fun vA vB wx => ∃ (g : Nat) (wa : Option Addr) (wk : Nat) (wb : Option Addr) (wl : Nat), vA = .pointer (some ⟨g, 0, none⟩) ∧ w1c.heap.size ≤ g ∧ g < wx.heap.size ∧ wx.cell? ⟨g, 0, none⟩ = some (.slice wa xc wk) ∧ wx.cell? ⟨g, 1, none⟩ = some (.slice wb xe wl) ∧ UnfAt w1c.heap.size wx (.agg #[.slice wa xc wk, .slice wb xe wl]) V ∧ vB = .bool G ∧ Below w1c.heap.size w1c wx)
  case first =>
    have hA6 : w1c.cell? ⟨w.heap.size, 0, none⟩ = some (.int .i64 p) ∧ w1c.cell? ⟨w.heap.size, 1, none⟩ = some (.slice ao m cap) ∧ w1c.cell? ⟨w.heap.size + 1, 0, none⟩ = some (.slice a0 nc k0) ∧ w1c.cell? ⟨w.heap.size + 1, 1, none⟩ = some (.slice a1 ne k1) ∧ w1c.cell? ⟨w.heap.size + 2, 0, none⟩ = some (.int .i64 t) ∧ w1c.cell? ⟨w.heap.size + 2, 1, none⟩ = some (.slice al nl kl) := ⟨a0_, a1_, a2_, a3_, a4_, a5_⟩
    refine wp_region_held_drew (S := fun w' => w'.cell? ⟨w.heap.size, 0, none⟩ = some (.int .i64 p) ∧ w'.cell? ⟨w.heap.size, 1, none⟩ = some (.slice ao m cap) ∧ w'.cell? ⟨w.heap.size + 1, 0, none⟩ = some (.slice a0 nc k0) ∧ w'.cell? ⟨w.heap.size + 1, 1, none⟩ = some (.slice a1 ne k1) ∧ w'.cell? ⟨w.heap.size + 2, 0, none⟩ = some (.int .i64 t) ∧ w'.cell? ⟨w.heap.size + 2, 1, none⟩ = some (.slice al nl kl)) (by kernel_rfl) hA6 (fun hHeld => ?_)
    have bel_0 : Below w1c.heap.size w1c w1c.drew := (Below.refl _ _).drew
    have hA6_0 : w1c.drew.cell? ⟨w.heap.size, 0, none⟩ = some (.int .i64 p) ∧ w1c.drew.cell? ⟨w.heap.size, 1, none⟩ = some (.slice ao m cap) ∧ w1c.drew.cell? ⟨w.heap.size + 1, 0, none⟩ = some (.slice a0 nc k0) ∧ w1c.drew.cell? ⟨w.heap.size + 1, 1, none⟩ = some (.slice a1 ne k1) ∧ w1c.drew.cell? ⟨w.heap.size + 2, 0, none⟩ = some (.int .i64 t) ∧ w1c.drew.cell? ⟨w.heap.size + 2, 1, none⟩ = some (.slice al nl kl) := hA6
    generalize w1c.drew = Q0 at bel_0 hA6_0 hHeld ⊢
    refine tk0 (v := ?_) (by kernel_rfl) (by kernel_rfl) (by kernel_rfl) (by first | exact fun _ _ _ h => h | exact fun _ _ _ h => absurd h.1 (by simp)) (Or.inl ⟨by rfl, ?_⟩) (by assumption) ?_
    rotate_left 1
    focus (intro wx hSw; (try dsimp only at hSw); go_simp; try (with_reducible rfl))
    try simp only [Act.put, List.setIfInBounds_toArray, List.set_cons_zero, List.set_cons_succ]
    refine tk2 (v := ?_) (by kernel_rfl) (by kernel_rfl) (by kernel_rfl) (by first | exact fun _ _ _ h => h | exact fun _ _ _ h => absurd h.1 (by simp)) (Or.inl ⟨by rfl, ?_⟩) (by assumption) ?_
    rotate_left 1
    focus (intro wx hSw; (try dsimp only at hSw); go_simp; try (with_reducible rfl))
    try simp only [Act.put, List.setIfInBounds_toArray, List.set_cons_zero, List.set_cons_succ]
    refine tk3 (v := ?_) (by kernel_rfl) (by kernel_rfl) (by kernel_rfl) (by first | exact fun _ _ _ h => h | exact fun _ _ _ h => absurd h.1 (by simp)) (Or.inl ⟨by rfl, ?_⟩) (by assumption) ?_
    rotate_left 1
    focus (intro wx hSw; (try dsimp only at hSw); go_simp; try (with_reducible rfl))
    try simp only [Act.put, List.setIfInBounds_toArray, List.set_cons_zero, List.set_cons_succ]
    refine tk5 (v := ?_) (by kernel_rfl) (by kernel_rfl) (by kernel_rfl) (by first | exact fun _ _ _ h => h | exact fun _ _ _ h => absurd h.1 (by simp)) (Or.inl ⟨by rfl, ?_⟩) (by assumption) ?_
    rotate_left 1
    focus (intro wx hSw; (try dsimp only at hSw); go_simp; try (with_reducible rfl))
    try simp only [Act.put, List.setIfInBounds_toArray, List.set_cons_zero, List.set_cons_succ]
    refine wpAnyH_ready (rs := [1, 11]) (by kernel_rfl) (by simp) ?_
    refine ar1 (fun K hK => ?_) ?_
    · skip
      go_simp
      refine (toNet_any _ n Q0 lo (HV.out.keep (Carries.of lo (hw1.trans (bel_0.mono hw1.size)))) HS.out).mono ?_
      rintro e Q1 ⟨vn, rfl, hn2, hbb⟩
      have bel_1 := bel_0.trans (hbb.mono bel_0.size)
      have hA6_1 := six_carry hA6_0 (Carries.of 0 hbb)
      have H2_1 := Lib.hid (hn2.low (Nat.zero_le _)); clear hn2
      clear hbb
      refine hK.out _ _ hA6_1 (fun hHeld => ?_)
      clear hK K
      try simp only [Act.put, List.setIfInBounds_toArray, List.set_cons_zero, List.set_cons_succ]
      refine wpAnyH_ready (rs := [4, 11]) (by kernel_rfl) (by simp) ?_
      refine ar4 (fun K hK => ?_) ?_
      · skip
        go_simp
        refine (toUnfolding_any _ u Q1 lo (HVU.out.keep (Carries.of lo (hw1.trans (bel_1.mono hw1.size)))) HSU.out).mono ?_
        rintro e Q2 ⟨vq, rfl, hu2, hbb⟩
        have bel_2 := bel_1.trans (hbb.mono bel_1.size)
        have hA6_2 := six_carry hA6_1 (Carries.of 0 hbb)
        have H2_2 := Lib.hid (H2_1.out.keep (Carries.of _ hbb))
        have H3_2 := Lib.hid (hu2.low (Nat.zero_le _)); clear hu2
        clear hbb
        refine hK.out _ _ hA6_2 (fun hHeld => ?_)
        clear hK K
        try simp only [Act.put, List.setIfInBounds_toArray, List.set_cons_zero, List.set_cons_succ]
        refine wpAnyH_ready (rs := [6, 11]) (by kernel_rfl) (by simp) ?_
        refine ar6 (fun K hK => ?_) ?_
        · skip
          go_simp
          refine (toEvent_any t _ L Q2 lo (HVL.out.keep (Carries.of lo (hw1.trans (bel_2.mono hw1.size)))) HLL.out).mono ?_
          rintro e Q3 ⟨vi, rfl, hi2, hbb⟩
          have bel_3 := bel_2.trans (hbb.mono bel_2.size)
          have hA6_3 := six_carry hA6_2 (Carries.of 0 hbb)
          have H2_3 := Lib.hid (H2_2.out.keep (Carries.of _ hbb))
          have H3_3 := Lib.hid (H3_2.out.keep (Carries.of _ hbb))
          have H4_3 := Lib.hid (hi2.low (Nat.zero_le _)); clear hi2
          clear hbb
          refine hK.out _ _ hA6_3 (fun hHeld => ?_)
          clear hK K
          try simp only [Act.put, List.setIfInBounds_toArray, List.set_cons_zero, List.set_cons_succ]
          refine wpAnyH_ready (rs := [7, 11]) (by kernel_rfl) (by simp) ?_
          refine ar7 (fun K hK => ?_) ?_
          · skip
            go_simp
            refine (specAppendEvent_any _ n s _ u t _ L Q3 0 0 0 H2_3.out H3_3.out H4_3.out HS.out HSU.out HLL.out hz_s).mono ?_
            rintro e Q4 ⟨vw, rfl, hiw, hbb⟩
            obtain ⟨wa, wk, wb, wl, rfl, hqc, hqe⟩ := hiw.form
            clear hqc hqe
            rw [← HVV.out] at hiw ⊢
            rw [← HGG.out]
            rw [← HXC.out, ← HXE.out] at hiw ⊢
            have bel_4 := bel_3.trans (hbb.mono bel_3.size)
            have hA6_4 := six_carry hA6_3 (Carries.of 0 hbb)
            have HA_4 := Lib.hid hiw; clear hiw
            clear hbb
            refine hK.out _ _ hA6_4 (fun hHeld => ?_)
            clear hK K
            try simp only [Act.put, List.setIfInBounds_toArray, List.set_cons_zero, List.set_cons_succ]
            refine tk8 (v := ?_) (by kernel_rfl) (by kernel_rfl) (by kernel_rfl) (by first | exact fun _ _ _ h => h | exact fun _ _ _ h => absurd h.1 (by simp)) (Or.inl ⟨by rfl, ?_⟩) (by assumption) ?_
            rotate_left 1
            focus (intro wx hSw; (try dsimp only at hSw); go_simp; try (with_reducible rfl))
            try simp only [Act.put, List.setIfInBounds_toArray, List.set_cons_zero, List.set_cons_succ]
            refine tk9 (v := ?_) (by kernel_rfl) (by kernel_rfl) (by kernel_rfl) (by first | exact fun _ _ _ h => h | exact fun _ _ _ h => absurd h.1 (by simp)) (Or.inl ⟨by rfl, ?_⟩) (by assumption) ?_
            rotate_left 1
            focus (intro wx hSw; (try dsimp only at hSw); go_simp; try (with_reducible rfl))
            try simp only [Act.put, List.setIfInBounds_toArray, List.set_cons_zero, List.set_cons_succ]
            refine tk10 (v := ?_) (by kernel_rfl) (by kernel_rfl) (by kernel_rfl) (by first | exact fun _ _ _ h => h | exact fun _ _ _ h => absurd h.1 (by simp)) (Or.inl ⟨by rfl, ?_⟩) (by assumption) ?_
            rotate_left 1
            focus (intro wx hSw; (try dsimp only at hSw); go_simp; try (with_reducible rfl))
            try simp only [Act.put, List.setIfInBounds_toArray, List.set_cons_zero, List.set_cons_succ]
            refine rd11 (by kernel_rfl) (fun K hK => ?_)
            go_simp
            have hbb : Below Q4.heap.size Q4 (Q4.alloc (.cells #[.slice none 0 0, .slice none 0 0] 38)) := (Below.refl _ _).alloc (Nat.le_refl _) _
            have g0_5 : (Q4.alloc (.cells #[.slice none 0 0, .slice none 0 0] 38)).cell? ⟨Q4.heap.size, 0, none⟩ = some (.slice none 0 0) := by simp
            have g1_5 : (Q4.alloc (.cells #[.slice none 0 0, .slice none 0 0] 38)).cell? ⟨Q4.heap.size, 1, none⟩ = some (.slice none 0 0) := by simp
            have gf0_5 : (Q4.alloc (.cells #[.slice none 0 0, .slice none 0 0] 38)).frozen? ⟨Q4.heap.size, 0, none⟩ = false := by simp
            have gf1_5 : (Q4.alloc (.cells #[.slice none 0 0, .slice none 0 0] 38)).frozen? ⟨Q4.heap.size, 1, none⟩ = false := by simp
            have zg_5 : Q4.heap.size < (Q4.alloc (.cells #[.slice none 0 0, .slice none 0 0] 38)).heap.size := by simp
            generalize Q4.alloc (.cells #[.slice none 0 0, .slice none 0 0] 38) = Q5 at hbb g0_5 g1_5 gf0_5 gf1_5 zg_5 ⊢
            have bel_5 := bel_4.trans (hbb.mono bel_4.size)
            have hA6_5 := six_carry hA6_4 (Carries.of 0 hbb)
            have hbA := hbb
            clear hbb
            refine hK.out _ _ hA6_5 (fun hHeld => ?_)
            clear hK K
            try simp only [Act.put, List.setIfInBounds_toArray, List.set_cons_zero, List.set_cons_succ]
            refine rd12 (by kernel_rfl) (fun K hK => ?_)
            go_simp
            generalize hWX : (Q5.setCell ⟨Q4.heap.size, 0, none⟩ (.slice wa xc wk)).setCell ⟨Q4.heap.size, 1, none⟩ (.slice wb xe wl) = X
            obtain ⟨q0, q1, qz, qb, qc⟩ := put2 hWX g0_5 g1_5
            clear hWX
            have hBB : w1c.heap.size ≤ Q4.heap.size := bel_4.size
            have belX := qb _ _ bel_5 hBB
            have HX := Lib.hid ((HA_4.out.keep (Carries.of _ (qb _ _ hbA (Nat.le_refl _)))).low bel_3.size)
            have zX : Q4.heap.size < X.heap.size := by rw [qz]; exact zg_5
            have hA6_X := six_carry hA6 (Carries.of 0 belX)
            refine hK.out _ _ hA6_X (fun hHeld => ?_)
            clear hK K
            try simp only [Act.put, List.setIfInBounds_toArray, List.set_cons_zero, List.set_cons_succ]
            refine tk13 (v := ?_) (by kernel_rfl) (by kernel_rfl) (by kernel_rfl) (by first | exact fun _ _ _ h => h | exact fun _ _ _ h => absurd h.1 (by simp)) (Or.inl ⟨by rfl, ?_⟩) (by assumption) ?_
            rotate_left 1
            focus (intro wx hSw; (try dsimp only at hSw); go_simp; try (with_reducible rfl))
            try simp only [Act.put, List.setIfInBounds_toArray, List.set_cons_zero, List.set_cons_succ]
            refine wpAnyH_done (by kernel_rfl) ?_ _
            go_wp2_with fail
            go_meet
            case rel => exact ⟨Q4.heap.size, wa, wk, wb, wl, rfl, hBB, zX, q0, q1, HX.out, rfl, belX⟩
          refine ar11 (fun K hK => ?_) AllReadyH.nil
          go_simp
          have hbb : Below Q3.heap.size Q3 (Q3.alloc (.cells #[.slice none 0 0, .slice none 0 0] 38)) := (Below.refl _ _).alloc (Nat.le_refl _) _
          have g0_6 : (Q3.alloc (.cells #[.slice none 0 0, .slice none 0 0] 38)).cell? ⟨Q3.heap.size, 0, none⟩ = some (.slice none 0 0) := by simp
          have g1_6 : (Q3.alloc (.cells #[.slice none 0 0, .slice none 0 0] 38)).cell? ⟨Q3.heap.size, 1, none⟩ = some (.slice none 0 0) := by simp
          have gf0_6 : (Q3.alloc (.cells #[.slice none 0 0, .slice none 0 0] 38)).frozen? ⟨Q3.heap.size, 0, none⟩ = false := by simp
          have gf1_6 : (Q3.alloc (.cells #[.slice none 0 0, .slice none 0 0] 38)).frozen? ⟨Q3.heap.size, 1, none⟩ = false := by simp
          have zg_6 : Q3.heap.size < (Q3.alloc (.cells #[.slice none 0 0, .slice none 0 0] 38)).heap.size := by simp
          generalize Q3.alloc (.cells #[.slice none 0 0, .slice none 0 0] 38) = Q6 at hbb g0_6 g1_6 gf0_6 gf1_6 zg_6 ⊢
          have bel_6 := bel_3.trans (hbb.mono bel_3.size)
          have hA6_6 := six_carry hA6_3 (Carries.of 0 hbb)
          have H2_6 := Lib.hid (H2_3.out.keep (Carries.of _ hbb))
          have H3_6 := Lib.hid (H3_3.out.keep (Carries.of _ hbb))
          have H4_6 := Lib.hid (H4_3.out.keep (Carries.of _ hbb))
          clear hbb
          refine hK.out _ _ hA6_6 (fun hHeld => ?_)
          clear hK K
          try simp only [Act.put, List.setIfInBounds_toArray, List.set_cons_zero, List.set_cons_succ]
          refine rd7 (by kernel_rfl) (fun K hK => ?_)
          go_simp
          refine (specAppendEvent_any _ n s _ u t _ L Q6 0 0 0 H2_6.out H3_6.out H4_6.out HS.out HSU.out HLL.out hz_s).mono ?_
          rintro e Q7 ⟨vw, rfl, hiw, hbb⟩
          obtain ⟨wa, wk, wb, wl, rfl, hqc, hqe⟩ := hiw.form
          clear hqc hqe
          rw [← HVV.out] at hiw ⊢
          rw [← HGG.out]
          rw [← HXC.out, ← HXE.out] at hiw ⊢
          have bel_7 := bel_6.trans (hbb.mono bel_6.size)
          have hA6_7 := six_carry hA6_6 (Carries.of 0 hbb)
          have g0_7 := cell_carry g0_6 (Carries.of 0 hbb)
          have g1_7 := cell_carry g1_6 (Carries.of 0 hbb)
          have gf0_7 := (hbb.frozen (p := ⟨Q3.heap.size, 0, none⟩) (by simp; exact zg_6)).trans gf0_6
          have gf1_7 := (hbb.frozen (p := ⟨Q3.heap.size, 1, none⟩) (by simp; exact zg_6)).trans gf1_6
          have zg_7 : Q3.heap.size < Q7.heap.size := Nat.lt_of_lt_of_le zg_6 hbb.size
          have HA_7 := Lib.hid hiw; clear hiw
          clear hbb
          refine hK.out _ _ hA6_7 (fun hHeld => ?_)
          clear hK K
          try simp only [Act.put, List.setIfInBounds_toArray, List.set_cons_zero, List.set_cons_succ]
          refine tk8 (v := ?_) (by kernel_rfl) (by kernel_rfl) (by kernel_rfl) (by first | exact fun _ _ _ h => h | exact fun _ _ _ h => absurd h.1 (by simp)) (Or.inl ⟨by rfl, ?_⟩) (by assumption) ?_
          rotate_left 1
          focus (intro wx hSw; (try dsimp only at hSw); go_simp; try (with_reducible rfl))
          try simp only [Act.put, List.setIfInBounds_toArray, List.set_cons_zero, List.set_cons_succ]
          refine tk9 (v := ?_) (by kernel_rfl) (by kernel_rfl) (by kernel_rfl) (by first | exact fun _ _ _ h => h | exact fun _ _ _ h => absurd h.1 (by simp)) (Or.inl ⟨by rfl, ?_⟩) (by assumption) ?_
          rotate_left 1
          focus (intro wx hSw; (try dsimp only at hSw); go_simp; try (with_reducible rfl))
          try simp only [Act.put, List.setIfInBounds_toArray, List.set_cons_zero, List.set_cons_succ]
          refine tk10 (v := ?_) (by kernel_rfl) (by kernel_rfl) (by kernel_rfl) (by first | exact fun _ _ _ h => h | exact fun _ _ _ h => absurd h.1 (by simp)) (Or.inl ⟨by rfl, ?_⟩) (by assumption) ?_
          rotate_left 1
          focus (intro wx hSw; (try dsimp only at hSw); go_simp; try (with_reducible rfl))
          try simp only [Act.put, List.setIfInBounds_toArray, List.set_cons_zero, List.set_cons_succ]
          refine rd12 (by kernel_rfl) (fun K hK => ?_)
          go_simp
          generalize hWX : (Q7.setCell ⟨Q3.heap.size, 0, none⟩ (.slice wa xc wk)).setCell ⟨Q3.heap.size, 1, none⟩ (.slice wb xe wl) = X
          obtain ⟨q0, q1, qz, qb, qc⟩ := put2 hWX g0_7 g1_7
          clear hWX
          have hBB : w1c.heap.size ≤ Q3.heap.size := bel_3.size
          have belX := qb _ _ bel_7 hBB
          have HX := Lib.hid ((HA_7.out.keep (qc _ zg_6)).low bel_6.size)
          have zX : Q3.heap.size < X.heap.size := by rw [qz]; exact zg_7
          have hA6_X := six_carry hA6 (Carries.of 0 belX)
          refine hK.out _ _ hA6_X (fun hHeld => ?_)
          clear hK K
          try simp only [Act.put, List.setIfInBounds_toArray, List.set_cons_zero, List.set_cons_succ]
          refine tk13 (v := ?_) (by kernel_rfl) (by kernel_rfl) (by kernel_rfl) (by first | exact fun _ _ _ h => h | exact fun _ _ _ h => absurd h.1 (by simp)) (Or.inl ⟨by rfl, ?_⟩) (by assumption) ?_
          rotate_left 1
          focus (intro wx hSw; (try dsimp only at hSw); go_simp; try (with_reducible rfl))
          try simp only [Act.put, List.setIfInBounds_toArray, List.set_cons_zero, List.set_cons_succ]
          refine wpAnyH_done (by kernel_rfl) ?_ _
          go_wp2_with fail
          go_meet
          case rel => exact ⟨Q3.heap.size, wa, wk, wb, wl, rfl, hBB, zX, q0, q1, HX.out, rfl, belX⟩
        refine ar11 (fun K hK => ?_) AllReadyH.nil
        go_simp
        have hbb : Below Q2.heap.size Q2 (Q2.alloc (.cells #[.slice none 0 0, .slice none 0 0] 38)) := (Below.refl _ _).alloc (Nat.le_refl _) _
        have g0_8 : (Q2.alloc (.cells #[.slice none 0 0, .slice none 0 0] 38)).cell? ⟨Q2.heap.size, 0, none⟩ = some (.slice none 0 0) := by simp
        have g1_8 : (Q2.alloc (.cells #[.slice none 0 0, .slice none 0 0] 38)).cell? ⟨Q2.heap.size, 1, none⟩ = some (.slice none 0 0) := by simp
        have gf0_8 : (Q2.alloc (.cells #[.slice none 0 0, .slice none 0 0] 38)).frozen? ⟨Q2.heap.size, 0, none⟩ = false := by simp
        have gf1_8 : (Q2.alloc (.cells #[.slice none 0 0, .slice none 0 0] 38)).frozen? ⟨Q2.heap.size, 1, none⟩ = false := by simp
        have zg_8 : Q2.heap.size < (Q2.alloc (.cells #[.slice none 0 0, .slice none 0 0] 38)).heap.size := by simp
        generalize Q2.alloc (.cells #[.slice none 0 0, .slice none 0 0] 38) = Q8 at hbb g0_8 g1_8 gf0_8 gf1_8 zg_8 ⊢
        have bel_8 := bel_2.trans (hbb.mono bel_2.size)
        have hA6_8 := six_carry hA6_2 (Carries.of 0 hbb)
        have H2_8 := Lib.hid (H2_2.out.keep (Carries.of _ hbb))
        have H3_8 := Lib.hid (H3_2.out.keep (Carries.of _ hbb))
        clear hbb
        refine hK.out _ _ hA6_8 (fun hHeld => ?_)
        clear hK K
        try simp only [Act.put, List.setIfInBounds_toArray, List.set_cons_zero, List.set_cons_succ]
        refine rd6 (by kernel_rfl) (fun K hK => ?_)
        go_simp
        refine (toEvent_any t _ L Q8 lo (HVL.out.keep (Carries.of lo (hw1.trans (bel_8.mono hw1.size)))) HLL.out).mono ?_
        rintro e Q9 ⟨vi, rfl, hi2, hbb⟩
        have bel_9 := bel_8.trans (hbb.mono bel_8.size)
        have hA6_9 := six_carry hA6_8 (Carries.of 0 hbb)
        have g0_9 := cell_carry g0_8 (Carries.of 0 hbb)
        have g1_9 := cell_carry g1_8 (Carries.of 0 hbb)
        have gf0_9 := (hbb.frozen (p := ⟨Q2.heap.size, 0, none⟩) (by simp; exact zg_8)).trans gf0_8
        have gf1_9 := (hbb.frozen (p := ⟨Q2.heap.size, 1, none⟩) (by simp; exact zg_8)).trans gf1_8
        have zg_9 : Q2.heap.size < Q9.heap.size := Nat.lt_of_lt_of_le zg_8 hbb.size
        have H2_9 := Lib.hid (H2_8.out.keep (Carries.of _ hbb))
        have H3_9 := Lib.hid (H3_8.out.keep (Carries.of _ hbb))
        have H4_9 := Lib.hid (hi2.low (Nat.zero_le _)); clear hi2
        clear hbb
        refine hK.out _ _ hA6_9 (fun hHeld => ?_)
        clear hK K
        try simp only [Act.put, List.setIfInBounds_toArray, List.set_cons_zero, List.set_cons_succ]
        refine rd7 (by kernel_rfl) (fun K hK => ?_)
        go_simp
        refine (specAppendEvent_any _ n s _ u t _ L Q9 0 0 0 H2_9.out H3_9.out H4_9.out HS.out HSU.out HLL.out hz_s).mono ?_
        rintro e Q10 ⟨vw, rfl, hiw, hbb⟩
        obtain ⟨wa, wk, wb, wl, rfl, hqc, hqe⟩ := hiw.form
        clear hqc hqe
        rw [← HVV.out] at hiw ⊢
        rw [← HGG.out]
        rw [← HXC.out, ← HXE.out] at hiw ⊢
        have bel_10 := bel_9.trans (hbb.mono bel_9.size)
        have hA6_10 := six_carry hA6_9 (Carries.of 0 hbb)
        have g0_10 := cell_carry g0_9 (Carries.of 0 hbb)
        have g1_10 := cell_carry g1_9 (Carries.of 0 hbb)
        have gf0_10 := (hbb.frozen (p := ⟨Q2.heap.size, 0, none⟩) (by simp; exact zg_9)).trans gf0_9
        have gf1_10 := (hbb.frozen (p := ⟨Q2.heap.size, 1, none⟩) (by simp; exact zg_9)).trans gf1_9
        have zg_10 : Q2.heap.size < Q10.heap.size := Nat.lt_of_lt_of_le zg_9 hbb.size
        have HA_10 := Lib.hid hiw; clear hiw
        clear hbb
        refine hK.out _ _ hA6_10 (fun hHeld => ?_)
        clear hK K
        try simp only [Act.put, List.setIfInBounds_toArray, List.set_cons_zero, List.set_cons_succ]
        refine tk8 (v := ?_) (by kernel_rfl) (by kernel_rfl) (by kernel_rfl) (by first | exact fun _ _ _ h => h | exact fun _ _ _ h => absurd h.1 (by simp)) (Or.inl ⟨by rfl, ?_⟩) (by assumption) ?_
        rotate_left 1
        focus (intro wx hSw; (try dsimp only at hSw); go_simp; try (with_reducible rfl))
        try simp only [Act.put, List.setIfInBounds_toArray, List.set_cons_zero, List.set_cons_succ]
        refine tk9 (v := ?_) (by kernel_rfl) (by kernel_rfl) (by kernel_rfl) (by first | exact fun _ _ _ h => h | exact fun _ _ _ h => absurd h.1 (by simp)) (Or.inl ⟨by rfl, ?_⟩) (by assumption) ?_
        rotate_left 1
        focus (intro wx hSw; (try dsimp only at hSw); go_simp; try (with_reducible rfl))
        try simp only [Act.put, List.setIfInBounds_toArray, List.set_cons_zero, List.set_cons_succ]
        refine tk10 (v := ?_) (by kernel_rfl) (by kernel_rfl) (by kernel_rfl) (by first | exact fun _ _ _ h => h | exact fun _ _ _ h => absurd h.1 (by simp)) (Or.inl ⟨by rfl, ?_⟩) (by assumption) ?_
        rotate_left 1
        focus (intro wx hSw; (try dsimp only at hSw); go_simp; try (with_reducible rfl))
        try simp only [Act.put, List.setIfInBounds_toArray, List.set_cons_zero, List.set_cons_succ]
        refine rd12 (by kernel_rfl) (fun K hK => ?_)
        go_simp
        generalize hWX : (Q10.setCell ⟨Q2.heap.size, 0, none⟩ (.slice wa xc wk)).setCell ⟨Q2.heap.size, 1, none⟩ (.slice wb xe wl) = X
        obtain ⟨q0, q1, qz, qb, qc⟩ := put2 hWX g0_10 g1_10
        clear hWX
        have hBB : w1c.heap.size ≤ Q2.heap.size := bel_2.size
        have belX := qb _ _ bel_10 hBB
        have HX := Lib.hid ((HA_10.out.keep (qc _ zg_9)).low bel_9.size)
        have zX : Q2.heap.size < X.heap.size := by rw [qz]; exact zg_10
        have hA6_X := six_carry hA6 (Carries.of 0 belX)
        refine hK.out _ _ hA6_X (fun hHeld => ?_)
        clear hK K
        try simp only [Act.put, List.setIfInBounds_toArray, List.set_cons_zero, List.set_cons_succ]
        refine tk13 (v := ?_) (by kernel_rfl) (by kernel_rfl) (by kernel_rfl) (by first | exact fun _ _ _ h => h | exact fun _ _ _ h => absurd h.1 (by simp)) (Or.inl ⟨by rfl, ?_⟩) (by assumption) ?_
        rotate_left 1
        focus (intro wx hSw; (try dsimp only at hSw); go_simp; try (with_reducible rfl))
        try simp only [Act.put, List.setIfInBounds_toArray, List.set_cons_zero, List.set_cons_succ]
        refine wpAnyH_done (by kernel_rfl) ?_ _
        go_wp2_with fail
        go_meet
        case rel => exact ⟨Q2.heap.size, wa, wk, wb, wl, rfl, hBB, zX, q0, q1, HX.out, rfl, belX⟩
      refine ar11 (fun K hK => ?_) AllReadyH.nil
      go_simp
      have hbb : Below Q1.heap.size Q1 (Q1.alloc (.cells #[.slice none 0 0, .slice none 0 0] 38)) := (Below.refl _ _).alloc (Nat.le_refl _) _
      have g0_11 : (Q1.alloc (.cells #[.slice none 0 0, .slice none 0 0] 38)).cell? ⟨Q1.heap.size, 0, none⟩ = some (.slice none 0 0) := by simp
      have g1_11 : (Q1.alloc (.cells #[.slice none 0 0, .slice none 0 0] 38)).cell? ⟨Q1.heap.size, 1, none⟩ = some (.slice none 0 0) := by simp
      have gf0_11 : (Q1.alloc (.cells #[.slice none 0 0, .slice none 0 0] 38)).frozen? ⟨Q1.heap.size, 0, none⟩ = false := by simp
      have gf1_11 : (Q1.alloc (.cells #[.slice none 0 0, .slice none 0 0] 38)).frozen? ⟨Q1.heap.size, 1, none⟩ = false := by simp
      have zg_11 : Q1.heap.size < (Q1.alloc (.cells #[.slice none 0 0, .slice none 0 0] 38)).heap.size := by simp
      generalize Q1.alloc (.cells #[.slice none 0 0, .slice none 0 0] 38) = Q11 at hbb g0_11 g1_11 gf0_11 gf1_11 zg_11 ⊢
      have bel_11 := bel_1.trans (hbb.mono bel_1.size)
      have hA6_11 := six_carry hA6_1 (Carries.of 0 hbb)
      have H2_11 := Lib.hid (H2_1.out.keep (Carries.of _ hbb))
      clear hbb
      refine hK.out _ _ hA6_11 (fun hHeld => ?_)
      clear hK K
      try simp only [Act.put, List.setIfInBounds_toArray, List.set_cons_zero, List.set_cons_succ]
      refine rd4 (by kernel_rfl) (fun K hK => ?_)
      go_simp
      refine (toUnfolding_any _ u Q11 lo (HVU.out.keep (Carries.of lo (hw1.trans (bel_11.mono hw1.size)))) HSU.out).mono ?_
      rintro e Q12 ⟨vq, rfl, hu2, hbb⟩
      have bel_12 := bel_11.trans (hbb.mono bel_11.size)
      have hA6_12 := six_carry hA6_11 (Carries.of 0 hbb)
      have g0_12 := cell_carry g0_11 (Carries.of 0 hbb)
      have g1_12 := cell_carry g1_11 (Carries.of 0 hbb)
      have gf0_12 := (hbb.frozen (p := ⟨Q1.heap.size, 0, none⟩) (by simp; exact zg_11)).trans gf0_11
      have gf1_12 := (hbb.frozen (p := ⟨Q1.heap.size, 1, none⟩) (by simp; exact zg_11)).trans gf1_11
      have zg_12 : Q1.heap.size < Q12.heap.size := Nat.lt_of_lt_of_le zg_11 hbb.size
      have H2_12 := Lib.hid (H2_11.out.keep (Carries.of _ hbb))
      have H3_12 := Lib.hid (hu2.low (Nat.zero_le _)); clear hu2
      clear hbb
      refine hK.out _ _ hA6_12 (fun hHeld => ?_)
      clear hK K
      try simp only [Act.put, List.setIfInBounds_toArray, List.set_cons_zero, List.set_cons_succ]
      refine rd6 (by kernel_rfl) (fun K hK => ?_)
      go_simp
      refine (toEvent_any t _ L Q12 lo (HVL.out.keep (Carries.of lo (hw1.trans (bel_12.mono hw1.size)))) HLL.out).mono ?_
      rintro e Q13 ⟨vi, rfl, hi2, hbb⟩
      have bel_13 := bel_12.trans (hbb.mono bel_12.size)
      have hA6_13 := six_carry hA6_12 (Carries.of 0 hbb)
      have g0_13 := cell_carry g0_12 (Carries.of 0 hbb)
      have g1_13 := cell_carry g1_12 (Carries.of 0 hbb)
      have gf0_13 := (hbb.frozen (p := ⟨Q1.heap.size, 0, none⟩) (by simp; exact zg_12)).trans gf0_12
      have gf1_13 := (hbb.frozen (p := ⟨Q1.heap.size, 1, none⟩) (by simp; exact zg_12)).trans gf1_12
      have zg_13 : Q1.heap.size < Q13.heap.size := Nat.lt_of_lt_of_le zg_12 hbb.size
      have H2_13 := Lib.hid (H2_12.out.keep (Carries.of _ hbb))
      have H3_13 := Lib.hid (H3_12.out.keep (Carries.of _ hbb))
      have H4_13 := Lib.hid (hi2.low (Nat.zero_le _)); clear hi2
      clear hbb
      refine hK.out _ _ hA6_13 (fun hHeld => ?_)
      clear hK K
      try simp only [Act.put, List.setIfInBounds_toArray, List.set_cons_zero, List.set_cons_succ]
      refine rd7 (by kernel_rfl) (fun K hK => ?_)
      go_simp
      refine (specAppendEvent_any _ n s _ u t _ L Q13 0 0 0 H2_13.out H3_13.out H4_13.out HS.out HSU.out HLL.out hz_s).mono ?_
      rintro e Q14 ⟨vw, rfl, hiw, hbb⟩
      obtain ⟨wa, wk, wb, wl, rfl, hqc, hqe⟩ := hiw.form
      clear hqc hqe
      rw [← HVV.out] at hiw ⊢
      rw [← HGG.out]
      rw [← HXC.out, ← HXE.out] at hiw ⊢
      have bel_14 := bel_13.trans (hbb.mono bel_13.size)
      have hA6_14 := six_carry hA6_13 (Carries.of 0 hbb)
      have g0_14 := cell_carry g0_13 (Carries.of 0 hbb)
      have g1_14 := cell_carry g1_13 (Carries.of 0 hbb)
      have gf0_14 := (hbb.frozen (p := ⟨Q1.heap.size, 0, none⟩) (by simp; exact zg_13)).trans gf0_13
      have gf1_14 := (hbb.frozen (p := ⟨Q1.heap.size, 1, none⟩) (by simp; exact zg_13)).trans gf1_13
      have zg_14 : Q1.heap.size < Q14.heap.size := Nat.lt_of_lt_of_le zg_13 hbb.size
      have HA_14 := Lib.hid hiw; clear hiw
      clear hbb
      refine hK.out _ _ hA6_14 (fun hHeld => ?_)
      clear hK K
      try simp only [Act.put, List.setIfInBounds_toArray, List.set_cons_zero, List.set_cons_succ]
      refine tk8 (v := ?_) (by kernel_rfl) (by kernel_rfl) (by kernel_rfl) (by first | exact fun _ _ _ h => h | exact fun _ _ _ h => absurd h.1 (by simp)) (Or.inl ⟨by rfl, ?_⟩) (by assumption) ?_
      rotate_left 1
      focus (intro wx hSw; (try dsimp only at hSw); go_simp; try (with_reducible rfl))
      try simp only [Act.put, List.setIfInBounds_toArray, List.set_cons_zero, List.set_cons_succ]
      refine tk9 (v := ?_) (by kernel_rfl) (by kernel_rfl) (by kernel_rfl) (by first | exact fun _ _ _ h => h | exact fun _ _ _ h => absurd h.1 (by simp)) (Or.inl ⟨by rfl, ?_⟩) (by assumption) ?_
      rotate_left 1
      focus (intro wx hSw; (try dsimp only at hSw); go_simp; try (with_reducible rfl))
      try simp only [Act.put, List.setIfInBounds_toArray, List.set_cons_zero, List.set_cons_succ]
      refine tk10 (v := ?_) (by kernel_rfl) (by kernel_rfl) (by kernel_rfl) (by first | exact fun _ _ _ h => h | exact fun _ _ _ h => absurd h.1 (by simp)) (Or.inl ⟨by rfl, ?_⟩) (by assumption) ?_
      rotate_left 1
      focus (intro wx hSw; (try dsimp only at hSw); go_simp; try (with_reducible rfl))
      try simp only [Act.put, List.setIfInBounds_toArray, List.set_cons_zero, List.set_cons_succ]
      refine rd12 (by kernel_rfl) (fun K hK => ?_)
      go_simp
      generalize hWX : (Q14.setCell ⟨Q1.heap.size, 0, none⟩ (.slice wa xc wk)).setCell ⟨Q1.heap.size, 1, none⟩ (.slice wb xe wl) = X
      obtain ⟨q0, q1, qz, qb, qc⟩ := put2 hWX g0_14 g1_14
      clear hWX
      have hBB : w1c.heap.size ≤ Q1.heap.size := bel_1.size
      have belX := qb _ _ bel_14 hBB
      have HX := Lib.hid ((HA_14.out.keep (qc _ zg_13)).low bel_13.size)
      have zX : Q1.heap.size < X.heap.size := by rw [qz]; exact zg_14
      have hA6_X := six_carry hA6 (Carries.of 0 belX)
      refine hK.out _ _ hA6_X (fun hHeld => ?_)
      clear hK K
      try simp only [Act.put, List.setIfInBounds_toArray, List.set_cons_zero, List.set_cons_succ]
      refine tk13 (v := ?_) (by kernel_rfl) (by kernel_rfl) (by kernel_rfl) (by first | exact fun _ _ _ h => h | exact fun _ _ _ h => absurd h.1 (by simp)) (Or.inl ⟨by rfl, ?_⟩) (by assumption) ?_
      rotate_left 1
      focus (intro wx hSw; (try dsimp only at hSw); go_simp; try (with_reducible rfl))
      try simp only [Act.put, List.setIfInBounds_toArray, List.set_cons_zero, List.set_cons_succ]
      refine wpAnyH_done (by kernel_rfl) ?_ _
      go_wp2_with fail
      go_meet
      case rel => exact ⟨Q1.heap.size, wa, wk, wb, wl, rfl, hBB, zX, q0, q1, HX.out, rfl, belX⟩
    refine ar11 (fun K hK => ?_) AllReadyH.nil
    go_simp
    have hbb : Below Q0.heap.size Q0 (Q0.alloc (.cells #[.slice none 0 0, .slice none 0 0] 38)) := (Below.refl _ _).alloc (Nat.le_refl _) _
    have g0_15 : (Q0.alloc (.cells #[.slice none 0 0, .slice none 0 0] 38)).cell? ⟨Q0.heap.size, 0, none⟩ = some (.slice none 0 0) := by simp
    have g1_15 : (Q0.alloc (.cells #[.slice none 0 0, .slice none 0 0] 38)).cell? ⟨Q0.heap.size, 1, none⟩ = some (.slice none 0 0) := by simp
    have gf0_15 : (Q0.alloc (.cells #[.slice none 0 0, .slice none 0 0] 38)).frozen? ⟨Q0.heap.size, 0, none⟩ = false := by simp
    have gf1_15 : (Q0.alloc (.cells #[.slice none 0 0, .slice none 0 0] 38)).frozen? ⟨Q0.heap.size, 1, none⟩ = false := by simp
    have zg_15 : Q0.heap.size < (Q0.alloc (.cells #[.slice none 0 0, .slice none 0 0] 38)).heap.size := by simp
    generalize Q0.alloc (.cells #[.slice none 0 0, .slice none 0 0] 38) = Q15 at hbb g0_15 g1_15 gf0_15 gf1_15 zg_15 ⊢
    have bel_15 := bel_0.trans (hbb.mono bel_0.size)
    have hA6_15 := six_carry hA6_0 (Carries.of 0 hbb)
    clear hbb
    refine hK.out _ _ hA6_15 (fun hHeld => ?_)
    clear hK K
    try simp only [Act.put, List.setIfInBounds_toArray, List.set_cons_zero, List.set_cons_succ]
    refine rd1 (by kernel_rfl) (fun K hK => ?_)
    go_simp
    refine (toNet_any _ n Q15 lo (HV.out.keep (Carries.of lo (hw1.trans (bel_15.mono hw1.size)))) HS.out).mono ?_
    rintro e Q16 ⟨vn, rfl, hn2, hbb⟩
    have bel_16 := bel_15.trans (hbb.mono bel_15.size)
    have hA6_16 := six_carry hA6_15 (Carries.of 0 hbb)
    have g0_16 := cell_carry g0_15 (Carries.of 0 hbb)
    have g1_16 := cell_carry g1_15 (Carries.of 0 hbb)
    have gf0_16 := (hbb.frozen (p := ⟨Q0.heap.size, 0, none⟩) (by simp; exact zg_15)).trans gf0_15
    have gf1_16 := (hbb.frozen (p := ⟨Q0.heap.size, 1, none⟩) (by simp; exact zg_15)).trans gf1_15
    have zg_16 : Q0.heap.size < Q16.heap.size := Nat.lt_of_lt_of_le zg_15 hbb.size
    have H2_16 := Lib.hid (hn2.low (Nat.zero_le _)); clear hn2
    clear hbb
    refine hK.out _ _ hA6_16 (fun hHeld => ?_)
    clear hK K
    try simp only [Act.put, List.setIfInBounds_toArray, List.set_cons_zero, List.set_cons_succ]
    refine rd4 (by kernel_rfl) (fun K hK => ?_)
    go_simp
    refine (toUnfolding_any _ u Q16 lo (HVU.out.keep (Carries.of lo (hw1.trans (bel_16.mono hw1.size)))) HSU.out).mono ?_
    rintro e Q17 ⟨vq, rfl, hu2, hbb⟩
    have bel_17 := bel_16.trans (hbb.mono bel_16.size)
    have hA6_17 := six_carry hA6_16 (Carries.of 0 hbb)
    have g0_17 := cell_carry g0_16 (Carries.of 0 hbb)
    have g1_17 := cell_carry g1_16 (Carries.of 0 hbb)
    have gf0_17 := (hbb.frozen (p := ⟨Q0.heap.size, 0, none⟩) (by simp; exact zg_16)).trans gf0_16
    have gf1_17 := (hbb.frozen (p := ⟨Q0.heap.size, 1, none⟩) (by simp; exact zg_16)).trans gf1_16
    have zg_17 : Q0.heap.size < Q17.heap.size := Nat.lt_of_lt_of_le zg_16 hbb.size
    have H2_17 := Lib.hid (H2_16.out.keep (Carries.of _ hbb))
    have H3_17 := Lib.hid (hu2.low (Nat.zero_le _)); clear hu2
    clear hbb
    refine hK.out _ _ hA6_17 (fun hHeld => ?_)
    clear hK K
    try simp only [Act.put, List.setIfInBounds_toArray, List.set_cons_zero, List.set_cons_succ]
    refine rd6 (by kernel_rfl) (fun K hK => ?_)
    go_simp
    refine (toEvent_any t _ L Q17 lo (HVL.out.keep (Carries.of lo (hw1.trans (bel_17.mono hw1.size)))) HLL.out).mono ?_
    rintro e Q18 ⟨vi, rfl, hi2, hbb⟩
    have bel_18 := bel_17.trans (hbb.mono bel_17.size)
    have hA6_18 := six_carry hA6_17 (Carries.of 0 hbb)
    have g0_18 := cell_carry g0_17 (Carries.of 0 hbb)
    have g1_18 := cell_carry g1_17 (Carries.of 0 hbb)
    have gf0_18 := (hbb.frozen (p := ⟨Q0.heap.size, 0, none⟩) (by simp; exact zg_17)).trans gf0_17
    have gf1_18 := (hbb.frozen (p := ⟨Q0.heap.size, 1, none⟩) (by simp; exact zg_17)).trans gf1_17
    have zg_18 : Q0.heap.size < Q18.heap.size := Nat.lt_of_lt_of_le zg_17 hbb.size
    have H2_18 := Lib.hid (H2_17.out.keep (Carries.of _ hbb))
    have H3_18 := Lib.hid (H3_17.out.keep (Carries.of _ hbb))
    have H4_18 := Lib.hid (hi2.low (Nat.zero_le _)); clear hi2
    clear hbb
    refine hK.out _ _ hA6_18 (fun hHeld => ?_)
    clear hK K
    try simp only [Act.put, List.setIfInBounds_toArray, List.set_cons_zero, List.set_cons_succ]
    refine rd7 (by kernel_rfl) (fun K hK => ?_)
    go_simp
    refine (specAppendEvent_any _ n s _ u t _ L Q18 0 0 0 H2_18.out H3_18.out H4_18.out HS.out HSU.out HLL.out hz_s).mono ?_
    rintro e Q19 ⟨vw, rfl, hiw, hbb⟩
    obtain ⟨wa, wk, wb, wl, rfl, hqc, hqe⟩ := hiw.form
    clear hqc hqe
    rw [← HVV.out] at hiw ⊢
    rw [← HGG.out]
    rw [← HXC.out, ← HXE.out] at hiw ⊢
    have bel_19 := bel_18.trans (hbb.mono bel_18.size)
    have hA6_19 := six_carry hA6_18 (Carries.of 0 hbb)
    have g0_19 := cell_carry g0_18 (Carries.of 0 hbb)
    have g1_19 := cell_carry g1_18 (Carries.of 0 hbb)
    have gf0_19 := (hbb.frozen (p := ⟨Q0.heap.size, 0, none⟩) (by simp; exact zg_18)).trans gf0_18
    have gf1_19 := (hbb.frozen (p := ⟨Q0.heap.size, 1, none⟩) (by simp; exact zg_18)).trans gf1_18
    have zg_19 : Q0.heap.size < Q19.heap.size := Nat.lt_of_lt_of_le zg_18 hbb.size
    have HA_19 := Lib.hid hiw; clear hiw
    clear hbb
    refine hK.out _ _ hA6_19 (fun hHeld => ?_)
    clear hK K
    try simp only [Act.put, List.setIfInBounds_toArray, List.set_cons_zero, List.set_cons_succ]
    refine tk8 (v := ?_) (by kernel_rfl) (by kernel_rfl) (by kernel_rfl) (by first | exact fun _ _ _ h => h | exact fun _ _ _ h => absurd h.1 (by simp)) (Or.inl ⟨by rfl, ?_⟩) (by assumption) ?_
    rotate_left 1
    focus (intro wx hSw; (try dsimp only at hSw); go_simp; try (with_reducible rfl))
    try simp only [Act.put, List.setIfInBounds_toArray, List.set_cons_zero, List.set_cons_succ]
    refine tk9 (v := ?_) (by kernel_rfl) (by kernel_rfl) (by kernel_rfl) (by first | exact fun _ _ _ h => h | exact fun _ _ _ h => absurd h.1 (by simp)) (Or.inl ⟨by rfl, ?_⟩) (by assumption) ?_
    rotate_left 1
    focus (intro wx hSw; (try dsimp only at hSw); go_simp; try (with_reducible rfl))
    try simp only [Act.put, List.setIfInBounds_toArray, List.set_cons_zero, List.set_cons_succ]
    refine tk10 (v := ?_) (by kernel_rfl) (by kernel_rfl) (by kernel_rfl) (by first | exact fun _ _ _ h => h | exact fun _ _ _ h => absurd h.1 (by simp)) (Or.inl ⟨by rfl, ?_⟩) (by assumption) ?_
    rotate_left 1
    focus (intro wx hSw; (try dsimp only at hSw); go_simp; try (with_reducible rfl))
    try simp only [Act.put, List.setIfInBounds_toArray, List.set_cons_zero, List.set_cons_succ]
    refine rd12 (by kernel_rfl) (fun K hK => ?_)
    go_simp
    generalize hWX : (Q19.setCell ⟨Q0.heap.size, 0, none⟩ (.slice wa xc wk)).setCell ⟨Q0.heap.size, 1, none⟩ (.slice wb xe wl) = X
    obtain ⟨q0, q1, qz, qb, qc⟩ := put2 hWX g0_19 g1_19
    clear hWX
    have hBB : w1c.heap.size ≤ Q0.heap.size := bel_0.size
    have belX := qb _ _ bel_19 hBB
    have HX := Lib.hid ((HA_19.out.keep (qc _ zg_18)).low bel_18.size)
    have zX : Q0.heap.size < X.heap.size := by rw [qz]; exact zg_19
    have hA6_X := six_carry hA6 (Carries.of 0 belX)
    refine hK.out _ _ hA6_X (fun hHeld => ?_)
    clear hK K
    try simp only [Act.put, List.setIfInBounds_toArray, List.set_cons_zero, List.set_cons_succ]
    refine tk13 (v := ?_) (by kernel_rfl) (by kernel_rfl) (by kernel_rfl) (by first | exact fun _ _ _ h => h | exact fun _ _ _ h => absurd h.1 (by simp)) (Or.inl ⟨by rfl, ?_⟩) (by assumption) ?_
    rotate_left 1
    focus (intro wx hSw; (try dsimp only at hSw); go_simp; try (with_reducible rfl))
    try simp only [Act.put, List.setIfInBounds_toArray, List.set_cons_zero, List.set_cons_succ]
    refine wpAnyH_done (by kernel_rfl) ?_ _
    go_wp2_with fail
    go_meet
    case rel => exact ⟨Q0.heap.size, wa, wk, wb, wl, rfl, hBB, zX, q0, q1, HX.out, rfl, belX⟩
  case rest =>
  obtain ⟨gw, wa, wk, wb, wl, rfl, hgw, hgz, m0, m1, hiw, rfl, hb3⟩ := hcut
  obtain ⟨w3, hw3e⟩ : ∃ x, x = wc := ⟨_, rfl⟩
  subst hw3e
  have hw3 : Below w.heap.size w w3 := hw1.trans (hb3.mono hw1.size)
  have a0_ := cell_carry a0_ (Carries.of 0 hb3)
  have a1_ := cell_carry a1_ (Carries.of 0 hb3)
  have a2_ := cell_carry a2_ (Carries.of 0 hb3)
  have a3_ := cell_carry a3_ (Carries.of 0 hb3)
  have a4_ := cell_carry a4_ (Carries.of 0 hb3)
  have a5_ := cell_carry a5_ (Carries.of 0 hb3)
  have HW3 := Lib.hid hiw; clear hiw
  have z3 : w.heap.size + 2 < gw := by omega
  clear hb3 z1 hw1
  go_wp2_with fail
  refine (toNet_ow _ n _ lo (HV.out.keep (Carries.of lo hw3)) HS.out).mono ?_
  rintro e w4 ⟨v4, rfl, how4, hb4⟩
  have hn4 := how4.at
  have hn4' := hn4
  obtain ⟨_, _, u4, rfl, ⟨a4, k4, rfl, _, _⟩⟩ := hn4'
  rw [← HM.out, ← HP.out] at hn4 how4 ⊢
  have HOW4 := Lib.hid how4; clear how4
  have hw4 : Below w.heap.size w w4 := hw3.trans (hb4.mono hw3.size)
  have a0_ := cell_carry a0_ (Carries.of 0 hb4)
  have a1_ := cell_carry a1_ (Carries.of 0 hb4)
  have a2_ := cell_carry a2_ (Carries.of 0 hb4)
  have a3_ := cell_carry a3_ (Carries.of 0 hb4)
  have a4_ := cell_carry a4_ (Carries.of 0 hb4)
  have a5_ := cell_carry a5_ (Carries.of 0 hb4)
  have m0 := cell_carry m0 (Carries.of 0 hb4)
  have m1 := cell_carry m1 (Carries.of 0 hb4)
  have B34 := Lib.hid hb4
  have z34 : w3.heap.size ≤ w4.heap.size := hb4.size
  clear hb4
  have H4 := Lib.hid hn4; clear hn4
  obtain ⟨W4, hW4⟩ : ∃ x, x = w4.alloc (.cells #[.int .i64 p, .slice a4 m k4] 43) := ⟨_, rfl⟩
  have HA4 : Below w4.heap.size w4 W4 := by rw [hW4]; exact (Below.refl _ _).alloc (Nat.le_refl _) _
  have n0 : W4.cell? ⟨w4.heap.size, 0, none⟩ = some (.int .i64 p) := by rw [hW4]; exact (cell_new2 rfl).1
  have n1 : W4.cell? ⟨w4.heap.size, 1, none⟩ = some (.slice a4 m k4) := by rw [hW4]; exact (cell_new2 rfl).2
  have zW4 : W4.heap.size = w4.heap.size + 1 := by rw [hW4]; simp
  have hw4b : Below w.heap.size w W4 := hw4.trans (HA4.mono hw4.size)
  have a0_ := cell_carry a0_ (Carries.of 0 HA4)
  have a1_ := cell_carry a1_ (Carries.of 0 HA4)
  have a2_ := cell_carry a2_ (Carries.of 0 HA4)
  have a3_ := cell_carry a3_ (Carries.of 0 HA4)
  have a4_ := cell_carry a4_ (Carries.of 0 HA4)
  have a5_ := cell_carry a5_ (Carries.of 0 HA4)
  have m0 := cell_carry m0 (Carries.of 0 HA4)
  have m1 := cell_carry m1 (Carries.of 0 HA4)
  have B44 := Lib.hid HA4
  clear HA4
  have a0_c := a0_
  have a1_c := a1_
  have a2_c := a2_
  have a3_c := a3_
  have a4_c := a4_
  have a5_c := a5_
  have m0c := m0
  have m1c := m1
  rw [hW4] at a0_c a1_c a2_c a3_c a4_c a5_c m0c m1c
  go_wp2_with (go_at_call 10; rw [← hW4]; clear a0_c a1_c a2_c a3_c a4_c a5_c m0c m1c hW4; refine (toUnfolding_ow _ u _ lo (HVU.out.keep (Carries.of lo hw4b)) HSU.out).mono ?_)
  rintro e w5 ⟨v5, rfl, huo5, hu5, hb5⟩
  obtain ⟨a5, k5, a6, k6, rfl, _, _⟩ := hu5.form
  rw [← HNC.out, ← HNE.out] at hu5 huo5 ⊢
  have HUO5 := Lib.hid huo5; clear huo5
  have hw5 : Below w.heap.size w w5 := hw4b.trans (hb5.mono hw4b.size)
  have a0_ := cell_carry a0_ (Carries.of 0 hb5)
  have a1_ := cell_carry a1_ (Carries.of 0 hb5)
  have a2_ := cell_carry a2_ (Carries.of 0 hb5)
  have a3_ := cell_carry a3_ (Carries.of 0 hb5)
  have a4_ := cell_carry a4_ (Carries.of 0 hb5)
  have a5_ := cell_carry a5_ (Carries.of 0 hb5)
  have m0 := cell_carry m0 (Carries.of 0 hb5)
  have m1 := cell_carry m1 (Carries.of 0 hb5)
  have n0 := cell_carry n0 (Carries.of 0 hb5)
  have n1 := cell_carry n1 (Carries.of 0 hb5)
  have B45 := Lib.hid hb5
  have z45 : W4.heap.size ≤ w5.heap.size := hb5.size
  clear hb5
  have HU5 := Lib.hid hu5; clear hu5
  obtain ⟨W5, hW5⟩ : ∃ x, x = w5.alloc (.cells #[.slice a5 nc k5, .slice a6 ne k6] 38) := ⟨_, rfl⟩
  have HA5 : Below w5.heap.size w5 W5 := by rw [hW5]; exact (Below.refl _ _).alloc (Nat.le_refl _) _
  have u0 : W5.cell? ⟨w5.heap.size, 0, none⟩ = some (.slice a5 nc k5) := by rw [hW5]; exact (cell_new2 rfl).1
  have u1 : W5.cell? ⟨w5.heap.size, 1, none⟩ = some (.slice a6 ne k6) := by rw [hW5]; exact (cell_new2 rfl).2
  have zW5 : W5.heap.size = w5.heap.size + 1 := by rw [hW5]; simp
  have hw5b : Below w.heap.size w W5 := hw5.trans (HA5.mono hw5.size)
  have a0_ := cell_carry a0_ (Carries.of 0 HA5)
  have a1_ := cell_carry a1_ (Carries.of 0 HA5)
  have a2_ := cell_carry a2_ (Carries.of 0 HA5)
  have a3_ := cell_carry a3_ (Carries.of 0 HA5)
  have a4_ := cell_carry a4_ (Carries.of 0 HA5)
  have a5_ := cell_carry a5_ (Carries.of 0 HA5)
  have m0 := cell_carry m0 (Carries.of 0 HA5)
  have m1 := cell_carry m1 (Carries.of 0 HA5)
  have n0 := cell_carry n0 (Carries.of 0 HA5)
  have n1 := cell_carry n1 (Carries.of 0 HA5)
  have B55 := Lib.hid HA5
  clear HA5
  have a0_c := a0_
  have a1_c := a1_
  have a2_c := a2_
  have a3_c := a3_
  have a4_c := a4_
  have a5_c := a5_
  have m0c := m0
  have m1c := m1
  have n0c := n0
  have n1c := n1
  rw [hW5] at a0_c a1_c a2_c a3_c a4_c a5_c m0c m1c n0c n1c
  go_wp2_with (go_at_call 11; rw [← hW5]; clear a0_c a1_c a2_c a3_c a4_c a5_c m0c m1c n0c n1c hW5; refine (toEvent_ow t _ L _ lo (HVL.out.keep (Carries.of lo hw5b)) HLL.out).mono ?_)
  rintro e w6 ⟨vi, rfl, hio6, hb6⟩
  have hi6 := hio6.at
  have hi6' := hi6
  obtain ⟨ai, ki, rfl, hxa, hxb⟩ := hi6'
  clear hxa hxb
  rw [← HNL.out] at hi6 hio6 ⊢
  have HIO6 := Lib.hid hio6; clear hio6
  have HI6 := Lib.hid hi6; clear hi6
  have hw6 : Below w.heap.size w w6 := hw5b.trans (hb6.mono hw5b.size)
  have a0_ := cell_carry a0_ (Carries.of 0 hb6)
  have a1_ := cell_carry a1_ (Carries.of 0 hb6)
  have a2_ := cell_carry a2_ (Carries.of 0 hb6)
  have a3_ := cell_carry a3_ (Carries.of 0 hb6)
  have a4_ := cell_carry a4_ (Carries.of 0 hb6)
  have a5_ := cell_carry a5_ (Carries.of 0 hb6)
  have m0 := cell_carry m0 (Carries.of 0 hb6)
  have m1 := cell_carry m1 (Carries.of 0 hb6)
  have n0 := cell_carry n0 (Carries.of 0 hb6)
  have n1 := cell_carry n1 (Carries.of 0 hb6)
  have u0 := cell_carry u0 (Carries.of 0 hb6)
  have u1 := cell_carry u1 (Carries.of 0 hb6)
  have B56 := Lib.hid hb6
  have z56 : W5.heap.size ≤ w6.heap.size := hb6.size
  clear hb6
  obtain ⟨W6, hW6⟩ : ∃ x, x = w6.alloc (.cells #[.int .i64 t, .slice ai nl ki] 46) := ⟨_, rfl⟩
  have HA6 : Below w6.heap.size w6 W6 := by rw [hW6]; exact (Below.refl _ _).alloc (Nat.le_refl _) _
  have e0 : W6.cell? ⟨w6.heap.size, 0, none⟩ = some (.int .i64 t) := by rw [hW6]; exact (cell_new2 rfl).1
  have e1 : W6.cell? ⟨w6.heap.size, 1, none⟩ = some (.slice ai nl ki) := by rw [hW6]; exact (cell_new2 rfl).2
  have zW6 : W6.heap.size = w6.heap.size + 1 := by rw [hW6]; simp
  have hw6b : Below w.heap.size w W6 := hw6.trans (HA6.mono hw6.size)
  have a0_ := cell_carry a0_ (Carries.of 0 HA6)
  have a1_ := cell_carry a1_ (Carries.of 0 HA6)
  have a2_ := cell_carry a2_ (Carries.of 0 HA6)
  have a3_ := cell_carry a3_ (Carries.of 0 HA6)
  have a4_ := cell_carry a4_ (Carries.of 0 HA6)
  have a5_ := cell_carry a5_ (Carries.of 0 HA6)
  have m0 := cell_carry m0 (Carries.of 0 HA6)
  have m1 := cell_carry m1 (Carries.of 0 HA6)
  have n0 := cell_carry n0 (Carries.of 0 HA6)
  have n1 := cell_carry n1 (Carries.of 0 HA6)
  have u0 := cell_carry u0 (Carries.of 0 HA6)
  have u1 := cell_carry u1 (Carries.of 0 HA6)
  have B66 := Lib.hid HA6
  have HN6 := Lib.hid (((((H4.out.keep (Carries.of _ B44.out)).keep (Carries.of _ B45.out)).keep (Carries.of _ B55.out)).keep (Carries.of _ B56.out)).keep (Carries.of _ HA6))
  have HU6 := Lib.hid (((HU5.out.keep (Carries.of _ B55.out)).keep (Carries.of _ B56.out)).keep (Carries.of _ HA6))
  have HE6 := Lib.hid (HI6.out.keep (Carries.of _ HA6))
  clear HA6 H4 HU5 HI6
  have a0_c := a0_
  have a1_c := a1_
  have a2_c := a2_
  have a3_c := a3_
  have a4_c := a4_
  have a5_c := a5_
  have m0c := m0
  have m1c := m1
  have n0c := n0
  have n1c := n1
  have u0c := u0
  have u1c := u1
  rw [hW6] at a0_c a1_c a2_c a3_c a4_c a5_c m0c m1c n0c n1c u0c u1c
  go_wp2_with (go_at_call 12; rw [← hW6]; clear a0_c a1_c a2_c a3_c a4_c a5_c m0c m1c n0c n1c u0c u1c hW6; refine (AppendEvent_any _ n s _ u t _ L W6 _ _ _ HN6.out HU6.out HE6.out HS.out HSU.out HLL.out hz_s).mono ?_)
  rintro e w7 ⟨va, vb, rfl, hpc, hpe, hb7⟩
  rw [← HVV.out] at hpc hpe
  rw [← HGG.out]
  have hap : ApAt W6.heap.size w7 (.agg #[va, vb]) V := ⟨va, vb, rfl, hpc, hpe⟩
  obtain ⟨ga, gk, rfl⟩ := hpc.form
  obtain ⟨gb, gl, rfl⟩ := hpe.form
  rw [← HXC.out, ← HXE.out] at hap ⊢
  have HAP7 := Lib.hid hap
  clear hpc hpe hap
  have hw7 : Below w.heap.size w w7 := hw6b.trans (hb7.mono hw6b.size)
  have a0_ := cell_carry a0_ (Carries.of 0 hb7)
  have a1_ := cell_carry a1_ (Carries.of 0 hb7)
  have a2_ := cell_carry a2_ (Carries.of 0 hb7)
  have a3_ := cell_carry a3_ (Carries.of 0 hb7)
  have a4_ := cell_carry a4_ (Carries.of 0 hb7)
  have a5_ := cell_carry a5_ (Carries.of 0 hb7)
  have m0 := cell_carry m0 (Carries.of 0 hb7)
  have m1 := cell_carry m1 (Carries.of 0 hb7)
  have n0 := cell_carry n0 (Carries.of 0 hb7)
  have n1 := cell_carry n1 (Carries.of 0 hb7)
  have u0 := cell_carry u0 (Carries.of 0 hb7)
  have u1 := cell_carry u1 (Carries.of 0 hb7)
  have e0 := cell_carry e0 (Carries.of 0 hb7)
  have e1 := cell_carry e1 (Carries.of 0 hb7)
  have B67 := Lib.hid hb7
  have z67 : W6.heap.size ≤ w7.heap.size := hb7.size
  clear hb7
  obtain ⟨W7, hW7⟩ : ∃ x, x = w7.alloc (.cells #[.slice ga xc gk, .slice gb xe gl] 38) := ⟨_, rfl⟩
  have HA7 : Below w7.heap.size w7 W7 := by rw [hW7]; exact (Below.refl _ _).alloc (Nat.le_refl _) _
  have g0 : W7.cell? ⟨w7.heap.size, 0, none⟩ = some (.slice ga xc gk) := by rw [hW7]; exact (cell_new2 rfl).1
  have g1 : W7.cell? ⟨w7.heap.size, 1, none⟩ = some (.slice gb xe gl) := by rw [hW7]; exact (cell_new2 rfl).2
  have zW7 : W7.heap.size = w7.heap.size + 1 := by rw [hW7]; simp
  have hw7b : Below w.heap.size w W7 := hw7.trans (HA7.mono hw7.size)
  have a0_ := cell_carry a0_ (Carries.of 0 HA7)
  have a1_ := cell_carry a1_ (Carries.of 0 HA7)
  have a2_ := cell_carry a2_ (Carries.of 0 HA7)
  have a3_ := cell_carry a3_ (Carries.of 0 HA7)
  have a4_ := cell_carry a4_ (Carries.of 0 HA7)
  have a5_ := cell_carry a5_ (Carries.of 0 HA7)
  have m0 := cell_carry m0 (Carries.of 0 HA7)
  have m1 := cell_carry m1 (Carries.of 0 HA7)
  have n0 := cell_carry n0 (Carries.of 0 HA7)
  have n1 := cell_carry n1 (Carries.of 0 HA7)
  have u0 := cell_carry u0 (Carries.of 0 HA7)
  have u1 := cell_carry u1 (Carries.of 0 HA7)
  have e0 := cell_carry e0 (Carries.of 0 HA7)
  have e1 := cell_carry e1 (Carries.of 0 HA7)
  have HWA : Agr w1c.heap.size w3.heap.size w3 W7 := by
    refine ((((((((Agr.below B34.out (Nat.le_refl _)).trans (Agr.below B44.out ?_)).trans (Agr.below B45.out ?_)).trans (Agr.below B55.out ?_)).trans (Agr.below B56.out ?_)).trans (Agr.below B66.out ?_)).trans (Agr.below B67.out ?_)).trans (Agr.below HA7 ?_)) <;> omega
  have HAG7 := Lib.hid HWA
  have SAP := Lib.hid (Same.of W6.heap.size HA7)
  have BN7 : Below w4.heap.size w4 W7 := by
    refine (((((B44.out.trans (B45.out.mono ?_)).trans (B55.out.mono ?_)).trans (B56.out.mono ?_)).trans (B66.out.mono ?_)).trans (B67.out.mono ?_)).trans (HA7.mono ?_) <;> omega
  have BU7 : Below w5.heap.size w5 W7 := by
    refine (((B55.out.trans (B56.out.mono ?_)).trans (B66.out.mono ?_)).trans (B67.out.mono ?_)).trans (HA7.mono ?_) <;> omega
  have BE7 : Below w6.heap.size w6 W7 := by
    refine (B66.out.trans (B67.out.mono ?_)).trans (HA7.mono ?_) <;> omega
  have HBN := Lib.hid BN7; have HBU := Lib.hid BU7; have HBE := Lib.hid BE7
  have HN7 := Lib.hid ((HN6.out.keep (Carries.of _ B67.out)).keep (Carries.of _ HA7))
  have HU7 := Lib.hid ((HU6.out.keep (Carries.of _ B67.out)).keep (Carries.of _ HA7))
  have HE7 := Lib.hid ((HE6.out.keep (Carries.of _ B67.out)).keep (Carries.of _ HA7))
  clear HA7 HWA BN7 BU7 BE7 HN6 HU6 HE6 B34 B44 B45 B55 B56 B66 B67
  have hne0 : (G != G) = false := by simp
  have a0_c := a0_
  have a1_c := a1_
  have a2_c := a2_
  have a3_c := a3_
  have a4_c := a4_
  have a5_c := a5_
  have m0c := m0
  have m1c := m1
  have n0c := n0
  have n1c := n1
  have u0c := u0
  have u1c := u1
  have e0c := e0
  have e1c := e1
  rw [hW7] at a0_c a1_c a2_c a3_c a4_c a5_c m0c m1c n0c n1c u0c u1c e0c e1c
  go_wp2_with (go_at_call 13; rw [← hW7]; clear a0_c a1_c a2_c a3_c a4_c a5_c m0c m1c n0c n1c u0c u1c e0c e1c hW7; refine (eqUnfolding_any _ _ V V _ _ _ (HAP7.out.keep SAP.out).at (HW3.out.keep HAG7.out.carries) HVS.out.1 HVS.out.1).mono ?_)
  rintro e w8 ⟨rfl, hb8⟩
  rw [eqUnfB_self]
  have hw8 : Below w.heap.size w w8 := hw7b.trans (hb8.mono hw7b.size)
  have z37 : w3.heap.size ≤ w7.heap.size := by omega
  have zc : w7.heap.size < W7.heap.size := by omega
  have a0_ := cell_carry a0_ (Carries.of 0 hb8)
  have a1_ := cell_carry a1_ (Carries.of 0 hb8)
  have a2_ := cell_carry a2_ (Carries.of 0 hb8)
  have a3_ := cell_carry a3_ (Carries.of 0 hb8)
  have a4_ := cell_carry a4_ (Carries.of 0 hb8)
  have a5_ := cell_carry a5_ (Carries.of 0 hb8)
  have m0 := cell_carry m0 (Carries.of 0 hb8)
  have m1 := cell_carry m1 (Carries.of 0 hb8)
  have n0 := cell_carry n0 (Carries.of 0 hb8)
  have n1 := cell_carry n1 (Carries.of 0 hb8)
  have u0 := cell_carry u0 (Carries.of 0 hb8)
  have u1 := cell_carry u1 (Carries.of 0 hb8)
  have e0 := cell_carry e0 (Carries.of 0 hb8)
  have e1 := cell_carry e1 (Carries.of 0 hb8)
  have g0 := cell_carry g0 (Carries.of 0 hb8)
  have g1 := cell_carry g1 (Carries.of 0 hb8)
  have HAG7 := Lib.hid (HAG7.out.trans (Agr.below hb8 (by have := z37; have := zc; omega)))
  have SAP := Lib.hid (SAP.out.trans (Same.of _ hb8))
  have HBN := Lib.hid (HBN.out.trans (hb8.mono HBN.out.size))
  have HBU := Lib.hid (HBU.out.trans (hb8.mono HBU.out.size))
  have HBE := Lib.hid (HBE.out.trans (hb8.mono HBE.out.size))
  have HN7 := Lib.hid (HN7.out.keep (Carries.of _ hb8))
  have HU7 := Lib.hid (HU7.out.keep (Carries.of _ hb8))
  have HE7 := Lib.hid (HE7.out.keep (Carries.of _ hb8))
  have zc : w7.heap.size < w8.heap.size := by have := hb8.size; omega
  clear hb8 hne0
  go_wp2_with fail
  go_region_held3 (fun w' => w'.cell? ⟨w.heap.size, 0, none⟩ = some (.int .i64 p) ∧ w'.cell? ⟨w.heap.size, 1, none⟩ = some (.slice ao m cap) ∧ w'.cell? ⟨w4.heap.size, 0, none⟩ = some (.int .i64 p) ∧ w'.cell? ⟨w4.heap.size, 1, none⟩ = some (.slice a4 m k4))
    (first
      | exact ⟨a0_, a1_, n0, n1⟩
      | exact ⟨cell_carry (w := w8.drew) a0_ (Carries.of 0 hb9), cell_carry (w := w8.drew) a1_ (Carries.of 0 hb9), cell_carry (w := w8.drew) n0 (Carries.of 0 hb9), cell_carry (w := w8.drew) n1 (Carries.of 0 hb9)⟩
      | exact ⟨cell_carry (cell_carry (w := w8.drew) a0_ (Carries.of 0 hb9)) (Carries.of 0 hb10), cell_carry (cell_carry (w := w8.drew) a1_ (Carries.of 0 hb9)) (Carries.of 0 hb10), cell_carry (cell_carry (w := w8.drew) n0 (Carries.of 0 hb9)) (Carries.of 0 hb10), cell_carry (cell_carry (w := w8.drew) n1 (Carries.of 0 hb9)) (Carries.of 0 hb10)⟩
      | fail)
    (first
      | (go_at_call 9; refine (toNet_any _ n w8.drew lo (HV.out.keep (Carries.of lo hw8.drew)) HS.out).mono ?_; rintro e w9 ⟨v9, rfl, hn9, hb9⟩)
      | (go_at_call 14; refine (eqNet_any _ _ n n _ _ _ (HN7.out.keep (Carries.of (w := w8.drew) _ hb9)) hn9 HS.out HS.out).mono ?_; rintro e w10 ⟨rfl, hb10⟩))
  have bx : Below w8.heap.size w8 w10 := Below.trans (b := w8.drew) (Below.refl _ _).drew (Below.trans hb9 (hb10.mono hb9.size))
  have hw10 : Below w.heap.size w w10 := hw8.trans (bx.mono hw8.size)
  have a0_ := cell_carry a0_ (Carries.of 0 bx)
  have a1_ := cell_carry a1_ (Carries.of 0 bx)
  have a2_ := cell_carry a2_ (Carries.of 0 bx)
  have a3_ := cell_carry a3_ (Carries.of 0 bx)
  have a4_ := cell_carry a4_ (Carries.of 0 bx)
  have a5_ := cell_carry a5_ (Carries.of 0 bx)
  have m0 := cell_carry m0 (Carries.of 0 bx)
  have m1 := cell_carry m1 (Carries.of 0 bx)
  have n0 := cell_carry n0 (Carries.of 0 bx)
  have n1 := cell_carry n1 (Carries.of 0 bx)
  have u0 := cell_carry u0 (Carries.of 0 bx)
  have u1 := cell_carry u1 (Carries.of 0 bx)
  have e0 := cell_carry e0 (Carries.of 0 bx)
  have e1 := cell_carry e1 (Carries.of 0 bx)
  have g0 := cell_carry g0 (Carries.of 0 bx)
  have g1 := cell_carry g1 (Carries.of 0 bx)
  have HAG7 := Lib.hid (HAG7.out.trans (Agr.below bx (by have := z37; have := zc; omega)))
  have SAP := Lib.hid (SAP.out.trans (Same.of _ bx))
  have HBN := Lib.hid (HBN.out.trans (bx.mono HBN.out.size))
  have HBU := Lib.hid (HBU.out.trans (bx.mono HBU.out.size))
  have HBE := Lib.hid (HBE.out.trans (bx.mono HBE.out.size))
  have HN7 := Lib.hid (HN7.out.keep (Carries.of _ bx))
  have HU7 := Lib.hid (HU7.out.keep (Carries.of _ bx))
  have HE7 := Lib.hid (HE7.out.keep (Carries.of _ bx))
  have zc : w7.heap.size < w10.heap.size := by have := bx.size; omega
  clear hn9
  clear bx hb9 hb10
  go_wp2_with fail
  go_region_held3 (fun w' => w'.cell? ⟨w.heap.size + 1, 0, none⟩ = some (.slice a0 nc k0) ∧ w'.cell? ⟨w.heap.size + 1, 1, none⟩ = some (.slice a1 ne k1) ∧ w'.cell? ⟨w5.heap.size, 0, none⟩ = some (.slice a5 nc k5) ∧ w'.cell? ⟨w5.heap.size, 1, none⟩ = some (.slice a6 ne k6))
    (first
      | exact ⟨a2_, a3_, u0, u1⟩
      | exact ⟨cell_carry (w := w10.drew) a2_ (Carries.of 0 hb11), cell_carry (w := w10.drew) a3_ (Carries.of 0 hb11), cell_carry (w := w10.drew) u0 (Carries.of 0 hb11), cell_carry (w := w10.drew) u1 (Carries.of 0 hb11)⟩
      | exact ⟨cell_carry (cell_carry (w := w10.drew) a2_ (Carries.of 0 hb11)) (Carries.of 0 hb12), cell_carry (cell_carry (w := w10.drew) a3_ (Carries.of 0 hb11)) (Carries.of 0 hb12), cell_carry (cell_carry (w := w10.drew) u0 (Carries.of 0 hb11)) (Carries.of 0 hb12), cell_carry (cell_carry (w := w10.drew) u1 (Carries.of 0 hb11)) (Carries.of 0 hb12)⟩
      | fail)
    (first
      | (go_at_call 10; refine (toUnfolding_any _ u w10.drew lo (HVU.out.keep (Carries.of lo hw10.drew)) HSU.out).mono ?_; rintro e w11 ⟨v11, rfl, hu11, hb11⟩)
      | (go_at_call 13; refine (eqUnfolding_any _ _ u u _ _ _ (HU7.out.keep (Carries.of (w := w10.drew) _ hb11)) hu11 HSU.out HSU.out).mono ?_; rintro e w12 ⟨rfl, hb12⟩))
  have bx : Below w10.heap.size w10 w12 := Below.trans (b := w10.drew) (Below.refl _ _).drew (Below.trans hb11 (hb12.mono hb11.size))
  have hw12 : Below w.heap.size w w12 := hw10.trans (bx.mono hw10.size)
  have a0_ := cell_carry a0_ (Carries.of 0 bx)
  have a1_ := cell_carry a1_ (Carries.of 0 bx)
  have a2_ := cell_carry a2_ (Carries.of 0 bx)
  have a3_ := cell_carry a3_ (Carries.of 0 bx)
  have a4_ := cell_carry a4_ (Carries.of 0 bx)
  have a5_ := cell_carry a5_ (Carries.of 0 bx)
  have m0 := cell_carry m0 (Carries.of 0 bx)
  have m1 := cell_carry m1 (Carries.of 0 bx)
  have n0 := cell_carry n0 (Carries.of 0 bx)
  have n1 := cell_carry n1 (Carries.of 0 bx)
  have u0 := cell_carry u0 (Carries.of 0 bx)
  have u1 := cell_carry u1 (Carries.of 0 bx)
  have e0 := cell_carry e0 (Carries.of 0 bx)
  have e1 := cell_carry e1 (Carries.of 0 bx)
  have g0 := cell_carry g0 (Carries.of 0 bx)
  have g1 := cell_carry g1 (Carries.of 0 bx)
  have HAG7 := Lib.hid (HAG7.out.trans (Agr.below bx (by have := z37; have := zc; omega)))
  have SAP := Lib.hid (SAP.out.trans (Same.of _ bx))
  have HBN := Lib.hid (HBN.out.trans (bx.mono HBN.out.size))
  have HBU := Lib.hid (HBU.out.trans (bx.mono HBU.out.size))
  have HBE := Lib.hid (HBE.out.trans (bx.mono HBE.out.size))
  have HN7 := Lib.hid (HN7.out.keep (Carries.of _ bx))
  have HU7 := Lib.hid (HU7.out.keep (Carries.of _ bx))
  have HE7 := Lib.hid (HE7.out.keep (Carries.of _ bx))
  have zc : w7.heap.size < w12.heap.size := by have := bx.size; omega
  rw [eqUnfB_self]
  clear hu11
  clear bx hb11 hb12
  go_wp2_with fail
  go_region_held3 (fun w' => w'.cell? ⟨w.heap.size + 2, 0, none⟩ = some (.int .i64 t) ∧ w'.cell? ⟨w.heap.size + 2, 1, none⟩ = some (.slice al nl kl) ∧ w'.cell? ⟨w6.heap.size, 0, none⟩ = some (.int .i64 t) ∧ w'.cell? ⟨w6.heap.size, 1, none⟩ = some (.slice ai nl ki))
    (first
      | exact ⟨a4_, a5_, e0, e1⟩
      | exact ⟨cell_carry (w := w12.drew) a4_ (Carries.of 0 hb13), cell_carry (w := w12.drew) a5_ (Carries.of 0 hb13), cell_carry (w := w12.drew) e0 (Carries.of 0 hb13), cell_carry (w := w12.drew) e1 (Carries.of 0 hb13)⟩
      | exact ⟨cell_carry (cell_carry (w := w12.drew) a4_ (Carries.of 0 hb13)) (Carries.of 0 hb14), cell_carry (cell_carry (w := w12.drew) a5_ (Carries.of 0 hb13)) (Carries.of 0 hb14), cell_carry (cell_carry (w := w12.drew) e0 (Carries.of 0 hb13)) (Carries.of 0 hb14), cell_carry (cell_carry (w := w12.drew) e1 (Carries.of 0 hb13)) (Carries.of 0 hb14)⟩
      | fail)
    (first
      | (go_at_call 11; refine (toEvent_any t _ L w12.drew lo (HVL.out.keep (Carries.of lo hw12.drew)) HLL.out).mono ?_; rintro e w13 ⟨v13, rfl, hv13, hb13⟩)
      | (go_at_call 15; refine (eqEvent_any t t _ _ L L _ _ _ (HE7.out.keep (Carries.of (w := w12.drew) _ hb13)) hv13 HLL.out HLL.out).mono ?_; rintro e w14 ⟨rfl, hb14⟩))
  have bx : Below w12.heap.size w12 w14 := Below.trans (b := w12.drew) (Below.refl _ _).drew (Below.trans hb13 (hb14.mono hb13.size))
  have hw14 : Below w.heap.size w w14 := hw12.trans (bx.mono hw12.size)
  have a0_ := cell_carry a0_ (Carries.of 0 bx)
  have a1_ := cell_carry a1_ (Carries.of 0 bx)
  have a2_ := cell_carry a2_ (Carries.of 0 bx)
  have a3_ := cell_carry a3_ (Carries.of 0 bx)
  have a4_ := cell_carry a4_ (Carries.of 0 bx)
  have a5_ := cell_carry a5_ (Carries.of 0 bx)
  have m0 := cell_carry m0 (Carries.of 0 bx)
  have m1 := cell_carry m1 (Carries.of 0 bx)
  have n0 := cell_carry n0 (Carries.of 0 bx)
  have n1 := cell_carry n1 (Carries.of 0 bx)
  have u0 := cell_carry u0 (Carries.of 0 bx)
  have u1 := cell_carry u1 (Carries.of 0 bx)
  have e0 := cell_carry e0 (Carries.of 0 bx)
  have e1 := cell_carry e1 (Carries.of 0 bx)
  have g0 := cell_carry g0 (Carries.of 0 bx)
  have g1 := cell_carry g1 (Carries.of 0 bx)
  have HAG7 := Lib.hid (HAG7.out.trans (Agr.below bx (by have := z37; have := zc; omega)))
  have SAP := Lib.hid (SAP.out.trans (Same.of _ bx))
  have HBN := Lib.hid (HBN.out.trans (bx.mono HBN.out.size))
  have HBU := Lib.hid (HBU.out.trans (bx.mono HBU.out.size))
  have HBE := Lib.hid (HBE.out.trans (bx.mono HBE.out.size))
  have HN7 := Lib.hid (HN7.out.keep (Carries.of _ bx))
  have HU7 := Lib.hid (HU7.out.keep (Carries.of _ bx))
  have HE7 := Lib.hid (HE7.out.keep (Carries.of _ bx))
  have zc : w7.heap.size < w14.heap.size := by have := bx.size; omega
  clear hv13 HN7 HU7 HE7
  have hTN := totTo_le HS.out n.ts.length (Nat.le_refl _)
  have hnl := HS.out.1
  have hT2 : totTo n.ts n.ts.length ≤ 2199023255552 := by omega
  clear hTN hnl
  clear bx hb13 hb14
  go_wp2_with fail
  refine (markNet_any _ n 1 w4 w14 w3.heap.size HOW4.out (Same.of _ HBN.out) HS.out (by omega) (by omega)).mono ?_
  rintro e w15 ⟨wm, rfl, hba, hmk⟩
  have st : Stir w3.heap.size w4.heap.size w14 w15 := (Stir.of _ _ hba).trans (marks_stirA hmk)
  have hw15 : Below w.heap.size w w15 := st.below hw14 (by omega) (by omega)
  have a0_ := st.cell (Or.inl (by simp; omega)) a0_
  have a1_ := st.cell (Or.inl (by simp; omega)) a1_
  have a2_ := st.cell (Or.inl (by simp; omega)) a2_
  have a3_ := st.cell (Or.inl (by simp; omega)) a3_
  have a4_ := st.cell (Or.inl (by simp; omega)) a4_
  have a5_ := st.cell (Or.inl (by simp; omega)) a5_
  have m0 := st.cell (Or.inl (by simp; omega)) m0
  have m1 := st.cell (Or.inl (by simp; omega)) m1
  have u0 := st.cell (Or.inr (by first | (simp; omega) | simp)) u0
  have u1 := st.cell (Or.inr (by first | (simp; omega) | simp)) u1
  have e0 := st.cell (Or.inr (by first | (simp; omega) | simp)) e0
  have e1 := st.cell (Or.inr (by first | (simp; omega) | simp)) e1
  have g0 := st.cell (Or.inr (by first | (simp; omega) | simp)) g0
  have g1 := st.cell (Or.inr (by first | (simp; omega) | simp)) g1
  have HAG7 := Lib.hid (HAG7.out.trans (Agr.stir st (by omega) (Or.inl (Nat.le_refl _))))
  have SAP := Lib.hid (SAP.out.trans (stir_sameA st (by omega)))
  have SU := Lib.hid ((Same.of W4.heap.size HBU.out).trans (stir_sameA st (by omega)))
  have SE := Lib.hid ((Same.of W5.heap.size HBE.out).trans (stir_sameA st (by omega)))
  have y15 := st.size
  clear hmk hba st n0 n1 HBN HBU HBE
  generalize totTo n.ts n.ts.length = T at hT2 ⊢
  go_wp2_with fail
  refine (markUnfolding_any _ u _ w5 w15 W4.heap.size HUO5.out SU.out HSU.out (by omega) (by omega)).mono ?_
  rintro e w16 ⟨r16, rfl, hr0, hr1, st⟩
  have hw16 : Below w.heap.size w w16 := st.below hw15 (by omega) (by omega)
  have a0_ := st.cell (Or.inl (by simp; omega)) a0_
  have a1_ := st.cell (Or.inl (by simp; omega)) a1_
  have a2_ := st.cell (Or.inl (by simp; omega)) a2_
  have a3_ := st.cell (Or.inl (by simp; omega)) a3_
  have a4_ := st.cell (Or.inl (by simp; omega)) a4_
  have a5_ := st.cell (Or.inl (by simp; omega)) a5_
  have m0 := st.cell (Or.inl (by simp; omega)) m0
  have m1 := st.cell (Or.inl (by simp; omega)) m1
  have e0 := st.cell (Or.inr (by first | (simp; omega) | simp)) e0
  have e1 := st.cell (Or.inr (by first | (simp; omega) | simp)) e1
  have g0 := st.cell (Or.inr (by first | (simp; omega) | simp)) g0
  have g1 := st.cell (Or.inr (by first | (simp; omega) | simp)) g1
  have HAG7 := Lib.hid (HAG7.out.trans (Agr.stir st (by omega) (Or.inl (by omega))))
  have SAP := Lib.hid (SAP.out.trans (stir_sameA st (by omega)))
  have SE := Lib.hid (SE.out.trans (stir_sameA st (by omega)))
  have y16 := st.size
  have HBX := Lib.hid ((HIO6.out.keep SE.out).boxIn HIO6.out.at.bound)
  clear st u0 u1 SU SE
  go_wp2_with fail
  have hnl : nl ≤ 1048576 := by rw [HNL.out]; exact HLL.out
  rw [← HNL.out] at HBX
  refine (markEvent_any t _ nl r16 w16 _ _ HBX.out hnl hr0 (by omega)).mono ?_
  rintro e w17 ⟨wm, rfl, hba, hmk⟩
  have st : Stir W5.heap.size w6.heap.size w16 w17 := (Stir.of _ _ hba).trans (marks_stirA hmk)
  have hw17 : Below w.heap.size w w17 := st.below hw16 (by omega) (by omega)
  have a0_ := st.cell (Or.inl (by simp; omega)) a0_
  have a1_ := st.cell (Or.inl (by simp; omega)) a1_
  have a2_ := st.cell (Or.inl (by simp; omega)) a2_
  have a3_ := st.cell (Or.inl (by simp; omega)) a3_
  have a4_ := st.cell (Or.inl (by simp; omega)) a4_
  have a5_ := st.cell (Or.inl (by simp; omega)) a5_
  have m0 := st.cell (Or.inl (by simp; omega)) m0
  have m1 := st.cell (Or.inl (by simp; omega)) m1
  have g0 := st.cell (Or.inr (by first | (simp; omega) | simp)) g0
  have g1 := st.cell (Or.inr (by first | (simp; omega) | simp)) g1
  have HAG7 := Lib.hid (HAG7.out.trans (Agr.stir st (by omega) (Or.inl (by omega))))
  have SAP := Lib.hid (SAP.out.trans (stir_sameA st (by omega)))
  have y17 := st.size
  have hT : decide (r16 + (nl : Int) < 0) = false := by rw [decide_eq_false_iff_not]; omega
  have hne0 : (G != G) = false := by simp
  clear hmk hba st HBX e0 e1
  go_wp2_with fail
  refine (eqUnfolding_any _ _ V V w17 _ _ (HAP7.out.keep SAP.out).at (HW3.out.keep HAG7.out.carries) HVS.out.1 HVS.out.1).mono ?_
  rintro e w18 ⟨rfl, hb⟩
  rw [eqUnfB_self]
  have hw18 : Below w.heap.size w w18 := hw17.trans (hb.mono hw17.size)
  have a0_ := cell_carry a0_ (Carries.of 0 hb)
  have a1_ := cell_carry a1_ (Carries.of 0 hb)
  have a2_ := cell_carry a2_ (Carries.of 0 hb)
  have a3_ := cell_carry a3_ (Carries.of 0 hb)
  have a4_ := cell_carry a4_ (Carries.of 0 hb)
  have a5_ := cell_carry a5_ (Carries.of 0 hb)
  have m0 := cell_carry m0 (Carries.of 0 hb)
  have m1 := cell_carry m1 (Carries.of 0 hb)
  have g0 := cell_carry g0 (Carries.of 0 hb)
  have g1 := cell_carry g1 (Carries.of 0 hb)
  have HAG7 := Lib.hid (HAG7.out.trans (Agr.below hb (by omega)))
  have SAP := Lib.hid (SAP.out.trans (Same.of _ hb))
  have y18 := hb.size
  clear hb hT
  go_wp2_with fail
  refine (ap_mark_any _ V w7 w18 W6.heap.size HAP7.out SAP.out (by omega) HVS.out.1 HVS.out.2).mono ?_
  rintro e w19 ⟨rfl, st, hmk⟩
  have hTE := totE_le HVS.out.1.2 V.es.length (Nat.le_refl _)
  have hxe1 := HVS.out.1.2.1
  have hxc1 := HVS.out.1.1
  have HTQ : Hid (1 + 2 * (V.cs.length : Int) + (totE V.es V.es.length : Nat) = 1 + 2 * (V.cs.length : Int) + (totE V.es V.es.length : Nat)) := rfl
  obtain ⟨q, hq⟩ : ∃ q : Int, q = 1 + 2 * (V.cs.length : Int) + (totE V.es V.es.length : Nat) := ⟨_, rfl⟩
  have hq0 : 0 < q := by omega
  rw [← hq]
  have HQ := Lib.hid hq
  clear hq HTQ hTE
  have hw19 : Below w.heap.size w w19 := st.below hw18 (by omega) (by omega)
  have a0_ := st.cell (Or.inl (by simp; omega)) a0_
  have a1_ := st.cell (Or.inl (by simp; omega)) a1_
  have a2_ := st.cell (Or.inl (by simp; omega)) a2_
  have a3_ := st.cell (Or.inl (by simp; omega)) a3_
  have a4_ := st.cell (Or.inl (by simp; omega)) a4_
  have a5_ := st.cell (Or.inl (by simp; omega)) a5_
  have m0 := st.cell (Or.inl (by simp; omega)) m0
  have m1 := st.cell (Or.inl (by simp; omega)) m1
  have g0 := st.cell (Or.inr (by first | (simp; omega) | simp)) g0
  have g1 := st.cell (Or.inr (by first | (simp; omega) | simp)) g1
  have HAG7 := Lib.hid (HAG7.out.trans (Agr.stir st (by omega) (Or.inl (by omega))))
  have HMK := Lib.hid hmk
  have y19 := st.size
  clear st hmk SAP
  go_wp2_with fail
  refine (heldUnfolding_any _ V xc 1 w19 _ V.es (by have h := HMK.out; rw [← HXC.out] at h; exact h) (by rw [HXC.out]; exact hxc1) HVS.out.1.2 (by omega) (by omega)).mono ?_
  rintro e w20 ⟨rfl, hb⟩
  have hqe : (1 : Int) + 2 * (xc : Int) + (totE V.es V.es.length : Nat) = q := by rw [HQ.out, HXC.out]
  rw [hqe]
  have hw20 : Below w.heap.size w w20 := hw19.trans (hb.mono hw19.size)
  have a0_ := cell_carry a0_ (Carries.of 0 hb)
  have a1_ := cell_carry a1_ (Carries.of 0 hb)
  have a2_ := cell_carry a2_ (Carries.of 0 hb)
  have a3_ := cell_carry a3_ (Carries.of 0 hb)
  have a4_ := cell_carry a4_ (Carries.of 0 hb)
  have a5_ := cell_carry a5_ (Carries.of 0 hb)
  have m0 := cell_carry m0 (Carries.of 0 hb)
  have m1 := cell_carry m1 (Carries.of 0 hb)
  have g0 := cell_carry g0 (Carries.of 0 hb)
  have g1 := cell_carry g1 (Carries.of 0 hb)
  have HAG7 := Lib.hid (HAG7.out.trans (Agr.below hb (by omega)))
  have HMK := Lib.hid (HMK.out.keep (Carries.of _ hb))
  have y20 := hb.size
  have hq1 : (q != q) = false := by simp
  have hq2 : decide (q < 0) = false := by rw [decide_eq_false_iff_not]; omega
  clear hb hqe
  go_upto_region 40 with fail
  go_cut [20, 21] from 122 to 132 (fun vA vB wx => ∃ (g : Nat) (wa : Option Addr) (wk : Nat) (wb : Option Addr) (wl : Nat), vA = .pointer (some ⟨g, 0, none⟩) ∧ w20.heap.size ≤ g ∧ g < wx.heap.size ∧ wx.cell? ⟨g, 0, none⟩ = some (.slice wa xc wk) ∧ wx.cell? ⟨g, 1, none⟩ = some (.slice wb xe wl) ∧ UnfAt w20.heap.size wx (.agg #[.slice wa xc wk, .slice wb xe wl]) V ∧ vB = .bool G ∧ Below w20.heap.size w20 wx)
  case first =>
    have hA6 : w20.cell? ⟨w.heap.size, 0, none⟩ = some (.int .i64 p) ∧ w20.cell? ⟨w.heap.size, 1, none⟩ = some (.slice ao m cap) ∧ w20.cell? ⟨w.heap.size + 1, 0, none⟩ = some (.slice a0 nc k0) ∧ w20.cell? ⟨w.heap.size + 1, 1, none⟩ = some (.slice a1 ne k1) ∧ w20.cell? ⟨w.heap.size + 2, 0, none⟩ = some (.int .i64 t) ∧ w20.cell? ⟨w.heap.size + 2, 1, none⟩ = some (.slice al nl kl) := ⟨a0_, a1_, a2_, a3_, a4_, a5_⟩
    refine wp_region_held_drew (S := fun w' => w'.cell? ⟨w.heap.size, 0, none⟩ = some (.int .i64 p) ∧ w'.cell? ⟨w.heap.size, 1, none⟩ = some (.slice ao m cap) ∧ w'.cell? ⟨w.heap.size + 1, 0, none⟩ = some (.slice a0 nc k0) ∧ w'.cell? ⟨w.heap.size + 1, 1, none⟩ = some (.slice a1 ne k1) ∧ w'.cell? ⟨w.heap.size + 2, 0, none⟩ = some (.int .i64 t) ∧ w'.cell? ⟨w.heap.size + 2, 1, none⟩ = some (.slice al nl kl)) (by kernel_rfl) hA6 (fun hHeld => ?_)
    have bel_0 : Below w20.heap.size w20 w20.drew := (Below.refl _ _).drew
    have hA6_0 : w20.drew.cell? ⟨w.heap.size, 0, none⟩ = some (.int .i64 p) ∧ w20.drew.cell? ⟨w.heap.size, 1, none⟩ = some (.slice ao m cap) ∧ w20.drew.cell? ⟨w.heap.size + 1, 0, none⟩ = some (.slice a0 nc k0) ∧ w20.drew.cell? ⟨w.heap.size + 1, 1, none⟩ = some (.slice a1 ne k1) ∧ w20.drew.cell? ⟨w.heap.size + 2, 0, none⟩ = some (.int .i64 t) ∧ w20.drew.cell? ⟨w.heap.size + 2, 1, none⟩ = some (.slice al nl kl) := hA6
    generalize w20.drew = Q0 at bel_0 hA6_0 hHeld ⊢
    refine tk0 (v := ?_) (by kernel_rfl) (by kernel_rfl) (by kernel_rfl) (by first | exact fun _ _ _ h => h | exact fun _ _ _ h => absurd h.1 (by simp)) (Or.inl ⟨by rfl, ?_⟩) (by assumption) ?_
    rotate_left 1
    focus (intro wx hSw; (try dsimp only at hSw); go_simp; try (with_reducible rfl))
    try simp only [Act.put, List.setIfInBounds_toArray, List.set_cons_zero, List.set_cons_succ]
    refine tk2 (v := ?_) (by kernel_rfl) (by kernel_rfl) (by kernel_rfl) (by first | exact fun _ _ _ h => h | exact fun _ _ _ h => absurd h.1 (by simp)) (Or.inl ⟨by rfl, ?_⟩) (by assumption) ?_
    rotate_left 1
    focus (intro wx hSw; (try dsimp only at hSw); go_simp; try (with_reducible rfl))
    try simp only [Act.put, List.setIfInBounds_toArray, List.set_cons_zero, List.set_cons_succ]
    refine tk3 (v := ?_) (by kernel_rfl) (by kernel_rfl) (by kernel_rfl) (by first | exact fun _ _ _ h => h | exact fun _ _ _ h => absurd h.1 (by simp)) (Or.inl ⟨by rfl, ?_⟩) (by assumption) ?_
    rotate_left 1
    focus (intro wx hSw; (try dsimp only at hSw); go_simp; try (with_reducible rfl))
    try simp only [Act.put, List.setIfInBounds_toArray, List.set_cons_zero, List.set_cons_succ]
    refine tk5 (v := ?_) (by kernel_rfl) (by kernel_rfl) (by kernel_rfl) (by first | exact fun _ _ _ h => h | exact fun _ _ _ h => absurd h.1 (by simp)) (Or.inl ⟨by rfl, ?_⟩) (by assumption) ?_
    rotate_left 1
    focus (intro wx hSw; (try dsimp only at hSw); go_simp; try (with_reducible rfl))
    try simp only [Act.put, List.setIfInBounds_toArray, List.set_cons_zero, List.set_cons_succ]
    refine wpAnyH_ready (rs := [1, 11]) (by kernel_rfl) (by simp) ?_
    refine ar1 (fun K hK => ?_) ?_
    · skip
      go_simp
      refine (toNet_any _ n Q0 lo (HV.out.keep (Carries.of lo (hw20.trans (bel_0.mono hw20.size)))) HS.out).mono ?_
      rintro e Q20 ⟨vn, rfl, hn2, hbb⟩
      have bel_20 := bel_0.trans (hbb.mono bel_0.size)
      have hA6_20 := six_carry hA6_0 (Carries.of 0 hbb)
      have H2_20 := Lib.hid (hn2.low (Nat.zero_le _)); clear hn2
      clear hbb
      refine hK.out _ _ hA6_20 (fun hHeld => ?_)
      clear hK K
      try simp only [Act.put, List.setIfInBounds_toArray, List.set_cons_zero, List.set_cons_succ]
      refine wpAnyH_ready (rs := [4, 11]) (by kernel_rfl) (by simp) ?_
      refine ar4 (fun K hK => ?_) ?_
      · skip
        go_simp
        refine (toUnfolding_any _ u Q20 lo (HVU.out.keep (Carries.of lo (hw20.trans (bel_20.mono hw20.size)))) HSU.out).mono ?_
        rintro e Q21 ⟨vq, rfl, hu2, hbb⟩
        have bel_21 := bel_20.trans (hbb.mono bel_20.size)
        have hA6_21 := six_carry hA6_20 (Carries.of 0 hbb)
        have H2_21 := Lib.hid (H2_20.out.keep (Carries.of _ hbb))
        have H3_21 := Lib.hid (hu2.low (Nat.zero_le _)); clear hu2
        clear hbb
        refine hK.out _ _ hA6_21 (fun hHeld => ?_)
        clear hK K
        try simp only [Act.put, List.setIfInBounds_toArray, List.set_cons_zero, List.set_cons_succ]
        refine wpAnyH_ready (rs := [6, 11]) (by kernel_rfl) (by simp) ?_
        refine ar6 (fun K hK => ?_) ?_
        · skip
          go_simp
          refine (toEvent_any t _ L Q21 lo (HVL.out.keep (Carries.of lo (hw20.trans (bel_21.mono hw20.size)))) HLL.out).mono ?_
          rintro e Q22 ⟨vi, rfl, hi2, hbb⟩
          have bel_22 := bel_21.trans (hbb.mono bel_21.size)
          have hA6_22 := six_carry hA6_21 (Carries.of 0 hbb)
          have H2_22 := Lib.hid (H2_21.out.keep (Carries.of _ hbb))
          have H3_22 := Lib.hid (H3_21.out.keep (Carries.of _ hbb))
          have H4_22 := Lib.hid (hi2.low (Nat.zero_le _)); clear hi2
          clear hbb
          refine hK.out _ _ hA6_22 (fun hHeld => ?_)
          clear hK K
          try simp only [Act.put, List.setIfInBounds_toArray, List.set_cons_zero, List.set_cons_succ]
          refine wpAnyH_ready (rs := [7, 11]) (by kernel_rfl) (by simp) ?_
          refine ar7 (fun K hK => ?_) ?_
          · skip
            go_simp
            refine (AppendEvent_any _ n s _ u t _ L Q22 0 0 0 H2_22.out H3_22.out H4_22.out HS.out HSU.out HLL.out hz_s).mono ?_
            rintro e Q23 ⟨va, vb, rfl, hpc, hpe, hbb⟩
            have hiw : UnfAt Q22.heap.size Q23 (.agg #[va, vb]) (apV n s u t L) := ApAt.at ⟨va, vb, rfl, hpc, hpe⟩
            obtain ⟨wa, wk, rfl⟩ := hpc.form
            obtain ⟨wb, wl, rfl⟩ := hpe.form
            clear hpc hpe
            rw [← HVV.out] at hiw ⊢
            rw [← HGG.out]
            rw [← HXC.out, ← HXE.out] at hiw ⊢
            have bel_23 := bel_22.trans (hbb.mono bel_22.size)
            have hA6_23 := six_carry hA6_22 (Carries.of 0 hbb)
            have HA_23 := Lib.hid hiw; clear hiw
            clear hbb
            refine hK.out _ _ hA6_23 (fun hHeld => ?_)
            clear hK K
            try simp only [Act.put, List.setIfInBounds_toArray, List.set_cons_zero, List.set_cons_succ]
            refine tk8 (v := ?_) (by kernel_rfl) (by kernel_rfl) (by kernel_rfl) (by first | exact fun _ _ _ h => h | exact fun _ _ _ h => absurd h.1 (by simp)) (Or.inl ⟨by rfl, ?_⟩) (by assumption) ?_
            rotate_left 1
            focus (intro wx hSw; (try dsimp only at hSw); go_simp; try (with_reducible rfl))
            try simp only [Act.put, List.setIfInBounds_toArray, List.set_cons_zero, List.set_cons_succ]
            refine tk9 (v := ?_) (by kernel_rfl) (by kernel_rfl) (by kernel_rfl) (by first | exact fun _ _ _ h => h | exact fun _ _ _ h => absurd h.1 (by simp)) (Or.inl ⟨by rfl, ?_⟩) (by assumption) ?_
            rotate_left 1
            focus (intro wx hSw; (try dsimp only at hSw); go_simp; try (with_reducible rfl))
            try simp only [Act.put, List.setIfInBounds_toArray, List.set_cons_zero, List.set_cons_succ]
            refine tk10 (v := ?_) (by kernel_rfl) (by kernel_rfl) (by kernel_rfl) (by first | exact fun _ _ _ h => h | exact fun _ _ _ h => absurd h.1 (by simp)) (Or.inl ⟨by rfl, ?_⟩) (by assumption) ?_
            rotate_left 1
            focus (intro wx hSw; (try dsimp only at hSw); go_simp; try (with_reducible rfl))
            try simp only [Act.put, List.setIfInBounds_toArray, List.set_cons_zero, List.set_cons_succ]
            refine rd11 (by kernel_rfl) (fun K hK => ?_)
            go_simp
            have hbb : Below Q23.heap.size Q23 (Q23.alloc (.cells #[.slice none 0 0, .slice none 0 0] 38)) := (Below.refl _ _).alloc (Nat.le_refl _) _
            have g0_24 : (Q23.alloc (.cells #[.slice none 0 0, .slice none 0 0] 38)).cell? ⟨Q23.heap.size, 0, none⟩ = some (.slice none 0 0) := by simp
            have g1_24 : (Q23.alloc (.cells #[.slice none 0 0, .slice none 0 0] 38)).cell? ⟨Q23.heap.size, 1, none⟩ = some (.slice none 0 0) := by simp
            have gf0_24 : (Q23.alloc (.cells #[.slice none 0 0, .slice none 0 0] 38)).frozen? ⟨Q23.heap.size, 0, none⟩ = false := by simp
            have gf1_24 : (Q23.alloc (.cells #[.slice none 0 0, .slice none 0 0] 38)).frozen? ⟨Q23.heap.size, 1, none⟩ = false := by simp
            have zg_24 : Q23.heap.size < (Q23.alloc (.cells #[.slice none 0 0, .slice none 0 0] 38)).heap.size := by simp
            generalize Q23.alloc (.cells #[.slice none 0 0, .slice none 0 0] 38) = Q24 at hbb g0_24 g1_24 gf0_24 gf1_24 zg_24 ⊢
            have bel_24 := bel_23.trans (hbb.mono bel_23.size)
            have hA6_24 := six_carry hA6_23 (Carries.of 0 hbb)
            have hbA := hbb
            clear hbb
            refine hK.out _ _ hA6_24 (fun hHeld => ?_)
            clear hK K
            try simp only [Act.put, List.setIfInBounds_toArray, List.set_cons_zero, List.set_cons_succ]
            refine rd12 (by kernel_rfl) (fun K hK => ?_)
            go_simp
            generalize hWX : (Q24.setCell ⟨Q23.heap.size, 0, none⟩ (.slice wa xc wk)).setCell ⟨Q23.heap.size, 1, none⟩ (.slice wb xe wl) = X
            obtain ⟨q0, q1, qz, qb, qc⟩ := put2 hWX g0_24 g1_24
            clear hWX
            have hBB : w20.heap.size ≤ Q23.heap.size := bel_23.size
            have belX := qb _ _ bel_24 hBB
            have HX := Lib.hid ((HA_23.out.keep (Carries.of _ (qb _ _ hbA (Nat.le_refl _)))).low bel_22.size)
            have zX : Q23.heap.size < X.heap.size := by rw [qz]; exact zg_24
            have hA6_X := six_carry hA6 (Carries.of 0 belX)
            refine hK.out _ _ hA6_X (fun hHeld => ?_)
            clear hK K
            try simp only [Act.put, List.setIfInBounds_toArray, List.set_cons_zero, List.set_cons_succ]
            refine tk13 (v := ?_) (by kernel_rfl) (by kernel_rfl) (by kernel_rfl) (by first | exact fun _ _ _ h => h | exact fun _ _ _ h => absurd h.1 (by simp)) (Or.inl ⟨by rfl, ?_⟩) (by assumption) ?_
            rotate_left 1
            focus (intro wx hSw; (try dsimp only at hSw); go_simp; try (with_reducible rfl))
            try simp only [Act.put, List.setIfInBounds_toArray, List.set_cons_zero, List.set_cons_succ]
            refine wpAnyH_done (by kernel_rfl) ?_ _
            go_wp2_with fail
            go_meet
            case rel => exact ⟨Q23.heap.size, wa, wk, wb, wl, rfl, hBB, zX, q0, q1, HX.out, rfl, belX⟩
          refine ar11 (fun K hK => ?_) AllReadyH.nil
          go_simp
          have hbb : Below Q22.heap.size Q22 (Q22.alloc (.cells #[.slice none 0 0, .slice none 0 0] 38)) := (Below.refl _ _).alloc (Nat.le_refl _) _
          have g0_25 : (Q22.alloc (.cells #[.slice none 0 0, .slice none 0 0] 38)).cell? ⟨Q22.heap.size, 0, none⟩ = some (.slice none 0 0) := by simp
          have g1_25 : (Q22.alloc (.cells #[.slice none 0 0, .slice none 0 0] 38)).cell? ⟨Q22.heap.size, 1, none⟩ = some (.slice none 0 0) := by simp
          have gf0_25 : (Q22.alloc (.cells #[.slice none 0 0, .slice none 0 0] 38)).frozen? ⟨Q22.heap.size, 0, none⟩ = false := by simp
          have gf1_25 : (Q22.alloc (.cells #[.slice none 0 0, .slice none 0 0] 38)).frozen? ⟨Q22.heap.size, 1, none⟩ = false := by simp
          have zg_25 : Q22.heap.size < (Q22.alloc (.cells #[.slice none 0 0, .slice none 0 0] 38)).heap.size := by simp
          generalize Q22.alloc (.cells #[.slice none 0 0, .slice none 0 0] 38) = Q25 at hbb g0_25 g1_25 gf0_25 gf1_25 zg_25 ⊢
          have bel_25 := bel_22.trans (hbb.mono bel_22.size)
          have hA6_25 := six_carry hA6_22 (Carries.of 0 hbb)
          have H2_25 := Lib.hid (H2_22.out.keep (Carries.of _ hbb))
          have H3_25 := Lib.hid (H3_22.out.keep (Carries.of _ hbb))
          have H4_25 := Lib.hid (H4_22.out.keep (Carries.of _ hbb))
          clear hbb
          refine hK.out _ _ hA6_25 (fun hHeld => ?_)
          clear hK K
          try simp only [Act.put, List.setIfInBounds_toArray, List.set_cons_zero, List.set_cons_succ]
          refine rd7 (by kernel_rfl) (fun K hK => ?_)
          go_simp
          refine (AppendEvent_any _ n s _ u t _ L Q25 0 0 0 H2_25.out H3_25.out H4_25.out HS.out HSU.out HLL.out hz_s).mono ?_
          rintro e Q26 ⟨va, vb, rfl, hpc, hpe, hbb⟩
          have hiw : UnfAt Q25.heap.size Q26 (.agg #[va, vb]) (apV n s u t L) := ApAt.at ⟨va, vb, rfl, hpc, hpe⟩
          obtain ⟨wa, wk, rfl⟩ := hpc.form
          obtain ⟨wb, wl, rfl⟩ := hpe.form
          clear hpc hpe
          rw [← HVV.out] at hiw ⊢
          rw [← HGG.out]
          rw [← HXC.out, ← HXE.out] at hiw ⊢
          have bel_26 := bel_25.trans (hbb.mono bel_25.size)
          have hA6_26 := six_carry hA6_25 (Carries.of 0 hbb)
          have g0_26 := cell_carry g0_25 (Carries.of 0 hbb)
          have g1_26 := cell_carry g1_25 (Carries.of 0 hbb)
          have gf0_26 := (hbb.frozen (p := ⟨Q22.heap.size, 0, none⟩) (by simp; exact zg_25)).trans gf0_25
          have gf1_26 := (hbb.frozen (p := ⟨Q22.heap.size, 1, none⟩) (by simp; exact zg_25)).trans gf1_25
          have zg_26 : Q22.heap.size < Q26.heap.size := Nat.lt_of_lt_of_le zg_25 hbb.size
          have HA_26 := Lib.hid hiw; clear hiw
          clear hbb
          refine hK.out _ _ hA6_26 (fun hHeld => ?_)
          clear hK K
          try simp only [Act.put, List.setIfInBounds_toArray, List.set_cons_zero, List.set_cons_succ]
          refine tk8 (v := ?_) (by kernel_rfl) (by kernel_rfl) (by kernel_rfl) (by first | exact fun _ _ _ h => h | exact fun _ _ _ h => absurd h.1 (by simp)) (Or.inl ⟨by rfl, ?_⟩) (by assumption) ?_
          rotate_left 1
          focus (intro wx hSw; (try dsimp only at hSw); go_simp; try (with_reducible rfl))
          try simp only [Act.put, List.setIfInBounds_toArray, List.set_cons_zero, List.set_cons_succ]
          refine tk9 (v := ?_) (by kernel_rfl) (by kernel_rfl) (by kernel_rfl) (by first | exact fun _ _ _ h => h | exact fun _ _ _ h => absurd h.1 (by simp)) (Or.inl ⟨by rfl, ?_⟩) (by assumption) ?_
          rotate_left 1
          focus (intro wx hSw; (try dsimp only at hSw); go_simp; try (with_reducible rfl))
          try simp only [Act.put, List.setIfInBounds_toArray, List.set_cons_zero, List.set_cons_succ]
          refine tk10 (v := ?_) (by kernel_rfl) (by kernel_rfl) (by kernel_rfl) (by first | exact fun _ _ _ h => h | exact fun _ _ _ h => absurd h.1 (by simp)) (Or.inl ⟨by rfl, ?_⟩) (by assumption) ?_
          rotate_left 1
          focus (intro wx hSw; (try dsimp only at hSw); go_simp; try (with_reducible rfl))
          try simp only [Act.put, List.setIfInBounds_toArray, List.set_cons_zero, List.set_cons_succ]
          refine rd12 (by kernel_rfl) (fun K hK => ?_)
          go_simp
          generalize hWX : (Q26.setCell ⟨Q22.heap.size, 0, none⟩ (.slice wa xc wk)).setCell ⟨Q22.heap.size, 1, none⟩ (.slice wb xe wl) = X
          obtain ⟨q0, q1, qz, qb, qc⟩ := put2 hWX g0_26 g1_26
          clear hWX
          have hBB : w20.heap.size ≤ Q22.heap.size := bel_22.size
          have belX := qb _ _ bel_26 hBB
          have HX := Lib.hid ((HA_26.out.keep (qc _ zg_25)).low bel_25.size)
          have zX : Q22.heap.size < X.heap.size := by rw [qz]; exact zg_26
          have hA6_X := six_carry hA6 (Carries.of 0 belX)
          refine hK.out _ _ hA6_X (fun hHeld => ?_)
          clear hK K
          try simp only [Act.put, List.setIfInBounds_toArray, List.set_cons_zero, List.set_cons_succ]
          refine tk13 (v := ?_) (by kernel_rfl) (by kernel_rfl) (by kernel_rfl) (by first | exact fun _ _ _ h => h | exact fun _ _ _ h => absurd h.1 (by simp)) (Or.inl ⟨by rfl, ?_⟩) (by assumption) ?_
          rotate_left 1
          focus (intro wx hSw; (try dsimp only at hSw); go_simp; try (with_reducible rfl))
          try simp only [Act.put, List.setIfInBounds_toArray, List.set_cons_zero, List.set_cons_succ]
          refine wpAnyH_done (by kernel_rfl) ?_ _
          go_wp2_with fail
          go_meet
          case rel => exact ⟨Q22.heap.size, wa, wk, wb, wl, rfl, hBB, zX, q0, q1, HX.out, rfl, belX⟩
        refine ar11 (fun K hK => ?_) AllReadyH.nil
        go_simp
        have hbb : Below Q21.heap.size Q21 (Q21.alloc (.cells #[.slice none 0 0, .slice none 0 0] 38)) := (Below.refl _ _).alloc (Nat.le_refl _) _
        have g0_27 : (Q21.alloc (.cells #[.slice none 0 0, .slice none 0 0] 38)).cell? ⟨Q21.heap.size, 0, none⟩ = some (.slice none 0 0) := by simp
        have g1_27 : (Q21.alloc (.cells #[.slice none 0 0, .slice none 0 0] 38)).cell? ⟨Q21.heap.size, 1, none⟩ = some (.slice none 0 0) := by simp
        have gf0_27 : (Q21.alloc (.cells #[.slice none 0 0, .slice none 0 0] 38)).frozen? ⟨Q21.heap.size, 0, none⟩ = false := by simp
        have gf1_27 : (Q21.alloc (.cells #[.slice none 0 0, .slice none 0 0] 38)).frozen? ⟨Q21.heap.size, 1, none⟩ = false := by simp
        have zg_27 : Q21.heap.size < (Q21.alloc (.cells #[.slice none 0 0, .slice none 0 0] 38)).heap.size := by simp
        generalize Q21.alloc (.cells #[.slice none 0 0, .slice none 0 0] 38) = Q27 at hbb g0_27 g1_27 gf0_27 gf1_27 zg_27 ⊢
        have bel_27 := bel_21.trans (hbb.mono bel_21.size)
        have hA6_27 := six_carry hA6_21 (Carries.of 0 hbb)
        have H2_27 := Lib.hid (H2_21.out.keep (Carries.of _ hbb))
        have H3_27 := Lib.hid (H3_21.out.keep (Carries.of _ hbb))
        clear hbb
        refine hK.out _ _ hA6_27 (fun hHeld => ?_)
        clear hK K
        try simp only [Act.put, List.setIfInBounds_toArray, List.set_cons_zero, List.set_cons_succ]
        refine rd6 (by kernel_rfl) (fun K hK => ?_)
        go_simp
        refine (toEvent_any t _ L Q27 lo (HVL.out.keep (Carries.of lo (hw20.trans (bel_27.mono hw20.size)))) HLL.out).mono ?_
        rintro e Q28 ⟨vi, rfl, hi2, hbb⟩
        have bel_28 := bel_27.trans (hbb.mono bel_27.size)
        have hA6_28 := six_carry hA6_27 (Carries.of 0 hbb)
        have g0_28 := cell_carry g0_27 (Carries.of 0 hbb)
        have g1_28 := cell_carry g1_27 (Carries.of 0 hbb)
        have gf0_28 := (hbb.frozen (p := ⟨Q21.heap.size, 0, none⟩) (by simp; exact zg_27)).trans gf0_27
        have gf1_28 := (hbb.frozen (p := ⟨Q21.heap.size, 1, none⟩) (by simp; exact zg_27)).trans gf1_27
        have zg_28 : Q21.heap.size < Q28.heap.size := Nat.lt_of_lt_of_le zg_27 hbb.size
        have H2_28 := Lib.hid (H2_27.out.keep (Carries.of _ hbb))
        have H3_28 := Lib.hid (H3_27.out.keep (Carries.of _ hbb))
        have H4_28 := Lib.hid (hi2.low (Nat.zero_le _)); clear hi2
        clear hbb
        refine hK.out _ _ hA6_28 (fun hHeld => ?_)
        clear hK K
        try simp only [Act.put, List.setIfInBounds_toArray, List.set_cons_zero, List.set_cons_succ]
        refine rd7 (by kernel_rfl) (fun K hK => ?_)
        go_simp
        refine (AppendEvent_any _ n s _ u t _ L Q28 0 0 0 H2_28.out H3_28.out H4_28.out HS.out HSU.out HLL.out hz_s).mono ?_
        rintro e Q29 ⟨va, vb, rfl, hpc, hpe, hbb⟩
        have hiw : UnfAt Q28.heap.size Q29 (.agg #[va, vb]) (apV n s u t L) := ApAt.at ⟨va, vb, rfl, hpc, hpe⟩
        obtain ⟨wa, wk, rfl⟩ := hpc.form
        obtain ⟨wb, wl, rfl⟩ := hpe.form
        clear hpc hpe
        rw [← HVV.out] at hiw ⊢
        rw [← HGG.out]
        rw [← HXC.out, ← HXE.out] at hiw ⊢
        have bel_29 := bel_28.trans (hbb.mono bel_28.size)
        have hA6_29 := six_carry hA6_28 (Carries.of 0 hbb)
        have g0_29 := cell_carry g0_28 (Carries.of 0 hbb)
        have g1_29 := cell_carry g1_28 (Carries.of 0 hbb)
        have gf0_29 := (hbb.frozen (p := ⟨Q21.heap.size, 0, none⟩) (by simp; exact zg_28)).trans gf0_28
        have gf1_29 := (hbb.frozen (p := ⟨Q21.heap.size, 1, none⟩) (by simp; exact zg_28)).trans gf1_28
        have zg_29 : Q21.heap.size < Q29.heap.size := Nat.lt_of_lt_of_le zg_28 hbb.size
        have HA_29 := Lib.hid hiw; clear hiw
        clear hbb
        refine hK.out _ _ hA6_29 (fun hHeld => ?_)
        clear hK K
        try simp only [Act.put, List.setIfInBounds_toArray, List.set_cons_zero, List.set_cons_succ]
        refine tk8 (v := ?_) (by kernel_rfl) (by kernel_rfl) (by kernel_rfl) (by first | exact fun _ _ _ h => h | exact fun _ _ _ h => absurd h.1 (by simp)) (Or.inl ⟨by rfl, ?_⟩) (by assumption) ?_
        rotate_left 1
        focus (intro wx hSw; (try dsimp only at hSw); go_simp; try (with_reducible rfl))
        try simp only [Act.put, List.setIfInBounds_toArray, List.set_cons_zero, List.set_cons_succ]
        refine tk9 (v := ?_) (by kernel_rfl) (by kernel_rfl) (by kernel_rfl) (by first | exact fun _ _ _ h => h | exact fun _ _ _ h => absurd h.1 (by simp)) (Or.inl ⟨by rfl, ?_⟩) (by assumption) ?_
        rotate_left 1
        focus (intro wx hSw; (try dsimp only at hSw); go_simp; try (with_reducible rfl))
        try simp only [Act.put, List.setIfInBounds_toArray, List.set_cons_zero, List.set_cons_succ]
        refine tk10 (v := ?_) (by kernel_rfl) (by kernel_rfl) (by kernel_rfl) (by first | exact fun _ _ _ h => h | exact fun _ _ _ h => absurd h.1 (by simp)) (Or.inl ⟨by rfl, ?_⟩) (by assumption) ?_
        rotate_left 1
        focus (intro wx hSw; (try dsimp only at hSw); go_simp; try (with_reducible rfl))
        try simp only [Act.put, List.setIfInBounds_toArray, List.set_cons_zero, List.set_cons_succ]
        refine rd12 (by kernel_rfl) (fun K hK => ?_)
        go_simp
        generalize hWX : (Q29.setCell ⟨Q21.heap.size, 0, none⟩ (.slice wa xc wk)).setCell ⟨Q21.heap.size, 1, none⟩ (.slice wb xe wl) = X
        obtain ⟨q0, q1, qz, qb, qc⟩ := put2 hWX g0_29 g1_29
        clear hWX
        have hBB : w20.heap.size ≤ Q21.heap.size := bel_21.size
        have belX := qb _ _ bel_29 hBB
        have HX := Lib.hid ((HA_29.out.keep (qc _ zg_28)).low bel_28.size)
        have zX : Q21.heap.size < X.heap.size := by rw [qz]; exact zg_29
        have hA6_X := six_carry hA6 (Carries.of 0 belX)
        refine hK.out _ _ hA6_X (fun hHeld => ?_)
        clear hK K
        try simp only [Act.put, List.setIfInBounds_toArray, List.set_cons_zero, List.set_cons_succ]
        refine tk13 (v := ?_) (by kernel_rfl) (by kernel_rfl) (by kernel_rfl) (by first | exact fun _ _ _ h => h | exact fun _ _ _ h => absurd h.1 (by simp)) (Or.inl ⟨by rfl, ?_⟩) (by assumption) ?_
        rotate_left 1
        focus (intro wx hSw; (try dsimp only at hSw); go_simp; try (with_reducible rfl))
        try simp only [Act.put, List.setIfInBounds_toArray, List.set_cons_zero, List.set_cons_succ]
        refine wpAnyH_done (by kernel_rfl) ?_ _
        go_wp2_with fail
        go_meet
        case rel => exact ⟨Q21.heap.size, wa, wk, wb, wl, rfl, hBB, zX, q0, q1, HX.out, rfl, belX⟩
      refine ar11 (fun K hK => ?_) AllReadyH.nil
      go_simp
      have hbb : Below Q20.heap.size Q20 (Q20.alloc (.cells #[.slice none 0 0, .slice none 0 0] 38)) := (Below.refl _ _).alloc (Nat.le_refl _) _
      have g0_30 : (Q20.alloc (.cells #[.slice none 0 0, .slice none 0 0] 38)).cell? ⟨Q20.heap.size, 0, none⟩ = some (.slice none 0 0) := by simp
      have g1_30 : (Q20.alloc (.cells #[.slice none 0 0, .slice none 0 0] 38)).cell? ⟨Q20.heap.size, 1, none⟩ = some (.slice none 0 0) := by simp
      have gf0_30 : (Q20.alloc (.cells #[.slice none 0 0, .slice none 0 0] 38)).frozen? ⟨Q20.heap.size, 0, none⟩ = false := by simp
      have gf1_30 : (Q20.alloc (.cells #[.slice none 0 0, .slice none 0 0] 38)).frozen? ⟨Q20.heap.size, 1, none⟩ = false := by simp
      have zg_30 : Q20.heap.size < (Q20.alloc (.cells #[.slice none 0 0, .slice none 0 0] 38)).heap.size := by simp
      generalize Q20.alloc (.cells #[.slice none 0 0, .slice none 0 0] 38) = Q30 at hbb g0_30 g1_30 gf0_30 gf1_30 zg_30 ⊢
      have bel_30 := bel_20.trans (hbb.mono bel_20.size)
      have hA6_30 := six_carry hA6_20 (Carries.of 0 hbb)
      have H2_30 := Lib.hid (H2_20.out.keep (Carries.of _ hbb))
      clear hbb
      refine hK.out _ _ hA6_30 (fun hHeld => ?_)
      clear hK K
      try simp only [Act.put, List.setIfInBounds_toArray, List.set_cons_zero, List.set_cons_succ]
      refine rd4 (by kernel_rfl) (fun K hK => ?_)
      go_simp
      refine (toUnfolding_any _ u Q30 lo (HVU.out.keep (Carries.of lo (hw20.trans (bel_30.mono hw20.size)))) HSU.out).mono ?_
      rintro e Q31 ⟨vq, rfl, hu2, hbb⟩
      have bel_31 := bel_30.trans (hbb.mono bel_30.size)
      have hA6_31 := six_carry hA6_30 (Carries.of 0 hbb)
      have g0_31 := cell_carry g0_30 (Carries.of 0 hbb)
      have g1_31 := cell_carry g1_30 (Carries.of 0 hbb)
      have gf0_31 := (hbb.frozen (p := ⟨Q20.heap.size, 0, none⟩) (by simp; exact zg_30)).trans gf0_30
      have gf1_31 := (hbb.frozen (p := ⟨Q20.heap.size, 1, none⟩) (by simp; exact zg_30)).trans gf1_30
      have zg_31 : Q20.heap.size < Q31.heap.size := Nat.lt_of_lt_of_le zg_30 hbb.size
      have H2_31 := Lib.hid (H2_30.out.keep (Carries.of _ hbb))
      have H3_31 := Lib.hid (hu2.low (Nat.zero_le _)); clear hu2
      clear hbb
      refine hK.out _ _ hA6_31 (fun hHeld => ?_)
      clear hK K
      try simp only [Act.put, List.setIfInBounds_toArray, List.set_cons_zero, List.set_cons_succ]
      refine rd6 (by kernel_rfl) (fun K hK => ?_)
      go_simp
      refine (toEvent_any t _ L Q31 lo (HVL.out.keep (Carries.of lo (hw20.trans (bel_31.mono hw20.size)))) HLL.out).mono ?_
      rintro e Q32 ⟨vi, rfl, hi2, hbb⟩
      have bel_32 := bel_31.trans (hbb.mono bel_31.size)
      have hA6_32 := six_carry hA6_31 (Carries.of 0 hbb)
      have g0_32 := cell_carry g0_31 (Carries.of 0 hbb)
      have g1_32 := cell_carry g1_31 (Carries.of 0 hbb)
      have gf0_32 := (hbb.frozen (p := ⟨Q20.heap.size, 0, none⟩) (by simp; exact zg_31)).trans gf0_31
      have gf1_32 := (hbb.frozen (p := ⟨Q20.heap.size, 1, none⟩) (by simp; exact zg_31)).trans gf1_31
      have zg_32 : Q20.heap.size < Q32.heap.size := Nat.lt_of_lt_of_le zg_31 hbb.size
      have H2_32 := Lib.hid (H2_31.out.keep (Carries.of _ hbb))
      have H3_32 := Lib.hid (H3_31.out.keep (Carries.of _ hbb))
      have H4_32 := Lib.hid (hi2.low (Nat.zero_le _)); clear hi2
      clear hbb
      refine hK.out _ _ hA6_32 (fun hHeld => ?_)
      clear hK K
      try simp only [Act.put, List.setIfInBounds_toArray, List.set_cons_zero, List.set_cons_succ]
      refine rd7 (by kernel_rfl) (fun K hK => ?_)
      go_simp
      refine (AppendEvent_any _ n s _ u t _ L Q32 0 0 0 H2_32.out H3_32.out H4_32.out HS.out HSU.out HLL.out hz_s).mono ?_
      rintro e Q33 ⟨va, vb, rfl, hpc, hpe, hbb⟩
      have hiw : UnfAt Q32.heap.size Q33 (.agg #[va, vb]) (apV n s u t L) := ApAt.at ⟨va, vb, rfl, hpc, hpe⟩
      obtain ⟨wa, wk, rfl⟩ := hpc.form
      obtain ⟨wb, wl, rfl⟩ := hpe.form
      clear hpc hpe
      rw [← HVV.out] at hiw ⊢
      rw [← HGG.out]
      rw [← HXC.out, ← HXE.out] at hiw ⊢
      have bel_33 := bel_32.trans (hbb.mono bel_32.size)
      have hA6_33 := six_carry hA6_32 (Carries.of 0 hbb)
      have g0_33 := cell_carry g0_32 (Carries.of 0 hbb)
      have g1_33 := cell_carry g1_32 (Carries.of 0 hbb)
      have gf0_33 := (hbb.frozen (p := ⟨Q20.heap.size, 0, none⟩) (by simp; exact zg_32)).trans gf0_32
      have gf1_33 := (hbb.frozen (p := ⟨Q20.heap.size, 1, none⟩) (by simp; exact zg_32)).trans gf1_32
      have zg_33 : Q20.heap.size < Q33.heap.size := Nat.lt_of_lt_of_le zg_32 hbb.size
      have HA_33 := Lib.hid hiw; clear hiw
      clear hbb
      refine hK.out _ _ hA6_33 (fun hHeld => ?_)
      clear hK K
      try simp only [Act.put, List.setIfInBounds_toArray, List.set_cons_zero, List.set_cons_succ]
      refine tk8 (v := ?_) (by kernel_rfl) (by kernel_rfl) (by kernel_rfl) (by first | exact fun _ _ _ h => h | exact fun _ _ _ h => absurd h.1 (by simp)) (Or.inl ⟨by rfl, ?_⟩) (by assumption) ?_
      rotate_left 1
      focus (intro wx hSw; (try dsimp only at hSw); go_simp; try (with_reducible rfl))
      try simp only [Act.put, List.setIfInBounds_toArray, List.set_cons_zero, List.set_cons_succ]
      refine tk9 (v := ?_) (by kernel_rfl) (by kernel_rfl) (by kernel_rfl) (by first | exact fun _ _ _ h => h | exact fun _ _ _ h => absurd h.1 (by simp)) (Or.inl ⟨by rfl, ?_⟩) (by assumption) ?_
      rotate_left 1
      focus (intro wx hSw; (try dsimp only at hSw); go_simp; try (with_reducible rfl))
      try simp only [Act.put, List.setIfInBounds_toArray, List.set_cons_zero, List.set_cons_succ]
      refine tk10 (v := ?_) (by kernel_rfl) (by kernel_rfl) (by kernel_rfl) (by first | exact fun _ _ _ h => h | exact fun _ _ _ h => absurd h.1 (by simp)) (Or.inl ⟨by rfl, ?_⟩) (by assumption) ?_
      rotate_left 1
      focus (intro wx hSw; (try dsimp only at hSw); go_simp; try (with_reducible rfl))
      try simp only [Act.put, List.setIfInBounds_toArray, List.set_cons_zero, List.set_cons_succ]
      refine rd12 (by kernel_rfl) (fun K hK => ?_)
      go_simp
      generalize hWX : (Q33.setCell ⟨Q20.heap.size, 0, none⟩ (.slice wa xc wk)).setCell ⟨Q20.heap.size, 1, none⟩ (.slice wb xe wl) = X
      obtain ⟨q0, q1, qz, qb, qc⟩ := put2 hWX g0_33 g1_33
      clear hWX
      have hBB : w20.heap.size ≤ Q20.heap.size := bel_20.size
      have belX := qb _ _ bel_33 hBB
      have HX := Lib.hid ((HA_33.out.keep (qc _ zg_32)).low bel_32.size)
      have zX : Q20.heap.size < X.heap.size := by rw [qz]; exact zg_33
      have hA6_X := six_carry hA6 (Carries.of 0 belX)
      refine hK.out _ _ hA6_X (fun hHeld => ?_)
      clear hK K
      try simp only [Act.put, List.setIfInBounds_toArray, List.set_cons_zero, List.set_cons_succ]
      refine tk13 (v := ?_) (by kernel_rfl) (by kernel_rfl) (by kernel_rfl) (by first | exact fun _ _ _ h => h | exact fun _ _ _ h => absurd h.1 (by simp)) (Or.inl ⟨by rfl, ?_⟩) (by assumption) ?_
      rotate_left 1
      focus (intro wx hSw; (try dsimp only at hSw); go_simp; try (with_reducible rfl))
      try simp only [Act.put, List.setIfInBounds_toArray, List.set_cons_zero, List.set_cons_succ]
      refine wpAnyH_done (by kernel_rfl) ?_ _
      go_wp2_with fail
      go_meet
      case rel => exact ⟨Q20.heap.size, wa, wk, wb, wl, rfl, hBB, zX, q0, q1, HX.out, rfl, belX⟩
    refine ar11 (fun K hK => ?_) AllReadyH.nil
    go_simp
    have hbb : Below Q0.heap.size Q0 (Q0.alloc (.cells #[.slice none 0 0, .slice none 0 0] 38)) := (Below.refl _ _).alloc (Nat.le_refl _) _
    have g0_34 : (Q0.alloc (.cells #[.slice none 0 0, .slice none 0 0] 38)).cell? ⟨Q0.heap.size, 0, none⟩ = some (.slice none 0 0) := by simp
    have g1_34 : (Q0.alloc (.cells #[.slice none 0 0, .slice none 0 0] 38)).cell? ⟨Q0.heap.size, 1, none⟩ = some (.slice none 0 0) := by simp
    have gf0_34 : (Q0.alloc (.cells #[.slice none 0 0, .slice none 0 0] 38)).frozen? ⟨Q0.heap.size, 0, none⟩ = false := by simp
    have gf1_34 : (Q0.alloc (.cells #[.slice none 0 0, .slice none 0 0] 38)).frozen? ⟨Q0.heap.size, 1, none⟩ = false := by simp
    have zg_34 : Q0.heap.size < (Q0.alloc (.cells #[.slice none 0 0, .slice none 0 0] 38)).heap.size := by simp
    generalize Q0.alloc (.cells #[.slice none 0 0, .slice none 0 0] 38) = Q34 at hbb g0_34 g1_34 gf0_34 gf1_34 zg_34 ⊢
    have bel_34 := bel_0.trans (hbb.mono bel_0.size)
    have hA6_34 := six_carry hA6_0 (Carries.of 0 hbb)
    clear hbb
    refine hK.out _ _ hA6_34 (fun hHeld => ?_)
    clear hK K
    try simp only [Act.put, List.setIfInBounds_toArray, List.set_cons_zero, List.set_cons_succ]
    refine rd1 (by kernel_rfl) (fun K hK => ?_)
    go_simp
    refine (toNet_any _ n Q34 lo (HV.out.keep (Carries.of lo (hw20.trans (bel_34.mono hw20.size)))) HS.out).mono ?_
    rintro e Q35 ⟨vn, rfl, hn2, hbb⟩
    have bel_35 := bel_34.trans (hbb.mono bel_34.size)
    have hA6_35 := six_carry hA6_34 (Carries.of 0 hbb)
    have g0_35 := cell_carry g0_34 (Carries.of 0 hbb)
    have g1_35 := cell_carry g1_34 (Carries.of 0 hbb)
    have gf0_35 := (hbb.frozen (p := ⟨Q0.heap.size, 0, none⟩) (by simp; exact zg_34)).trans gf0_34
    have gf1_35 := (hbb.frozen (p := ⟨Q0.heap.size, 1, none⟩) (by simp; exact zg_34)).trans gf1_34
    have zg_35 : Q0.heap.size < Q35.heap.size := Nat.lt_of_lt_of_le zg_34 hbb.size
    have H2_35 := Lib.hid (hn2.low (Nat.zero_le _)); clear hn2
    clear hbb
    refine hK.out _ _ hA6_35 (fun hHeld => ?_)
    clear hK K
    try simp only [Act.put, List.setIfInBounds_toArray, List.set_cons_zero, List.set_cons_succ]
    refine rd4 (by kernel_rfl) (fun K hK => ?_)
    go_simp
    refine (toUnfolding_any _ u Q35 lo (HVU.out.keep (Carries.of lo (hw20.trans (bel_35.mono hw20.size)))) HSU.out).mono ?_
    rintro e Q36 ⟨vq, rfl, hu2, hbb⟩
    have bel_36 := bel_35.trans (hbb.mono bel_35.size)
    have hA6_36 := six_carry hA6_35 (Carries.of 0 hbb)
    have g0_36 := cell_carry g0_35 (Carries.of 0 hbb)
    have g1_36 := cell_carry g1_35 (Carries.of 0 hbb)
    have gf0_36 := (hbb.frozen (p := ⟨Q0.heap.size, 0, none⟩) (by simp; exact zg_35)).trans gf0_35
    have gf1_36 := (hbb.frozen (p := ⟨Q0.heap.size, 1, none⟩) (by simp; exact zg_35)).trans gf1_35
    have zg_36 : Q0.heap.size < Q36.heap.size := Nat.lt_of_lt_of_le zg_35 hbb.size
    have H2_36 := Lib.hid (H2_35.out.keep (Carries.of _ hbb))
    have H3_36 := Lib.hid (hu2.low (Nat.zero_le _)); clear hu2
    clear hbb
    refine hK.out _ _ hA6_36 (fun hHeld => ?_)
    clear hK K
    try simp only [Act.put, List.setIfInBounds_toArray, List.set_cons_zero, List.set_cons_succ]
    refine rd6 (by kernel_rfl) (fun K hK => ?_)
    go_simp
    refine (toEvent_any t _ L Q36 lo (HVL.out.keep (Carries.of lo (hw20.trans (bel_36.mono hw20.size)))) HLL.out).mono ?_
    rintro e Q37 ⟨vi, rfl, hi2, hbb⟩
    have bel_37 := bel_36.trans (hbb.mono bel_36.size)
    have hA6_37 := six_carry hA6_36 (Carries.of 0 hbb)
    have g0_37 := cell_carry g0_36 (Carries.of 0 hbb)
    have g1_37 := cell_carry g1_36 (Carries.of 0 hbb)
    have gf0_37 := (hbb.frozen (p := ⟨Q0.heap.size, 0, none⟩) (by simp; exact zg_36)).trans gf0_36
    have gf1_37 := (hbb.frozen (p := ⟨Q0.heap.size, 1, none⟩) (by simp; exact zg_36)).trans gf1_36
    have zg_37 : Q0.heap.size < Q37.heap.size := Nat.lt_of_lt_of_le zg_36 hbb.size
    have H2_37 := Lib.hid (H2_36.out.keep (Carries.of _ hbb))
    have H3_37 := Lib.hid (H3_36.out.keep (Carries.of _ hbb))
    have H4_37 := Lib.hid (hi2.low (Nat.zero_le _)); clear hi2
    clear hbb
    refine hK.out _ _ hA6_37 (fun hHeld => ?_)
    clear hK K
    try simp only [Act.put, List.setIfInBounds_toArray, List.set_cons_zero, List.set_cons_succ]
    refine rd7 (by kernel_rfl) (fun K hK => ?_)
    go_simp
    refine (AppendEvent_any _ n s _ u t _ L Q37 0 0 0 H2_37.out H3_37.out H4_37.out HS.out HSU.out HLL.out hz_s).mono ?_
    rintro e Q38 ⟨va, vb, rfl, hpc, hpe, hbb⟩
    have hiw : UnfAt Q37.heap.size Q38 (.agg #[va, vb]) (apV n s u t L) := ApAt.at ⟨va, vb, rfl, hpc, hpe⟩
    obtain ⟨wa, wk, rfl⟩ := hpc.form
    obtain ⟨wb, wl, rfl⟩ := hpe.form
    clear hpc hpe
    rw [← HVV.out] at hiw ⊢
    rw [← HGG.out]
    rw [← HXC.out, ← HXE.out] at hiw ⊢
    have bel_38 := bel_37.trans (hbb.mono bel_37.size)
    have hA6_38 := six_carry hA6_37 (Carries.of 0 hbb)
    have g0_38 := cell_carry g0_37 (Carries.of 0 hbb)
    have g1_38 := cell_carry g1_37 (Carries.of 0 hbb)
    have gf0_38 := (hbb.frozen (p := ⟨Q0.heap.size, 0, none⟩) (by simp; exact zg_37)).trans gf0_37
    have gf1_38 := (hbb.frozen (p := ⟨Q0.heap.size, 1, none⟩) (by simp; exact zg_37)).trans gf1_37
    have zg_38 : Q0.heap.size < Q38.heap.size := Nat.lt_of_lt_of_le zg_37 hbb.size
    have HA_38 := Lib.hid hiw; clear hiw
    clear hbb
    refine hK.out _ _ hA6_38 (fun hHeld => ?_)
    clear hK K
    try simp only [Act.put, List.setIfInBounds_toArray, List.set_cons_zero, List.set_cons_succ]
    refine tk8 (v := ?_) (by kernel_rfl) (by kernel_rfl) (by kernel_rfl) (by first | exact fun _ _ _ h => h | exact fun _ _ _ h => absurd h.1 (by simp)) (Or.inl ⟨by rfl, ?_⟩) (by assumption) ?_
    rotate_left 1
    focus (intro wx hSw; (try dsimp only at hSw); go_simp; try (with_reducible rfl))
    try simp only [Act.put, List.setIfInBounds_toArray, List.set_cons_zero, List.set_cons_succ]
    refine tk9 (v := ?_) (by kernel_rfl) (by kernel_rfl) (by kernel_rfl) (by first | exact fun _ _ _ h => h | exact fun _ _ _ h => absurd h.1 (by simp)) (Or.inl ⟨by rfl, ?_⟩) (by assumption) ?_
    rotate_left 1
    focus (intro wx hSw; (try dsimp only at hSw); go_simp; try (with_reducible rfl))
    try simp only [Act.put, List.setIfInBounds_toArray, List.set_cons_zero, List.set_cons_succ]
    refine tk10 (v := ?_) (by kernel_rfl) (by kernel_rfl) (by kernel_rfl) (by first | exact fun _ _ _ h => h | exact fun _ _ _ h => absurd h.1 (by simp)) (Or.inl ⟨by rfl, ?_⟩) (by assumption) ?_
    rotate_left 1
    focus (intro wx hSw; (try dsimp only at hSw); go_simp; try (with_reducible rfl))
    try simp only [Act.put, List.setIfInBounds_toArray, List.set_cons_zero, List.set_cons_succ]
    refine rd12 (by kernel_rfl) (fun K hK => ?_)
    go_simp
    generalize hWX : (Q38.setCell ⟨Q0.heap.size, 0, none⟩ (.slice wa xc wk)).setCell ⟨Q0.heap.size, 1, none⟩ (.slice wb xe wl) = X
    obtain ⟨q0, q1, qz, qb, qc⟩ := put2 hWX g0_38 g1_38
    clear hWX
    have hBB : w20.heap.size ≤ Q0.heap.size := bel_0.size
    have belX := qb _ _ bel_38 hBB
    have HX := Lib.hid ((HA_38.out.keep (qc _ zg_37)).low bel_37.size)
    have zX : Q0.heap.size < X.heap.size := by rw [qz]; exact zg_38
    have hA6_X := six_carry hA6 (Carries.of 0 belX)
    refine hK.out _ _ hA6_X (fun hHeld => ?_)
    clear hK K
    try simp only [Act.put, List.setIfInBounds_toArray, List.set_cons_zero, List.set_cons_succ]
    refine tk13 (v := ?_) (by kernel_rfl) (by kernel_rfl) (by kernel_rfl) (by first | exact fun _ _ _ h => h | exact fun _ _ _ h => absurd h.1 (by simp)) (Or.inl ⟨by rfl, ?_⟩) (by assumption) ?_
    rotate_left 1
    focus (intro wx hSw; (try dsimp only at hSw); go_simp; try (with_reducible rfl))
    try simp only [Act.put, List.setIfInBounds_toArray, List.set_cons_zero, List.set_cons_succ]
    refine wpAnyH_done (by kernel_rfl) ?_ _
    go_wp2_with fail
    go_meet
    case rel => exact ⟨Q0.heap.size, wa, wk, wb, wl, rfl, hBB, zX, q0, q1, HX.out, rfl, belX⟩
  case rest =>
  obtain ⟨gh, ha, hk, hb_, hl, rfl, hgh, hghz, h0_, h1_, hih, rfl, hb21⟩ := hcut
  obtain ⟨w21, hw21e⟩ : ∃ x, x = wc := ⟨_, rfl⟩
  subst hw21e
  have hw21 : Below w.heap.size w w21 := hw20.trans (hb21.mono hw20.size)
  have m0 := cell_carry m0 (Carries.of 0 hb21)
  have m1 := cell_carry m1 (Carries.of 0 hb21)
  have g0 := cell_carry g0 (Carries.of 0 hb21)
  have g1 := cell_carry g1 (Carries.of 0 hb21)
  have HAG7 := Lib.hid (HAG7.out.trans (Agr.below hb21 (by omega)))
  have HMK := Lib.hid (HMK.out.keep (Carries.of _ hb21))
  have HIH := Lib.hid hih
  clear hb21 hih a0_ a1_ a2_ a3_ a4_ a5_
  have hne0 : (G != G) = false := by simp
  go_wp2_with fail
  refine (eqUnfolding_any _ _ V V w21 _ _ HIH.out (HW3.out.keep HAG7.out.carries) HVS.out.1 HVS.out.1).mono ?_
  rintro e w22 ⟨rfl, hb⟩
  rw [eqUnfB_self]
  have hw22 : Below w.heap.size w w22 := hw21.trans (hb.mono hw21.size)
  have g0 := cell_carry g0 (Carries.of 0 hb)
  have g1 := cell_carry g1 (Carries.of 0 hb)
  have HMK := Lib.hid (HMK.out.keep (Carries.of _ hb))
  clear hb m0 m1 h0_ h1_
  go_wp2_with fail
  refine (heldUnfolding_any _ V xc 1 w22 _ V.es (by have h := HMK.out; rw [← HXC.out] at h; exact h) (by rw [HXC.out]; exact hxc1) HVS.out.1.2 (by omega) (by omega)).mono ?_
  rintro e w23 ⟨rfl, hb⟩
  have hqe : (1 : Int) + 2 * (xc : Int) + (totE V.es V.es.length : Nat) = q := by rw [HQ.out, HXC.out]
  rw [hqe]
  have hw23 : Below w.heap.size w w23 := hw22.trans (hb.mono hw22.size)
  clear hb hqe
  go_wp2_with fail
  go_ret
  exact ⟨rfl, hw23⟩

end Go.Proofs.YtigkgfdnnfmmmaaGreat
