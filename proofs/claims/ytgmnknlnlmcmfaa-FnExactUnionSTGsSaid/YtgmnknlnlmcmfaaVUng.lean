/- WALK: UnionNets of the model. -/
import Derived.Test.YtgmnknlnlmcmfaaVUnf
import Derived.Test.YtgmnknlnlmcmfaaVUnd
namespace Go.Proofs.Ytgmnknlnlmcmfaa
open Go.RowKit

set_option maxRecDepth 100000 in
set_option maxHeartbeats 4000000 in
theorem specUnionNets_any (va vb : Value) (a b : NetD) (w : World) (lo : Nat) (hva : NetAt lo w va a) (hsa : SmallTrs a.ts) (hvb : NetAt lo w vb b) (hsb : SmallTrs b.ts) :
    Calls Try.prog 80 #[va, vb] w (RetNB w (unR a b) (unB a b)) := by
  generalize hFL : unR a b = RN
  generalize hFB : unB a b = B
  have HFL := Lib.hid hFL; clear hFL
  have HFB := Lib.hid hFB; clear hFB
  obtain ⟨_, _, _, rfl, hta⟩ := id hva
  obtain ⟨_, _, _, rfl, htb⟩ := id hvb
  obtain ⟨aa, ka, rfl, _, _⟩ := id hta
  obtain ⟨ab, kb, rfl, _, _⟩ := id htb
  obtain ⟨p, hp⟩ : ∃ p, p = a.places := ⟨_, rfl⟩
  obtain ⟨ts, hts⟩ : ∃ ts, ts = a.ts := ⟨_, rfl⟩
  obtain ⟨q, hq⟩ : ∃ q, q = b.places := ⟨_, rfl⟩
  obtain ⟨us, hus⟩ : ∃ us, us = b.ts := ⟨_, rfl⟩
  rw [← hp, ← hts] at hva ⊢
  rw [← hq, ← hus] at hvb ⊢
  rw [← hts] at hta
  rw [← hus] at htb
  have HPA := Lib.hid hp; clear hp
  have HTA := Lib.hid hts; clear hts
  have HPB := Lib.hid hq; clear hq
  have HTB := Lib.hid hus; clear hus
  have HVA := Lib.hid hva; clear hva
  have HVB := Lib.hid hvb; clear hvb
  have HA := Lib.hid hta; clear hta
  have HB := Lib.hid htb; clear htb
  have HSA := Lib.hid hsa; clear hsa
  have HSB := Lib.hid hsb; clear hsb
  go_enter Try.func80, Try.ntmps80
  go_wp2_with fail
  refine (l1Good_any _ a _ lo (HVA.out.keep ?_) HSA.out).mono ?_
  · (repeat' (first | (with_reducible exact Carries.refl _ _) | (with_reducible assumption) | (with_reducible refine Carries.alloc ?_ _) | (with_reducible refine Carries.drew ?_) | (with_reducible refine Carries.drewN ?_ _) | (with_reducible refine Carries.set ?_ ?_ _) | go_size))
  rintro e w1 ⟨rfl, hb⟩
  have hw1 : Below w.heap.size w w1 := by
    refine Below.trans ?_ (hb.mono ?_)
    · (repeat' (first | (with_reducible exact Below.refl _ _) | (with_reducible assumption) | (with_reducible refine Below.alloc ?_ ?_ _) | (with_reducible refine Below.drew ?_) | (with_reducible refine below_drewN ?_ _) | (with_reducible refine Below.setCell ?_ ?_ _) | go_size))
    · simp; omega
  have a0 : w1.cell? ⟨w.heap.size, 0, none⟩ = some (.int .i64 p) := cell_carry (by simp [go_sem]) (Carries.of 0 hb)
  have a1 : w1.cell? ⟨w.heap.size, 1, none⟩ = some (.slice aa ts.length ka) := cell_carry (by simp [go_sem]) (Carries.of 0 hb)
  have b0 : w1.cell? ⟨w.heap.size + 1, 0, none⟩ = some (.int .i64 q) := cell_carry (by simp [go_sem]) (Carries.of 0 hb)
  have b1 : w1.cell? ⟨w.heap.size + 1, 1, none⟩ = some (.slice ab us.length kb) := cell_carry (by simp [go_sem]) (Carries.of 0 hb)
  have r0 : w1.cell? ⟨w.heap.size + 2, 0, none⟩ = some (.int .i64 0) := cell_carry (by simp [go_sem]) (Carries.of 0 hb)
  have r1 : w1.cell? ⟨w.heap.size + 2, 1, none⟩ = some (.slice none 0 0) := cell_carry (by simp [go_sem]) (Carries.of 0 hb)
  have rf0 : w1.frozen? ⟨w.heap.size + 2, 0, none⟩ = false := (hb.frozen (by simp)).trans (by simp [go_sem])
  have rf1 : w1.frozen? ⟨w.heap.size + 2, 1, none⟩ = false := (hb.frozen (by simp)).trans (by simp [go_sem])
  have z1 : w.heap.size + 2 < w1.heap.size := by have := hb.size; simp at this; omega
  clear hb
  cases hg : goodN a with
  | false =>
    have hcf : unB a b = false := by unfold unB; rw [hg]; rfl
    have k1 : unR a b = ⟨0, []⟩ := by unfold unR; rw [hcf]; rfl
    rw [HFL.out] at k1
    rw [HFB.out] at hcf
    subst k1; subst hcf
    clear hg
    go_wp2_with fail
    refine bodyPost_ret (v := .tuple #[.agg #[.int .i64 0, .slice none 0 0], .bool false]) (by simp [results, Try.results80, go_sem, r0, r1]) rfl ?_
    refine ⟨_, rfl, ⟨none, 0, rfl, Nat.le_refl _, Or.inl rfl⟩, ?_⟩
    (repeat' (first | (with_reducible exact Below.refl _ _) | (with_reducible assumption) | (with_reducible refine Below.alloc ?_ ?_ _) | (with_reducible refine Below.drew ?_) | (with_reducible refine below_drewN ?_ _) | (with_reducible refine Below.setCell ?_ ?_ _) | go_size))
  | true =>
  have HGA := Lib.hid hg; clear hg
  go_wp2_with fail
  refine (l1Good_any _ b _ lo (HVB.out.keep ?_) HSB.out).mono ?_
  · exact Carries.of lo hw1
  rintro e w2 ⟨rfl, hb⟩
  have hw2 : Below w.heap.size w w2 := hw1.trans (hb.mono (by omega))
  have a0 := cell_carry a0 (Carries.of 0 hb)
  have a1 := cell_carry a1 (Carries.of 0 hb)
  have b0 := cell_carry b0 (Carries.of 0 hb)
  have b1 := cell_carry b1 (Carries.of 0 hb)
  have r0 := cell_carry r0 (Carries.of 0 hb)
  have r1 := cell_carry r1 (Carries.of 0 hb)
  have rf0 := (hb.frozen (p := ⟨w.heap.size + 2, 0, none⟩) z1).trans rf0
  have rf1 := (hb.frozen (p := ⟨w.heap.size + 2, 1, none⟩) z1).trans rf1
  have z2 : w.heap.size + 2 < w2.heap.size := by have := hb.size; omega
  clear hb
  cases hg : goodN b with
  | false =>
    have hcf : unB a b = false := by unfold unB; rw [hg, HGA.out]; rfl
    have k1 : unR a b = ⟨0, []⟩ := by unfold unR; rw [hcf]; rfl
    rw [HFL.out] at k1
    rw [HFB.out] at hcf
    subst k1; subst hcf
    clear hg
    go_wp2_with fail
    refine bodyPost_ret (v := .tuple #[.agg #[.int .i64 0, .slice none 0 0], .bool false]) (by simp [results, Try.results80, go_sem, r0, r1]) rfl ?_
    refine ⟨_, rfl, ⟨none, 0, rfl, Nat.le_refl _, Or.inl rfl⟩, ?_⟩
    (repeat' (first | (with_reducible exact Below.refl _ _) | (with_reducible assumption) | (with_reducible refine Below.alloc ?_ ?_ _) | (with_reducible refine Below.drew ?_) | (with_reducible refine below_drewN ?_ _) | (with_reducible refine Below.setCell ?_ ?_ _) | go_size))
  | true =>
  have HGB := Lib.hid hg; clear hg
  have hpa := (goodN_parts HGA.out)
  have hpb := (goodN_parts HGB.out)
  rw [← HPA.out, ← HTA.out] at hpa
  rw [← HPB.out, ← HTB.out] at hpb
  obtain ⟨pa0, pa1, na, _⟩ := hpa
  obtain ⟨pb0, pb1, nb, _⟩ := hpb
  have HLB := Lib.hid (goodN_low HGB.out)
  have HSB' := HSB
  rw [← HTB.out] at HLB HSB'
  have hlb := HSB'.out
  obtain ⟨x, y, he, _, hz⟩ := id HB.out
  injection he with h1 h2 h3
  subst h1
  have HF := Lib.hid hz; clear hz h2 h3
  go_wp2_with fail
  refine (l1OwnN_any _ a w2 lo (HVA.out.keep (Carries.of lo hw2)) HSA.out).mono ?_
  rintro e w3 ⟨u0, xs0, rfl, ho, ht, hbb⟩
  obtain ⟨av, cv, rfl⟩ := owns_form ho
  rw [← HPA.out, ← HTA.out]
  rw [← HTA.out] at ho ht
  have b0 := cell_carry b0 (Carries.of 0 hbb)
  have b1 := cell_carry b1 (Carries.of 0 hbb)
  have b0a := cell_carry b0 (Carries.alloc (Carries.refl 0 w3) (.cells #[.int .i64 p, .slice av ts.length cv] 60))
  have b1a := cell_carry b1 (Carries.alloc (Carries.refl 0 w3) (.cells #[.int .i64 p, .slice av ts.length cv] 60))
  have b1c := cell_carry b1 (Carries.alloc (Carries.refl 0 w3) (.cells #[.int .i64 (p + q), .slice av ts.length cv] 60))
  go_wp2_with fail
  clear b0a b1a b1c b0 b1
  have zw3 := hbb.size
  have hwz : Below w2.heap.size w2 (w3.alloc (.cells #[.int .i64 (p + q), .slice av ts.length cv] 60)) := hbb.trans (((Below.refl _ _).alloc (Nat.le_refl _) _).mono zw3)
  have hna := (Below.refl w3.heap.size w3).alloc (Nat.le_refl _) (.cells #[.int .i64 (p + q), .slice av ts.length cv] 60)
  have g0 : (w3.alloc (.cells #[.int .i64 (p + q), .slice av ts.length cv] 60)).cell? ⟨w3.heap.size, 0, none⟩ = some (.int .i64 (p + q)) := by simp
  have g1 : (w3.alloc (.cells #[.int .i64 (p + q), .slice av ts.length cv] 60)).cell? ⟨w3.heap.size, 1, none⟩ = some (.slice av ts.length cv) := by simp
  have gf : (w3.alloc (.cells #[.int .i64 (p + q), .slice av ts.length cv] 60)).frozen? ⟨w3.heap.size, 1, none⟩ = false := by simp
  have gt : TyAt (w3.alloc (.cells #[.int .i64 (p + q), .slice av ts.length cv] 60)) w3.heap.size 60 := TyAt.new _ _ _
  obtain ⟨U, hU⟩ : ∃ U, U = ts ++ movTs us p := ⟨_, rfl⟩
  have hUl : U.length = ts.length + us.length := by rw [hU, List.length_append, movTs_length]
  have hUe : unN a b = ⟨p + q, U⟩ := by unfold unN unT; rw [HPA.out, HPB.out, hU, HTA.out, HTB.out, HPA.out]
  have hsm : SmallTrs U := by have := unT_small HSA.out HSB.out HGA.out HGB.out; unfold unT at this; rw [← HTA.out, ← HTB.out, ← HPA.out, ← hU] at this; exact this
  have HUL := Lib.hid hUl; clear hUl
  have HSM := Lib.hid hsm; clear hsm
  have hq2 : unB a b = goodN ⟨p + q, U⟩ := by unfold unB; rw [HGA.out, HGB.out, hUe]; rfl
  have HQ2 := Lib.hid hq2; clear hq2
  have HUE := Lib.hid hUe; clear hUe
  have HU := Lib.hid hU; clear hU
  have hot0 : OwnTrs w2.heap.size w3 xs0 ts.length U := ht.congr (fun i hi => by rw [HU.out]; simp [List.getD, List.getElem?_append_left hi])
  have HO0 := Lib.hid (owns_after ho hna)
  have HT0 := Lib.hid (hot0.after hna)
  clear ho ht hot0 hna hbb
  have A0 := Lib.hid a0; clear a0 a1
  have R0 := Lib.hid r0; clear r0
  have R1 := Lib.hid r1; clear r1
  have RF0 := Lib.hid rf0; clear rf0
  have RF1 := Lib.hid rf1; clear rf1
  generalize w3.alloc (.cells #[.int .i64 (p + q), .slice av ts.length cv] 60) = wz at g0 g1 gf gt hwz HO0 HT0 ⊢
  go_loopw [29] (fun i wr => ∃ (k m : Nat) (v : Value) (xs : List Value), k ≤ us.length ∧ m = ts.length + k ∧ i = .int .i64 k ∧ wr.cell? ⟨w3.heap.size, 0, none⟩ = some (.int .i64 (p + q)) ∧ wr.cell? ⟨w3.heap.size, 1, none⟩ = some v ∧ wr.frozen? ⟨w3.heap.size, 1, none⟩ = false ∧ TyAt wr w3.heap.size 60 ∧ Hid (wr.ownsRow w2.heap.size 176 2 v m xs) ∧ Hid (OwnTrs w2.heap.size wr xs m U) ∧ Below w2.heap.size w2 wr) (fun i _ => us.length - (intOf i).toNat)
  case atStart => exact ⟨0, ts.length, _, xs0, Nat.zero_le _, rfl, rfl, g0, g1, gf, gt, HO0.out, HT0.out, hwz⟩
  case round =>
    obtain ⟨k, m, v, xs, hk, hm, rfl, f0, f1, ff, hty, hown, hot, hb1⟩ := hrel
    clear g0 g1 gf gt hwz HO0 HT0
    have hwr : Below w.heap.size w wr := hw2.trans (hb1.mono hw2.size)
    have zG := hty.lt
    by_cases hlt : k < us.length
    · rcases HF.out with rfl | ⟨b', off, rfl, hlo, hcell⟩
      · simp at hlt
      obtain ⟨x0, x1, q0, q1, hx⟩ := hcell k hlt
      obtain ⟨X, hX⟩ : ∃ X, X = us.getD k ([], []) := ⟨_, rfl⟩
      have sx := HSB'.out.2 k hlt
      have lx := HLB.out k hlt
      rw [← hX] at hx sx lx
      obtain ⟨s1, s2⟩ := sx
      have LX := Lib.hid lx; clear lx
      obtain ⟨Y, hY⟩ : ∃ Y, Y = movI X.1 p := ⟨_, rfl⟩
      obtain ⟨Z, hZ⟩ : ∃ Z, Z = movI X.2 p := ⟨_, rfl⟩
      have hrt : Hid (U.getD m ([], []) = (Y, Z)) := by
        have e1 : U.getD m ([], []) = (movTs us p).getD k ([], []) := by
          rw [HU.out, hm]
          simp [List.getD, List.getElem?_append_right]
        have e2 : (movTs us p).getD k ([], []) = (Y, Z) := by rw [movTs_get hlt, ← hX, hY, hZ]; rfl
        exact e1.trans e2
      have HYE := Lib.hid hY; clear hY
      have HZE := Lib.hid hZ; clear hZ
      obtain ⟨⟨xa0, xk0, rfl, _, _⟩, ⟨xa1, xk1, rfl, _, _⟩⟩ := id hx
      have q2 := Carries.of lo hwr _ _ hlo q0
      have q3 := Carries.of lo hwr _ _ hlo q1
      have HXr := Lib.hid (hx.keep (Carries.of lo hwr)); clear hx q0 q1 hX hcell
      have hTne : some wr.heap.size ≠ v.ownBlock := fun h => by have := (hown.out.lt _ h.symm).2; omega
      have hAne : some w.heap.size ≠ v.ownBlock := fun h => by have := (hown.out.lt _ h.symm).1; omega
      have hTG : w3.heap.size ≠ wr.heap.size := Nat.ne_of_lt zG
      have hAG : w3.heap.size ≠ w.heap.size := by omega
      have s0 := cell_keep A0.out hb1 (Nat.le_refl _)
      have hmb : m ≤ 1000 := by omega
      have HM := Lib.hid hm; clear hm
      have hal : Below wr.heap.size wr (wr.alloc (.cells #[.slice xa0 X.1.length xk0, .slice xa1 X.2.length xk1] 176)) := (Below.refl _ _).alloc (Nat.le_refl _) _
      go_wp2_with fail
      have t0 : (wr.alloc (.cells #[.slice xa0 X.1.length xk0, .slice xa1 X.2.length xk1] 176)).cell? ⟨wr.heap.size, 0, none⟩ = some (.slice xa0 X.1.length xk0) := by simp
      have t1 : (wr.alloc (.cells #[.slice xa0 X.1.length xk0, .slice xa1 X.2.length xk1] 176)).cell? ⟨wr.heap.size, 1, none⟩ = some (.slice xa1 X.2.length xk1) := by simp
      have za : wr.heap.size < (wr.alloc (.cells #[.slice xa0 X.1.length xk0, .slice xa1 X.2.length xk1] 176)).heap.size := by simp
      generalize wr.alloc (.cells #[.slice xa0 X.1.length xk0, .slice xa1 X.2.length xk1] 176) = W at t0 t1 hal za ⊢
      have s0 := cell_carry s0 (Carries.of 0 hal)
      refine wp_region_held_drew (S := fun w' => w'.cell? ⟨wr.heap.size, 0, none⟩ = some (.slice xa0 X.1.length xk0) ∧ w'.cell? ⟨wr.heap.size, 1, none⟩ = some (.slice xa1 X.2.length xk1) ∧ w'.cell? ⟨w.heap.size, 0, none⟩ = some (.int .i64 p)) (by kernel_rfl) ⟨t0, t1, s0⟩ (fun hHeld => ?_)
      have hd : Below W.heap.size W W.drew := (Below.refl _ _).drew
      generalize W.drew = W0 at hd hHeld ⊢
      have hbb : Below wr.heap.size wr W0 := hal.trans (hd.mono hal.size)
      have belW0 := hb1.trans (hbb.mono hb1.size)
      have zdW0 := hd.size
      have zTW0 : wr.heap.size < W0.heap.size := by omega
      have f0W0 := cell_carry f0 (Carries.of 0 hbb)
      have f1W0 := cell_carry f1 (Carries.of 0 hbb)
      have ffW0 := (hbb.frozen (p := ⟨w3.heap.size, 1, none⟩) hty.lt).trans ff
      have HGW0 := Lib.hid (hty.keep hbb)
      have t0W0 := cell_carry t0 (Carries.of 0 hd)
      have t1W0 := cell_carry t1 (Carries.of 0 hd)
      have s0W0 := cell_carry s0 (Carries.of 0 hd)
      have HXW0 := Lib.hid (HXr.out.keep (Carries.of lo hbb)); clear HXr
      have HOW0 := Lib.hid (owns_after hown.out hbb); clear hown
      have HTW0 := Lib.hid (hot.out.after hbb); clear hot
      clear hd hbb t0 t1 f0 f1 ff s0 q2 q3 hal
      refine tk0 (v := ?_) (by kernel_rfl) (by kernel_rfl) (by kernel_rfl) (by first | exact fun _ _ _ h => h | exact fun _ _ _ h => absurd h.1 (by simp)) (Or.inl ⟨by rfl, ?_⟩) (by assumption) ?_
      rotate_left 1
      focus (intro wx hSw; (try dsimp only at hSw); go_simp; try (with_reducible rfl))
      try simp only [Act.put, List.setIfInBounds_toArray, List.set_cons_zero, List.set_cons_succ]
      refine tk2 (v := ?_) (by kernel_rfl) (by kernel_rfl) (by kernel_rfl) (by first | exact fun _ _ _ h => h | exact fun _ _ _ h => absurd h.1 (by simp)) (Or.inl ⟨by rfl, ?_⟩) (by assumption) ?_
      rotate_left 1
      focus (intro wx hSw; (try dsimp only at hSw); go_simp; try (with_reducible rfl))
      try simp only [Act.put, List.setIfInBounds_toArray, List.set_cons_zero, List.set_cons_succ]
      refine tk3 (v := ?_) (by kernel_rfl) (by kernel_rfl) (by kernel_rfl) (by first | exact fun _ _ _ h => h | exact fun _ _ _ h => absurd h.1 (by simp)) (Or.inl ⟨by rfl, ?_⟩) (by assumption) ?_
      rotate_left 1
      focus (intro wx hSw; (try dsimp only at hSw); go_simp; try (with_reducible rfl))
      try simp only [Act.put, List.setIfInBounds_toArray, List.set_cons_zero, List.set_cons_succ]
      refine tk4 (v := ?_) (by kernel_rfl) (by kernel_rfl) (by kernel_rfl) (by first | exact fun _ _ _ h => h | exact fun _ _ _ h => absurd h.1 (by simp)) (Or.inl ⟨by rfl, ?_⟩) (by assumption) ?_
      rotate_left 1
      focus (intro wx hSw; (try dsimp only at hSw); go_simp; try (with_reducible rfl))
      try simp only [Act.put, List.setIfInBounds_toArray, List.set_cons_zero, List.set_cons_succ]
      refine tk5 (v := ?_) (by kernel_rfl) (by kernel_rfl) (by kernel_rfl) (by first | exact fun _ _ _ h => h | exact fun _ _ _ h => absurd h.1 (by simp)) (Or.inl ⟨by rfl, ?_⟩) (by assumption) ?_
      rotate_left 1
      focus (intro wx hSw; (try dsimp only at hSw); go_simp; try (with_reducible rfl))
      try simp only [Act.put, List.setIfInBounds_toArray, List.set_cons_zero, List.set_cons_succ]
      refine tk7 (v := ?_) (by kernel_rfl) (by kernel_rfl) (by kernel_rfl) (by first | exact fun _ _ _ h => h | exact fun _ _ _ h => absurd h.1 (by simp)) (Or.inl ⟨by rfl, ?_⟩) (by assumption) ?_
      rotate_left 1
      focus (intro wx hSw; (try dsimp only at hSw); go_simp; try (with_reducible rfl))
      try simp only [Act.put, List.setIfInBounds_toArray, List.set_cons_zero, List.set_cons_succ]
      refine tk8 (v := ?_) (by kernel_rfl) (by kernel_rfl) (by kernel_rfl) (by first | exact fun _ _ _ h => h | exact fun _ _ _ h => absurd h.1 (by simp)) (Or.inl ⟨by rfl, ?_⟩) (by assumption) ?_
      rotate_left 1
      focus (intro wx hSw; (try dsimp only at hSw); go_simp; try (with_reducible rfl))
      try simp only [Act.put, List.setIfInBounds_toArray, List.set_cons_zero, List.set_cons_succ]
      refine tk9 (v := ?_) (by kernel_rfl) (by kernel_rfl) (by kernel_rfl) (by first | exact fun _ _ _ h => h | exact fun _ _ _ h => absurd h.1 (by simp)) (Or.inl ⟨by rfl, ?_⟩) (by assumption) ?_
      rotate_left 1
      focus (intro wx hSw; (try dsimp only at hSw); go_simp; try (with_reducible rfl))
      try simp only [Act.put, List.setIfInBounds_toArray, List.set_cons_zero, List.set_cons_succ]
      refine tk10 (v := ?_) (by kernel_rfl) (by kernel_rfl) (by kernel_rfl) (by first | exact fun _ _ _ h => h | exact fun _ _ _ h => absurd h.1 (by simp)) (Or.inl ⟨by rfl, ?_⟩) (by assumption) ?_
      rotate_left 1
      focus (intro wx hSw; (try dsimp only at hSw); go_simp; try (with_reducible rfl))
      try simp only [Act.put, List.setIfInBounds_toArray, List.set_cons_zero, List.set_cons_succ]
      refine wpAnyH_ready (rs := [1, 6]) (by kernel_rfl) (by simp) ?_
      refine ar1 (fun K hK => ?_) ?_
      · go_simp
        refine hK.out _ _ ⟨t0W0, t1W0, s0W0⟩ (fun hHeld => ?_)
        clear hK K
        try simp only [Act.put, List.setIfInBounds_toArray, List.set_cons_zero, List.set_cons_succ]
        refine rd6 (by kernel_rfl) (fun K hK => ?_)
        go_simp
        refine (l1Shift_any _ X.1 p W0 lo HXW0.out.1 s1 LX.out.1 (by omega) (by omega)).mono ?_
        rintro e W1 ⟨y0_, rfl, hi0, hbb⟩
        rw [← HYE.out] at hi0
        have belW1 := belW0.trans (hbb.mono belW0.size)
        have zdW1 := hbb.size
        have zTW1 : wr.heap.size < W1.heap.size := by omega
        have f0W1 := cell_carry f0W0 (Carries.of 0 hbb)
        have f1W1 := cell_carry f1W0 (Carries.of 0 hbb)
        have t0W1 := cell_carry t0W0 (Carries.of 0 hbb)
        have t1W1 := cell_carry t1W0 (Carries.of 0 hbb)
        have s0W1 := cell_carry s0W0 (Carries.of 0 hbb)
        have ffW1 := (hbb.frozen (p := ⟨w3.heap.size, 1, none⟩) HGW0.out.lt).trans ffW0
        have HGW1 := Lib.hid (HGW0.out.keep hbb)
        have HXW1 := Lib.hid (HXW0.out.keep (Carries.of lo hbb))
        have HOW1 := Lib.hid (owns_after HOW0.out hbb)
        have HTW1 := Lib.hid (HTW0.out.after hbb)
        have HYW1 := Lib.hid (IRow.low (B' := w2.heap.size) hi0 (by omega))
        obtain ⟨ya, yk, rfl⟩ := IRow.form hi0
        clear hi0 hbb
        refine hK.out _ _ ⟨t0W1, t1W1, s0W1⟩ (fun hHeld => ?_)
        clear hK K
        try simp only [Act.put, List.setIfInBounds_toArray, List.set_cons_zero, List.set_cons_succ]
        refine rd11 (by kernel_rfl) (fun K hK => ?_)
        go_simp
        refine (l1Shift_any _ X.2 p W1 lo HXW1.out.2 s2 LX.out.2 (by omega) (by omega)).mono ?_
        rintro e W2 ⟨z0_, rfl, hi0, hbb⟩
        rw [← HZE.out] at hi0
        have belW2 := belW1.trans (hbb.mono belW1.size)
        have zdW2 := hbb.size
        have zTW2 : wr.heap.size < W2.heap.size := by omega
        have f0W2 := cell_carry f0W1 (Carries.of 0 hbb)
        have f1W2 := cell_carry f1W1 (Carries.of 0 hbb)
        have t0W2 := cell_carry t0W1 (Carries.of 0 hbb)
        have t1W2 := cell_carry t1W1 (Carries.of 0 hbb)
        have s0W2 := cell_carry s0W1 (Carries.of 0 hbb)
        have ffW2 := (hbb.frozen (p := ⟨w3.heap.size, 1, none⟩) HGW1.out.lt).trans ffW1
        have HGW2 := Lib.hid (HGW1.out.keep hbb)
        have HXW2 := Lib.hid (HXW1.out.keep (Carries.of lo hbb))
        have HOW2 := Lib.hid (owns_after HOW1.out hbb)
        have HTW2 := Lib.hid (HTW1.out.after hbb)
        have HYW2 := Lib.hid (owns_after HYW1.out hbb)
        have HZW2 := Lib.hid (IRow.low (B' := w2.heap.size) hi0 (by omega))
        obtain ⟨za, zk, rfl⟩ := IRow.form hi0
        clear hi0 hbb
        refine hK.out _ _ ⟨t0W2, t1W2, s0W2⟩ (fun hHeld => ?_)
        clear hK K
        try simp only [Act.put, List.setIfInBounds_toArray, List.set_cons_zero, List.set_cons_succ]
        refine tk12 (v := ?_) (by kernel_rfl) (by kernel_rfl) (by kernel_rfl) (by first | exact fun _ _ _ h => h | exact fun _ _ _ h => absurd h.1 (by simp)) (Or.inl ⟨by rfl, ?_⟩) (by assumption) ?_
        rotate_left 1
        focus (intro wx hSw; (try dsimp only at hSw); go_simp; try (with_reducible rfl))
        try simp only [Act.put, List.setIfInBounds_toArray, List.set_cons_zero, List.set_cons_succ]
        refine rd13 (by kernel_rfl) (fun K hK => ?_)
        go_simp
        have hbb : Below W2.heap.size W2 (W2.alloc (.cells #[.slice ya Y.length yk, .slice za Z.length zk] 176)) := (Below.refl _ _).alloc (Nat.le_refl _) _
        have c0 : (W2.alloc (.cells #[.slice ya Y.length yk, .slice za Z.length zk] 176)).cell? ⟨W2.heap.size, 0, none⟩ = some (.slice ya Y.length yk) := by simp
        have c1 : (W2.alloc (.cells #[.slice ya Y.length yk, .slice za Z.length zk] 176)).cell? ⟨W2.heap.size, 1, none⟩ = some (.slice za Z.length zk) := by simp
        generalize W2.alloc (.cells #[.slice ya Y.length yk, .slice za Z.length zk] 176) = W3 at hbb c0 c1 ⊢
        have belW3 := belW2.trans (hbb.mono belW2.size)
        have zdW3 := hbb.size
        have zTW3 : wr.heap.size < W3.heap.size := by omega
        have f0W3 := cell_carry f0W2 (Carries.of 0 hbb)
        have f1W3 := cell_carry f1W2 (Carries.of 0 hbb)
        have t0W3 := cell_carry t0W2 (Carries.of 0 hbb)
        have t1W3 := cell_carry t1W2 (Carries.of 0 hbb)
        have s0W3 := cell_carry s0W2 (Carries.of 0 hbb)
        have ffW3 := (hbb.frozen (p := ⟨w3.heap.size, 1, none⟩) HGW2.out.lt).trans ffW2
        have HGW3 := Lib.hid (HGW2.out.keep hbb)
        have HXW3 := Lib.hid (HXW2.out.keep (Carries.of lo hbb))
        have HOW3 := Lib.hid (owns_after HOW2.out hbb)
        have HTW3 := Lib.hid (HTW2.out.after hbb)
        have HYW3 := Lib.hid (owns_after HYW2.out hbb)
        have HZW3 := Lib.hid (owns_after HZW2.out hbb)
        refine hK.out _ _ ⟨t0W3, t1W3, s0W3⟩ (fun hHeld => ?_)
        clear hK K
        try simp only [Act.put, List.setIfInBounds_toArray, List.set_cons_zero, List.set_cons_succ]
        refine rd14 (by kernel_rfl) (fun K hK => ?_)
        rw [if_pos (by rfl)]
        have hGne := owns_ne HOW3.out HGW3.out (by decide)
        refine wp_append_pair (.tmp 34) (.tmp 46) rfl (w2.heap.size) v m xs rfl HOW3.out _ _ _ rfl c0 c1 rfl rfl (by omega) (by omega) ?_
        intro v' W4 hown' hgrow
        obtain ⟨av, cv, rfl⟩ := owns_form hown'
        have f0W4 := hgrow.cell f0W3 hGne
        have f1W4 := hgrow.cell f1W3 hGne
        have ffW4 := (World.frozen?_of_block (a := ⟨w3.heap.size, 1, none⟩) (hgrow.block w3.heap.size HGW3.out.lt hGne)).trans ffW3
        have t0W4 := hgrow.cell t0W3 hTne
        have t1W4 := hgrow.cell t1W3 hTne
        have s0W4 := hgrow.cell s0W3 hAne
        have belW4 := belW3.grown hgrow belW3.size (fun g hg => (HOW3.out.lt g hg).1)
        have zgW4 := hgrow.size
        have HGW4 := Lib.hid (HGW3.out.grown hgrow hGne)
        have HTW4 := Lib.hid ((HTW3.out.grown HOW3.out hgrow).put (u0 := .slice ya Y.length yk) (u1 := .slice za Z.length zk) (by rw [hrt.out]; exact HYW3.out.kept hgrow (rows_apart HYW3.out HOW3.out)) (by rw [hrt.out]; exact HZW3.out.kept hgrow (rows_apart HZW3.out HOW3.out)))
        have HOW4 := Lib.hid hown'
        clear hown' hgrow
        refine hK.out _ _ ⟨t0W4, t1W4, s0W4⟩ (fun hHeld => ?_)
        clear hK K
        try simp only [Act.put, List.setIfInBounds_toArray, List.set_cons_zero, List.set_cons_succ]
        refine tk15 (v := ?_) (by kernel_rfl) (by kernel_rfl) (by kernel_rfl) (by first | exact fun _ _ _ h => h | exact fun _ _ _ h => absurd h.1 (by simp)) (Or.inl ⟨by rfl, ?_⟩) (by assumption) ?_
        rotate_left 1
        focus (intro wx hSw; (try dsimp only at hSw); go_simp; try (with_reducible rfl))
        try simp only [Act.put, List.setIfInBounds_toArray, List.set_cons_zero, List.set_cons_succ]
        refine rd16 (by kernel_rfl) (fun K hK => ?_)
        go_simp
        have hset : Below w2.heap.size w2 (W4.setCell ⟨w3.heap.size, 1, none⟩ (.slice av (m + 1) cv)) := belW4.setCell (by show w2.heap.size ≤ w3.heap.size; omega) _
        have e0 : (W4.setCell ⟨w3.heap.size, 1, none⟩ (.slice av (m + 1) cv)).cell? ⟨w3.heap.size, 0, none⟩ = some (.int .i64 (p + q)) := (World.cell?_setCell_other _ _ _ _ (by simp)).trans f0W4
        have e1 : (W4.setCell ⟨w3.heap.size, 1, none⟩ (.slice av (m + 1) cv)).cell? ⟨w3.heap.size, 1, none⟩ = some (.slice av (m + 1) cv) := World.cell?_setCell_same _ _ _ f1W4
        have ef : (W4.setCell ⟨w3.heap.size, 1, none⟩ (.slice av (m + 1) cv)).frozen? ⟨w3.heap.size, 1, none⟩ = false := by simpa using ffW4
        have e2 : (W4.setCell ⟨w3.heap.size, 1, none⟩ (.slice av (m + 1) cv)).cell? ⟨wr.heap.size, 0, none⟩ = some (.slice xa0 X.1.length xk0) := (World.cell?_setCell_far _ _ _ _ hTG).trans t0W4
        have e3 : (W4.setCell ⟨w3.heap.size, 1, none⟩ (.slice av (m + 1) cv)).cell? ⟨wr.heap.size, 1, none⟩ = some (.slice xa1 X.2.length xk1) := (World.cell?_setCell_far _ _ _ _ hTG).trans t1W4
        have e4 : (W4.setCell ⟨w3.heap.size, 1, none⟩ (.slice av (m + 1) cv)).cell? ⟨w.heap.size, 0, none⟩ = some (.int .i64 p) := (World.cell?_setCell_far _ _ _ _ hAG).trans s0W4
        have HO5 := Lib.hid (owns_setT HOW4.out (p := ⟨w3.heap.size, 1, none⟩) HGW4.out (by decide) (.slice av (m + 1) cv))
        have HT5 := Lib.hid (HTW4.out.setT (p := ⟨w3.heap.size, 1, none⟩) HGW4.out (by decide) (.slice av (m + 1) cv))
        have HG5 := Lib.hid (HGW4.out.set ⟨w3.heap.size, 1, none⟩ (.slice av (m + 1) cv))
        generalize W4.setCell ⟨w3.heap.size, 1, none⟩ (.slice av (m + 1) cv) = W5 at hset e0 e1 ef e2 e3 e4 HO5 HT5 HG5 ⊢
        refine hK.out _ _ ⟨e2, e3, e4⟩ (fun hHeld => ?_)
        clear hK K
        try simp only [Act.put, List.setIfInBounds_toArray, List.set_cons_zero, List.set_cons_succ]
        refine wpAnyH_done (by kernel_rfl) ?_ _
        go_wp2_with fail
        go_roundw
        case rel => exact ⟨k + 1, m + 1, _, _, by omega, by have := HM.out; omega, by go_num, e0, e1, ef, HG5.out, HO5.out, HT5.out, hset⟩
        case measure => simp [intOf]; omega
      refine ar6 (fun K hK => ?_) AllReadyH.nil
      go_simp
      refine (l1Shift_any _ X.1 p W0 lo HXW0.out.1 s1 LX.out.1 (by omega) (by omega)).mono ?_
      rintro e W6 ⟨y0_, rfl, hi0, hbb⟩
      rw [← HYE.out] at hi0
      have belW6 := belW0.trans (hbb.mono belW0.size)
      have zdW6 := hbb.size
      have zTW6 : wr.heap.size < W6.heap.size := by omega
      have f0W6 := cell_carry f0W0 (Carries.of 0 hbb)
      have f1W6 := cell_carry f1W0 (Carries.of 0 hbb)
      have t0W6 := cell_carry t0W0 (Carries.of 0 hbb)
      have t1W6 := cell_carry t1W0 (Carries.of 0 hbb)
      have s0W6 := cell_carry s0W0 (Carries.of 0 hbb)
      have ffW6 := (hbb.frozen (p := ⟨w3.heap.size, 1, none⟩) HGW0.out.lt).trans ffW0
      have HGW6 := Lib.hid (HGW0.out.keep hbb)
      have HXW6 := Lib.hid (HXW0.out.keep (Carries.of lo hbb))
      have HOW6 := Lib.hid (owns_after HOW0.out hbb)
      have HTW6 := Lib.hid (HTW0.out.after hbb)
      have HYW6 := Lib.hid (IRow.low (B' := w2.heap.size) hi0 (by omega))
      obtain ⟨ya, yk, rfl⟩ := IRow.form hi0
      clear hi0 hbb
      refine hK.out _ _ ⟨t0W6, t1W6, s0W6⟩ (fun hHeld => ?_)
      clear hK K
      try simp only [Act.put, List.setIfInBounds_toArray, List.set_cons_zero, List.set_cons_succ]
      refine wpAnyH_ready (rs := [1, 11]) (by kernel_rfl) (by simp) ?_
      refine ar1 (fun K hK => ?_) ?_
      · go_simp
        refine hK.out _ _ ⟨t0W6, t1W6, s0W6⟩ (fun hHeld => ?_)
        clear hK K
        try simp only [Act.put, List.setIfInBounds_toArray, List.set_cons_zero, List.set_cons_succ]
        refine rd11 (by kernel_rfl) (fun K hK => ?_)
        go_simp
        refine (l1Shift_any _ X.2 p W6 lo HXW6.out.2 s2 LX.out.2 (by omega) (by omega)).mono ?_
        rintro e W7 ⟨z0_, rfl, hi0, hbb⟩
        rw [← HZE.out] at hi0
        have belW7 := belW6.trans (hbb.mono belW6.size)
        have zdW7 := hbb.size
        have zTW7 : wr.heap.size < W7.heap.size := by omega
        have f0W7 := cell_carry f0W6 (Carries.of 0 hbb)
        have f1W7 := cell_carry f1W6 (Carries.of 0 hbb)
        have t0W7 := cell_carry t0W6 (Carries.of 0 hbb)
        have t1W7 := cell_carry t1W6 (Carries.of 0 hbb)
        have s0W7 := cell_carry s0W6 (Carries.of 0 hbb)
        have ffW7 := (hbb.frozen (p := ⟨w3.heap.size, 1, none⟩) HGW6.out.lt).trans ffW6
        have HGW7 := Lib.hid (HGW6.out.keep hbb)
        have HXW7 := Lib.hid (HXW6.out.keep (Carries.of lo hbb))
        have HOW7 := Lib.hid (owns_after HOW6.out hbb)
        have HTW7 := Lib.hid (HTW6.out.after hbb)
        have HYW7 := Lib.hid (owns_after HYW6.out hbb)
        have HZW7 := Lib.hid (IRow.low (B' := w2.heap.size) hi0 (by omega))
        obtain ⟨za, zk, rfl⟩ := IRow.form hi0
        clear hi0 hbb
        refine hK.out _ _ ⟨t0W7, t1W7, s0W7⟩ (fun hHeld => ?_)
        clear hK K
        try simp only [Act.put, List.setIfInBounds_toArray, List.set_cons_zero, List.set_cons_succ]
        refine tk12 (v := ?_) (by kernel_rfl) (by kernel_rfl) (by kernel_rfl) (by first | exact fun _ _ _ h => h | exact fun _ _ _ h => absurd h.1 (by simp)) (Or.inl ⟨by rfl, ?_⟩) (by assumption) ?_
        rotate_left 1
        focus (intro wx hSw; (try dsimp only at hSw); go_simp; try (with_reducible rfl))
        try simp only [Act.put, List.setIfInBounds_toArray, List.set_cons_zero, List.set_cons_succ]
        refine rd13 (by kernel_rfl) (fun K hK => ?_)
        go_simp
        have hbb : Below W7.heap.size W7 (W7.alloc (.cells #[.slice ya Y.length yk, .slice za Z.length zk] 176)) := (Below.refl _ _).alloc (Nat.le_refl _) _
        have c0 : (W7.alloc (.cells #[.slice ya Y.length yk, .slice za Z.length zk] 176)).cell? ⟨W7.heap.size, 0, none⟩ = some (.slice ya Y.length yk) := by simp
        have c1 : (W7.alloc (.cells #[.slice ya Y.length yk, .slice za Z.length zk] 176)).cell? ⟨W7.heap.size, 1, none⟩ = some (.slice za Z.length zk) := by simp
        generalize W7.alloc (.cells #[.slice ya Y.length yk, .slice za Z.length zk] 176) = W8 at hbb c0 c1 ⊢
        have belW8 := belW7.trans (hbb.mono belW7.size)
        have zdW8 := hbb.size
        have zTW8 : wr.heap.size < W8.heap.size := by omega
        have f0W8 := cell_carry f0W7 (Carries.of 0 hbb)
        have f1W8 := cell_carry f1W7 (Carries.of 0 hbb)
        have t0W8 := cell_carry t0W7 (Carries.of 0 hbb)
        have t1W8 := cell_carry t1W7 (Carries.of 0 hbb)
        have s0W8 := cell_carry s0W7 (Carries.of 0 hbb)
        have ffW8 := (hbb.frozen (p := ⟨w3.heap.size, 1, none⟩) HGW7.out.lt).trans ffW7
        have HGW8 := Lib.hid (HGW7.out.keep hbb)
        have HXW8 := Lib.hid (HXW7.out.keep (Carries.of lo hbb))
        have HOW8 := Lib.hid (owns_after HOW7.out hbb)
        have HTW8 := Lib.hid (HTW7.out.after hbb)
        have HYW8 := Lib.hid (owns_after HYW7.out hbb)
        have HZW8 := Lib.hid (owns_after HZW7.out hbb)
        refine hK.out _ _ ⟨t0W8, t1W8, s0W8⟩ (fun hHeld => ?_)
        clear hK K
        try simp only [Act.put, List.setIfInBounds_toArray, List.set_cons_zero, List.set_cons_succ]
        refine rd14 (by kernel_rfl) (fun K hK => ?_)
        rw [if_pos (by rfl)]
        have hGne := owns_ne HOW8.out HGW8.out (by decide)
        refine wp_append_pair (.tmp 34) (.tmp 46) rfl (w2.heap.size) v m xs rfl HOW8.out _ _ _ rfl c0 c1 rfl rfl (by omega) (by omega) ?_
        intro v' W9 hown' hgrow
        obtain ⟨av, cv, rfl⟩ := owns_form hown'
        have f0W9 := hgrow.cell f0W8 hGne
        have f1W9 := hgrow.cell f1W8 hGne
        have ffW9 := (World.frozen?_of_block (a := ⟨w3.heap.size, 1, none⟩) (hgrow.block w3.heap.size HGW8.out.lt hGne)).trans ffW8
        have t0W9 := hgrow.cell t0W8 hTne
        have t1W9 := hgrow.cell t1W8 hTne
        have s0W9 := hgrow.cell s0W8 hAne
        have belW9 := belW8.grown hgrow belW8.size (fun g hg => (HOW8.out.lt g hg).1)
        have zgW9 := hgrow.size
        have HGW9 := Lib.hid (HGW8.out.grown hgrow hGne)
        have HTW9 := Lib.hid ((HTW8.out.grown HOW8.out hgrow).put (u0 := .slice ya Y.length yk) (u1 := .slice za Z.length zk) (by rw [hrt.out]; exact HYW8.out.kept hgrow (rows_apart HYW8.out HOW8.out)) (by rw [hrt.out]; exact HZW8.out.kept hgrow (rows_apart HZW8.out HOW8.out)))
        have HOW9 := Lib.hid hown'
        clear hown' hgrow
        refine hK.out _ _ ⟨t0W9, t1W9, s0W9⟩ (fun hHeld => ?_)
        clear hK K
        try simp only [Act.put, List.setIfInBounds_toArray, List.set_cons_zero, List.set_cons_succ]
        refine tk15 (v := ?_) (by kernel_rfl) (by kernel_rfl) (by kernel_rfl) (by first | exact fun _ _ _ h => h | exact fun _ _ _ h => absurd h.1 (by simp)) (Or.inl ⟨by rfl, ?_⟩) (by assumption) ?_
        rotate_left 1
        focus (intro wx hSw; (try dsimp only at hSw); go_simp; try (with_reducible rfl))
        try simp only [Act.put, List.setIfInBounds_toArray, List.set_cons_zero, List.set_cons_succ]
        refine rd16 (by kernel_rfl) (fun K hK => ?_)
        go_simp
        have hset : Below w2.heap.size w2 (W9.setCell ⟨w3.heap.size, 1, none⟩ (.slice av (m + 1) cv)) := belW9.setCell (by show w2.heap.size ≤ w3.heap.size; omega) _
        have e0 : (W9.setCell ⟨w3.heap.size, 1, none⟩ (.slice av (m + 1) cv)).cell? ⟨w3.heap.size, 0, none⟩ = some (.int .i64 (p + q)) := (World.cell?_setCell_other _ _ _ _ (by simp)).trans f0W9
        have e1 : (W9.setCell ⟨w3.heap.size, 1, none⟩ (.slice av (m + 1) cv)).cell? ⟨w3.heap.size, 1, none⟩ = some (.slice av (m + 1) cv) := World.cell?_setCell_same _ _ _ f1W9
        have ef : (W9.setCell ⟨w3.heap.size, 1, none⟩ (.slice av (m + 1) cv)).frozen? ⟨w3.heap.size, 1, none⟩ = false := by simpa using ffW9
        have e2 : (W9.setCell ⟨w3.heap.size, 1, none⟩ (.slice av (m + 1) cv)).cell? ⟨wr.heap.size, 0, none⟩ = some (.slice xa0 X.1.length xk0) := (World.cell?_setCell_far _ _ _ _ hTG).trans t0W9
        have e3 : (W9.setCell ⟨w3.heap.size, 1, none⟩ (.slice av (m + 1) cv)).cell? ⟨wr.heap.size, 1, none⟩ = some (.slice xa1 X.2.length xk1) := (World.cell?_setCell_far _ _ _ _ hTG).trans t1W9
        have e4 : (W9.setCell ⟨w3.heap.size, 1, none⟩ (.slice av (m + 1) cv)).cell? ⟨w.heap.size, 0, none⟩ = some (.int .i64 p) := (World.cell?_setCell_far _ _ _ _ hAG).trans s0W9
        have HO5 := Lib.hid (owns_setT HOW9.out (p := ⟨w3.heap.size, 1, none⟩) HGW9.out (by decide) (.slice av (m + 1) cv))
        have HT5 := Lib.hid (HTW9.out.setT (p := ⟨w3.heap.size, 1, none⟩) HGW9.out (by decide) (.slice av (m + 1) cv))
        have HG5 := Lib.hid (HGW9.out.set ⟨w3.heap.size, 1, none⟩ (.slice av (m + 1) cv))
        generalize W9.setCell ⟨w3.heap.size, 1, none⟩ (.slice av (m + 1) cv) = W10 at hset e0 e1 ef e2 e3 e4 HO5 HT5 HG5 ⊢
        refine hK.out _ _ ⟨e2, e3, e4⟩ (fun hHeld => ?_)
        clear hK K
        try simp only [Act.put, List.setIfInBounds_toArray, List.set_cons_zero, List.set_cons_succ]
        refine wpAnyH_done (by kernel_rfl) ?_ _
        go_wp2_with fail
        go_roundw
        case rel => exact ⟨k + 1, m + 1, _, _, by omega, by have := HM.out; omega, by go_num, e0, e1, ef, HG5.out, HO5.out, HT5.out, hset⟩
        case measure => simp [intOf]; omega
      refine ar11 (fun K hK => ?_) AllReadyH.nil
      go_simp
      refine (l1Shift_any _ X.2 p W6 lo HXW6.out.2 s2 LX.out.2 (by omega) (by omega)).mono ?_
      rintro e W11 ⟨z0_, rfl, hi0, hbb⟩
      rw [← HZE.out] at hi0
      have belW11 := belW6.trans (hbb.mono belW6.size)
      have zdW11 := hbb.size
      have zTW11 : wr.heap.size < W11.heap.size := by omega
      have f0W11 := cell_carry f0W6 (Carries.of 0 hbb)
      have f1W11 := cell_carry f1W6 (Carries.of 0 hbb)
      have t0W11 := cell_carry t0W6 (Carries.of 0 hbb)
      have t1W11 := cell_carry t1W6 (Carries.of 0 hbb)
      have s0W11 := cell_carry s0W6 (Carries.of 0 hbb)
      have ffW11 := (hbb.frozen (p := ⟨w3.heap.size, 1, none⟩) HGW6.out.lt).trans ffW6
      have HGW11 := Lib.hid (HGW6.out.keep hbb)
      have HXW11 := Lib.hid (HXW6.out.keep (Carries.of lo hbb))
      have HOW11 := Lib.hid (owns_after HOW6.out hbb)
      have HTW11 := Lib.hid (HTW6.out.after hbb)
      have HYW11 := Lib.hid (owns_after HYW6.out hbb)
      have HZW11 := Lib.hid (IRow.low (B' := w2.heap.size) hi0 (by omega))
      obtain ⟨za, zk, rfl⟩ := IRow.form hi0
      clear hi0 hbb
      refine hK.out _ _ ⟨t0W11, t1W11, s0W11⟩ (fun hHeld => ?_)
      clear hK K
      try simp only [Act.put, List.setIfInBounds_toArray, List.set_cons_zero, List.set_cons_succ]
      refine tk12 (v := ?_) (by kernel_rfl) (by kernel_rfl) (by kernel_rfl) (by first | exact fun _ _ _ h => h | exact fun _ _ _ h => absurd h.1 (by simp)) (Or.inl ⟨by rfl, ?_⟩) (by assumption) ?_
      rotate_left 1
      focus (intro wx hSw; (try dsimp only at hSw); go_simp; try (with_reducible rfl))
      try simp only [Act.put, List.setIfInBounds_toArray, List.set_cons_zero, List.set_cons_succ]
      refine wpAnyH_ready (rs := [1, 13]) (by kernel_rfl) (by simp) ?_
      refine ar1 (fun K hK => ?_) ?_
      · go_simp
        refine hK.out _ _ ⟨t0W11, t1W11, s0W11⟩ (fun hHeld => ?_)
        clear hK K
        try simp only [Act.put, List.setIfInBounds_toArray, List.set_cons_zero, List.set_cons_succ]
        refine rd13 (by kernel_rfl) (fun K hK => ?_)
        go_simp
        have hbb : Below W11.heap.size W11 (W11.alloc (.cells #[.slice ya Y.length yk, .slice za Z.length zk] 176)) := (Below.refl _ _).alloc (Nat.le_refl _) _
        have c0 : (W11.alloc (.cells #[.slice ya Y.length yk, .slice za Z.length zk] 176)).cell? ⟨W11.heap.size, 0, none⟩ = some (.slice ya Y.length yk) := by simp
        have c1 : (W11.alloc (.cells #[.slice ya Y.length yk, .slice za Z.length zk] 176)).cell? ⟨W11.heap.size, 1, none⟩ = some (.slice za Z.length zk) := by simp
        generalize W11.alloc (.cells #[.slice ya Y.length yk, .slice za Z.length zk] 176) = W12 at hbb c0 c1 ⊢
        have belW12 := belW11.trans (hbb.mono belW11.size)
        have zdW12 := hbb.size
        have zTW12 : wr.heap.size < W12.heap.size := by omega
        have f0W12 := cell_carry f0W11 (Carries.of 0 hbb)
        have f1W12 := cell_carry f1W11 (Carries.of 0 hbb)
        have t0W12 := cell_carry t0W11 (Carries.of 0 hbb)
        have t1W12 := cell_carry t1W11 (Carries.of 0 hbb)
        have s0W12 := cell_carry s0W11 (Carries.of 0 hbb)
        have ffW12 := (hbb.frozen (p := ⟨w3.heap.size, 1, none⟩) HGW11.out.lt).trans ffW11
        have HGW12 := Lib.hid (HGW11.out.keep hbb)
        have HXW12 := Lib.hid (HXW11.out.keep (Carries.of lo hbb))
        have HOW12 := Lib.hid (owns_after HOW11.out hbb)
        have HTW12 := Lib.hid (HTW11.out.after hbb)
        have HYW12 := Lib.hid (owns_after HYW11.out hbb)
        have HZW12 := Lib.hid (owns_after HZW11.out hbb)
        refine hK.out _ _ ⟨t0W12, t1W12, s0W12⟩ (fun hHeld => ?_)
        clear hK K
        try simp only [Act.put, List.setIfInBounds_toArray, List.set_cons_zero, List.set_cons_succ]
        refine rd14 (by kernel_rfl) (fun K hK => ?_)
        rw [if_pos (by rfl)]
        have hGne := owns_ne HOW12.out HGW12.out (by decide)
        refine wp_append_pair (.tmp 34) (.tmp 46) rfl (w2.heap.size) v m xs rfl HOW12.out _ _ _ rfl c0 c1 rfl rfl (by omega) (by omega) ?_
        intro v' W13 hown' hgrow
        obtain ⟨av, cv, rfl⟩ := owns_form hown'
        have f0W13 := hgrow.cell f0W12 hGne
        have f1W13 := hgrow.cell f1W12 hGne
        have ffW13 := (World.frozen?_of_block (a := ⟨w3.heap.size, 1, none⟩) (hgrow.block w3.heap.size HGW12.out.lt hGne)).trans ffW12
        have t0W13 := hgrow.cell t0W12 hTne
        have t1W13 := hgrow.cell t1W12 hTne
        have s0W13 := hgrow.cell s0W12 hAne
        have belW13 := belW12.grown hgrow belW12.size (fun g hg => (HOW12.out.lt g hg).1)
        have zgW13 := hgrow.size
        have HGW13 := Lib.hid (HGW12.out.grown hgrow hGne)
        have HTW13 := Lib.hid ((HTW12.out.grown HOW12.out hgrow).put (u0 := .slice ya Y.length yk) (u1 := .slice za Z.length zk) (by rw [hrt.out]; exact HYW12.out.kept hgrow (rows_apart HYW12.out HOW12.out)) (by rw [hrt.out]; exact HZW12.out.kept hgrow (rows_apart HZW12.out HOW12.out)))
        have HOW13 := Lib.hid hown'
        clear hown' hgrow
        refine hK.out _ _ ⟨t0W13, t1W13, s0W13⟩ (fun hHeld => ?_)
        clear hK K
        try simp only [Act.put, List.setIfInBounds_toArray, List.set_cons_zero, List.set_cons_succ]
        refine tk15 (v := ?_) (by kernel_rfl) (by kernel_rfl) (by kernel_rfl) (by first | exact fun _ _ _ h => h | exact fun _ _ _ h => absurd h.1 (by simp)) (Or.inl ⟨by rfl, ?_⟩) (by assumption) ?_
        rotate_left 1
        focus (intro wx hSw; (try dsimp only at hSw); go_simp; try (with_reducible rfl))
        try simp only [Act.put, List.setIfInBounds_toArray, List.set_cons_zero, List.set_cons_succ]
        refine rd16 (by kernel_rfl) (fun K hK => ?_)
        go_simp
        have hset : Below w2.heap.size w2 (W13.setCell ⟨w3.heap.size, 1, none⟩ (.slice av (m + 1) cv)) := belW13.setCell (by show w2.heap.size ≤ w3.heap.size; omega) _
        have e0 : (W13.setCell ⟨w3.heap.size, 1, none⟩ (.slice av (m + 1) cv)).cell? ⟨w3.heap.size, 0, none⟩ = some (.int .i64 (p + q)) := (World.cell?_setCell_other _ _ _ _ (by simp)).trans f0W13
        have e1 : (W13.setCell ⟨w3.heap.size, 1, none⟩ (.slice av (m + 1) cv)).cell? ⟨w3.heap.size, 1, none⟩ = some (.slice av (m + 1) cv) := World.cell?_setCell_same _ _ _ f1W13
        have ef : (W13.setCell ⟨w3.heap.size, 1, none⟩ (.slice av (m + 1) cv)).frozen? ⟨w3.heap.size, 1, none⟩ = false := by simpa using ffW13
        have e2 : (W13.setCell ⟨w3.heap.size, 1, none⟩ (.slice av (m + 1) cv)).cell? ⟨wr.heap.size, 0, none⟩ = some (.slice xa0 X.1.length xk0) := (World.cell?_setCell_far _ _ _ _ hTG).trans t0W13
        have e3 : (W13.setCell ⟨w3.heap.size, 1, none⟩ (.slice av (m + 1) cv)).cell? ⟨wr.heap.size, 1, none⟩ = some (.slice xa1 X.2.length xk1) := (World.cell?_setCell_far _ _ _ _ hTG).trans t1W13
        have e4 : (W13.setCell ⟨w3.heap.size, 1, none⟩ (.slice av (m + 1) cv)).cell? ⟨w.heap.size, 0, none⟩ = some (.int .i64 p) := (World.cell?_setCell_far _ _ _ _ hAG).trans s0W13
        have HO5 := Lib.hid (owns_setT HOW13.out (p := ⟨w3.heap.size, 1, none⟩) HGW13.out (by decide) (.slice av (m + 1) cv))
        have HT5 := Lib.hid (HTW13.out.setT (p := ⟨w3.heap.size, 1, none⟩) HGW13.out (by decide) (.slice av (m + 1) cv))
        have HG5 := Lib.hid (HGW13.out.set ⟨w3.heap.size, 1, none⟩ (.slice av (m + 1) cv))
        generalize W13.setCell ⟨w3.heap.size, 1, none⟩ (.slice av (m + 1) cv) = W14 at hset e0 e1 ef e2 e3 e4 HO5 HT5 HG5 ⊢
        refine hK.out _ _ ⟨e2, e3, e4⟩ (fun hHeld => ?_)
        clear hK K
        try simp only [Act.put, List.setIfInBounds_toArray, List.set_cons_zero, List.set_cons_succ]
        refine wpAnyH_done (by kernel_rfl) ?_ _
        go_wp2_with fail
        go_roundw
        case rel => exact ⟨k + 1, m + 1, _, _, by omega, by have := HM.out; omega, by go_num, e0, e1, ef, HG5.out, HO5.out, HT5.out, hset⟩
        case measure => simp [intOf]; omega
      refine ar13 (fun K hK => ?_) AllReadyH.nil
      go_simp
      have hbb : Below W11.heap.size W11 (W11.alloc (.cells #[.slice ya Y.length yk, .slice za Z.length zk] 176)) := (Below.refl _ _).alloc (Nat.le_refl _) _
      have c0 : (W11.alloc (.cells #[.slice ya Y.length yk, .slice za Z.length zk] 176)).cell? ⟨W11.heap.size, 0, none⟩ = some (.slice ya Y.length yk) := by simp
      have c1 : (W11.alloc (.cells #[.slice ya Y.length yk, .slice za Z.length zk] 176)).cell? ⟨W11.heap.size, 1, none⟩ = some (.slice za Z.length zk) := by simp
      generalize W11.alloc (.cells #[.slice ya Y.length yk, .slice za Z.length zk] 176) = W15 at hbb c0 c1 ⊢
      have belW15 := belW11.trans (hbb.mono belW11.size)
      have zdW15 := hbb.size
      have zTW15 : wr.heap.size < W15.heap.size := by omega
      have f0W15 := cell_carry f0W11 (Carries.of 0 hbb)
      have f1W15 := cell_carry f1W11 (Carries.of 0 hbb)
      have t0W15 := cell_carry t0W11 (Carries.of 0 hbb)
      have t1W15 := cell_carry t1W11 (Carries.of 0 hbb)
      have s0W15 := cell_carry s0W11 (Carries.of 0 hbb)
      have ffW15 := (hbb.frozen (p := ⟨w3.heap.size, 1, none⟩) HGW11.out.lt).trans ffW11
      have HGW15 := Lib.hid (HGW11.out.keep hbb)
      have HXW15 := Lib.hid (HXW11.out.keep (Carries.of lo hbb))
      have HOW15 := Lib.hid (owns_after HOW11.out hbb)
      have HTW15 := Lib.hid (HTW11.out.after hbb)
      have HYW15 := Lib.hid (owns_after HYW11.out hbb)
      have HZW15 := Lib.hid (owns_after HZW11.out hbb)
      refine hK.out _ _ ⟨t0W15, t1W15, s0W15⟩ (fun hHeld => ?_)
      clear hK K
      try simp only [Act.put, List.setIfInBounds_toArray, List.set_cons_zero, List.set_cons_succ]
      refine rd1 (by kernel_rfl) (fun K hK => ?_)
      go_simp
      refine hK.out _ _ ⟨t0W15, t1W15, s0W15⟩ (fun hHeld => ?_)
      clear hK K
      try simp only [Act.put, List.setIfInBounds_toArray, List.set_cons_zero, List.set_cons_succ]
      refine rd14 (by kernel_rfl) (fun K hK => ?_)
      rw [if_pos (by rfl)]
      have hGne := owns_ne HOW15.out HGW15.out (by decide)
      refine wp_append_pair (.tmp 34) (.tmp 46) rfl (w2.heap.size) v m xs rfl HOW15.out _ _ _ rfl c0 c1 rfl rfl (by omega) (by omega) ?_
      intro v' W16 hown' hgrow
      obtain ⟨av, cv, rfl⟩ := owns_form hown'
      have f0W16 := hgrow.cell f0W15 hGne
      have f1W16 := hgrow.cell f1W15 hGne
      have ffW16 := (World.frozen?_of_block (a := ⟨w3.heap.size, 1, none⟩) (hgrow.block w3.heap.size HGW15.out.lt hGne)).trans ffW15
      have t0W16 := hgrow.cell t0W15 hTne
      have t1W16 := hgrow.cell t1W15 hTne
      have s0W16 := hgrow.cell s0W15 hAne
      have belW16 := belW15.grown hgrow belW15.size (fun g hg => (HOW15.out.lt g hg).1)
      have zgW16 := hgrow.size
      have HGW16 := Lib.hid (HGW15.out.grown hgrow hGne)
      have HTW16 := Lib.hid ((HTW15.out.grown HOW15.out hgrow).put (u0 := .slice ya Y.length yk) (u1 := .slice za Z.length zk) (by rw [hrt.out]; exact HYW15.out.kept hgrow (rows_apart HYW15.out HOW15.out)) (by rw [hrt.out]; exact HZW15.out.kept hgrow (rows_apart HZW15.out HOW15.out)))
      have HOW16 := Lib.hid hown'
      clear hown' hgrow
      refine hK.out _ _ ⟨t0W16, t1W16, s0W16⟩ (fun hHeld => ?_)
      clear hK K
      try simp only [Act.put, List.setIfInBounds_toArray, List.set_cons_zero, List.set_cons_succ]
      refine tk15 (v := ?_) (by kernel_rfl) (by kernel_rfl) (by kernel_rfl) (by first | exact fun _ _ _ h => h | exact fun _ _ _ h => absurd h.1 (by simp)) (Or.inl ⟨by rfl, ?_⟩) (by assumption) ?_
      rotate_left 1
      focus (intro wx hSw; (try dsimp only at hSw); go_simp; try (with_reducible rfl))
      try simp only [Act.put, List.setIfInBounds_toArray, List.set_cons_zero, List.set_cons_succ]
      refine rd16 (by kernel_rfl) (fun K hK => ?_)
      go_simp
      have hset : Below w2.heap.size w2 (W16.setCell ⟨w3.heap.size, 1, none⟩ (.slice av (m + 1) cv)) := belW16.setCell (by show w2.heap.size ≤ w3.heap.size; omega) _
      have e0 : (W16.setCell ⟨w3.heap.size, 1, none⟩ (.slice av (m + 1) cv)).cell? ⟨w3.heap.size, 0, none⟩ = some (.int .i64 (p + q)) := (World.cell?_setCell_other _ _ _ _ (by simp)).trans f0W16
      have e1 : (W16.setCell ⟨w3.heap.size, 1, none⟩ (.slice av (m + 1) cv)).cell? ⟨w3.heap.size, 1, none⟩ = some (.slice av (m + 1) cv) := World.cell?_setCell_same _ _ _ f1W16
      have ef : (W16.setCell ⟨w3.heap.size, 1, none⟩ (.slice av (m + 1) cv)).frozen? ⟨w3.heap.size, 1, none⟩ = false := by simpa using ffW16
      have e2 : (W16.setCell ⟨w3.heap.size, 1, none⟩ (.slice av (m + 1) cv)).cell? ⟨wr.heap.size, 0, none⟩ = some (.slice xa0 X.1.length xk0) := (World.cell?_setCell_far _ _ _ _ hTG).trans t0W16
      have e3 : (W16.setCell ⟨w3.heap.size, 1, none⟩ (.slice av (m + 1) cv)).cell? ⟨wr.heap.size, 1, none⟩ = some (.slice xa1 X.2.length xk1) := (World.cell?_setCell_far _ _ _ _ hTG).trans t1W16
      have e4 : (W16.setCell ⟨w3.heap.size, 1, none⟩ (.slice av (m + 1) cv)).cell? ⟨w.heap.size, 0, none⟩ = some (.int .i64 p) := (World.cell?_setCell_far _ _ _ _ hAG).trans s0W16
      have HO5 := Lib.hid (owns_setT HOW16.out (p := ⟨w3.heap.size, 1, none⟩) HGW16.out (by decide) (.slice av (m + 1) cv))
      have HT5 := Lib.hid (HTW16.out.setT (p := ⟨w3.heap.size, 1, none⟩) HGW16.out (by decide) (.slice av (m + 1) cv))
      have HG5 := Lib.hid (HGW16.out.set ⟨w3.heap.size, 1, none⟩ (.slice av (m + 1) cv))
      generalize W16.setCell ⟨w3.heap.size, 1, none⟩ (.slice av (m + 1) cv) = W17 at hset e0 e1 ef e2 e3 e4 HO5 HT5 HG5 ⊢
      refine hK.out _ _ ⟨e2, e3, e4⟩ (fun hHeld => ?_)
      clear hK K
      try simp only [Act.put, List.setIfInBounds_toArray, List.set_cons_zero, List.set_cons_succ]
      refine wpAnyH_done (by kernel_rfl) ?_ _
      go_wp2_with fail
      go_roundw
      case rel => exact ⟨k + 1, m + 1, _, _, by omega, by have := HM.out; omega, by go_num, e0, e1, ef, HG5.out, HO5.out, HT5.out, hset⟩
      case measure => simp [intOf]; omega
    · have hkk : k = us.length := by omega
      subst hkk
      have hmm : m = U.length := by rw [HUL.out]; exact hm
      subst hmm
      have hna0 : TrsAt w2.heap.size wr v U := OwnTrs.read hot.out hown.out
      obtain ⟨av', cv', rfl⟩ := owns_form hown.out
      clear hown hot hm
      have HNA := Lib.hid (show NetAt w2.heap.size wr (.agg #[.int .i64 (p + q), .slice av' U.length cv']) ⟨p + q, U⟩ from ⟨by simp; omega, by simp; omega, _, rfl, hna0⟩)
      have HTR := Lib.hid hna0; clear hna0
      go_wp2_with fail
      refine (l1Good_any _ ⟨p + q, U⟩ wr _ HNA.out HSM.out).mono ?_
      rintro e w9 ⟨rfl, hb⟩
      have b9 := hb1.trans (hb.mono hb1.size)
      have f0 := cell_carry f0 (Carries.of 0 hb)
      have f1 := cell_carry f1 (Carries.of 0 hb)
      have m0 := cell_keep R0.out b9 (Nat.le_refl _)
      have m1 := cell_keep R1.out b9 (Nat.le_refl _)
      have mf0 := (b9.frozen (p := ⟨w.heap.size + 2, 0, none⟩) z2).trans RF0.out
      have mf1 := (b9.frozen (p := ⟨w.heap.size + 2, 1, none⟩) z2).trans RF1.out
      have zz9 := hb.size
      have HTA9 := Lib.hid (HTR.out.keep (Carries.of _ hb))
      have hw9 : Below w.heap.size w w9 := hw2.trans (b9.mono hw2.size)
      have hq2 := HQ2.out
      clear hb HTR HNA
      cases hg2 : goodN ⟨p + q, U⟩ with
      | false =>
        rw [hg2] at hq2
        have k1 : unR a b = ⟨0, []⟩ := by unfold unR; rw [hq2]; rfl
        rw [HFL.out] at k1
        rw [HFB.out] at hq2
        subst k1; subst hq2
        clear hg2
        go_wp2_with fail
        refine bodyPost_ret (v := .tuple #[.agg #[.int .i64 0, .slice none 0 0], .bool false]) (by simp [results, Try.results80, go_sem, m0, m1]) rfl ?_
        refine ⟨_, rfl, ⟨none, 0, rfl, Nat.le_refl _, Or.inl rfl⟩, ?_⟩
        exact (hw9.setCell (by show w.heap.size ≤ w.heap.size + 2; omega) _).setCell (by show w.heap.size ≤ w.heap.size + 2; omega) _
      | true =>
        rw [hg2] at hq2
        have k1 : unR a b = ⟨p + q, U⟩ := by unfold unR; rw [hq2, HUE.out]; rfl
        rw [HFL.out] at k1
        rw [HFB.out] at hq2
        subst k1; subst hq2
        clear hg2
        go_wp2_with fail
        refine bodyPost_ret (v := .tuple #[.agg #[.int .i64 (p + q), .slice av' U.length cv'], .bool true]) (by simp [results, Try.results80, go_sem, m0, m1]) rfl ?_
        refine ⟨_, rfl, (HTA9.out.keep ?_).low (by omega), ?_⟩
        · exact ((Carries.refl _ _).set (by simp; omega) _).set (by simp; omega) _
        · exact (hw9.setCell (by show w.heap.size ≤ w.heap.size + 2; omega) _).setCell (by show w.heap.size ≤ w.heap.size + 2; omega) _

end Go.Proofs.Ytgmnknlnlmcmfaa
