/- WALK: UnionNets of the program. -/
import Derived.Test.YtgmnknlnlmcmfaaVUnc
namespace Go.Proofs.Ytgmnknlnlmcmfaa
open Go.RowKit

theorem Same.grown {l R : Nat} {w w' : World} (hg : w.grownBy w' (some R)) (hR : R < l) : Same l w w' :=
  ⟨hg.size, fun b hb hs => hg.block b hs (by intro e; injection e with e; omega)⟩

/-- a call returns a net whose lists lie apart in blocks of its own, and this bool -/
def RetSepB (w : World) (n : NetD) (b : Bool) (e : Ending) (w' : World) : Prop :=
  ∃ v, e = .returned (.tuple #[.agg #[.int .i64 n.places, v], .bool b]) ∧ (∃ c : Nat → Nat, w.heap.size ≤ c 0 ∧ c (2 * n.ts.length) ≤ w'.heap.size ∧ TrsSep c w' v n.ts) ∧ TrsAt w.heap.size w' v n.ts ∧ Below w.heap.size w w'

set_option maxRecDepth 100000 in
set_option maxHeartbeats 2000000 in
theorem UnionNets_any (va vb : Value) (a b : NetD) (w : World) (lo : Nat) (hva : NetAt lo w va a) (hsa : SmallTrs a.ts) (hvb : NetAt lo w vb b) (hsb : SmallTrs b.ts) :
    Calls Try.prog 85 #[va, vb] w (RetSepB w (unR a b) (unB a b)) := by
  generalize hFL : unR a b = RN
  generalize hFB : unB a b = B
  have HFL := Lib.hid hFL; clear hFL
  have HFB := Lib.hid hFB; clear hFB
  obtain ⟨_, _, _, rfl, hta⟩ := id hva
  obtain ⟨_, _, _, rfl, htb⟩ := id hvb
  obtain ⟨aa, ka, rfl, _, _⟩ := id hta
  obtain ⟨ab, kb, rfl, _, _⟩ := id htb
  obtain ⟨p, hp⟩ : ∃ p, p = a.places := ⟨_, rfl⟩
  obtain ⟨ts, hts⟩ : ∃ ts, ts = a.ts := ⟨_, rfl⟩
  obtain ⟨q, hq⟩ : ∃ q, q = b.places := ⟨_, rfl⟩
  obtain ⟨us, hus⟩ : ∃ us, us = b.ts := ⟨_, rfl⟩
  rw [← hp, ← hts] at hva ⊢
  rw [← hq, ← hus] at hvb ⊢
  rw [← hts] at hta
  rw [← hus] at htb
  have HPA := Lib.hid hp; clear hp
  have HTA := Lib.hid hts; clear hts
  have HPB := Lib.hid hq; clear hq
  have HTB := Lib.hid hus; clear hus
  have HVA := Lib.hid hva; clear hva
  have HVB := Lib.hid hvb; clear hvb
  have HA := Lib.hid hta; clear hta
  have HB := Lib.hid htb; clear htb
  have HSA := Lib.hid hsa; clear hsa
  have HSB := Lib.hid hsb; clear hsb
  go_enter Try.func85, Try.ntmps85
  go_wp2_with fail
  refine (IsValidNet_any _ a _ lo (HVA.out.keep ?_) HSA.out).mono ?_
  · (repeat' (first | (with_reducible exact Carries.refl _ _) | (with_reducible assumption) | (with_reducible refine Carries.alloc ?_ _) | (with_reducible refine Carries.drew ?_) | (with_reducible refine Carries.drewN ?_ _) | (with_reducible refine Carries.set ?_ ?_ _) | go_size))
  rintro e w1 ⟨rfl, hb⟩
  have hw1 : Below w.heap.size w w1 := by
    refine Below.trans ?_ (hb.mono ?_)
    · (repeat' (first | (with_reducible exact Below.refl _ _) | (with_reducible assumption) | (with_reducible refine Below.alloc ?_ ?_ _) | (with_reducible refine Below.drew ?_) | (with_reducible refine below_drewN ?_ _) | (with_reducible refine Below.setCell ?_ ?_ _) | go_size))
    · simp; omega
  have a0 : w1.cell? ⟨w.heap.size, 0, none⟩ = some (.int .i64 p) := cell_carry (by simp [go_sem]) (Carries.of 0 hb)
  have a1 : w1.cell? ⟨w.heap.size, 1, none⟩ = some (.slice aa ts.length ka) := cell_carry (by simp [go_sem]) (Carries.of 0 hb)
  have b0 : w1.cell? ⟨w.heap.size + 1, 0, none⟩ = some (.int .i64 q) := cell_carry (by simp [go_sem]) (Carries.of 0 hb)
  have b1 : w1.cell? ⟨w.heap.size + 1, 1, none⟩ = some (.slice ab us.length kb) := cell_carry (by simp [go_sem]) (Carries.of 0 hb)
  have r0 : w1.cell? ⟨w.heap.size + 2, 0, none⟩ = some (.int .i64 0) := cell_carry (by simp [go_sem]) (Carries.of 0 hb)
  have r1 : w1.cell? ⟨w.heap.size + 2, 1, none⟩ = some (.slice none 0 0) := cell_carry (by simp [go_sem]) (Carries.of 0 hb)
  have rf0 : w1.frozen? ⟨w.heap.size + 2, 0, none⟩ = false := (hb.frozen (by simp)).trans (by simp [go_sem])
  have rf1 : w1.frozen? ⟨w.heap.size + 2, 1, none⟩ = false := (hb.frozen (by simp)).trans (by simp [go_sem])
  have z1 : w.heap.size + 2 < w1.heap.size := by have := hb.size; simp at this; omega
  clear hb
  cases hg : goodN a with
  | false =>
    have hcf : unB a b = false := by unfold unB; rw [hg]; rfl
    have k1 : unR a b = ⟨0, []⟩ := by unfold unR; rw [hcf]; rfl
    rw [HFL.out] at k1
    rw [HFB.out] at hcf
    subst k1; subst hcf
    clear hg
    go_wp2_with fail
    refine bodyPost_ret (v := .tuple #[.agg #[.int .i64 0, .slice none 0 0], .bool false]) (by simp [results, Try.results85, go_sem, r0, r1]) rfl ?_
    refine ⟨_, rfl, ⟨fun _ => w.heap.size, Nat.le_refl _, by simp; omega, fun _ => Nat.le_refl _, none, 0, rfl, Nat.le_refl _, Or.inl rfl⟩, ⟨none, 0, rfl, Nat.le_refl _, Or.inl rfl⟩, ?_⟩
    (repeat' (first | (with_reducible exact Below.refl _ _) | (with_reducible assumption) | (with_reducible refine Below.alloc ?_ ?_ _) | (with_reducible refine Below.drew ?_) | (with_reducible refine below_drewN ?_ _) | (with_reducible refine Below.setCell ?_ ?_ _) | go_size))
  | true =>
  have HGA := Lib.hid hg; clear hg
  go_wp2_with fail
  refine (IsValidNet_any _ b _ lo (HVB.out.keep ?_) HSB.out).mono ?_
  · exact Carries.of lo hw1
  rintro e w2 ⟨rfl, hb⟩
  have hw2 : Below w.heap.size w w2 := hw1.trans (hb.mono (by omega))
  have a0 := cell_carry a0 (Carries.of 0 hb)
  have a1 := cell_carry a1 (Carries.of 0 hb)
  have b0 := cell_carry b0 (Carries.of 0 hb)
  have b1 := cell_carry b1 (Carries.of 0 hb)
  have r0 := cell_carry r0 (Carries.of 0 hb)
  have r1 := cell_carry r1 (Carries.of 0 hb)
  have rf0 := (hb.frozen (p := ⟨w.heap.size + 2, 0, none⟩) z1).trans rf0
  have rf1 := (hb.frozen (p := ⟨w.heap.size + 2, 1, none⟩) z1).trans rf1
  have z2 : w.heap.size + 2 < w2.heap.size := by have := hb.size; omega
  clear hb
  cases hg : goodN b with
  | false =>
    have hcf : unB a b = false := by unfold unB; rw [hg, HGA.out]; rfl
    have k1 : unR a b = ⟨0, []⟩ := by unfold unR; rw [hcf]; rfl
    rw [HFL.out] at k1
    rw [HFB.out] at hcf
    subst k1; subst hcf
    clear hg
    go_wp2_with fail
    refine bodyPost_ret (v := .tuple #[.agg #[.int .i64 0, .slice none 0 0], .bool false]) (by simp [results, Try.results85, go_sem, r0, r1]) rfl ?_
    refine ⟨_, rfl, ⟨fun _ => w.heap.size, Nat.le_refl _, by simp; omega, fun _ => Nat.le_refl _, none, 0, rfl, Nat.le_refl _, Or.inl rfl⟩, ⟨none, 0, rfl, Nat.le_refl _, Or.inl rfl⟩, ?_⟩
    (repeat' (first | (with_reducible exact Below.refl _ _) | (with_reducible assumption) | (with_reducible refine Below.alloc ?_ ?_ _) | (with_reducible refine Below.drew ?_) | (with_reducible refine below_drewN ?_ _) | (with_reducible refine Below.setCell ?_ ?_ _) | go_size))
  | true =>
  have HGB := Lib.hid hg; clear hg
  have hpa := (goodN_parts HGA.out)
  have hpb := (goodN_parts HGB.out)
  rw [← HPA.out, ← HTA.out] at hpa
  rw [← HPB.out, ← HTB.out] at hpb
  obtain ⟨pa0, pa1, na, _⟩ := hpa
  obtain ⟨pb0, pb1, nb, _⟩ := hpb
  have HLA := Lib.hid (goodN_low HGA.out)
  have HLB := Lib.hid (goodN_low HGB.out)
  have HSA' := HSA
  have HSB' := HSB
  rw [← HTA.out] at HLA HSA'
  rw [← HTB.out] at HLB HSB'
  go_wp2_with fail
  have hal : Below w2.heap.size w2 (w2.alloc (.cells #[.int .i64 (p + q), .slice none 0 0] 60)) := (Below.refl _ _).alloc (Nat.le_refl _) _
  have g0 : (w2.alloc (.cells #[.int .i64 (p + q), .slice none 0 0] 60)).cell? ⟨w2.heap.size, 0, none⟩ = some (.int .i64 (p + q)) := by simp
  have g1 : (w2.alloc (.cells #[.int .i64 (p + q), .slice none 0 0] 60)).cell? ⟨w2.heap.size, 1, none⟩ = some (.slice none 0 0) := by simp
  have gf1 : (w2.alloc (.cells #[.int .i64 (p + q), .slice none 0 0] 60)).frozen? ⟨w2.heap.size, 1, none⟩ = false := by simp
  have gz : w2.heap.size < (w2.alloc (.cells #[.int .i64 (p + q), .slice none 0 0] 60)).heap.size := by simp
  generalize w2.alloc (.cells #[.int .i64 (p + q), .slice none 0 0] 60) = W at g0 g1 gf1 gz hal ⊢
  have a0 := cell_carry a0 (Carries.of 0 hal)
  have a1 := cell_carry a1 (Carries.of 0 hal)
  have b0 := cell_carry b0 (Carries.of 0 hal)
  have b1 := cell_carry b1 (Carries.of 0 hal)
  have bel := hal
  refine wp_region_held_drew (S := fun w' => w'.cell? ⟨w.heap.size, 0, none⟩ = some (.int .i64 p) ∧ w'.cell? ⟨w.heap.size, 1, none⟩ = some (.slice aa ts.length ka) ∧ w'.cell? ⟨w.heap.size + 1, 0, none⟩ = some (.int .i64 q) ∧ w'.cell? ⟨w.heap.size + 1, 1, none⟩ = some (.slice ab us.length kb)) (by kernel_rfl) ⟨a0, a1, b0, b1⟩ (fun hHeld => ?_)
  have hd : Below W.heap.size W W.drew := (Below.refl _ _).drew
  generalize W.drew = W0 at hd hHeld ⊢
  have a0 := cell_carry a0 (Carries.of 0 hd)
  have a1 := cell_carry a1 (Carries.of 0 hd)
  have b0 := cell_carry b0 (Carries.of 0 hd)
  have b1 := cell_carry b1 (Carries.of 0 hd)
  have g0 := cell_carry g0 (Carries.of 0 hd)
  have g1 := cell_carry g1 (Carries.of 0 hd)
  have gf1 := (hd.frozen (p := ⟨w2.heap.size, 1, none⟩) (by simp; omega)).trans gf1
  have bel := bel.trans (hd.mono bel.size)
  have gz0 : w2.heap.size < W0.heap.size := by have := hd.size; omega
  have HA0 := Lib.hid (HA.out.keep (Carries.of lo (hw2.trans (bel.mono hw2.size))))
  clear hd
  refine tk0 (v := ?_) (by kernel_rfl) (by kernel_rfl) (by kernel_rfl) (by first | exact fun _ _ _ h => h | exact fun _ _ _ h => absurd h.1 (by simp)) (Or.inl ⟨by rfl, ?_⟩) (by assumption) ?_
  rotate_left 1
  focus (intro wx hSw; (try dsimp only at hSw); go_simp; try (with_reducible rfl))
  try simp only [Act.put, List.setIfInBounds_toArray, List.set_cons_zero, List.set_cons_succ]
  refine tk2 (v := ?_) (by kernel_rfl) (by kernel_rfl) (by kernel_rfl) (by first | exact fun _ _ _ h => h | exact fun _ _ _ h => absurd h.1 (by simp)) (Or.inl ⟨by rfl, ?_⟩) (by assumption) ?_
  rotate_left 1
  focus (intro wx hSw; (try dsimp only at hSw); go_simp; try (with_reducible rfl))
  try simp only [Act.put, List.setIfInBounds_toArray, List.set_cons_zero, List.set_cons_succ]
  refine tk3 (v := ?_) (by kernel_rfl) (by kernel_rfl) (by kernel_rfl) (by first | exact fun _ _ _ h => h | exact fun _ _ _ h => absurd h.1 (by simp)) (Or.inl ⟨by rfl, ?_⟩) (by assumption) ?_
  rotate_left 1
  focus (intro wx hSw; (try dsimp only at hSw); go_simp; try (with_reducible rfl))
  try simp only [Act.put, List.setIfInBounds_toArray, List.set_cons_zero, List.set_cons_succ]
  refine tk4 (v := ?_) (by kernel_rfl) (by kernel_rfl) (by kernel_rfl) (by first | exact fun _ _ _ h => h | exact fun _ _ _ h => absurd h.1 (by simp)) (Or.inl ⟨by rfl, ?_⟩) (by assumption) ?_
  rotate_left 1
  focus (intro wx hSw; (try dsimp only at hSw); go_simp; try (with_reducible rfl))
  try simp only [Act.put, List.setIfInBounds_toArray, List.set_cons_zero, List.set_cons_succ]
  refine rd1 (by kernel_rfl) (fun K hK => ?_)
  go_simp
  refine (movedTransitions_any p _ ts 0 W0 lo HA0.out HSA'.out HLA.out (by omega) (by omega)).mono ?_
  rintro e W1 ⟨R1, c1, rfl, hR1, hRc1, hc1s, hrow1, hbb⟩
  have a0 := cell_carry a0 (Carries.of 0 hbb)
  have a1 := cell_carry a1 (Carries.of 0 hbb)
  have b0 := cell_carry b0 (Carries.of 0 hbb)
  have b1 := cell_carry b1 (Carries.of 0 hbb)
  have g0 := cell_carry g0 (Carries.of 0 hbb)
  have g1 := cell_carry g1 (Carries.of 0 hbb)
  have gf1 := (hbb.frozen (p := ⟨w2.heap.size, 1, none⟩) (by simp; omega)).trans gf1
  have bel := bel.trans (hbb.mono bel.size)
  have zs1 := hbb.size
  have HB1 := Lib.hid (HB.out.keep (Carries.of lo (hw2.trans (bel.mono hw2.size))))
  have HR1 := Lib.hid hrow1; clear hrow1 hbb HA0
  refine hK.out _ _ ⟨a0, a1, b0, b1⟩ (fun hHeld => ?_)
  clear hK K
  try simp only [Act.put, List.setIfInBounds_toArray, List.set_cons_zero, List.set_cons_succ]
  refine rd5 (by kernel_rfl) (fun K hK => ?_)
  go_simp
  refine (movedTransitions_any q _ us p W1 lo HB1.out HSB'.out HLB.out (by omega) (by omega)).mono ?_
  rintro e W2 ⟨R2, c2, rfl, hR2, hRc2, hc2s, hrow2, hbb⟩
  have a0 := cell_carry a0 (Carries.of 0 hbb)
  have a1 := cell_carry a1 (Carries.of 0 hbb)
  have b0 := cell_carry b0 (Carries.of 0 hbb)
  have b1 := cell_carry b1 (Carries.of 0 hbb)
  have g0 := cell_carry g0 (Carries.of 0 hbb)
  have g1 := cell_carry g1 (Carries.of 0 hbb)
  have gf1 := (hbb.frozen (p := ⟨w2.heap.size, 1, none⟩) (by simp; omega)).trans gf1
  have bel := bel.trans (hbb.mono bel.size)
  have zs2 := hbb.size
  obtain ⟨xs, hox, _, hsx⟩ := (HR1.out.keep hbb).owns hR1 (by omega)
  obtain ⟨ys, hoy, hcy, hsy⟩ := hrow2.owns (Nat.le_refl _) (by omega)
  have HOX := Lib.hid hox; clear hox hoy
  have HCY := Lib.hid hcy; clear hcy
  obtain ⟨c, hc0, hcs, hsep⟩ := hsx.append hsy (by rw [movTs_length]) (fun i => by have := hc1s i; omega) (lo := R1 + 1) (hi := W2.heap.size) hRc1 hc2s
  have HYL := Lib.hid hsy.2.1
  have HYO := Lib.hid hsy.one
  rw [movTs_zero] at hsep
  have HSEP := Lib.hid hsep; clear hsep hsx hsy hrow2 hbb HR1 HB1
  refine hK.out _ _ ⟨a0, a1, b0, b1⟩ (fun hHeld => ?_)
  clear hK K
  try simp only [Act.put, List.setIfInBounds_toArray, List.set_cons_zero, List.set_cons_succ]
  refine rd6 (by kernel_rfl) (fun K hK => ?_)
  rw [if_pos (by rfl)]
  refine wp_append_trs (.tmp 23) (.tmp 27) rfl W0.heap.size _ _ xs rfl HOX.out R2 _ _ ys rfl HYL.out HCY.out HYO.out (by omega) (by omega) ?_
  intro v' W3 hown hgrow
  obtain ⟨av, cv, rfl⟩ := owns_form hown
  have hne : ∀ k, k < W0.heap.size → some k ≠ (Value.slice (some ⟨R1, 0, none⟩) ts.length ts.length).ownBlock := fun k hk e => by
    simp only [Value.ownBlock, Option.some.injEq] at e; omega
  have a0 := hgrow.cell a0 (hne _ (by simp; omega))
  have a1 := hgrow.cell a1 (hne _ (by simp; omega))
  have b0 := hgrow.cell b0 (hne _ (by simp; omega))
  have b1 := hgrow.cell b1 (hne _ (by simp; omega))
  have g0 := hgrow.cell g0 (hne _ (by simp; omega))
  have g1 := hgrow.cell g1 (hne _ (by simp; omega))
  have gf1 := (World.frozen?_of_block (a := ⟨w2.heap.size, 1, none⟩) (hgrow.block w2.heap.size (by omega) (hne _ (by omega)))).trans gf1
  have bel := bel.grown hgrow bel.size (fun g hg => by have e : R1 = g := Option.some.inj hg; have h1 : w2.heap.size < W0.heap.size := gz0; have h2 : W0.heap.size ≤ R1 := hR1; subst e; exact Nat.le_of_lt (Nat.lt_of_lt_of_le h1 h2))
  have zs3 := hgrow.size
  have hmono := HSEP.out.1
  have HSEP3 := Lib.hid (HSEP.out.keep (fun i => Same.grown (R := R1) hgrow (by have := mono_le hmono (Nat.zero_le i); omega)))
  have HOWN := Lib.hid hown
  clear hown hgrow HSEP HOX HCY HYL HYO hne
  refine hK.out _ _ ⟨a0, a1, b0, b1⟩ (fun hHeld => ?_)
  clear hK K
  try simp only [Act.put, List.setIfInBounds_toArray, List.set_cons_zero, List.set_cons_succ]
  refine tk7 (v := ?_) (by kernel_rfl) (by kernel_rfl) (by kernel_rfl) (by first | exact fun _ _ _ h => h | exact fun _ _ _ h => absurd h.1 (by simp)) (Or.inl ⟨by rfl, ?_⟩) (by assumption) ?_
  rotate_left 1
  focus (intro wx hSw; (try dsimp only at hSw); go_simp; try (with_reducible rfl))
  try simp only [Act.put, List.setIfInBounds_toArray, List.set_cons_zero, List.set_cons_succ]
  refine rd8 (by kernel_rfl) (fun K hK => ?_)
  go_simp
  have bel4 : Below w2.heap.size w2 (W3.setCell ⟨w2.heap.size, 1, none⟩ (.slice av (ts.length + us.length) cv)) := bel.setCell (by simp) _
  have e0 : (W3.setCell ⟨w2.heap.size, 1, none⟩ (.slice av (ts.length + us.length) cv)).cell? ⟨w2.heap.size, 0, none⟩ = some (.int .i64 (p + q)) := (World.cell?_setCell_other _ _ _ _ (by simp)).trans g0
  have e1 : (W3.setCell ⟨w2.heap.size, 1, none⟩ (.slice av (ts.length + us.length) cv)).cell? ⟨w2.heap.size, 1, none⟩ = some (.slice av (ts.length + us.length) cv) := World.cell?_setCell_same _ _ _ g1
  have p0 : (W3.setCell ⟨w2.heap.size, 1, none⟩ (.slice av (ts.length + us.length) cv)).cell? ⟨w.heap.size, 0, none⟩ = some (.int .i64 p) := (World.cell?_setCell_far _ _ _ _ (by simp; omega)).trans a0
  have p1 : (W3.setCell ⟨w2.heap.size, 1, none⟩ (.slice av (ts.length + us.length) cv)).cell? ⟨w.heap.size, 1, none⟩ = some (.slice aa ts.length ka) := (World.cell?_setCell_far _ _ _ _ (by simp; omega)).trans a1
  have p2 : (W3.setCell ⟨w2.heap.size, 1, none⟩ (.slice av (ts.length + us.length) cv)).cell? ⟨w.heap.size + 1, 0, none⟩ = some (.int .i64 q) := (World.cell?_setCell_far _ _ _ _ (by simp; omega)).trans b0
  have p3 : (W3.setCell ⟨w2.heap.size, 1, none⟩ (.slice av (ts.length + us.length) cv)).cell? ⟨w.heap.size + 1, 1, none⟩ = some (.slice ab us.length kb) := (World.cell?_setCell_far _ _ _ _ (by simp; omega)).trans b1
  have hz4 : (W3.setCell ⟨w2.heap.size, 1, none⟩ (.slice av (ts.length + us.length) cv)).heap.size = W3.heap.size := by simp
  have HSEP4 := Lib.hid (HSEP3.out.keep (fun i => (Same.refl _ _).set (p := ⟨w2.heap.size, 1, none⟩) (by have := mono_le hmono (Nat.zero_le i); simp; omega) (.slice av (ts.length + us.length) cv)))
  have HOWN4 := Lib.hid (owns_set HOWN.out (p := ⟨w2.heap.size, 1, none⟩) (by simp; omega) (.slice av (ts.length + us.length) cv))
  generalize W3.setCell ⟨w2.heap.size, 1, none⟩ (.slice av (ts.length + us.length) cv) = W4 at bel4 e0 e1 p0 p1 p2 p3 hz4 HSEP4 HOWN4 ⊢
  refine hK.out _ _ ⟨p0, p1, p2, p3⟩ (fun hHeld => ?_)
  clear hK K
  try simp only [Act.put, List.setIfInBounds_toArray, List.set_cons_zero, List.set_cons_succ]
  refine wpAnyH_done (by kernel_rfl) ?_ _
  clear a0 a1 b0 b1 p0 p1 p2 p3 g0 g1 gf1 HSEP3 HOWN
  obtain ⟨U, hU⟩ : ∃ U, U = ts ++ movTs us p := ⟨_, rfl⟩
  have hUl : U.length = ts.length + us.length := by rw [hU, List.length_append, movTs_length]
  have hUe : unN a b = ⟨p + q, U⟩ := by unfold unN unT; rw [HPA.out, HPB.out, hU, HTA.out, HTB.out, HPA.out]
  have hsm : SmallTrs U := by have := unT_small HSA.out HSB.out HGA.out HGB.out; unfold unT at this; rw [← HTA.out, ← HTB.out, ← HPA.out, ← hU] at this; exact this
  rw [← hU, ← hUl] at HSEP4
  rw [← hUl] at HOWN4 e1 ⊢
  have ht := HSEP4.out.read HOWN4.out
  have hna : NetAt 0 W4 (.agg #[.int .i64 (p + q), .slice av U.length cv]) ⟨p + q, U⟩ := ⟨by simp; omega, by simp; omega, _, rfl, ht.at⟩
  have HNA := Lib.hid hna; clear hna ht hU
  have HSM := Lib.hid hsm; clear hsm
  have hq2 : unB a b = goodN ⟨p + q, U⟩ := by unfold unB; rw [HGA.out, HGB.out, hUe]; rfl
  have HUE := Lib.hid hUe; clear hUe
  have HUL := Lib.hid hUl; clear hUl
  go_wp2_with fail
  refine (IsValidNet_any _ ⟨p + q, U⟩ W4 0 HNA.out HSM.out).mono ?_
  rintro e w9 ⟨rfl, hb⟩
  have b9 := bel4.trans (hb.mono bel4.size)
  have f0 := cell_carry e0 (Carries.of 0 hb)
  have f1 := cell_carry e1 (Carries.of 0 hb)
  have m0 := cell_keep r0 b9 (Nat.le_refl _)
  have m1 := cell_keep r1 b9 (Nat.le_refl _)
  have mf0 := (b9.frozen (p := ⟨w.heap.size + 2, 0, none⟩) z2).trans rf0
  have mf1 := (b9.frozen (p := ⟨w.heap.size + 2, 1, none⟩) z2).trans rf1
  have zz9 := hb.size
  have HS9 := Lib.hid (HSEP4.out.keep (fun i => Same.of (c i) hb))
  have HO9 := Lib.hid (owns_after HOWN4.out hb)
  have hw9 : Below w.heap.size w w9 := hw2.trans (b9.mono hw2.size)
  clear hb e0 e1 HSEP4 HOWN4
  cases hg2 : goodN ⟨p + q, U⟩ with
  | false =>
    rw [hg2] at hq2
    have k1 : unR a b = ⟨0, []⟩ := by unfold unR; rw [hq2]; rfl
    rw [HFL.out] at k1
    rw [HFB.out] at hq2
    subst k1; subst hq2
    clear hg2
    go_wp2_with fail
    refine bodyPost_ret (v := .tuple #[.agg #[.int .i64 0, .slice none 0 0], .bool false]) (by simp [results, Try.results85, go_sem, m0, m1]) rfl ?_
    refine ⟨_, rfl, ⟨fun _ => w.heap.size, Nat.le_refl _, by simp; omega, fun _ => Nat.le_refl _, none, 0, rfl, Nat.le_refl _, Or.inl rfl⟩, ⟨none, 0, rfl, Nat.le_refl _, Or.inl rfl⟩, ?_⟩
    exact (hw9.setCell (by show w.heap.size ≤ w.heap.size + 2; omega) _).setCell (by show w.heap.size ≤ w.heap.size + 2; omega) _
  | true =>
    rw [hg2] at hq2
    have k1 : unR a b = ⟨p + q, U⟩ := by unfold unR; rw [hq2, HUE.out]; rfl
    rw [HFL.out] at k1
    rw [HFB.out] at hq2
    subst k1; subst hq2
    clear hg2
    go_wp2_with fail
    refine bodyPost_ret (v := .tuple #[.agg #[.int .i64 (p + q), .slice av U.length cv], .bool true]) (by simp [results, Try.results85, go_sem, m0, m1]) rfl ?_
    have hl : ∀ i, w.heap.size + 2 < c i := fun i => by have := mono_le hmono (Nat.zero_le i); omega
    have HSF := Lib.hid ((HS9.out.keep (fun i => (Same.refl _ _).set (p := ⟨w.heap.size + 2, 0, none⟩) (hl i) (.int .i64 (p + q)))).keep (fun i => (Same.refl _ _).set (p := ⟨w.heap.size + 2, 1, none⟩) (hl i) (.slice av U.length cv)))
    have HOF := Lib.hid (owns_set (owns_set HO9.out (p := ⟨w.heap.size + 2, 0, none⟩) (by simp; omega) (.int .i64 (p + q))) (p := ⟨w.heap.size + 2, 1, none⟩) (by simp; omega) (.slice av U.length cv))
    refine ⟨_, rfl, ⟨c, by omega, by have := hcs (2 * U.length); simp; omega, ?_⟩, ?_, ?_⟩
    · exact HSF.out.read HOF.out
    · exact HSF.out.readAt HOF.out (by omega) (by omega)
    · exact (hw9.setCell (by show w.heap.size ≤ w.heap.size + 2; omega) _).setCell (by show w.heap.size ≤ w.heap.size + 2; omega) _

end Go.Proofs.Ytgmnknlnlmcmfaa
