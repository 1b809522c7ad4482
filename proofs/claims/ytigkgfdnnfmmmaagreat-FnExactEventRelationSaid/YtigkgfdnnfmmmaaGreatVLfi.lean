/- WALK: l7Fits of the model (written by gen8/glfi.py). -/
import Derived.Test.YtigkgfdnnfmmmaaGreatVHpz
import Derived.Test.YtigkgfdnnfmmmaaGreatVLtg
import Derived.Test.YtigkgfdnnfmmmaaGreatVLpl
import Derived.Test.YtigkgfdnnfmmmaaGreatVGood
namespace Go.Proofs.YtigkgfdnnfmmmaaGreat
open Go.RowKit

theorem evHas_yes {es : List Ev} {t : Int} {L : List Int} {k : Nat} (hk : k < es.length) (h0 : evT es k = t) (h1 : evP es k = L) : evHas es t L = true := by
  unfold evHas
  exact anyTo_true hk (by unfold evIs; rw [h0, h1]; simp)
theorem evHas_no {es : List Ev} {t : Int} {L : List Int} (h : ∀ k, k < es.length → evIs es t L k = false) : evHas es t L = false := by
  unfold evHas
  exact anyTo_false h

set_option maxRecDepth 100000 in
set_option maxHeartbeats 1000000 in
theorem l7Fits_any (vt vu vh : Value) (n : NetD) (cs : List Cnd) (es : List Ev) (t : Int) (L : List Int) (w : World) (lo lo' lo2 : Nat) (hv : NetAt lo w (.agg #[.int .i64 n.places, vt]) n) (hvu : UnfAt lo' w vu ⟨cs, es⟩) (hvh : IntsAt lo2 w vh L) (hsm : SmallTrs n.ts) (hcl : cs.length ≤ 1048576) (hel : es.length ≤ 1048576) (hev : ∀ k, k < es.length → (evP es k).length ≤ 1048576) (hLL : L.length ≤ 1048576) (hby : ByIn cs es.length) (hwf : WfU cs es) :
    Calls Tryz.prog 27 #[.agg #[.int .i64 n.places, vt], vu, .agg #[.int .i64 t, vh]] w (RetB w (fitB n cs es t L)) := by
  obtain ⟨au, ku, aw, kw, rfl, hcc, hee⟩ := hvu.form
  simp only at hcc hee
  have HU := Lib.hid hvu; clear hvu
  obtain ⟨nc, hnc⟩ : ∃ m, m = cs.length := ⟨_, rfl⟩
  obtain ⟨ne, hne⟩ : ∃ m, m = es.length := ⟨_, rfl⟩
  obtain ⟨nl, hnl⟩ : ∃ m, m = L.length := ⟨_, rfl⟩
  rw [← hne] at hee
  have HE := Lib.hid hee
  have HL := Lib.hid hvh
  obtain ⟨al, kl, rfl, hxa, hxb⟩ := hvh
  rw [← hnl] at HL
  rw [← hnc, ← hne] at HU
  rw [← hnc, ← hne, ← hnl]
  obtain ⟨q1, hq1⟩ : ∃ q, q = trOk n t := ⟨_, rfl⟩
  obtain ⟨q2, hq2⟩ : ∃ q, q = riseB 0 ((cs.length : Int) - 1) L := ⟨_, rfl⟩
  obtain ⟨q4, hq4⟩ : ∃ q, q = evHas es t L := ⟨_, rfl⟩
  obtain ⟨q5, hq5⟩ : ∃ q, q = decide (plM cs L = preOf n t) := ⟨_, rfl⟩
  obtain ⟨q6, hq6⟩ : ∃ q, q = togB cs es L := ⟨_, rfl⟩
  obtain ⟨q3, hq3⟩ : ∃ q, q = decide (L.length = (preOf n t).length) := ⟨_, rfl⟩
  have e : fitB n cs es t L = (q1 && (q2 && (q3 && (!q4 && (q5 && q6))))) := by unfold fitB; rw [← hq1, ← hq2, ← hq3, ← hq4, ← hq5, ← hq6]
  rw [e]; clear e
  have HNC := Lib.hid hnc; have HNE := Lib.hid hne; have HNL := Lib.hid hnl
  have HQ1 := Lib.hid hq1; have HQ2 := Lib.hid hq2; have HQ3 := Lib.hid hq3; have HQ4 := Lib.hid hq4; have HQ5 := Lib.hid hq5; have HQ6 := Lib.hid hq6
  have HEV := Lib.hid hev; have HBY := Lib.hid hby; have HWF := Lib.hid hwf
  have HSM := Lib.hid hsm
  clear hcc hee hnc hne hnl hxa hxb hev hq1 hq2 hq3 hq4 hq5 hq6 hby hwf hsm
  have HN := Lib.hid hv
  obtain ⟨_, _, q, e0, hts⟩ := hv
  injection e0 with e0
  have e0 : vt = q := by
    have := congrArg (fun a => a.getD 1 undef) e0
    simpa using this
  subst e0
  obtain ⟨at_, ct, rfl, hxa, hz⟩ := hts
  have HZ := Lib.hid hz; clear hz hxa
  obtain ⟨m, hm⟩ : ∃ x, x = n.ts.length := ⟨_, rfl⟩
  rw [← hm] at HN HZ ⊢
  have hin1 : decide (0 ≤ t ∧ t ≤ (m : Int) - 1) = q1 := by
    rw [HQ1.out]
    unfold trOk
    rw [← hm]
    congr 1
    apply propext
    constructor
    · intro h; exact ⟨h.1, by omega⟩
    · intro h; exact ⟨h.1, by omega⟩
  have HIN1 := Lib.hid hin1; clear hin1
  have hin2 : riseB 0 ((nc : Int) - 1) L = q2 := by rw [HQ2.out, HNC.out]
  have HIN2 := Lib.hid hin2; clear hin2
  have hmB : m ≤ 1048576 := by rw [hm]; exact HSM.out.1
  have hncB : nc ≤ 1048576 := by rw [HNC.out]; exact hcl
  have hwm : IntKind.i64.wrap ((m : Int) - 1) = (m : Int) - 1 := IntWalk.i64_in _ ⟨by omega, by omega⟩
  have hwn : IntKind.i64.wrap ((nc : Int) - 1) = (nc : Int) - 1 := IntWalk.i64_in _ ⟨by omega, by omega⟩
  have HM := Lib.hid hm; clear hm
  obtain ⟨p, hp⟩ : ∃ x, x = n.places := ⟨_, rfl⟩
  rw [← hp] at HN ⊢
  have HP := Lib.hid hp; clear hp
  obtain ⟨W1, hW1⟩ : ∃ x, x = w.alloc (.cells #[.int .i64 p, .slice at_ m ct] 43) := ⟨_, rfl⟩
  obtain ⟨W2, hW2⟩ : ∃ x, x = W1.alloc (.cells #[.slice au nc ku, .slice aw ne kw] 38) := ⟨_, rfl⟩
  obtain ⟨W, hW⟩ : ∃ x, x = W2.alloc (.cells #[.int .i64 t, .slice al nl kl] 46) := ⟨_, rfl⟩
  have s1 : W1.heap.size = w.heap.size + 1 := by rw [hW1]; simp
  have s2 : W2.heap.size = w.heap.size + 1 + 1 := by rw [hW2]; simp [s1]
  have zW : W.heap.size = w.heap.size + 1 + 1 + 1 := by rw [hW]; simp [s2]
  have k2 : Carries 0 W1 W2 := by rw [hW2]; exact (Carries.refl 0 _).alloc _
  have k3 : Carries 0 W2 W := by rw [hW]; exact (Carries.refl 0 _).alloc _
  have n1 : W1.cell? ⟨w.heap.size, 1, none⟩ = some (.slice at_ m ct) := by rw [hW1]; exact (cell_new2 rfl).2
  have u0 : W2.cell? ⟨w.heap.size + 1, 0, none⟩ = some (.slice au nc ku) := by rw [hW2]; exact (cell_new2 s1.symm).1
  have u1 : W2.cell? ⟨w.heap.size + 1, 1, none⟩ = some (.slice aw ne kw) := by rw [hW2]; exact (cell_new2 s1.symm).2
  have h0 : W.cell? ⟨w.heap.size + 1 + 1, 0, none⟩ = some (.int .i64 t) := by rw [hW]; exact (cell_new2 s2.symm).1
  have h1 : W.cell? ⟨w.heap.size + 1 + 1, 1, none⟩ = some (.slice al nl kl) := by rw [hW]; exact (cell_new2 s2.symm).2
  have n1 := cell_carry (cell_carry n1 k2) k3
  have u0 := cell_carry u0 k3
  have u1 := cell_carry u1 k3
  have hw0 : Below w.heap.size w W := by rw [hW, hW2, hW1]; (repeat' (first | (with_reducible exact Below.refl _ _) | (with_reducible assumption) | (with_reducible refine Below.alloc ?_ ?_ _) | (with_reducible refine Below.drew ?_) | (with_reducible refine below_drewN ?_ _) | (with_reducible refine Below.setCell ?_ ?_ _) | go_size))
  have hWW : W = ((w.alloc (.cells #[.int .i64 p, .slice at_ m ct] 43)).alloc (.cells #[.slice au nc ku, .slice aw ne kw] 38)).alloc (.cells #[.int .i64 t, .slice al nl kl] 46) := by rw [hW, hW2, hW1]
  have HZW := Lib.hid zW
  clear k2 k3 s1 s2 zW hW hW2 hW1
  go_enter Tryz.func27, Tryz.ntmps27
  go_upto_region 1 with fail
  rw [← hWW]
  clear hWW
  cases q1 with
  | false =>
    go_wp2_with fail
    refine wp_region_held_drew (S := fun w' => w'.cell? ⟨w.heap.size, 1, none⟩ = some (.slice at_ m ct) ∧ w'.cell? ⟨w.heap.size + 1, 0, none⟩ = some (.slice au nc ku) ∧ w'.cell? ⟨w.heap.size + 1 + 1, 0, none⟩ = some (.int .i64 t) ∧ w'.cell? ⟨w.heap.size + 1 + 1, 1, none⟩ = some (.slice al nl kl)) (by kernel_rfl) ⟨n1, u0, h0, h1⟩ (fun hHeld => ?_)
    refine tk0 (v := ?_) (by kernel_rfl) (by kernel_rfl) (by kernel_rfl) (by first | exact fun _ _ _ h => h | exact fun _ _ _ h => absurd h.1 (by simp)) (Or.inl ⟨by rfl, ?_⟩) (by assumption) ?_
    rotate_left 1
    focus (intro wx hSw; (try dsimp only at hSw); go_simp; try (with_reducible rfl))
    try simp only [Act.put, List.setIfInBounds_toArray, List.set_cons_zero, List.set_cons_succ]
    refine tk1 (v := ?_) (by kernel_rfl) (by kernel_rfl) (by kernel_rfl) (by first | exact fun _ _ _ h => h | exact fun _ _ _ h => absurd h.1 (by simp)) (Or.inl ⟨by rfl, ?_⟩) (by assumption) ?_
    rotate_left 1
    focus (intro wx hSw; (try dsimp only at hSw); go_simp; try (with_reducible rfl))
    try simp only [Act.put, List.setIfInBounds_toArray, List.set_cons_zero, List.set_cons_succ]
    refine tk2 (v := ?_) (by kernel_rfl) (by kernel_rfl) (by kernel_rfl) (by first | exact fun _ _ _ h => h | exact fun _ _ _ h => absurd h.1 (by simp)) (Or.inl ⟨by rfl, ?_⟩) (by assumption) ?_
    rotate_left 1
    focus (intro wx hSw; (try dsimp only at hSw); go_simp; try (with_reducible rfl))
    try simp only [Act.put, List.setIfInBounds_toArray, List.set_cons_zero, List.set_cons_succ]
    refine tk3 (v := ?_) (by kernel_rfl) (by kernel_rfl) (by kernel_rfl) (by first | exact fun _ _ _ h => h | exact fun _ _ _ h => absurd h.1 (by simp)) (Or.inl ⟨by rfl, ?_⟩) (by assumption) ?_
    rotate_left 1
    focus (intro wx hSw; (try dsimp only at hSw); go_simp; try (with_reducible rfl))
    try simp only [Act.put, List.setIfInBounds_toArray, List.set_cons_zero, List.set_cons_succ]
    refine tk4 (v := ?_) (by kernel_rfl) (by kernel_rfl) (by kernel_rfl) (by first | exact fun _ _ _ h => h | exact fun _ _ _ h => absurd h.1 (by simp)) (Or.inl ⟨by rfl, ?_⟩) (by assumption) ?_
    rotate_left 1
    focus (intro wx hSw; (try dsimp only at hSw); go_simp; try (with_reducible rfl))
    try simp only [Act.put, List.setIfInBounds_toArray, List.set_cons_zero, List.set_cons_succ]
    refine tk5 (v := ?_) (by kernel_rfl) (by kernel_rfl) (by kernel_rfl) (by first | exact fun _ _ _ h => h | exact fun _ _ _ h => absurd h.1 (by simp)) (Or.inl ⟨by rfl, ?_⟩) (by assumption) ?_
    rotate_left 1
    focus (intro wx hSw; (try dsimp only at hSw); go_simp; try (with_reducible rfl))
    try simp only [Act.put, List.setIfInBounds_toArray, List.set_cons_zero, List.set_cons_succ]
    refine rd6 (by kernel_rfl) (fun K hK => ?_)
    go_simp
    refine (l1In_any _ _ _ _).mono ?_
    rintro e w1 ⟨rfl, hb1⟩
    have hb1 : Below W.heap.size W w1 := Below.trans (b := W.drew) (Below.refl _ _).drew (hb1.mono (by simp))
    (try rw [hwm])
    rw [HIN1.out]
    have n1 := cell_carry n1 (Carries.of 0 hb1)
    have u0 := cell_carry u0 (Carries.of 0 hb1)
    have h0 := cell_carry h0 (Carries.of 0 hb1)
    have h1 := cell_carry h1 (Carries.of 0 hb1)
    refine hK.out _ _ ⟨n1, u0, h0, h1⟩ (fun hHeld => ?_)
    clear hK K
    try simp only [Act.put, List.setIfInBounds_toArray, List.set_cons_zero, List.set_cons_succ]
    refine tk7 (v := ?_) (by kernel_rfl) (by kernel_rfl) (by kernel_rfl) (by first | exact fun _ _ _ h => h | exact fun _ _ _ h => absurd h.1 (by simp)) (Or.inl ⟨by rfl, ?_⟩) (by assumption) ?_
    rotate_left 1
    focus (intro wx hSw; (try dsimp only at hSw); go_simp; try (with_reducible rfl))
    try simp only [Act.put, List.setIfInBounds_toArray, List.set_cons_zero, List.set_cons_succ]
    refine tk8 (v := ?_) (by kernel_rfl) (by kernel_rfl) (by kernel_rfl) (by first | exact fun _ _ _ h => h | exact fun _ _ _ h => absurd h.1 (by simp)) (Or.inl ⟨by rfl, ?_⟩) (by assumption) ?_
    rotate_left 1
    focus (intro wx hSw; (try dsimp only at hSw); go_simp; try (with_reducible rfl))
    try simp only [Act.put, List.setIfInBounds_toArray, List.set_cons_zero, List.set_cons_succ]
    refine tk9 (by kernel_rfl) (by kernel_rfl) (by kernel_rfl) (by first | exact fun _ _ _ h => h | exact fun _ _ _ h => absurd h.1 (by simp)) (Or.inr ⟨by rfl, rfl⟩) (by assumption) ?_
    try simp only [Act.put, List.setIfInBounds_toArray, List.set_cons_zero, List.set_cons_succ]
    refine tk10 (by kernel_rfl) (by kernel_rfl) (by kernel_rfl) (by first | exact fun _ _ _ h => h | exact fun _ _ _ h => absurd h.1 (by simp)) (Or.inr ⟨by rfl, rfl⟩) (by assumption) ?_
    try simp only [Act.put, List.setIfInBounds_toArray, List.set_cons_zero, List.set_cons_succ]
    refine tk11 (by kernel_rfl) (by kernel_rfl) (by kernel_rfl) (by first | exact fun _ _ _ h => h | exact fun _ _ _ h => absurd h.1 (by simp)) (Or.inr ⟨by rfl, rfl⟩) (by assumption) ?_
    try simp only [Act.put, List.setIfInBounds_toArray, List.set_cons_zero, List.set_cons_succ]
    refine tk12 (by kernel_rfl) (by kernel_rfl) (by kernel_rfl) (by first | exact fun _ _ _ h => h | exact fun _ _ _ h => absurd h.1 (by simp)) (Or.inr ⟨by rfl, rfl⟩) (by assumption) ?_
    try simp only [Act.put, List.setIfInBounds_toArray, List.set_cons_zero, List.set_cons_succ]
    refine tk13 (by kernel_rfl) (by kernel_rfl) (by kernel_rfl) (by first | exact fun _ _ _ h => h | exact fun _ _ _ h => absurd h.1 (by simp)) (Or.inr ⟨by rfl, rfl⟩) (by assumption) ?_
    try simp only [Act.put, List.setIfInBounds_toArray, List.set_cons_zero, List.set_cons_succ]
    refine tk14 (by kernel_rfl) (by kernel_rfl) (by kernel_rfl) (by first | exact fun _ _ _ h => h | exact fun _ _ _ h => absurd h.1 (by simp)) (Or.inr ⟨by rfl, rfl⟩) (by assumption) ?_
    try simp only [Act.put, List.setIfInBounds_toArray, List.set_cons_zero, List.set_cons_succ]
    refine tk15 (by kernel_rfl) (by kernel_rfl) (by kernel_rfl) (by first | exact fun _ _ _ h => h | exact fun _ _ _ h => absurd h.1 (by simp)) (Or.inr ⟨by rfl, rfl⟩) (by assumption) ?_
    try simp only [Act.put, List.setIfInBounds_toArray, List.set_cons_zero, List.set_cons_succ]
    refine tk16 (by kernel_rfl) (by kernel_rfl) (by kernel_rfl) (by first | exact fun _ _ _ h => h | exact fun _ _ _ h => absurd h.1 (by simp)) (Or.inr ⟨by rfl, rfl⟩) (by assumption) ?_
    try simp only [Act.put, List.setIfInBounds_toArray, List.set_cons_zero, List.set_cons_succ]
    refine tk17 (v := ?_) (by kernel_rfl) (by kernel_rfl) (by kernel_rfl) (by first | exact fun _ _ _ h => h | exact fun _ _ _ h => absurd h.1 (by simp)) (Or.inl ⟨by rfl, ?_⟩) (by assumption) ?_
    rotate_left 1
    focus (intro wx hSw; (try dsimp only at hSw); go_simp; try (with_reducible rfl))
    try simp only [Act.put, List.setIfInBounds_toArray, List.set_cons_zero, List.set_cons_succ]
    refine tk18 (v := ?_) (by kernel_rfl) (by kernel_rfl) (by kernel_rfl) (by first | exact fun _ _ _ h => h | exact fun _ _ _ h => absurd h.1 (by simp)) (Or.inl ⟨by rfl, ?_⟩) (by assumption) ?_
    rotate_left 1
    focus (intro wx hSw; (try dsimp only at hSw); go_simp; try (with_reducible rfl))
    try simp only [Act.put, List.setIfInBounds_toArray, List.set_cons_zero, List.set_cons_succ]
    refine tk19 (by kernel_rfl) (by kernel_rfl) (by kernel_rfl) (by first | exact fun _ _ _ h => h | exact fun _ _ _ h => absurd h.1 (by simp)) (Or.inr ⟨by rfl, rfl⟩) (by assumption) ?_
    try simp only [Act.put, List.setIfInBounds_toArray, List.set_cons_zero, List.set_cons_succ]
    refine tk20 (by kernel_rfl) (by kernel_rfl) (by kernel_rfl) (by first | exact fun _ _ _ h => h | exact fun _ _ _ h => absurd h.1 (by simp)) (Or.inr ⟨by rfl, rfl⟩) (by assumption) ?_
    try simp only [Act.put, List.setIfInBounds_toArray, List.set_cons_zero, List.set_cons_succ]
    refine tk21 (by kernel_rfl) (by kernel_rfl) (by kernel_rfl) (by first | exact fun _ _ _ h => h | exact fun _ _ _ h => absurd h.1 (by simp)) (Or.inr ⟨by rfl, rfl⟩) (by assumption) ?_
    try simp only [Act.put, List.setIfInBounds_toArray, List.set_cons_zero, List.set_cons_succ]
    refine tk22 (by kernel_rfl) (by kernel_rfl) (by kernel_rfl) (by first | exact fun _ _ _ h => h | exact fun _ _ _ h => absurd h.1 (by simp)) (Or.inr ⟨by rfl, rfl⟩) (by assumption) ?_
    try simp only [Act.put, List.setIfInBounds_toArray, List.set_cons_zero, List.set_cons_succ]
    refine tk23 (by kernel_rfl) (by kernel_rfl) (by kernel_rfl) (by first | exact fun _ _ _ h => h | exact fun _ _ _ h => absurd h.1 (by simp)) (Or.inr ⟨by rfl, rfl⟩) (by assumption) ?_
    try simp only [Act.put, List.setIfInBounds_toArray, List.set_cons_zero, List.set_cons_succ]
    refine tk24 (by kernel_rfl) (by kernel_rfl) (by kernel_rfl) (by first | exact fun _ _ _ h => h | exact fun _ _ _ h => absurd h.1 (by simp)) (Or.inr ⟨by rfl, rfl⟩) (by assumption) ?_
    try simp only [Act.put, List.setIfInBounds_toArray, List.set_cons_zero, List.set_cons_succ]
    refine tk25 (by kernel_rfl) (by kernel_rfl) (by kernel_rfl) (by first | exact fun _ _ _ h => h | exact fun _ _ _ h => absurd h.1 (by simp)) (Or.inr ⟨by rfl, rfl⟩) (by assumption) ?_
    try simp only [Act.put, List.setIfInBounds_toArray, List.set_cons_zero, List.set_cons_succ]
    refine tk26 (by kernel_rfl) (by kernel_rfl) (by kernel_rfl) (by first | exact fun _ _ _ h => h | exact fun _ _ _ h => absurd h.1 (by simp)) (Or.inr ⟨by rfl, rfl⟩) (by assumption) ?_
    try simp only [Act.put, List.setIfInBounds_toArray, List.set_cons_zero, List.set_cons_succ]
    refine tk27 (by kernel_rfl) (by kernel_rfl) (by kernel_rfl) (by first | exact fun _ _ _ h => h | exact fun _ _ _ h => absurd h.1 (by simp)) (Or.inr ⟨by rfl, rfl⟩) (by assumption) ?_
    try simp only [Act.put, List.setIfInBounds_toArray, List.set_cons_zero, List.set_cons_succ]
    refine tk28 (by kernel_rfl) (by kernel_rfl) (by kernel_rfl) (by first | exact fun _ _ _ h => h | exact fun _ _ _ h => absurd h.1 (by simp)) (Or.inr ⟨by rfl, rfl⟩) (by assumption) ?_
    try simp only [Act.put, List.setIfInBounds_toArray, List.set_cons_zero, List.set_cons_succ]
    refine tk29 (by kernel_rfl) (by kernel_rfl) (by kernel_rfl) (by first | exact fun _ _ _ h => h | exact fun _ _ _ h => absurd h.1 (by simp)) (Or.inr ⟨by rfl, rfl⟩) (by assumption) ?_
    try simp only [Act.put, List.setIfInBounds_toArray, List.set_cons_zero, List.set_cons_succ]
    refine tk30 (by kernel_rfl) (by kernel_rfl) (by kernel_rfl) (by first | exact fun _ _ _ h => h | exact fun _ _ _ h => absurd h.1 (by simp)) (Or.inr ⟨by rfl, rfl⟩) (by assumption) ?_
    try simp only [Act.put, List.setIfInBounds_toArray, List.set_cons_zero, List.set_cons_succ]
    refine tk31 (v := ?_) (by kernel_rfl) (by kernel_rfl) (by kernel_rfl) (by first | exact fun _ _ _ h => h | exact fun _ _ _ h => absurd h.1 (by simp)) (Or.inl ⟨by rfl, ?_⟩) (by assumption) ?_
    rotate_left 1
    focus (intro wx hSw; (try dsimp only at hSw); go_simp; try (with_reducible rfl))
    try simp only [Act.put, List.setIfInBounds_toArray, List.set_cons_zero, List.set_cons_succ]
    refine wpAnyH_done (by kernel_rfl) ?_ _
    go_wp2_with fail
    go_ret
    exact ⟨rfl, hw0.trans (hb1.mono hw0.size)⟩
  | true =>
  have htr := of_decide_eq_true (show trOk n t = true from HQ1.out.symm)
  obtain ⟨tn, rfl⟩ : ∃ tn : Nat, t = (tn : Int) := ⟨t.toNat, by omega⟩
  have htm : tn < m := by rw [HM.out]; omega
  clear htr
  rcases HZ.out with h0 | ⟨bt, offt, rfl, hlon, hcell⟩
  · exact absurd htm (by have := HM.out; rw [h0] at this; simp at this; omega)
  obtain ⟨v0, v1, d0, hxa, htr, hxb⟩ := hcell tn htm
  clear hxa hxb
  have hpre : preOf n (tn : Int) = (n.ts.getD tn ([], [])).1 := by unfold preOf; rw [Int.toNat_natCast]
  have hpl : (preOf n (tn : Int)).length ≤ 1048576 := by rw [hpre]; exact (HSM.out.2 tn (by rw [← HM.out]; exact htm)).1
  rw [← hpre] at htr
  have HPRE := Lib.hid htr
  obtain ⟨apre, cpre, rfl, hxa, hxb⟩ := htr
  clear hxa hxb hcell hpre
  obtain ⟨npre, hnpre⟩ : ∃ x, x = (preOf n (tn : Int)).length := ⟨_, rfl⟩
  rw [← hnpre] at d0 HPRE hpl
  have HNP := Lib.hid hnpre; clear hnpre
  have p0 := cell_carry d0 (Carries.of 0 hw0)
  clear d0
  cases q2 with
  | false =>
    simp only [Bool.true_and, Bool.false_and]
    go_wp2_with fail
    refine wp_region_held_drew (S := fun w' => w'.cell? ⟨w.heap.size, 1, none⟩ = some (.slice (some ⟨bt, offt, none⟩) m ct) ∧ w'.cell? ⟨w.heap.size + 1, 0, none⟩ = some (.slice au nc ku) ∧ w'.cell? ⟨w.heap.size + 1 + 1, 0, none⟩ = some (.int .i64 (tn : Int)) ∧ w'.cell? ⟨w.heap.size + 1 + 1, 1, none⟩ = some (.slice al nl kl) ∧ w'.cell? ⟨bt, offt + tn * 2, none⟩ = some (.slice apre npre cpre)) (by kernel_rfl) ⟨n1, u0, h0, h1, p0⟩ (fun hHeld => ?_)
    refine tk0 (v := ?_) (by kernel_rfl) (by kernel_rfl) (by kernel_rfl) (by first | exact fun _ _ _ h => h | exact fun _ _ _ h => absurd h.1 (by simp)) (Or.inl ⟨by rfl, ?_⟩) (by assumption) ?_
    rotate_left 1
    focus (intro wx hSw; (try dsimp only at hSw); go_simp; try (with_reducible rfl))
    try simp only [Act.put, List.setIfInBounds_toArray, List.set_cons_zero, List.set_cons_succ]
    refine tk1 (v := ?_) (by kernel_rfl) (by kernel_rfl) (by kernel_rfl) (by first | exact fun _ _ _ h => h | exact fun _ _ _ h => absurd h.1 (by simp)) (Or.inl ⟨by rfl, ?_⟩) (by assumption) ?_
    rotate_left 1
    focus (intro wx hSw; (try dsimp only at hSw); go_simp; try (with_reducible rfl))
    try simp only [Act.put, List.setIfInBounds_toArray, List.set_cons_zero, List.set_cons_succ]
    refine tk2 (v := ?_) (by kernel_rfl) (by kernel_rfl) (by kernel_rfl) (by first | exact fun _ _ _ h => h | exact fun _ _ _ h => absurd h.1 (by simp)) (Or.inl ⟨by rfl, ?_⟩) (by assumption) ?_
    rotate_left 1
    focus (intro wx hSw; (try dsimp only at hSw); go_simp; try (with_reducible rfl))
    try simp only [Act.put, List.setIfInBounds_toArray, List.set_cons_zero, List.set_cons_succ]
    refine tk3 (v := ?_) (by kernel_rfl) (by kernel_rfl) (by kernel_rfl) (by first | exact fun _ _ _ h => h | exact fun _ _ _ h => absurd h.1 (by simp)) (Or.inl ⟨by rfl, ?_⟩) (by assumption) ?_
    rotate_left 1
    focus (intro wx hSw; (try dsimp only at hSw); go_simp; try (with_reducible rfl))
    try simp only [Act.put, List.setIfInBounds_toArray, List.set_cons_zero, List.set_cons_succ]
    refine tk4 (v := ?_) (by kernel_rfl) (by kernel_rfl) (by kernel_rfl) (by first | exact fun _ _ _ h => h | exact fun _ _ _ h => absurd h.1 (by simp)) (Or.inl ⟨by rfl, ?_⟩) (by assumption) ?_
    rotate_left 1
    focus (intro wx hSw; (try dsimp only at hSw); go_simp; try (with_reducible rfl))
    try simp only [Act.put, List.setIfInBounds_toArray, List.set_cons_zero, List.set_cons_succ]
    refine tk5 (v := ?_) (by kernel_rfl) (by kernel_rfl) (by kernel_rfl) (by first | exact fun _ _ _ h => h | exact fun _ _ _ h => absurd h.1 (by simp)) (Or.inl ⟨by rfl, ?_⟩) (by assumption) ?_
    rotate_left 1
    focus (intro wx hSw; (try dsimp only at hSw); go_simp; try (with_reducible rfl))
    try simp only [Act.put, List.setIfInBounds_toArray, List.set_cons_zero, List.set_cons_succ]
    refine rd6 (by kernel_rfl) (fun K hK => ?_)
    go_simp
    refine (l1In_any _ _ _ _).mono ?_
    rintro e w1 ⟨rfl, hb1⟩
    have hb1 : Below W.heap.size W w1 := Below.trans (b := W.drew) (Below.refl _ _).drew (hb1.mono (by simp))
    (try rw [hwm])
    rw [HIN1.out]
    have n1 := cell_carry n1 (Carries.of 0 hb1)
    have u0 := cell_carry u0 (Carries.of 0 hb1)
    have h0 := cell_carry h0 (Carries.of 0 hb1)
    have h1 := cell_carry h1 (Carries.of 0 hb1)
    have p0 := cell_carry p0 (Carries.of 0 hb1)
    refine hK.out _ _ ⟨n1, u0, h0, h1, p0⟩ (fun hHeld => ?_)
    clear hK K
    try simp only [Act.put, List.setIfInBounds_toArray, List.set_cons_zero, List.set_cons_succ]
    refine tk7 (v := ?_) (by kernel_rfl) (by kernel_rfl) (by kernel_rfl) (by first | exact fun _ _ _ h => h | exact fun _ _ _ h => absurd h.1 (by simp)) (Or.inl ⟨by rfl, ?_⟩) (by assumption) ?_
    rotate_left 1
    focus (intro wx hSw; (try dsimp only at hSw); go_simp; try (with_reducible rfl))
    try simp only [Act.put, List.setIfInBounds_toArray, List.set_cons_zero, List.set_cons_succ]
    refine tk8 (v := ?_) (by kernel_rfl) (by kernel_rfl) (by kernel_rfl) (by first | exact fun _ _ _ h => h | exact fun _ _ _ h => absurd h.1 (by simp)) (Or.inl ⟨by rfl, ?_⟩) (by assumption) ?_
    rotate_left 1
    focus (intro wx hSw; (try dsimp only at hSw); go_simp; try (with_reducible rfl))
    try simp only [Act.put, List.setIfInBounds_toArray, List.set_cons_zero, List.set_cons_succ]
    refine tk9 (v := ?_) (by kernel_rfl) (by kernel_rfl) (by kernel_rfl) (by first | exact fun _ _ _ h => h | exact fun _ _ _ h => absurd h.1 (by simp)) (Or.inl ⟨by rfl, ?_⟩) (by assumption) ?_
    rotate_left 1
    focus (intro wx hSw; (try dsimp only at hSw); go_simp; try (with_reducible rfl))
    try simp only [Act.put, List.setIfInBounds_toArray, List.set_cons_zero, List.set_cons_succ]
    refine tk10 (v := ?_) (by kernel_rfl) (by kernel_rfl) (by kernel_rfl) (by first | exact fun _ _ _ h => h | exact fun _ _ _ h => absurd h.1 (by simp)) (Or.inl ⟨by rfl, ?_⟩) (by assumption) ?_
    rotate_left 1
    focus (intro wx hSw; (try dsimp only at hSw); go_simp; try (with_reducible rfl))
    try simp only [Act.put, List.setIfInBounds_toArray, List.set_cons_zero, List.set_cons_succ]
    refine tk11 (v := ?_) (by kernel_rfl) (by kernel_rfl) (by kernel_rfl) (by first | exact fun _ _ _ h => h | exact fun _ _ _ h => absurd h.1 (by simp)) (Or.inl ⟨by rfl, ?_⟩) (by assumption) ?_
    rotate_left 1
    focus (intro wx hSw; (try dsimp only at hSw); go_simp; try (with_reducible rfl))
    try simp only [Act.put, List.setIfInBounds_toArray, List.set_cons_zero, List.set_cons_succ]
    refine tk12 (v := ?_) (by kernel_rfl) (by kernel_rfl) (by kernel_rfl) (by first | exact fun _ _ _ h => h | exact fun _ _ _ h => absurd h.1 (by simp)) (Or.inl ⟨by rfl, ?_⟩) (by assumption) ?_
    rotate_left 1
    focus (intro wx hSw; (try dsimp only at hSw); go_simp; try (with_reducible rfl))
    try simp only [Act.put, List.setIfInBounds_toArray, List.set_cons_zero, List.set_cons_succ]
    refine tk13 (v := ?_) (by kernel_rfl) (by kernel_rfl) (by kernel_rfl) (by first | exact fun _ _ _ h => h | exact fun _ _ _ h => absurd h.1 (by simp)) (Or.inl ⟨by rfl, ?_⟩) (by assumption) ?_
    rotate_left 1
    focus (intro wx hSw; (try dsimp only at hSw); go_simp; try (with_reducible rfl))
    try simp only [Act.put, List.setIfInBounds_toArray, List.set_cons_zero, List.set_cons_succ]
    refine tk14 (v := ?_) (by kernel_rfl) (by kernel_rfl) (by kernel_rfl) (by first | exact fun _ _ _ h => h | exact fun _ _ _ h => absurd h.1 (by simp)) (Or.inl ⟨by rfl, ?_⟩) (by assumption) ?_
    rotate_left 1
    focus (intro wx hSw; (try dsimp only at hSw); go_simp; try (with_reducible rfl))
    try simp only [Act.put, List.setIfInBounds_toArray, List.set_cons_zero, List.set_cons_succ]
    refine rd15 (by kernel_rfl) (fun K hK => ?_)
    go_simp
    refine (l1Rising_any _ L 0 _ w1 lo2 (HL.out.keep (Carries.of lo2 (hw0.trans (hb1.mono hw0.size)))) hLL).mono ?_
    rintro e w2 ⟨rfl, hc2⟩
    have hb2 : Below W.heap.size W w2 := hb1.trans (hc2.mono hb1.size)
    (try rw [hwn])
    rw [HIN2.out]
    have n1 := cell_carry n1 (Carries.of 0 hc2)
    have u0 := cell_carry u0 (Carries.of 0 hc2)
    have h0 := cell_carry h0 (Carries.of 0 hc2)
    have h1 := cell_carry h1 (Carries.of 0 hc2)
    have p0 := cell_carry p0 (Carries.of 0 hc2)
    refine hK.out _ _ ⟨n1, u0, h0, h1, p0⟩ (fun hHeld => ?_)
    clear hK K
    try simp only [Act.put, List.setIfInBounds_toArray, List.set_cons_zero, List.set_cons_succ]
    refine tk16 (v := ?_) (by kernel_rfl) (by kernel_rfl) (by kernel_rfl) (by first | exact fun _ _ _ h => h | exact fun _ _ _ h => absurd h.1 (by simp)) (Or.inl ⟨by rfl, ?_⟩) (by assumption) ?_
    rotate_left 1
    focus (intro wx hSw; (try dsimp only at hSw); go_simp; try (with_reducible rfl))
    try simp only [Act.put, List.setIfInBounds_toArray, List.set_cons_zero, List.set_cons_succ]
    refine tk17 (v := ?_) (by kernel_rfl) (by kernel_rfl) (by kernel_rfl) (by first | exact fun _ _ _ h => h | exact fun _ _ _ h => absurd h.1 (by simp)) (Or.inl ⟨by rfl, ?_⟩) (by assumption) ?_
    rotate_left 1
    focus (intro wx hSw; (try dsimp only at hSw); go_simp; try (with_reducible rfl))
    try simp only [Act.put, List.setIfInBounds_toArray, List.set_cons_zero, List.set_cons_succ]
    refine tk18 (v := ?_) (by kernel_rfl) (by kernel_rfl) (by kernel_rfl) (by first | exact fun _ _ _ h => h | exact fun _ _ _ h => absurd h.1 (by simp)) (Or.inl ⟨by rfl, ?_⟩) (by assumption) ?_
    rotate_left 1
    focus (intro wx hSw; (try dsimp only at hSw); go_simp; try (with_reducible rfl))
    try simp only [Act.put, List.setIfInBounds_toArray, List.set_cons_zero, List.set_cons_succ]
    refine tk19 (by kernel_rfl) (by kernel_rfl) (by kernel_rfl) (by first | exact fun _ _ _ h => h | exact fun _ _ _ h => absurd h.1 (by simp)) (Or.inr ⟨by rfl, rfl⟩) (by assumption) ?_
    try simp only [Act.put, List.setIfInBounds_toArray, List.set_cons_zero, List.set_cons_succ]
    refine tk20 (by kernel_rfl) (by kernel_rfl) (by kernel_rfl) (by first | exact fun _ _ _ h => h | exact fun _ _ _ h => absurd h.1 (by simp)) (Or.inr ⟨by rfl, rfl⟩) (by assumption) ?_
    try simp only [Act.put, List.setIfInBounds_toArray, List.set_cons_zero, List.set_cons_succ]
    refine tk21 (by kernel_rfl) (by kernel_rfl) (by kernel_rfl) (by first | exact fun _ _ _ h => h | exact fun _ _ _ h => absurd h.1 (by simp)) (Or.inr ⟨by rfl, rfl⟩) (by assumption) ?_
    try simp only [Act.put, List.setIfInBounds_toArray, List.set_cons_zero, List.set_cons_succ]
    refine tk22 (by kernel_rfl) (by kernel_rfl) (by kernel_rfl) (by first | exact fun _ _ _ h => h | exact fun _ _ _ h => absurd h.1 (by simp)) (Or.inr ⟨by rfl, rfl⟩) (by assumption) ?_
    try simp only [Act.put, List.setIfInBounds_toArray, List.set_cons_zero, List.set_cons_succ]
    refine tk23 (by kernel_rfl) (by kernel_rfl) (by kernel_rfl) (by first | exact fun _ _ _ h => h | exact fun _ _ _ h => absurd h.1 (by simp)) (Or.inr ⟨by rfl, rfl⟩) (by assumption) ?_
    try simp only [Act.put, List.setIfInBounds_toArray, List.set_cons_zero, List.set_cons_succ]
    refine tk24 (by kernel_rfl) (by kernel_rfl) (by kernel_rfl) (by first | exact fun _ _ _ h => h | exact fun _ _ _ h => absurd h.1 (by simp)) (Or.inr ⟨by rfl, rfl⟩) (by assumption) ?_
    try simp only [Act.put, List.setIfInBounds_toArray, List.set_cons_zero, List.set_cons_succ]
    refine tk25 (by kernel_rfl) (by kernel_rfl) (by kernel_rfl) (by first | exact fun _ _ _ h => h | exact fun _ _ _ h => absurd h.1 (by simp)) (Or.inr ⟨by rfl, rfl⟩) (by assumption) ?_
    try simp only [Act.put, List.setIfInBounds_toArray, List.set_cons_zero, List.set_cons_succ]
    refine tk26 (by kernel_rfl) (by kernel_rfl) (by kernel_rfl) (by first | exact fun _ _ _ h => h | exact fun _ _ _ h => absurd h.1 (by simp)) (Or.inr ⟨by rfl, rfl⟩) (by assumption) ?_
    try simp only [Act.put, List.setIfInBounds_toArray, List.set_cons_zero, List.set_cons_succ]
    refine tk27 (by kernel_rfl) (by kernel_rfl) (by kernel_rfl) (by first | exact fun _ _ _ h => h | exact fun _ _ _ h => absurd h.1 (by simp)) (Or.inr ⟨by rfl, rfl⟩) (by assumption) ?_
    try simp only [Act.put, List.setIfInBounds_toArray, List.set_cons_zero, List.set_cons_succ]
    refine tk28 (by kernel_rfl) (by kernel_rfl) (by kernel_rfl) (by first | exact fun _ _ _ h => h | exact fun _ _ _ h => absurd h.1 (by simp)) (Or.inr ⟨by rfl, rfl⟩) (by assumption) ?_
    try simp only [Act.put, List.setIfInBounds_toArray, List.set_cons_zero, List.set_cons_succ]
    refine tk29 (by kernel_rfl) (by kernel_rfl) (by kernel_rfl) (by first | exact fun _ _ _ h => h | exact fun _ _ _ h => absurd h.1 (by simp)) (Or.inr ⟨by rfl, rfl⟩) (by assumption) ?_
    try simp only [Act.put, List.setIfInBounds_toArray, List.set_cons_zero, List.set_cons_succ]
    refine tk30 (by kernel_rfl) (by kernel_rfl) (by kernel_rfl) (by first | exact fun _ _ _ h => h | exact fun _ _ _ h => absurd h.1 (by simp)) (Or.inr ⟨by rfl, rfl⟩) (by assumption) ?_
    try simp only [Act.put, List.setIfInBounds_toArray, List.set_cons_zero, List.set_cons_succ]
    refine tk31 (v := ?_) (by kernel_rfl) (by kernel_rfl) (by kernel_rfl) (by first | exact fun _ _ _ h => h | exact fun _ _ _ h => absurd h.1 (by simp)) (Or.inl ⟨by rfl, ?_⟩) (by assumption) ?_
    rotate_left 1
    focus (intro wx hSw; (try dsimp only at hSw); go_simp; try (with_reducible rfl))
    try simp only [Act.put, List.setIfInBounds_toArray, List.set_cons_zero, List.set_cons_succ]
    refine wpAnyH_done (by kernel_rfl) ?_ _
    go_wp2_with fail
    go_ret
    exact ⟨rfl, hw0.trans (hb2.mono hw0.size)⟩
  | true =>
  simp only [Bool.true_and]
  go_wp2_with fail
  refine wp_region_held_drew (S := fun w' => w'.cell? ⟨w.heap.size, 1, none⟩ = some (.slice (some ⟨bt, offt, none⟩) m ct) ∧ w'.cell? ⟨w.heap.size + 1, 0, none⟩ = some (.slice au nc ku) ∧ w'.cell? ⟨w.heap.size + 1 + 1, 0, none⟩ = some (.int .i64 (tn : Int)) ∧ w'.cell? ⟨w.heap.size + 1 + 1, 1, none⟩ = some (.slice al nl kl) ∧ w'.cell? ⟨bt, offt + tn * 2, none⟩ = some (.slice apre npre cpre)) (by kernel_rfl) ⟨n1, u0, h0, h1, p0⟩ (fun hHeld => ?_)
  refine tk0 (v := ?_) (by kernel_rfl) (by kernel_rfl) (by kernel_rfl) (by first | exact fun _ _ _ h => h | exact fun _ _ _ h => absurd h.1 (by simp)) (Or.inl ⟨by rfl, ?_⟩) (by assumption) ?_
  rotate_left 1
  focus (intro wx hSw; (try dsimp only at hSw); go_simp; try (with_reducible rfl))
  try simp only [Act.put, List.setIfInBounds_toArray, List.set_cons_zero, List.set_cons_succ]
  refine tk1 (v := ?_) (by kernel_rfl) (by kernel_rfl) (by kernel_rfl) (by first | exact fun _ _ _ h => h | exact fun _ _ _ h => absurd h.1 (by simp)) (Or.inl ⟨by rfl, ?_⟩) (by assumption) ?_
  rotate_left 1
  focus (intro wx hSw; (try dsimp only at hSw); go_simp; try (with_reducible rfl))
  try simp only [Act.put, List.setIfInBounds_toArray, List.set_cons_zero, List.set_cons_succ]
  refine tk2 (v := ?_) (by kernel_rfl) (by kernel_rfl) (by kernel_rfl) (by first | exact fun _ _ _ h => h | exact fun _ _ _ h => absurd h.1 (by simp)) (Or.inl ⟨by rfl, ?_⟩) (by assumption) ?_
  rotate_left 1
  focus (intro wx hSw; (try dsimp only at hSw); go_simp; try (with_reducible rfl))
  try simp only [Act.put, List.setIfInBounds_toArray, List.set_cons_zero, List.set_cons_succ]
  refine tk3 (v := ?_) (by kernel_rfl) (by kernel_rfl) (by kernel_rfl) (by first | exact fun _ _ _ h => h | exact fun _ _ _ h => absurd h.1 (by simp)) (Or.inl ⟨by rfl, ?_⟩) (by assumption) ?_
  rotate_left 1
  focus (intro wx hSw; (try dsimp only at hSw); go_simp; try (with_reducible rfl))
  try simp only [Act.put, List.setIfInBounds_toArray, List.set_cons_zero, List.set_cons_succ]
  refine tk4 (v := ?_) (by kernel_rfl) (by kernel_rfl) (by kernel_rfl) (by first | exact fun _ _ _ h => h | exact fun _ _ _ h => absurd h.1 (by simp)) (Or.inl ⟨by rfl, ?_⟩) (by assumption) ?_
  rotate_left 1
  focus (intro wx hSw; (try dsimp only at hSw); go_simp; try (with_reducible rfl))
  try simp only [Act.put, List.setIfInBounds_toArray, List.set_cons_zero, List.set_cons_succ]
  refine tk5 (v := ?_) (by kernel_rfl) (by kernel_rfl) (by kernel_rfl) (by first | exact fun _ _ _ h => h | exact fun _ _ _ h => absurd h.1 (by simp)) (Or.inl ⟨by rfl, ?_⟩) (by assumption) ?_
  rotate_left 1
  focus (intro wx hSw; (try dsimp only at hSw); go_simp; try (with_reducible rfl))
  try simp only [Act.put, List.setIfInBounds_toArray, List.set_cons_zero, List.set_cons_succ]
  refine rd6 (by kernel_rfl) (fun K hK => ?_)
  go_simp
  refine (l1In_any _ _ _ _).mono ?_
  rintro e w1 ⟨rfl, hb1⟩
  have hb1 : Below W.heap.size W w1 := Below.trans (b := W.drew) (Below.refl _ _).drew (hb1.mono (by simp))
  (try rw [hwm])
  rw [HIN1.out]
  have n1 := cell_carry n1 (Carries.of 0 hb1)
  have u0 := cell_carry u0 (Carries.of 0 hb1)
  have h0 := cell_carry h0 (Carries.of 0 hb1)
  have h1 := cell_carry h1 (Carries.of 0 hb1)
  have p0 := cell_carry p0 (Carries.of 0 hb1)
  refine hK.out _ _ ⟨n1, u0, h0, h1, p0⟩ (fun hHeld => ?_)
  clear hK K
  try simp only [Act.put, List.setIfInBounds_toArray, List.set_cons_zero, List.set_cons_succ]
  refine tk7 (v := ?_) (by kernel_rfl) (by kernel_rfl) (by kernel_rfl) (by first | exact fun _ _ _ h => h | exact fun _ _ _ h => absurd h.1 (by simp)) (Or.inl ⟨by rfl, ?_⟩) (by assumption) ?_
  rotate_left 1
  focus (intro wx hSw; (try dsimp only at hSw); go_simp; try (with_reducible rfl))
  try simp only [Act.put, List.setIfInBounds_toArray, List.set_cons_zero, List.set_cons_succ]
  refine tk8 (v := ?_) (by kernel_rfl) (by kernel_rfl) (by kernel_rfl) (by first | exact fun _ _ _ h => h | exact fun _ _ _ h => absurd h.1 (by simp)) (Or.inl ⟨by rfl, ?_⟩) (by assumption) ?_
  rotate_left 1
  focus (intro wx hSw; (try dsimp only at hSw); go_simp; try (with_reducible rfl))
  try simp only [Act.put, List.setIfInBounds_toArray, List.set_cons_zero, List.set_cons_succ]
  refine tk9 (v := ?_) (by kernel_rfl) (by kernel_rfl) (by kernel_rfl) (by first | exact fun _ _ _ h => h | exact fun _ _ _ h => absurd h.1 (by simp)) (Or.inl ⟨by rfl, ?_⟩) (by assumption) ?_
  rotate_left 1
  focus (intro wx hSw; (try dsimp only at hSw); go_simp; try (with_reducible rfl))
  try simp only [Act.put, List.setIfInBounds_toArray, List.set_cons_zero, List.set_cons_succ]
  refine tk10 (v := ?_) (by kernel_rfl) (by kernel_rfl) (by kernel_rfl) (by first | exact fun _ _ _ h => h | exact fun _ _ _ h => absurd h.1 (by simp)) (Or.inl ⟨by rfl, ?_⟩) (by assumption) ?_
  rotate_left 1
  focus (intro wx hSw; (try dsimp only at hSw); go_simp; try (with_reducible rfl))
  try simp only [Act.put, List.setIfInBounds_toArray, List.set_cons_zero, List.set_cons_succ]
  refine tk11 (v := ?_) (by kernel_rfl) (by kernel_rfl) (by kernel_rfl) (by first | exact fun _ _ _ h => h | exact fun _ _ _ h => absurd h.1 (by simp)) (Or.inl ⟨by rfl, ?_⟩) (by assumption) ?_
  rotate_left 1
  focus (intro wx hSw; (try dsimp only at hSw); go_simp; try (with_reducible rfl))
  try simp only [Act.put, List.setIfInBounds_toArray, List.set_cons_zero, List.set_cons_succ]
  refine tk12 (v := ?_) (by kernel_rfl) (by kernel_rfl) (by kernel_rfl) (by first | exact fun _ _ _ h => h | exact fun _ _ _ h => absurd h.1 (by simp)) (Or.inl ⟨by rfl, ?_⟩) (by assumption) ?_
  rotate_left 1
  focus (intro wx hSw; (try dsimp only at hSw); go_simp; try (with_reducible rfl))
  try simp only [Act.put, List.setIfInBounds_toArray, List.set_cons_zero, List.set_cons_succ]
  refine tk13 (v := ?_) (by kernel_rfl) (by kernel_rfl) (by kernel_rfl) (by first | exact fun _ _ _ h => h | exact fun _ _ _ h => absurd h.1 (by simp)) (Or.inl ⟨by rfl, ?_⟩) (by assumption) ?_
  rotate_left 1
  focus (intro wx hSw; (try dsimp only at hSw); go_simp; try (with_reducible rfl))
  try simp only [Act.put, List.setIfInBounds_toArray, List.set_cons_zero, List.set_cons_succ]
  refine tk14 (v := ?_) (by kernel_rfl) (by kernel_rfl) (by kernel_rfl) (by first | exact fun _ _ _ h => h | exact fun _ _ _ h => absurd h.1 (by simp)) (Or.inl ⟨by rfl, ?_⟩) (by assumption) ?_
  rotate_left 1
  focus (intro wx hSw; (try dsimp only at hSw); go_simp; try (with_reducible rfl))
  try simp only [Act.put, List.setIfInBounds_toArray, List.set_cons_zero, List.set_cons_succ]
  refine rd15 (by kernel_rfl) (fun K hK => ?_)
  go_simp
  refine (l1Rising_any _ L 0 _ w1 lo2 (HL.out.keep (Carries.of lo2 (hw0.trans (hb1.mono hw0.size)))) hLL).mono ?_
  rintro e w2 ⟨rfl, hc2⟩
  have hb2 : Below W.heap.size W w2 := hb1.trans (hc2.mono hb1.size)
  (try rw [hwn])
  rw [HIN2.out]
  have n1 := cell_carry n1 (Carries.of 0 hc2)
  have u0 := cell_carry u0 (Carries.of 0 hc2)
  have h0 := cell_carry h0 (Carries.of 0 hc2)
  have h1 := cell_carry h1 (Carries.of 0 hc2)
  have p0 := cell_carry p0 (Carries.of 0 hc2)
  refine hK.out _ _ ⟨n1, u0, h0, h1, p0⟩ (fun hHeld => ?_)
  clear hK K
  try simp only [Act.put, List.setIfInBounds_toArray, List.set_cons_zero, List.set_cons_succ]
  refine tk16 (v := ?_) (by kernel_rfl) (by kernel_rfl) (by kernel_rfl) (by first | exact fun _ _ _ h => h | exact fun _ _ _ h => absurd h.1 (by simp)) (Or.inl ⟨by rfl, ?_⟩) (by assumption) ?_
  rotate_left 1
  focus (intro wx hSw; (try dsimp only at hSw); go_simp; try (with_reducible rfl))
  try simp only [Act.put, List.setIfInBounds_toArray, List.set_cons_zero, List.set_cons_succ]
  refine tk17 (v := ?_) (by kernel_rfl) (by kernel_rfl) (by kernel_rfl) (by first | exact fun _ _ _ h => h | exact fun _ _ _ h => absurd h.1 (by simp)) (Or.inl ⟨by rfl, ?_⟩) (by assumption) ?_
  rotate_left 1
  focus (intro wx hSw; (try dsimp only at hSw); go_simp; try (with_reducible rfl))
  try simp only [Act.put, List.setIfInBounds_toArray, List.set_cons_zero, List.set_cons_succ]
  refine tk18 (v := ?_) (by kernel_rfl) (by kernel_rfl) (by kernel_rfl) (by first | exact fun _ _ _ h => h | exact fun _ _ _ h => absurd h.1 (by simp)) (Or.inl ⟨by rfl, ?_⟩) (by assumption) ?_
  rotate_left 1
  focus (intro wx hSw; (try dsimp only at hSw); go_simp; try (with_reducible rfl))
  try simp only [Act.put, List.setIfInBounds_toArray, List.set_cons_zero, List.set_cons_succ]
  refine tk19 (v := ?_) (by kernel_rfl) (by kernel_rfl) (by kernel_rfl) (by first | exact fun _ _ _ h => h | exact fun _ _ _ h => absurd h.1 (by simp)) (Or.inl ⟨by rfl, ?_⟩) (by assumption) ?_
  rotate_left 1
  focus (intro wx hSw; (try dsimp only at hSw); go_simp; try (with_reducible rfl))
  try simp only [Act.put, List.setIfInBounds_toArray, List.set_cons_zero, List.set_cons_succ]
  refine tk20 (v := ?_) (by kernel_rfl) (by kernel_rfl) (by kernel_rfl) (by first | exact fun _ _ _ h => h | exact fun _ _ _ h => absurd h.1 (by simp)) (Or.inl ⟨by rfl, ?_⟩) (by assumption) ?_
  rotate_left 1
  focus (intro wx hSw; (try dsimp only at hSw); go_simp; try (with_reducible rfl))
  try simp only [Act.put, List.setIfInBounds_toArray, List.set_cons_zero, List.set_cons_succ]
  refine tk21 (v := ?_) (by kernel_rfl) (by kernel_rfl) (by kernel_rfl) (by first | exact fun _ _ _ h => h | exact fun _ _ _ h => absurd h.1 (by simp)) (Or.inl ⟨by rfl, ?_⟩) (by assumption) ?_
  rotate_left 1
  focus (intro wx hSw; (try dsimp only at hSw); go_simp; try (with_reducible rfl))
  try simp only [Act.put, List.setIfInBounds_toArray, List.set_cons_zero, List.set_cons_succ]
  refine tk22 (v := ?_) (by kernel_rfl) (by kernel_rfl) (by kernel_rfl) (by first | exact fun _ _ _ h => h | exact fun _ _ _ h => absurd h.1 (by simp)) (Or.inl ⟨by rfl, ?_⟩) (by assumption) ?_
  rotate_left 1
  focus (intro wx hSw; (try dsimp only at hSw); go_simp; try (with_reducible rfl))
  try simp only [Act.put, List.setIfInBounds_toArray, List.set_cons_zero, List.set_cons_succ]
  refine tk23 (v := ?_) (by kernel_rfl) (by kernel_rfl) (by kernel_rfl) (by first | exact fun _ _ _ h => h | exact fun _ _ _ h => absurd h.1 (by simp)) (Or.inl ⟨by rfl, ?_⟩) (by assumption) ?_
  rotate_left 1
  focus (intro wx hSw; (try dsimp only at hSw); go_simp; try (with_reducible rfl))
  try simp only [Act.put, List.setIfInBounds_toArray, List.set_cons_zero, List.set_cons_succ]
  refine tk24 (v := ?_) (by kernel_rfl) (by kernel_rfl) (by kernel_rfl) (by first | exact fun _ _ _ h => h | exact fun _ _ _ h => absurd h.1 (by simp)) (Or.inl ⟨by rfl, ?_⟩) (by assumption) ?_
  rotate_left 1
  focus (intro wx hSw; (try dsimp only at hSw); go_simp; try (with_reducible rfl))
  try simp only [Act.put, List.setIfInBounds_toArray, List.set_cons_zero, List.set_cons_succ]
  refine tk25 (v := ?_) (by kernel_rfl) (by kernel_rfl) (by kernel_rfl) (by first | exact fun _ _ _ h => h | exact fun _ _ _ h => absurd h.1 (by simp)) (Or.inl ⟨by rfl, ?_⟩) (by assumption) ?_
  rotate_left 1
  focus (intro wx hSw; (try dsimp only at hSw); go_simp; try (with_reducible rfl))
  try simp only [Act.put, List.setIfInBounds_toArray, List.set_cons_zero, List.set_cons_succ]
  refine tk26 (v := ?_) (by kernel_rfl) (by kernel_rfl) (by kernel_rfl) (by first | exact fun _ _ _ h => h | exact fun _ _ _ h => absurd h.1 (by simp)) (Or.inl ⟨by rfl, ?_⟩) (by assumption) ?_
  rotate_left 1
  focus (intro wx hSw; (try dsimp only at hSw); go_simp; try (with_reducible rfl))
  try simp only [Act.put, List.setIfInBounds_toArray, List.set_cons_zero, List.set_cons_succ]
  refine tk27 (v := ?_) (by kernel_rfl) (by kernel_rfl) (by kernel_rfl) (by first | exact fun _ _ _ h => h | exact fun _ _ _ h => absurd h.1 (by simp)) (Or.inl ⟨by rfl, ?_⟩) (by assumption) ?_
  rotate_left 1
  focus (intro wx hSw; (try dsimp only at hSw); go_simp; try (with_reducible rfl))
  try simp only [Act.put, List.setIfInBounds_toArray, List.set_cons_zero, List.set_cons_succ]
  refine tk28 (v := ?_) (by kernel_rfl) (by kernel_rfl) (by kernel_rfl) (by first | exact fun _ _ _ h => h | exact fun _ _ _ h => absurd h.1 (by simp)) (Or.inl ⟨by rfl, ?_⟩) (by assumption) ?_
  rotate_left 1
  focus (intro wx hSw; (try dsimp only at hSw); go_simp; try (with_reducible rfl))
  try simp only [Act.put, List.setIfInBounds_toArray, List.set_cons_zero, List.set_cons_succ]
  refine tk29 (v := ?_) (by kernel_rfl) (by kernel_rfl) (by kernel_rfl) (by first | exact fun _ _ _ h => h | exact fun _ _ _ h => absurd h.1 (by simp)) (Or.inl ⟨by rfl, ?_⟩) (by assumption) ?_
  rotate_left 1
  focus (intro wx hSw; (try dsimp only at hSw); go_simp; try (with_reducible rfl))
  try simp only [Act.put, List.setIfInBounds_toArray, List.set_cons_zero, List.set_cons_succ]
  refine tk30 (v := ?_) (by kernel_rfl) (by kernel_rfl) (by kernel_rfl) (by first | exact fun _ _ _ h => h | exact fun _ _ _ h => absurd h.1 (by simp)) (Or.inl ⟨by rfl, ?_⟩) (by assumption) ?_
  rotate_left 1
  focus (intro wx hSw; (try dsimp only at hSw); go_simp; try (with_reducible rfl))
  try simp only [Act.put, List.setIfInBounds_toArray, List.set_cons_zero, List.set_cons_succ]
  refine tk31 (v := ?_) (by kernel_rfl) (by kernel_rfl) (by kernel_rfl) (by first | exact fun _ _ _ h => h | exact fun _ _ _ h => absurd h.1 (by simp)) (Or.inl ⟨by rfl, ?_⟩) (by assumption) ?_
  rotate_left 1
  focus (intro wx hSw; (try dsimp only at hSw); go_simp; try (with_reducible rfl))
  try simp only [Act.put, List.setIfInBounds_toArray, List.set_cons_zero, List.set_cons_succ]
  refine wpAnyH_done (by kernel_rfl) ?_ _
  have hin := rise_in rfl HQ2.out.symm
  have HIN := Lib.hid hin; clear hin
  by_cases hlen : nl = npre
  case neg =>
    have hq : q3 = false := by rw [HQ3.out]; exact decide_eq_false (by rw [← HNL.out, ← HNP.out]; exact hlen)
    subst hq
    have t1 : ((nl : Int) != (npre : Int)) = true := by rw [bne_iff_ne]; omega
    simp only [Bool.false_and]
    go_wp2_with fail
    go_ret
    exact ⟨rfl, hw0.trans (hb2.mono hw0.size)⟩
  have hq : q3 = true := by rw [HQ3.out]; exact decide_eq_true (by rw [← HNL.out, ← HNP.out]; exact hlen)
  subst hq
  subst hlen
  simp only [Bool.true_and]
  have u1 := cell_carry u1 (Carries.of 0 hb2)
  have HW2 := Lib.hid hb2
  have HW0 := Lib.hid hw0
  clear hb1 hb2 hc2 hw0
  have HN1 := Lib.hid n1; have HU0 := Lib.hid u0; have HU1 := Lib.hid u1; have HH0 := Lib.hid h0; have HH1 := Lib.hid h1; have HP0 := Lib.hid p0
  clear n1 u0 h0 h1 p0
  have tnl : ((nl : Int) != (nl : Int)) = false := by simp
  simp only [tnl]
  go_wp2_with fail
  go_loopw [44] (fun i wr => ∃ k : Nat, k ≤ ne ∧ i = .int .i64 k ∧ Hid (∀ j, j < k → evIs es (tn : Int) L j = false) ∧ Below w2.heap.size w2 wr) (fun i _ => ne - (intOf i).toNat)
  case atStart => exact ⟨0, Nat.zero_le _, rfl, fun j hj => absurd hj (Nat.not_lt_zero _), Below.refl _ _⟩
  case round =>
    obtain ⟨k, hk, rfl, hall, hbr⟩ := hrel
    have hwr : Below w.heap.size w wr := HW0.out.trans ((HW2.out.trans (hbr.mono HW2.out.size)).mono HW0.out.size)
    have h0 := cell_carry HH0.out (Carries.of 0 hbr)
    have h1 := cell_carry HH1.out (Carries.of 0 hbr)
    by_cases hlt : k < ne
    · have hkl : k < es.length := by rw [← HNE.out]; exact hlt
      obtain ⟨ao2, cap2, e0, hxa, hz⟩ := id HE.out
      rw [← HNE.out] at e0
      injection e0 with e1 e2 e3
      subst e1; subst e3
      clear e2 hxa
      rcases hz with hz0 | ⟨b, off, rfl, hlo, hcell⟩
      · exact absurd hkl (by rw [hz0]; exact Nat.not_lt_zero _)
      obtain ⟨x1, c0, c1, hx⟩ := hcell k hkl
      have d0 := Carries.of lo' hwr _ _ hlo c0
      have d1 := Carries.of lo' hwr _ _ hlo c1
      have hx := hx.keep (Carries.of lo' hwr)
      clear hcell c0 c1
      have hPl := HEV.out k hkl
      have hyes := fun q0 q1 => evHas_yes (t := (tn : Int)) (L := L) hkl q0 q1
      have hIS : evIs es (tn : Int) L k = (decide (evT es k = (tn : Int)) && decide (evP es k = L)) := rfl
      have hIS1 : Hid (∀ j, j < k + 1 → j ≠ k → evIs es (tn : Int) L j = false) := fun j hj e => hall.out j (by omega)
      have HYES := Lib.hid hyes; have HIS := Lib.hid hIS
      clear hyes hIS
      generalize evT es k = T at d0 HYES HIS
      generalize evP es k = M at hx hPl HYES HIS
      have HX := Lib.hid hx
      obtain ⟨a2, k2, rfl, hxa, hxb⟩ := hx
      clear hxa hxb
      obtain ⟨nM, hnM⟩ : ∃ x, x = M.length := ⟨_, rfl⟩
      rw [← hnM] at d1 HX
      have HNM := Lib.hid hnM; clear hnM
      have hba : Below wr.heap.size wr (wr.alloc (.cells #[.int .i64 T, .slice a2 nM k2] 46)) := (Below.refl _ _).alloc (Nat.le_refl _) _
      have hwa : Below w.heap.size w (wr.alloc (.cells #[.int .i64 T, .slice a2 nM k2] 46)) := hwr.trans (hba.mono hwr.size)
      have hb2a : Below w2.heap.size w2 (wr.alloc (.cells #[.int .i64 T, .slice a2 nM k2] 46)) := hbr.trans (hba.mono hbr.size)
      have HB2A := Lib.hid hb2a
      have HWA := Lib.hid hwa
      have HXA := Lib.hid (HX.out.keep (Carries.of _ hba))
      have h0 := cell_carry h0 (Carries.of 0 hba)
      have h1 := cell_carry h1 (Carries.of 0 hba)
      clear hwa hb2a hba
      by_cases hT : T = (tn : Int)
      · subst hT
        have HY2 := Lib.hid (HYES.out rfl); clear HYES
        have t1 : ((tn : Int) == (tn : Int)) = true := by simp
        go_wp2_with fail
        refine (l1Same_any _ _ M L _ _ lo2 HXA.out (HL.out.keep (Carries.of lo2 HWA.out)) (by omega) (by omega)).mono ?_
        rintro e w4 ⟨rfl, hb4⟩
        have hb4 : Below w2.heap.size w2 w4 := HB2A.out.trans (hb4.mono HB2A.out.size)
        by_cases hML : M = L
        · have hq : q4 = true := by rw [HQ4.out]; exact HY2.out hML
          subst hq
          rw [decide_eq_true hML]
          simp only [Bool.not_true, Bool.false_and]
          clear hML
          go_wp2_with fail
          go_ret
          exact ⟨rfl, HW0.out.trans ((HW2.out.trans (hb4.mono HW2.out.size)).mono HW0.out.size)⟩
        · have H2 : Hid (∀ j, j < k + 1 → evIs es (tn : Int) L j = false) := fun j hj => by
            by_cases e : j = k
            · subst e; rw [HIS.out, decide_eq_false hML, Bool.and_false]
            · exact hIS1.out j hj e
          rw [decide_eq_false hML]
          clear hML
          go_wp2_with fail
          go_roundw
          case rel => exact ⟨k + 1, by omega, by go_num, H2, hb4⟩
          case measure => first | (simp [intOf]; omega) | simp [intOf]
      · have t1 : (T == (tn : Int)) = false := by rw [beq_eq_false_iff_ne]; exact hT
        have H2 : Hid (∀ j, j < k + 1 → evIs es (tn : Int) L j = false) := fun j hj => by
          by_cases e : j = k
          · subst e; rw [HIS.out, decide_eq_false hT, Bool.false_and]
          · exact hIS1.out j hj e
        clear hT
        go_wp2_with fail
        go_roundw
        case rel => first | exact ⟨k + 1, by omega, by go_num, H2, HB2A.out⟩ | ((repeat apply Exists.intro); exact ⟨⟨k + 1, by omega, by go_num, H2, HB2A.out⟩, rfl⟩)
        case measure => first | (simp [intOf]; omega) | simp [intOf]
    · have hkk : k = ne := by omega
      subst hkk
      have hq : q4 = false := by rw [HQ4.out]; exact evHas_no (by rw [← HNE.out]; exact hall.out)
      subst hq
      simp only [Bool.not_false, Bool.true_and]
      have n1 := cell_carry HN1.out (Carries.of 0 hbr)
      have u0 := cell_carry HU0.out (Carries.of 0 hbr)
      have u1 := cell_carry HU1.out (Carries.of 0 hbr)
      have p0 := cell_carry HP0.out (Carries.of 0 hbr)
      obtain ⟨W5, hW5⟩ : ∃ x, x = wr := ⟨_, rfl⟩
      subst hW5
      have HWR := Lib.hid hwr; clear hwr hbr
      go_wp2_with fail
      refine wp_region_held_drew (S := fun w' => w'.cell? ⟨w.heap.size, 1, none⟩ = some (.slice (some ⟨bt, offt, none⟩) m ct) ∧ w'.cell? ⟨w.heap.size + 1, 0, none⟩ = some (.slice au nc ku) ∧ w'.cell? ⟨w.heap.size + 1, 1, none⟩ = some (.slice aw k kw) ∧ w'.cell? ⟨w.heap.size + 1 + 1, 0, none⟩ = some (.int .i64 (tn : Int)) ∧ w'.cell? ⟨w.heap.size + 1 + 1, 1, none⟩ = some (.slice al nl kl) ∧ w'.cell? ⟨bt, offt + tn * 2, none⟩ = some (.slice apre nl cpre)) (by kernel_rfl) ⟨n1, u0, u1, h0, h1, p0⟩ (fun hHeld => ?_)
      cases q5 with
      | false =>
        refine tk0 (v := ?_) (by kernel_rfl) (by kernel_rfl) (by kernel_rfl) (by first | exact fun _ _ _ h => h | exact fun _ _ _ h => absurd h.1 (by simp)) (Or.inl ⟨by rfl, ?_⟩) (by assumption) ?_
        rotate_left 1
        focus (intro wx hSw; (try dsimp only at hSw); go_simp; try (with_reducible rfl))
        try simp only [Act.put, List.setIfInBounds_toArray, List.set_cons_zero, List.set_cons_succ]
        refine tk1 (v := ?_) (by kernel_rfl) (by kernel_rfl) (by kernel_rfl) (by first | exact fun _ _ _ h => h | exact fun _ _ _ h => absurd h.1 (by simp)) (Or.inl ⟨by rfl, ?_⟩) (by assumption) ?_
        rotate_left 1
        focus (intro wx hSw; (try dsimp only at hSw); go_simp; try (with_reducible rfl))
        try simp only [Act.put, List.setIfInBounds_toArray, List.set_cons_zero, List.set_cons_succ]
        refine tk2 (v := ?_) (by kernel_rfl) (by kernel_rfl) (by kernel_rfl) (by first | exact fun _ _ _ h => h | exact fun _ _ _ h => absurd h.1 (by simp)) (Or.inl ⟨by rfl, ?_⟩) (by assumption) ?_
        rotate_left 1
        focus (intro wx hSw; (try dsimp only at hSw); go_simp; try (with_reducible rfl))
        try simp only [Act.put, List.setIfInBounds_toArray, List.set_cons_zero, List.set_cons_succ]
        refine tk4 (v := ?_) (by kernel_rfl) (by kernel_rfl) (by kernel_rfl) (by first | exact fun _ _ _ h => h | exact fun _ _ _ h => absurd h.1 (by simp)) (Or.inl ⟨by rfl, ?_⟩) (by assumption) ?_
        rotate_left 1
        focus (intro wx hSw; (try dsimp only at hSw); go_simp; try (with_reducible rfl))
        try simp only [Act.put, List.setIfInBounds_toArray, List.set_cons_zero, List.set_cons_succ]
        refine tk5 (v := ?_) (by kernel_rfl) (by kernel_rfl) (by kernel_rfl) (by first | exact fun _ _ _ h => h | exact fun _ _ _ h => absurd h.1 (by simp)) (Or.inl ⟨by rfl, ?_⟩) (by assumption) ?_
        rotate_left 1
        focus (intro wx hSw; (try dsimp only at hSw); go_simp; try (with_reducible rfl))
        try simp only [Act.put, List.setIfInBounds_toArray, List.set_cons_zero, List.set_cons_succ]
        refine tk6 (v := ?_) (by kernel_rfl) (by kernel_rfl) (by kernel_rfl) (by first | exact fun _ _ _ h => h | exact fun _ _ _ h => absurd h.1 (by simp)) (Or.inl ⟨by rfl, ?_⟩) (by assumption) ?_
        rotate_left 1
        focus (intro wx hSw; (try dsimp only at hSw); go_simp; try (with_reducible rfl))
        try simp only [Act.put, List.setIfInBounds_toArray, List.set_cons_zero, List.set_cons_succ]
        refine tk7 (v := ?_) (by kernel_rfl) (by kernel_rfl) (by kernel_rfl) (by first | exact fun _ _ _ h => h | exact fun _ _ _ h => absurd h.1 (by simp)) (Or.inl ⟨by rfl, ?_⟩) (by assumption) ?_
        rotate_left 1
        focus (intro wx hSw; (try dsimp only at hSw); go_simp; try (with_reducible rfl))
        try simp only [Act.put, List.setIfInBounds_toArray, List.set_cons_zero, List.set_cons_succ]
        refine tk8 (v := ?_) (by kernel_rfl) (by kernel_rfl) (by kernel_rfl) (by first | exact fun _ _ _ h => h | exact fun _ _ _ h => absurd h.1 (by simp)) (Or.inl ⟨by rfl, ?_⟩) (by assumption) ?_
        rotate_left 1
        focus (intro wx hSw; (try dsimp only at hSw); go_simp; try (with_reducible rfl))
        try simp only [Act.put, List.setIfInBounds_toArray, List.set_cons_zero, List.set_cons_succ]
        refine tk9 (v := ?_) (by kernel_rfl) (by kernel_rfl) (by kernel_rfl) (by first | exact fun _ _ _ h => h | exact fun _ _ _ h => absurd h.1 (by simp)) (Or.inl ⟨by rfl, ?_⟩) (by assumption) ?_
        rotate_left 1
        focus (intro wx hSw; (try dsimp only at hSw); go_simp; try (with_reducible rfl))
        try simp only [Act.put, List.setIfInBounds_toArray, List.set_cons_zero, List.set_cons_succ]
        refine tk10 (v := ?_) (by kernel_rfl) (by kernel_rfl) (by kernel_rfl) (by first | exact fun _ _ _ h => h | exact fun _ _ _ h => absurd h.1 (by simp)) (Or.inl ⟨by rfl, ?_⟩) (by assumption) ?_
        rotate_left 1
        focus (intro wx hSw; (try dsimp only at hSw); go_simp; try (with_reducible rfl))
        try simp only [Act.put, List.setIfInBounds_toArray, List.set_cons_zero, List.set_cons_succ]
        refine rd3 (by kernel_rfl) (fun K hK => ?_)
        go_simp
        refine (l7Places_any _ _ cs es L W5.drew lo' lo2 (HU.out.keep (Carries.of lo' HWR.out.drew)) (HL.out.keep (Carries.of lo2 HWR.out.drew)) hLL HIN.out).mono ?_
        rintro e w4 ⟨vq, rfl, hrow, hb4⟩
        have hb4 : Below W5.heap.size W5 w4 := Below.trans (b := W5.drew) (Below.refl _ _).drew (hb4.mono (by simp))
        have HIQ := Lib.hid (ints_of_owns hrow)
        obtain ⟨aq, kq, rfl⟩ := owns_form hrow
        clear hrow
        obtain ⟨nq, hnq⟩ : ∃ x, x = (plM cs L).length := ⟨_, rfl⟩
        rw [← hnq] at HIQ ⊢
        have HNQ := Lib.hid hnq; clear hnq
        have hpq : (plM cs L).length ≤ 1048576 := by
          have := puts_len (plL cs L) []
          rw [plL_length] at this
          unfold plM
          simp only [List.length_nil] at this
          omega
        have n1 := cell_carry n1 (Carries.of 0 hb4)
        have u0 := cell_carry u0 (Carries.of 0 hb4)
        have u1 := cell_carry u1 (Carries.of 0 hb4)
        have h0 := cell_carry h0 (Carries.of 0 hb4)
        have h1 := cell_carry h1 (Carries.of 0 hb4)
        have p0 := cell_carry p0 (Carries.of 0 hb4)
        refine hK.out _ _ ⟨n1, u0, u1, h0, h1, p0⟩ (fun hHeld => ?_)
        clear hK K
        try simp only [Act.put, List.setIfInBounds_toArray, List.set_cons_zero, List.set_cons_succ]
        refine rd11 (by kernel_rfl) (fun K hK => ?_)
        go_simp
        refine (l1Same_any _ _ (plM cs L) (preOf n tn) w4 _ lo HIQ.out (HPRE.out.keep (Carries.of lo (HWR.out.trans (hb4.mono HWR.out.size)))) (by omega) (by rw [← HNP.out]; omega)).mono ?_
        rintro e w6 ⟨rfl, hc6⟩
        have hb6 : Below W5.heap.size W5 w6 := hb4.trans (hc6.mono hb4.size)
        rw [← HQ5.out]
        have n1 := cell_carry n1 (Carries.of 0 hc6)
        have u0 := cell_carry u0 (Carries.of 0 hc6)
        have u1 := cell_carry u1 (Carries.of 0 hc6)
        have h0 := cell_carry h0 (Carries.of 0 hc6)
        have h1 := cell_carry h1 (Carries.of 0 hc6)
        have p0 := cell_carry p0 (Carries.of 0 hc6)
        refine hK.out _ _ ⟨n1, u0, u1, h0, h1, p0⟩ (fun hHeld => ?_)
        clear hK K
        try simp only [Act.put, List.setIfInBounds_toArray, List.set_cons_zero, List.set_cons_succ]
        refine tk12 (v := ?_) (by kernel_rfl) (by kernel_rfl) (by kernel_rfl) (by first | exact fun _ _ _ h => h | exact fun _ _ _ h => absurd h.1 (by simp)) (Or.inl ⟨by rfl, ?_⟩) (by assumption) ?_
        rotate_left 1
        focus (intro wx hSw; (try dsimp only at hSw); go_simp; try (with_reducible rfl))
        try simp only [Act.put, List.setIfInBounds_toArray, List.set_cons_zero, List.set_cons_succ]
        refine tk13 (by kernel_rfl) (by kernel_rfl) (by kernel_rfl) (by first | exact fun _ _ _ h => h | exact fun _ _ _ h => absurd h.1 (by simp)) (Or.inr ⟨by rfl, rfl⟩) (by assumption) ?_
        try simp only [Act.put, List.setIfInBounds_toArray, List.set_cons_zero, List.set_cons_succ]
        refine tk14 (by kernel_rfl) (by kernel_rfl) (by kernel_rfl) (by first | exact fun _ _ _ h => h | exact fun _ _ _ h => absurd h.1 (by simp)) (Or.inr ⟨by rfl, rfl⟩) (by assumption) ?_
        try simp only [Act.put, List.setIfInBounds_toArray, List.set_cons_zero, List.set_cons_succ]
        refine tk15 (by kernel_rfl) (by kernel_rfl) (by kernel_rfl) (by first | exact fun _ _ _ h => h | exact fun _ _ _ h => absurd h.1 (by simp)) (Or.inr ⟨by rfl, rfl⟩) (by assumption) ?_
        try simp only [Act.put, List.setIfInBounds_toArray, List.set_cons_zero, List.set_cons_succ]
        refine tk16 (by kernel_rfl) (by kernel_rfl) (by kernel_rfl) (by first | exact fun _ _ _ h => h | exact fun _ _ _ h => absurd h.1 (by simp)) (Or.inr ⟨by rfl, rfl⟩) (by assumption) ?_
        try simp only [Act.put, List.setIfInBounds_toArray, List.set_cons_zero, List.set_cons_succ]
        refine tk17 (v := ?_) (by kernel_rfl) (by kernel_rfl) (by kernel_rfl) (by first | exact fun _ _ _ h => h | exact fun _ _ _ h => absurd h.1 (by simp)) (Or.inl ⟨by rfl, ?_⟩) (by assumption) ?_
        rotate_left 1
        focus (intro wx hSw; (try dsimp only at hSw); go_simp; try (with_reducible rfl))
        try simp only [Act.put, List.setIfInBounds_toArray, List.set_cons_zero, List.set_cons_succ]
        refine tk18 (v := ?_) (by kernel_rfl) (by kernel_rfl) (by kernel_rfl) (by first | exact fun _ _ _ h => h | exact fun _ _ _ h => absurd h.1 (by simp)) (Or.inl ⟨by rfl, ?_⟩) (by assumption) ?_
        rotate_left 1
        focus (intro wx hSw; (try dsimp only at hSw); go_simp; try (with_reducible rfl))
        try simp only [Act.put, List.setIfInBounds_toArray, List.set_cons_zero, List.set_cons_succ]
        refine wpAnyH_done (by kernel_rfl) ?_ _
        go_wp2_with fail
        go_ret
        exact ⟨by simp, HWR.out.trans (hb6.mono HWR.out.size)⟩
      | true =>
        refine tk0 (v := ?_) (by kernel_rfl) (by kernel_rfl) (by kernel_rfl) (by first | exact fun _ _ _ h => h | exact fun _ _ _ h => absurd h.1 (by simp)) (Or.inl ⟨by rfl, ?_⟩) (by assumption) ?_
        rotate_left 1
        focus (intro wx hSw; (try dsimp only at hSw); go_simp; try (with_reducible rfl))
        try simp only [Act.put, List.setIfInBounds_toArray, List.set_cons_zero, List.set_cons_succ]
        refine tk1 (v := ?_) (by kernel_rfl) (by kernel_rfl) (by kernel_rfl) (by first | exact fun _ _ _ h => h | exact fun _ _ _ h => absurd h.1 (by simp)) (Or.inl ⟨by rfl, ?_⟩) (by assumption) ?_
        rotate_left 1
        focus (intro wx hSw; (try dsimp only at hSw); go_simp; try (with_reducible rfl))
        try simp only [Act.put, List.setIfInBounds_toArray, List.set_cons_zero, List.set_cons_succ]
        refine tk2 (v := ?_) (by kernel_rfl) (by kernel_rfl) (by kernel_rfl) (by first | exact fun _ _ _ h => h | exact fun _ _ _ h => absurd h.1 (by simp)) (Or.inl ⟨by rfl, ?_⟩) (by assumption) ?_
        rotate_left 1
        focus (intro wx hSw; (try dsimp only at hSw); go_simp; try (with_reducible rfl))
        try simp only [Act.put, List.setIfInBounds_toArray, List.set_cons_zero, List.set_cons_succ]
        refine tk4 (v := ?_) (by kernel_rfl) (by kernel_rfl) (by kernel_rfl) (by first | exact fun _ _ _ h => h | exact fun _ _ _ h => absurd h.1 (by simp)) (Or.inl ⟨by rfl, ?_⟩) (by assumption) ?_
        rotate_left 1
        focus (intro wx hSw; (try dsimp only at hSw); go_simp; try (with_reducible rfl))
        try simp only [Act.put, List.setIfInBounds_toArray, List.set_cons_zero, List.set_cons_succ]
        refine tk5 (v := ?_) (by kernel_rfl) (by kernel_rfl) (by kernel_rfl) (by first | exact fun _ _ _ h => h | exact fun _ _ _ h => absurd h.1 (by simp)) (Or.inl ⟨by rfl, ?_⟩) (by assumption) ?_
        rotate_left 1
        focus (intro wx hSw; (try dsimp only at hSw); go_simp; try (with_reducible rfl))
        try simp only [Act.put, List.setIfInBounds_toArray, List.set_cons_zero, List.set_cons_succ]
        refine tk6 (v := ?_) (by kernel_rfl) (by kernel_rfl) (by kernel_rfl) (by first | exact fun _ _ _ h => h | exact fun _ _ _ h => absurd h.1 (by simp)) (Or.inl ⟨by rfl, ?_⟩) (by assumption) ?_
        rotate_left 1
        focus (intro wx hSw; (try dsimp only at hSw); go_simp; try (with_reducible rfl))
        try simp only [Act.put, List.setIfInBounds_toArray, List.set_cons_zero, List.set_cons_succ]
        refine tk7 (v := ?_) (by kernel_rfl) (by kernel_rfl) (by kernel_rfl) (by first | exact fun _ _ _ h => h | exact fun _ _ _ h => absurd h.1 (by simp)) (Or.inl ⟨by rfl, ?_⟩) (by assumption) ?_
        rotate_left 1
        focus (intro wx hSw; (try dsimp only at hSw); go_simp; try (with_reducible rfl))
        try simp only [Act.put, List.setIfInBounds_toArray, List.set_cons_zero, List.set_cons_succ]
        refine tk8 (v := ?_) (by kernel_rfl) (by kernel_rfl) (by kernel_rfl) (by first | exact fun _ _ _ h => h | exact fun _ _ _ h => absurd h.1 (by simp)) (Or.inl ⟨by rfl, ?_⟩) (by assumption) ?_
        rotate_left 1
        focus (intro wx hSw; (try dsimp only at hSw); go_simp; try (with_reducible rfl))
        try simp only [Act.put, List.setIfInBounds_toArray, List.set_cons_zero, List.set_cons_succ]
        refine tk9 (v := ?_) (by kernel_rfl) (by kernel_rfl) (by kernel_rfl) (by first | exact fun _ _ _ h => h | exact fun _ _ _ h => absurd h.1 (by simp)) (Or.inl ⟨by rfl, ?_⟩) (by assumption) ?_
        rotate_left 1
        focus (intro wx hSw; (try dsimp only at hSw); go_simp; try (with_reducible rfl))
        try simp only [Act.put, List.setIfInBounds_toArray, List.set_cons_zero, List.set_cons_succ]
        refine tk10 (v := ?_) (by kernel_rfl) (by kernel_rfl) (by kernel_rfl) (by first | exact fun _ _ _ h => h | exact fun _ _ _ h => absurd h.1 (by simp)) (Or.inl ⟨by rfl, ?_⟩) (by assumption) ?_
        rotate_left 1
        focus (intro wx hSw; (try dsimp only at hSw); go_simp; try (with_reducible rfl))
        try simp only [Act.put, List.setIfInBounds_toArray, List.set_cons_zero, List.set_cons_succ]
        refine rd3 (by kernel_rfl) (fun K hK => ?_)
        go_simp
        refine (l7Places_any _ _ cs es L W5.drew lo' lo2 (HU.out.keep (Carries.of lo' HWR.out.drew)) (HL.out.keep (Carries.of lo2 HWR.out.drew)) hLL HIN.out).mono ?_
        rintro e w4 ⟨vq, rfl, hrow, hb4⟩
        have hb4 : Below W5.heap.size W5 w4 := Below.trans (b := W5.drew) (Below.refl _ _).drew (hb4.mono (by simp))
        have HIQ := Lib.hid (ints_of_owns hrow)
        obtain ⟨aq, kq, rfl⟩ := owns_form hrow
        clear hrow
        obtain ⟨nq, hnq⟩ : ∃ x, x = (plM cs L).length := ⟨_, rfl⟩
        rw [← hnq] at HIQ ⊢
        have HNQ := Lib.hid hnq; clear hnq
        have hpq : (plM cs L).length ≤ 1048576 := by
          have := puts_len (plL cs L) []
          rw [plL_length] at this
          unfold plM
          simp only [List.length_nil] at this
          omega
        have n1 := cell_carry n1 (Carries.of 0 hb4)
        have u0 := cell_carry u0 (Carries.of 0 hb4)
        have u1 := cell_carry u1 (Carries.of 0 hb4)
        have h0 := cell_carry h0 (Carries.of 0 hb4)
        have h1 := cell_carry h1 (Carries.of 0 hb4)
        have p0 := cell_carry p0 (Carries.of 0 hb4)
        refine hK.out _ _ ⟨n1, u0, u1, h0, h1, p0⟩ (fun hHeld => ?_)
        clear hK K
        try simp only [Act.put, List.setIfInBounds_toArray, List.set_cons_zero, List.set_cons_succ]
        refine rd11 (by kernel_rfl) (fun K hK => ?_)
        go_simp
        refine (l1Same_any _ _ (plM cs L) (preOf n tn) w4 _ lo HIQ.out (HPRE.out.keep (Carries.of lo (HWR.out.trans (hb4.mono HWR.out.size)))) (by omega) (by rw [← HNP.out]; omega)).mono ?_
        rintro e w6 ⟨rfl, hc6⟩
        have hb6 : Below W5.heap.size W5 w6 := hb4.trans (hc6.mono hb4.size)
        rw [← HQ5.out]
        have n1 := cell_carry n1 (Carries.of 0 hc6)
        have u0 := cell_carry u0 (Carries.of 0 hc6)
        have u1 := cell_carry u1 (Carries.of 0 hc6)
        have h0 := cell_carry h0 (Carries.of 0 hc6)
        have h1 := cell_carry h1 (Carries.of 0 hc6)
        have p0 := cell_carry p0 (Carries.of 0 hc6)
        refine hK.out _ _ ⟨n1, u0, u1, h0, h1, p0⟩ (fun hHeld => ?_)
        clear hK K
        try simp only [Act.put, List.setIfInBounds_toArray, List.set_cons_zero, List.set_cons_succ]
        refine tk12 (v := ?_) (by kernel_rfl) (by kernel_rfl) (by kernel_rfl) (by first | exact fun _ _ _ h => h | exact fun _ _ _ h => absurd h.1 (by simp)) (Or.inl ⟨by rfl, ?_⟩) (by assumption) ?_
        rotate_left 1
        focus (intro wx hSw; (try dsimp only at hSw); go_simp; try (with_reducible rfl))
        try simp only [Act.put, List.setIfInBounds_toArray, List.set_cons_zero, List.set_cons_succ]
        refine tk13 (v := ?_) (by kernel_rfl) (by kernel_rfl) (by kernel_rfl) (by first | exact fun _ _ _ h => h | exact fun _ _ _ h => absurd h.1 (by simp)) (Or.inl ⟨by rfl, ?_⟩) (by assumption) ?_
        rotate_left 1
        focus (intro wx hSw; (try dsimp only at hSw); go_simp; try (with_reducible rfl))
        try simp only [Act.put, List.setIfInBounds_toArray, List.set_cons_zero, List.set_cons_succ]
        refine tk14 (v := ?_) (by kernel_rfl) (by kernel_rfl) (by kernel_rfl) (by first | exact fun _ _ _ h => h | exact fun _ _ _ h => absurd h.1 (by simp)) (Or.inl ⟨by rfl, ?_⟩) (by assumption) ?_
        rotate_left 1
        focus (intro wx hSw; (try dsimp only at hSw); go_simp; try (with_reducible rfl))
        try simp only [Act.put, List.setIfInBounds_toArray, List.set_cons_zero, List.set_cons_succ]
        refine tk15 (v := ?_) (by kernel_rfl) (by kernel_rfl) (by kernel_rfl) (by first | exact fun _ _ _ h => h | exact fun _ _ _ h => absurd h.1 (by simp)) (Or.inl ⟨by rfl, ?_⟩) (by assumption) ?_
        rotate_left 1
        focus (intro wx hSw; (try dsimp only at hSw); go_simp; try (with_reducible rfl))
        try simp only [Act.put, List.setIfInBounds_toArray, List.set_cons_zero, List.set_cons_succ]
        refine rd16 (by kernel_rfl) (fun K hK => ?_)
        go_simp
        refine (l7Together_any _ _ cs es L w6 lo' lo2 (HU.out.keep (Carries.of lo' (HWR.out.trans (hb6.mono HWR.out.size)))) (HL.out.keep (Carries.of lo2 (HWR.out.trans (hb6.mono HWR.out.size)))) hLL hcl hel HEV.out HIN.out HBY.out HWF.out).mono ?_
        rintro e w7 ⟨rfl, hc7⟩
        have hb7 : Below W5.heap.size W5 w7 := hb6.trans (hc7.mono hb6.size)
        rw [← HQ6.out]
        have n1 := cell_carry n1 (Carries.of 0 hc7)
        have u0 := cell_carry u0 (Carries.of 0 hc7)
        have u1 := cell_carry u1 (Carries.of 0 hc7)
        have h0 := cell_carry h0 (Carries.of 0 hc7)
        have h1 := cell_carry h1 (Carries.of 0 hc7)
        have p0 := cell_carry p0 (Carries.of 0 hc7)
        refine hK.out _ _ ⟨n1, u0, u1, h0, h1, p0⟩ (fun hHeld => ?_)
        clear hK K
        try simp only [Act.put, List.setIfInBounds_toArray, List.set_cons_zero, List.set_cons_succ]
        refine tk17 (v := ?_) (by kernel_rfl) (by kernel_rfl) (by kernel_rfl) (by first | exact fun _ _ _ h => h | exact fun _ _ _ h => absurd h.1 (by simp)) (Or.inl ⟨by rfl, ?_⟩) (by assumption) ?_
        rotate_left 1
        focus (intro wx hSw; (try dsimp only at hSw); go_simp; try (with_reducible rfl))
        try simp only [Act.put, List.setIfInBounds_toArray, List.set_cons_zero, List.set_cons_succ]
        refine tk18 (v := ?_) (by kernel_rfl) (by kernel_rfl) (by kernel_rfl) (by first | exact fun _ _ _ h => h | exact fun _ _ _ h => absurd h.1 (by simp)) (Or.inl ⟨by rfl, ?_⟩) (by assumption) ?_
        rotate_left 1
        focus (intro wx hSw; (try dsimp only at hSw); go_simp; try (with_reducible rfl))
        try simp only [Act.put, List.setIfInBounds_toArray, List.set_cons_zero, List.set_cons_succ]
        refine wpAnyH_done (by kernel_rfl) ?_ _
        go_wp2_with fail
        go_ret
        exact ⟨by simp, HWR.out.trans (hb7.mono HWR.out.size)⟩

end Go.Proofs.YtigkgfdnnfmmmaaGreat
