/- WALK: EventRelation of the program (written by gen8/gero.py). -/
import Derived.Test.YtigkgfdnnfmmmaaGreatVHhe
namespace Go.Proofs.YtigkgfdnnfmmmaaGreat
open Go.RowKit

/-- these are two events of a valid unfolding -/
def erB (n : NetD) (s : ByteArray) (u : UnfD) (a b : Int) : Bool := uvB n s u && (decide (0 ≤ a ∧ a < (u.es.length : Int)) && decide (0 ≤ b ∧ b < (u.es.length : Int)))
def erV (n : NetD) (s : ByteArray) (u : UnfD) (a b : Int) : Int := if erB n s u a b = true then relV (hisAll n s u.es) a.toNat b.toNat else 0
/-- a call returns a number and a bool -/
def RetIB (w : World) (v : Int) (b : Bool) (e : Ending) (w' : World) : Prop := e = .returned (.tuple #[.int .i64 v, .bool b]) ∧ Below w.heap.size w w'
theorem erV_no {n : NetD} {s : ByteArray} {u : UnfD} {a b : Int} (h : erB n s u a b = false) : erV n s u a b = 0 := by unfold erV; rw [h]; rfl
theorem erV_yes {n : NetD} {s : ByteArray} {u : UnfD} {a b : Nat} (h : erB n s u a b = true) : erV n s u a b = relV (hisAll n s u.es) a b := by unfold erV; rw [if_pos h]; rfl

set_option maxRecDepth 100000 in
set_option maxHeartbeats 2000000 in
theorem relation_any (B H : Nat) (w : World) (P : Int) (vt vc ve vp vu : Value) (x : His) (an bn : Nat) (hH : HisAt B H w P vt vc ve vp vu x.cs x.es x.ps x.us) (hG : HisG x) (han : an < x.es.length) (hbn : bn < x.es.length) (hxe : x.es.length ≤ 60) (hxc : x.cs.length ≤ 200) :
    Calls Tryz.prog 51 #[.pointer (some ⟨H, 0, none⟩), .int .i64 (an : Int), .int .i64 (bn : Int)] w (RetV w (.int .i64 (relV x an bn))) := by
  obtain ⟨V, hV⟩ : ∃ y, y = relV x an bn := ⟨_, rfl⟩
  rw [← hV]
  have HV2 := Lib.hid hV
  obtain ⟨ne, hne⟩ : ∃ y, y = x.es.length := ⟨_, rfl⟩
  rw [← hne] at han hbn hxe
  have HX : Hid (x.es.length = ne) := hne.symm
  have HXC := Lib.hid hxc
  have HH3 := Lib.hid hH
  have HGG := Lib.hid hG
  clear hV hne hxc hH hG
  have hpe : x.ps.length = ne := by rw [HGG.out.m.pe, HX.out]
  have c4 := HH3.out.c4
  obtain ⟨op, kp, rfl, _, hzp⟩ := id HH3.out.rp.at
  rcases hzp with h0 | ⟨bp, offp, rfl, _, hcell⟩
  · omega
  have da := hcell an (by omega)
  have db := hcell bn (by omega)
  rw [hpe] at c4
  have fa := HGG.out.fp an
  have fb := HGG.out.fp bn
  have HPE := Lib.hid hpe
  have hrel : relV x an bn = if an = bn then 0 else if (x.ps.getD bn 0).testBit an = true then 1 else if (x.ps.getD an 0).testBit bn = true then 2 else if cfB x.us (x.ps.getD an 0 ||| x.ps.getD bn 0) = true then 3 else 4 := rfl
  have HREL := Lib.hid hrel
  clear hcell hpe hrel
  generalize x.ps.getD an 0 = pa at da fa HREL
  generalize x.ps.getD bn 0 = pb at db fb HREL
  generalize x.ps.length = np at HH3 HPE
  go_enter Tryz.func51, Tryz.ntmps51
  by_cases hab : an = bn
  · have hv0 : V = 0 := by rw [HV2.out, HREL.out, if_pos hab]
    subst hab; subst hv0
    have t1 : ((an : Int) == (an : Int)) = true := by simp
    go_wp2_with fail
    go_ret
    exact ⟨rfl, Below.refl _ _⟩
  have t1 : ((an : Int) == (bn : Int)) = false := by rw [beq_eq_false_iff_ne]; omega
  go_wp2_with fail
  refine (has_any pb an w fb (by omega)).mono ?_
  rintro e w4 ⟨rfl, hb4⟩
  have hw4 : Below w.heap.size w w4 := hb4
  have HH4 := Lib.hid (HH3.out.after hb4)
  have c4 := cell_carry c4 (Carries.of 0 hb4)
  have da := cell_carry da (Carries.of 0 hb4)
  have db := cell_carry db (Carries.of 0 hb4)
  clear hb4
  cases h1 : pb.testBit an with
  | true =>
    have hv0 : V = 1 := by rw [HV2.out, HREL.out, if_neg hab, if_pos h1]
    subst hv0
    clear h1
    go_wp2_with fail
    go_ret
    exact ⟨rfl, hw4⟩
  | false =>
  have H1 := Lib.hid h1; clear h1
  go_wp2_with fail
  refine (has_any pa bn w4 fa (by omega)).mono ?_
  rintro e w5 ⟨rfl, hb5⟩
  have hw5 : Below w.heap.size w w5 := hw4.trans (hb5.mono hw4.size)
  have HH5 := Lib.hid (HH4.out.after hb5)
  have c4 := cell_carry c4 (Carries.of 0 hb5)
  have da := cell_carry da (Carries.of 0 hb5)
  have db := cell_carry db (Carries.of 0 hb5)
  clear hb5
  cases h2 : pa.testBit bn with
  | true =>
    have hv0 : V = 2 := by rw [HV2.out, HREL.out, if_neg hab, if_neg (by rw [H1.out]; simp), if_pos h2]
    subst hv0
    clear h2
    go_wp2_with fail
    go_ret
    exact ⟨rfl, hw5⟩
  | false =>
  have H2 := Lib.hid h2; clear h2
  go_wp2_with fail
  refine wp_region_held_drew (S := fun w' => w'.cell? ⟨H, 4, none⟩ = some (.slice (some ⟨bp, offp, none⟩) ne kp) ∧ w'.cell? ⟨bp, offp + an, none⟩ = some (.int .u64 (pa : Int)) ∧ w'.cell? ⟨bp, offp + bn, none⟩ = some (.int .u64 (pb : Int))) (by kernel_rfl) ⟨c4, da, db⟩ (fun hHeld => ?_)
  refine tk0 (v := ?_) (by kernel_rfl) (by kernel_rfl) (by kernel_rfl) (by first | exact fun _ _ _ h => h | exact fun _ _ _ h => absurd h.1 (by simp)) (Or.inl ⟨by rfl, ?_⟩) (by assumption) ?_
  rotate_left 1
  focus (intro wx hSw; (try dsimp only at hSw); go_simp; try (with_reducible rfl))
  try simp only [Act.put, List.setIfInBounds_toArray, List.set_cons_zero, List.set_cons_succ]
  refine tk1 (v := ?_) (by kernel_rfl) (by kernel_rfl) (by kernel_rfl) (by first | exact fun _ _ _ h => h | exact fun _ _ _ h => absurd h.1 (by simp)) (Or.inl ⟨by rfl, ?_⟩) (by assumption) ?_
  rotate_left 1
  focus (intro wx hSw; (try dsimp only at hSw); go_simp; try (with_reducible rfl))
  try simp only [Act.put, List.setIfInBounds_toArray, List.set_cons_zero, List.set_cons_succ]
  refine tk2 (v := ?_) (by kernel_rfl) (by kernel_rfl) (by kernel_rfl) (by first | exact fun _ _ _ h => h | exact fun _ _ _ h => absurd h.1 (by simp)) (Or.inl ⟨by rfl, ?_⟩) (by assumption) ?_
  rotate_left 1
  focus (intro wx hSw; (try dsimp only at hSw); go_simp; try (with_reducible rfl))
  try simp only [Act.put, List.setIfInBounds_toArray, List.set_cons_zero, List.set_cons_succ]
  refine tk3 (v := ?_) (by kernel_rfl) (by kernel_rfl) (by kernel_rfl) (by first | exact fun _ _ _ h => h | exact fun _ _ _ h => absurd h.1 (by simp)) (Or.inl ⟨by rfl, ?_⟩) (by assumption) ?_
  rotate_left 1
  focus (intro wx hSw; (try dsimp only at hSw); go_simp; try (with_reducible rfl))
  try simp only [Act.put, List.setIfInBounds_toArray, List.set_cons_zero, List.set_cons_succ]
  refine tk4 (v := ?_) (by kernel_rfl) (by kernel_rfl) (by kernel_rfl) (by first | exact fun _ _ _ h => h | exact fun _ _ _ h => absurd h.1 (by simp)) (Or.inl ⟨by rfl, ?_⟩) (by assumption) ?_
  rotate_left 1
  focus (intro wx hSw; (try dsimp only at hSw); go_simp; try (with_reducible rfl))
  try simp only [Act.put, List.setIfInBounds_toArray, List.set_cons_zero, List.set_cons_succ]
  refine tk5 (v := ?_) (by kernel_rfl) (by kernel_rfl) (by kernel_rfl) (by first | exact fun _ _ _ h => h | exact fun _ _ _ h => absurd h.1 (by simp)) (Or.inl ⟨by rfl, ?_⟩) (by assumption) ?_
  rotate_left 1
  focus (intro wx hSw; (try dsimp only at hSw); go_simp; try (with_reducible rfl))
  try simp only [Act.put, List.setIfInBounds_toArray, List.set_cons_zero, List.set_cons_succ]
  refine tk6 (v := ?_) (by kernel_rfl) (by kernel_rfl) (by kernel_rfl) (by first | exact fun _ _ _ h => h | exact fun _ _ _ h => absurd h.1 (by simp)) (Or.inl ⟨by rfl, ?_⟩) (by assumption) ?_
  rotate_left 1
  focus (intro wx hSw; (try dsimp only at hSw); go_simp; try (with_reducible rfl))
  try simp only [Act.put, List.setIfInBounds_toArray, List.set_cons_zero, List.set_cons_succ]
  refine tk7 (v := ?_) (by kernel_rfl) (by kernel_rfl) (by kernel_rfl) (by first | exact fun _ _ _ h => h | exact fun _ _ _ h => absurd h.1 (by simp)) (Or.inl ⟨by rfl, ?_⟩) (by assumption) ?_
  rotate_left 1
  focus (intro wx hSw; (try dsimp only at hSw); go_simp; try (with_reducible rfl))
  try simp only [Act.put, List.setIfInBounds_toArray, List.set_cons_zero, List.set_cons_succ]
  refine tk8 (v := ?_) (by kernel_rfl) (by kernel_rfl) (by kernel_rfl) (by first | exact fun _ _ _ h => h | exact fun _ _ _ h => absurd h.1 (by simp)) (Or.inl ⟨by rfl, ?_⟩) (by assumption) ?_
  rotate_left 1
  focus (intro wx hSw; (try dsimp only at hSw); go_simp; try (with_reducible rfl))
  try simp only [Act.put, List.setIfInBounds_toArray, List.set_cons_zero, List.set_cons_succ]
  refine tk9 (v := ?_) (by kernel_rfl) (by kernel_rfl) (by kernel_rfl) (by first | exact fun _ _ _ h => h | exact fun _ _ _ h => absurd h.1 (by simp)) (Or.inl ⟨by rfl, ?_⟩) (by assumption) ?_
  rotate_left 1
  focus (intro wx hSw; (try dsimp only at hSw); go_simp; try (with_reducible rfl))
  try simp only [Act.put, List.setIfInBounds_toArray, List.set_cons_zero, List.set_cons_succ]
  refine tk10 (v := ?_) (by kernel_rfl) (by kernel_rfl) (by kernel_rfl) (by first | exact fun _ _ _ h => h | exact fun _ _ _ h => absurd h.1 (by simp)) (Or.inl ⟨by rfl, ?_⟩) (by assumption) ?_
  rotate_left 1
  focus (intro wx hSw; (try dsimp only at hSw); go_simp; try (with_reducible rfl))
  try simp only [Act.put, List.setIfInBounds_toArray, List.set_cons_zero, List.set_cons_succ]
  refine tk11 (v := ?_) (by kernel_rfl) (by kernel_rfl) (by kernel_rfl) (by first | exact fun _ _ _ h => h | exact fun _ _ _ h => absurd h.1 (by simp)) (Or.inl ⟨by rfl, ?_⟩) (by assumption) ?_
  rotate_left 1
  focus (intro wx hSw; (try dsimp only at hSw); go_simp; try (with_reducible rfl))
  try simp only [Act.put, List.setIfInBounds_toArray, List.set_cons_zero, List.set_cons_succ]
  refine tk12 (v := ?_) (by kernel_rfl) (by kernel_rfl) (by kernel_rfl) (by first | exact fun _ _ _ h => h | exact fun _ _ _ h => absurd h.1 (by simp)) (Or.inl ⟨by rfl, ?_⟩) (by assumption) ?_
  rotate_left 1
  focus (intro wx hSw; (try dsimp only at hSw); go_simp; try (with_reducible rfl))
  try simp only [Act.put, List.setIfInBounds_toArray, List.set_cons_zero, List.set_cons_succ]
  refine tk13 (v := ?_) (by kernel_rfl) (by kernel_rfl) (by kernel_rfl) (by first | exact fun _ _ _ h => h | exact fun _ _ _ h => absurd h.1 (by simp)) (Or.inl ⟨by rfl, ?_⟩) (by assumption) ?_
  rotate_left 1
  focus (intro wx hSw; (try dsimp only at hSw); go_simp; try (with_reducible rfl))
  try simp only [Act.put, List.setIfInBounds_toArray, List.set_cons_zero, List.set_cons_succ]
  refine tk14 (v := ?_) (by kernel_rfl) (by kernel_rfl) (by kernel_rfl) (by first | exact fun _ _ _ h => h | exact fun _ _ _ h => absurd h.1 (by simp)) (Or.inl ⟨by rfl, ?_⟩) (by assumption) ?_
  rotate_left 1
  focus (intro wx hSw; (try dsimp only at hSw); go_simp; try (with_reducible rfl))
  try simp only [Act.put, List.setIfInBounds_toArray, List.set_cons_zero, List.set_cons_succ]
  refine tk15 (v := .int .u64 ((pa ||| pb : Nat) : Int)) (by kernel_rfl) (by kernel_rfl) (by kernel_rfl) (by first | exact fun _ _ _ h => h | exact fun _ _ _ h => absurd h.1 (by simp)) (Or.inl ⟨by rfl, ?_⟩) (by assumption) ?_
  · intro wx hSw
    have e1 : bits .or .u64 ((pa : Nat) : Int) ((pb : Nat) : Int) = ((pa ||| pb : Nat) : Int) := bits_or_u64_nat _ _ fa fb
    go_simp
    first | done | (simp only [e1]; done) | (simp only [e1]; with_reducible rfl)
  try simp only [Act.put, List.setIfInBounds_toArray, List.set_cons_zero, List.set_cons_succ]
  refine rd16 (by kernel_rfl) (fun K hK => ?_)
  go_simp
  refine (hasNoConflict_any B H w5.drew P _ vc ve _ vu _ _ _ _ (pa ||| pb) (HH5.out.after (Below.refl _ _).drew) (by rw [HGG.out.m.uc]; have := HXC.out; omega) HGG.out.fu (Nat.or_lt_two_pow (n := 64) fa fb)).mono ?_
  rintro e w6 ⟨rfl, hb6⟩
  have hb6 : Below w5.heap.size w5 w6 := Below.trans (b := w5.drew) (Below.refl _ _).drew (hb6.mono (by simp))
  have c4 := cell_carry c4 (Carries.of 0 hb6)
  have da := cell_carry da (Carries.of 0 hb6)
  have db := cell_carry db (Carries.of 0 hb6)
  have hw6 : Below w.heap.size w w6 := hw5.trans (hb6.mono hw5.size)
  cases h3 : cfB x.us (pa ||| pb) with
  | true =>
    have hv0 : V = 3 := by rw [HV2.out, HREL.out, if_neg hab, if_neg (by rw [H1.out]; simp), if_neg (by rw [H2.out]; simp), if_pos h3]
    subst hv0
    clear h3
    refine hK.out _ _ ⟨c4, da, db⟩ (fun hHeld => ?_)
    clear hK K
    try simp only [Act.put, List.setIfInBounds_toArray, List.set_cons_zero, List.set_cons_succ]
    refine tk17 (v := ?_) (by kernel_rfl) (by kernel_rfl) (by kernel_rfl) (by first | exact fun _ _ _ h => h | exact fun _ _ _ h => absurd h.1 (by simp)) (Or.inl ⟨by rfl, ?_⟩) (by assumption) ?_
    rotate_left 1
    focus (intro wx hSw; (try dsimp only at hSw); go_simp; try (with_reducible rfl))
    try simp only [Act.put, List.setIfInBounds_toArray, List.set_cons_zero, List.set_cons_succ]
    refine tk18 (v := ?_) (by kernel_rfl) (by kernel_rfl) (by kernel_rfl) (by first | exact fun _ _ _ h => h | exact fun _ _ _ h => absurd h.1 (by simp)) (Or.inl ⟨by rfl, ?_⟩) (by assumption) ?_
    rotate_left 1
    focus (intro wx hSw; (try dsimp only at hSw); go_simp; try (with_reducible rfl))
    try simp only [Act.put, List.setIfInBounds_toArray, List.set_cons_zero, List.set_cons_succ]
    refine wpAnyH_done (by kernel_rfl) ?_ _
    go_wp2_with fail
    go_ret
    exact ⟨rfl, hw6⟩
  | false =>
    have hv0 : V = 4 := by rw [HV2.out, HREL.out, if_neg hab, if_neg (by rw [H1.out]; simp), if_neg (by rw [H2.out]; simp), if_neg (by rw [h3]; simp)]
    subst hv0
    clear h3
    refine hK.out _ _ ⟨c4, da, db⟩ (fun hHeld => ?_)
    clear hK K
    try simp only [Act.put, List.setIfInBounds_toArray, List.set_cons_zero, List.set_cons_succ]
    refine tk17 (v := ?_) (by kernel_rfl) (by kernel_rfl) (by kernel_rfl) (by first | exact fun _ _ _ h => h | exact fun _ _ _ h => absurd h.1 (by simp)) (Or.inl ⟨by rfl, ?_⟩) (by assumption) ?_
    rotate_left 1
    focus (intro wx hSw; (try dsimp only at hSw); go_simp; try (with_reducible rfl))
    try simp only [Act.put, List.setIfInBounds_toArray, List.set_cons_zero, List.set_cons_succ]
    refine tk18 (v := ?_) (by kernel_rfl) (by kernel_rfl) (by kernel_rfl) (by first | exact fun _ _ _ h => h | exact fun _ _ _ h => absurd h.1 (by simp)) (Or.inl ⟨by rfl, ?_⟩) (by assumption) ?_
    rotate_left 1
    focus (intro wx hSw; (try dsimp only at hSw); go_simp; try (with_reducible rfl))
    try simp only [Act.put, List.setIfInBounds_toArray, List.set_cons_zero, List.set_cons_succ]
    refine wpAnyH_done (by kernel_rfl) ?_ _
    go_wp2_with fail
    go_ret
    exact ⟨rfl, hw6⟩


set_option maxRecDepth 100000 in
set_option maxHeartbeats 2000000 in
theorem EventRelation_any (v : Value) (n : NetD) (s : ByteArray) (vu : Value) (u : UnfD) (a b : Int) (w : World) (lo lo' : Nat) (hv : NetAt lo w v n) (hvu : UnfAt lo' w vu u) (hsm : SmallTrs n.ts) (hsu : SmallUnf u) (hs : s.size ≤ 1048576) :
    Calls Tryz.prog 21 #[v, .string s, vu, .int .i64 a, .int .i64 b] w (RetIB w (erV n s u a b) (erB n s u a b)) := by
  obtain ⟨G, hG⟩ : ∃ x, x = erB n s u a b := ⟨_, rfl⟩
  obtain ⟨V, hV⟩ : ∃ x, x = erV n s u a b := ⟨_, rfl⟩
  rw [← hG, ← hV]
  have HF := Lib.hid hG; have HVV := Lib.hid hV
  clear hG hV
  obtain ⟨ao, cap, rfl⟩ := net_form hv
  obtain ⟨a0, k0, a1, k1, rfl, hcc, hee⟩ := hvu.form
  obtain ⟨R, hR⟩ : ∃ x, x = uvB n s u := ⟨_, rfl⟩
  have HR := Lib.hid hR
  clear hcc hee hR
  obtain ⟨p, hp⟩ : ∃ p, p = n.places := ⟨_, rfl⟩
  obtain ⟨m, hm⟩ : ∃ m, m = n.ts.length := ⟨_, rfl⟩
  obtain ⟨nc, hnc⟩ : ∃ m, m = u.cs.length := ⟨_, rfl⟩
  obtain ⟨ne, hne⟩ : ∃ m, m = u.es.length := ⟨_, rfl⟩
  rw [← hm] at hv
  rw [← hnc, ← hne] at hvu
  rw [← hp, ← hm, ← hnc, ← hne]
  have HPl := Lib.hid hp
  have HV := Lib.hid hv
  have HVU := Lib.hid hvu
  have HNE := Lib.hid hne
  have HNC := Lib.hid hnc
  clear hp hm hnc hne hv hvu
  obtain ⟨W, hW⟩ : ∃ x, x = (w.alloc (.cells #[.int .i64 p, .slice ao m cap] 43)).alloc (.cells #[.slice a0 nc k0, .slice a1 ne k1] 38) := ⟨_, rfl⟩
  have hw0 : Below w.heap.size w W := by rw [hW]; (repeat' (first | (with_reducible exact Below.refl _ _) | (with_reducible assumption) | (with_reducible refine Below.alloc ?_ ?_ _) | (with_reducible refine Below.drew ?_) | (with_reducible refine below_drewN ?_ _) | (with_reducible refine Below.setCell ?_ ?_ _) | go_size))
  go_enter Tryz.func21, Tryz.ntmps21
  go_wp2_with (go_at_call 34; rw [← hW]; clear hW; rw [HPl.out]; refine (readHistory_any _ n s _ u W lo lo' (HV.out.keep (Carries.of lo hw0)) (HVU.out.keep (Carries.of lo' hw0)) hsm hsu hs).mono ?_)
  rintro e w1 ⟨ph, rfl, hb1, hhis⟩
  rw [← HR.out] at hhis ⊢
  have hw1 : Below w.heap.size w w1 := hw0.trans (hb1.mono hw0.size)
  have hno : G = false → V = 0 := fun q => by rw [HVV.out]; exact erV_no (HF.out.symm.trans q)
  have HNO := Lib.hid hno; clear hno
  cases R with
  | false =>
    have hg : G = false := by rw [HF.out]; unfold erB; rw [← HR.out]; rfl
    have hvv := HNO.out hg
    subst hg; subst hvv
    go_wp2_with fail
    go_ret2
    exact ⟨rfl, hw1⟩
  | true =>
  obtain ⟨H, rfl, w0, vc, ve, vp, vu, hb2, hb3, hH⟩ := hhis rfl
  obtain ⟨hgn, h60, h200, hxc, hxe, hGG⟩ := uvB_all HR.out.symm
  have HX : Hid ((hisAll n s u.es).es.length = ne) := by unfold Hid; rw [hxe, HNE.out]
  have h60' : ne ≤ 60 := by rw [HNE.out]; exact h60
  have HXC : Hid ((hisAll n s u.es).cs.length ≤ 200) := by unfold Hid; rw [hxc]; exact h200
  have HH := Lib.hid hH; have HGG := Lib.hid hGG
  clear hH hGG hgn h60 h200 hxc hxe hhis
  have hra : decide (0 ≤ a ∧ a < (ne : Int)) = decide (0 ≤ a ∧ a < ((hisAll n s u.es).es.length : Int)) := by rw [HX.out]
  have hrb : decide (0 ≤ b ∧ b < (ne : Int)) = decide (0 ≤ b ∧ b < ((hisAll n s u.es).es.length : Int)) := by rw [HX.out]
  obtain ⟨qa, hqa⟩ : ∃ q, q = decide (0 ≤ a ∧ a < (ne : Int)) := ⟨_, rfl⟩
  obtain ⟨qb, hqb⟩ : ∃ q, q = decide (0 ≤ b ∧ b < (ne : Int)) := ⟨_, rfl⟩
  have hGq : G = (qa && qb) := by rw [HF.out]; unfold erB; rw [← HR.out, ← HNE.out, ← hqa, ← hqb]; rfl
  have HQA := Lib.hid hqa; have HQB := Lib.hid hqb; have HGQ := Lib.hid hGq
  have HRA : Hid (decide (0 ≤ a ∧ a < ((hisAll n s u.es).es.length : Int)) = qa) := by unfold Hid; rw [← hra, hqa]
  have HRB : Hid (decide (0 ≤ b ∧ b < ((hisAll n s u.es).es.length : Int)) = qb) := by unfold Hid; rw [← hrb, hqb]
  clear hra hrb hqa hqb hGq
  go_wp2_with fail
  refine (hasEvent_any w0.heap.size H w1 n.places _ vc ve vp vu _ _ _ _ a HH.out).mono ?_
  rintro e w2 ⟨rfl, hb2'⟩
  rw [HRA.out]
  have hw2 : Below w.heap.size w w2 := hw1.trans (hb2'.mono hw1.size)
  have HH2 := Lib.hid (HH.out.after hb2')
  clear hb2' hb2 hb3
  cases qa with
  | false =>
    have hg : G = false := by rw [HGQ.out]; rfl
    have hvv := HNO.out hg
    subst hg; subst hvv
    go_wp2_with fail
    go_ret2
    exact ⟨rfl, hw2⟩
  | true =>
  go_wp2_with fail
  refine (hasEvent_any w0.heap.size H w2 n.places _ vc ve vp vu _ _ _ _ b HH2.out).mono ?_
  rintro e w3 ⟨rfl, hb3'⟩
  rw [HRB.out]
  have hw3 : Below w.heap.size w w3 := hw2.trans (hb3'.mono hw2.size)
  have HH3 := Lib.hid (HH2.out.after hb3')
  clear hb3'
  cases qb with
  | false =>
    have hg : G = false := by rw [HGQ.out]; rfl
    have hvv := HNO.out hg
    subst hg; subst hvv
    go_wp2_with fail
    go_ret2
    exact ⟨rfl, hw3⟩
  | true =>
  have hg : G = true := by rw [HGQ.out]; rfl
  subst hg
  have ha := of_decide_eq_true HQA.out.symm
  have hb := of_decide_eq_true HQB.out.symm
  obtain ⟨an, rfl⟩ : ∃ q : Nat, a = (q : Int) := ⟨a.toNat, by omega⟩
  obtain ⟨bn, rfl⟩ : ∃ q : Nat, b = (q : Int) := ⟨b.toNat, by omega⟩
  have han : an < ne := by omega
  have hbn : bn < ne := by omega
  have hVV : V = relV (hisAll n s u.es) an bn := by rw [HVV.out]; exact erV_yes HF.out.symm
  have HV2 := Lib.hid hVV
  clear ha hb hVV
  go_wp2_with fail
  refine (relation_any w0.heap.size H w3 n.places _ vc ve vp vu (hisAll n s u.es) an bn HH3.out HGG.out (by rw [HX.out]; exact han) (by rw [HX.out]; exact hbn) (by rw [HX.out]; exact h60') HXC.out).mono ?_
  rintro e w4 ⟨rfl, hb4⟩
  have hw4 : Below w.heap.size w w4 := hw3.trans (hb4.mono hw3.size)
  rw [← HV2.out]
  go_wp2_with fail
  go_ret2
  exact ⟨rfl, hw4⟩

end Go.Proofs.YtigkgfdnnfmmmaaGreat
