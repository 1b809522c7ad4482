/- WALK: explorer.search: two labels (written by gen9/gexh.py). -/
import Derived.Test.YtigkgfdnnfmmmaaVExs
import Derived.Test.YtigkgfdnnfmmmaaVScm
namespace Go.Proofs.Ytigkgfdnnfmmmaa
open Go.RowKit Go.Maps

theorem lt_of_sums {a b i c : Nat} (h1 : a + i = c) (h2 : b + (i + 1) = c) : b < a := by omega
theorem small_i {n : NetD} {m0 : ByteArray} {i k t : Nat} {s : ExS} (h : ExOk n 300 m0 i k t s) (hg : goodN n = true) : i + 1 ≤ 20000 := by
  obtain ⟨_, _, h3, h4⟩ := h.small hg (by omega)
  have h1 := h.place
  have hT := (goodN_parts hg).2.2.1
  have h2 : k * (n.ts.length + 1) ≤ 624 * 25 := Nat.mul_le_mul h3 (by omega)
  omega

set_option maxRecDepth 100000 in
set_option maxHeartbeats 4000000 in
theorem search_any (n : NetD) (m0 : ByteArray) (E M : Nat) (w0 w : World) (P : Int) (vt vm vv : Value) (lo : Nat) (h : XpAt w0.heap.size E M w P vt vm vv 0 0 false ⟨[m0], []⟩) (hb : Below w0.heap.size w0 w) (hT : TrsAt lo w0 vt n.ts) (hS : SmallTrs n.ts) (hg : goodN n = true) (hm : markB n m0 = true) :
    Calls Try.prog 49 #[.pointer (some ⟨E, 0, none⟩)] w (RetSe n true 300 m0 w0.heap.size E M w P vt) := by
  obtain ⟨at_, ct, hvt, hct, hz⟩ := id hT
  subst hvt
  obtain ⟨TN, hTN⟩ : ∃ q, q = n.ts.length := ⟨_, rfl⟩
  have h24 : TN ≤ 24 := by rw [hTN]; exact (goodN_parts hg).2.2.1
  rw [← hTN] at h hT ⊢
  have HH := Lib.hid h; have HB := Lib.hid hb; have HT := Lib.hid hT; have HS := Lib.hid hS; have HG := Lib.hid hg; have HTN := Lib.hid hTN
  have HOK := Lib.hid (fun i k t s hx => ex_ok (ea := true) hg (by omega : 1 ≤ 300) hm i k t s hx)
  have HFI := Lib.hid (fun (i : Nat) (c : ExC) (hx : exTo n true 300 m0 i = c) hc => exF_is hg (by omega : 1 ≤ 300) hm hx hc)
  clear h hb hT hS hg hm hct hz hTN
  go_enter Try.func49, Try.ntmps49
  go_wp2_with fail
  refine wp_scope_two 0 1 (fun mm a' w' => ∃ (u3 u4 u5 u6 u7 u8 u9 u10 u11 u12 u13 u14 u15 u16 u17 u18 u19 u20 u21 u22 u23 u24 u25 u26 u27 u28 u29 u30 u31 u32 u33 u34 u35 u36 u37 u38 u39 u40 u41 u42 u43 u44 u45 u46 u47 u48 u49 u50 u51 : Value), a' = { tmps := #[.pointer (some ⟨E, 0, none⟩), undef, .bool false, u3, u4, u5, u6, u7, u8, u9, u10, u11, u12, u13, u14, u15, u16, u17, u18, u19, u20, u21, u22, u23, u24, u25, u26, u27, u28, u29, u30, u31, u32, u33, u34, u35, u36, u37, u38, u39, u40, u41, u42, u43, u44, u45, u46, u47, u48, u49, u50, u51], defers := [] } ∧ (∃ (i k : Nat) (s : ExS) (vm vv : Value) (tt : Int), mm + i = 20000 ∧ exTo n true 300 m0 i = .on k 0 s ∧ XpAt w0.heap.size E M w' P (.slice at_ TN ct) vm vv k tt false s ∧ Below w0.heap.size w w')) (fun mm a' w' => ∃ (u3 u4 u5 u6 u7 u8 u9 u10 u11 u12 u13 u14 u15 u16 u17 u18 u19 u20 u21 u22 u23 u24 u25 u26 u27 u28 u29 u30 u31 u32 u33 u34 u35 u36 u37 u38 u39 u40 u41 u42 u43 u44 u45 u46 u47 u48 u49 u50 u51 : Value), a' = { tmps := #[.pointer (some ⟨E, 0, none⟩), undef, .bool false, u3, u4, u5, u6, u7, u8, u9, u10, u11, u12, u13, u14, u15, u16, u17, u18, u19, u20, u21, u22, u23, u24, u25, u26, u27, u28, u29, u30, u31, u32, u33, u34, u35, u36, u37, u38, u39, u40, u41, u42, u43, u44, u45, u46, u47, u48, u49, u50, u51], defers := [] } ∧ (∃ (i k t : Nat) (s : ExS) (vm vv : Value), mm + i = 20000 ∧ exTo n true 300 m0 i = .on k t s ∧ k < s.ms.length ∧ XpAt w0.heap.size E M w' P (.slice at_ TN ct) vm vv k t false s ∧ Below w0.heap.size w w')) rfl rfl ?_ ?_ ?_
  · go_wp2_with fail
    go_step3
    obtain ⟨i, hi⟩ : ∃ q : Nat, q = 0 := ⟨_, rfl⟩
    obtain ⟨k, hk⟩ : ∃ q : Nat, q = 0 := ⟨_, rfl⟩
    obtain ⟨s, hs⟩ : ∃ q : ExS, q = ⟨[m0], []⟩ := ⟨_, rfl⟩
    obtain ⟨wo, hwo⟩ : ∃ q, q = w := ⟨_, rfl⟩
    have HX : Hid (exTo n true 300 m0 i = .on k 0 s) := by unfold Hid; rw [hi, hk, hs]; rfl
    have HXP : Hid (XpAt w0.heap.size E M wo P (.slice at_ TN ct) vm vv k 0 false s) := by rw [hwo, hk, hs]; exact HH.out
    have HBW : Hid (Below w0.heap.size w wo) := by rw [hwo]; exact Below.refl _ _
    have hmi : 20000 + i = 20000 := by omega
    obtain ⟨mm, hmm⟩ : ∃ q : Nat, q = 20000 := ⟨_, rfl⟩
    rw [← hwo]
    clear hi hk hs hwo HH hmm
    obtain ⟨ho0, _⟩ := HOK.out i k 0 s HX.out
    have HO0 := Lib.hid ho0
    obtain ⟨g0, cm0, hvm0, _, _⟩ := HXP.out.rm.form ho0.pos
    subst hvm0
    obtain ⟨N0, hN0⟩ : ∃ q, q = s.ms.length := ⟨_, rfl⟩
    have HN0 := Lib.hid hN0
    have c3 := HXP.out.c3; have c5 := HXP.out.c5
    rw [← hN0] at c3
    have hkle : k ≤ N0 := by rw [hN0]; exact ho0.kle
    clear ho0 hN0
    go_wp2_with fail
    refine wp_region_held_drew (S := fun w' => w'.cell? ⟨E, 3, none⟩ = some (.slice (some ⟨g0, 0, none⟩) N0 cm0) ∧ w'.cell? ⟨E, 5, none⟩ = some (.int .i64 (k : Int))) (by kernel_rfl) ⟨c3, c5⟩ (fun hHeld => ?_)
    refine tk0 (v := ?_) (by kernel_rfl) (by kernel_rfl) (by kernel_rfl) (by first | exact fun _ _ _ h => h | exact fun _ _ _ h => absurd h.1 (by simp)) (Or.inl ⟨by rfl, ?_⟩) (by assumption) ?_
    rotate_left 1
    focus (intro wx hSw; (try dsimp only at hSw); go_simp; try (with_reducible rfl))
    try simp only [Act.put, List.setIfInBounds_toArray, List.set_cons_zero, List.set_cons_succ]
    refine tk1 (v := ?_) (by kernel_rfl) (by kernel_rfl) (by kernel_rfl) (by first | exact fun _ _ _ h => h | exact fun _ _ _ h => absurd h.1 (by simp)) (Or.inl ⟨by rfl, ?_⟩) (by assumption) ?_
    rotate_left 1
    focus (intro wx hSw; (try dsimp only at hSw); go_simp; try (with_reducible rfl))
    try simp only [Act.put, List.setIfInBounds_toArray, List.set_cons_zero, List.set_cons_succ]
    refine tk2 (v := ?_) (by kernel_rfl) (by kernel_rfl) (by kernel_rfl) (by first | exact fun _ _ _ h => h | exact fun _ _ _ h => absurd h.1 (by simp)) (Or.inl ⟨by rfl, ?_⟩) (by assumption) ?_
    rotate_left 1
    focus (intro wx hSw; (try dsimp only at hSw); go_simp; try (with_reducible rfl))
    try simp only [Act.put, List.setIfInBounds_toArray, List.set_cons_zero, List.set_cons_succ]
    refine tk3 (v := ?_) (by kernel_rfl) (by kernel_rfl) (by kernel_rfl) (by first | exact fun _ _ _ h => h | exact fun _ _ _ h => absurd h.1 (by simp)) (Or.inl ⟨by rfl, ?_⟩) (by assumption) ?_
    rotate_left 1
    focus (intro wx hSw; (try dsimp only at hSw); go_simp; try (with_reducible rfl))
    try simp only [Act.put, List.setIfInBounds_toArray, List.set_cons_zero, List.set_cons_succ]
    refine tk4 (v := ?_) (by kernel_rfl) (by kernel_rfl) (by kernel_rfl) (by first | exact fun _ _ _ h => h | exact fun _ _ _ h => absurd h.1 (by simp)) (Or.inl ⟨by rfl, ?_⟩) (by assumption) ?_
    rotate_left 1
    focus (intro wx hSw; (try dsimp only at hSw); go_simp; try (with_reducible rfl))
    try simp only [Act.put, List.setIfInBounds_toArray, List.set_cons_zero, List.set_cons_succ]
    refine tk5 (v := ?_) (by kernel_rfl) (by kernel_rfl) (by kernel_rfl) (by first | exact fun _ _ _ h => h | exact fun _ _ _ h => absurd h.1 (by simp)) (Or.inl ⟨by rfl, ?_⟩) (by assumption) ?_
    rotate_left 1
    focus (intro wx hSw; (try dsimp only at hSw); go_simp; try (with_reducible rfl))
    try simp only [Act.put, List.setIfInBounds_toArray, List.set_cons_zero, List.set_cons_succ]
    refine tk6 (v := ?_) (by kernel_rfl) (by kernel_rfl) (by kernel_rfl) (by first | exact fun _ _ _ h => h | exact fun _ _ _ h => absurd h.1 (by simp)) (Or.inl ⟨by rfl, ?_⟩) (by assumption) ?_
    rotate_left 1
    focus (intro wx hSw; (try dsimp only at hSw); go_simp; try (with_reducible rfl))
    try simp only [Act.put, List.setIfInBounds_toArray, List.set_cons_zero, List.set_cons_succ]
    refine tk7 (v := ?_) (by kernel_rfl) (by kernel_rfl) (by kernel_rfl) (by first | exact fun _ _ _ h => h | exact fun _ _ _ h => absurd h.1 (by simp)) (Or.inl ⟨by rfl, ?_⟩) (by assumption) ?_
    rotate_left 1
    focus (intro wx hSw; (try dsimp only at hSw); go_simp; try (with_reducible rfl))
    try simp only [Act.put, List.setIfInBounds_toArray, List.set_cons_zero, List.set_cons_succ]
    refine tk8 (v := ?_) (by kernel_rfl) (by kernel_rfl) (by kernel_rfl) (by first | exact fun _ _ _ h => h | exact fun _ _ _ h => absurd h.1 (by simp)) (Or.inl ⟨by rfl, ?_⟩) (by assumption) ?_
    rotate_left 1
    focus (intro wx hSw; (try dsimp only at hSw); go_simp; try (with_reducible rfl))
    try simp only [Act.put, List.setIfInBounds_toArray, List.set_cons_zero, List.set_cons_succ]
    refine tk9 (v := ?_) (by kernel_rfl) (by kernel_rfl) (by kernel_rfl) (by first | exact fun _ _ _ h => h | exact fun _ _ _ h => absurd h.1 (by simp)) (Or.inl ⟨by rfl, ?_⟩) (by assumption) ?_
    rotate_left 1
    focus (intro wx hSw; (try dsimp only at hSw); go_simp; try (with_reducible rfl))
    try simp only [Act.put, List.setIfInBounds_toArray, List.set_cons_zero, List.set_cons_succ]
    refine wpAnyH_done (by kernel_rfl) ?_ _
    have hdr0 : Below wo.heap.size wo wo.drew := (Below.refl _ _).drew
    have HXQ := Lib.hid (HXP.out.after hdr0)
    have HBQ := Lib.hid (HBW.out.drew)
    clear hdr0 c3 c5 hHeld HXP HBW
    generalize wo.drew = wq at HXQ HBQ ⊢
    by_cases hlt0 : k < N0
    case neg =>
      have hkN : ¬ k < s.ms.length := by rw [← HN0.out]; exact hlt0
      have HFN := Lib.hid (HFI.out _ _ (ex_end HX.out hkN) rfl)
      have t0 : ((k : Int) == (N0 : Int)) = true := by rw [beq_iff_eq]; omega
      clear hkN
      go_wp2_with fail
      simp only [Exit.two]
      go_ret
      exact ⟨HBQ.out, Or.inl ⟨s, _, _, i, k, 0, _, _, HFN.out, rfl, HO0.out, HXQ.out⟩⟩
    have t0 : ((k : Int) == (N0 : Int)) = false := by rw [beq_eq_false_iff_ne]; omega
    have HKS : Hid (k < s.ms.length) := by rw [← HN0.out]; exact hlt0
    have c6 := HXQ.out.c6; have f6 := HXQ.out.fr 6
    go_wp2_with fail
    go_step3
    have HXP := Lib.hid (HXQ.out.setT 0)
    have HBW := Lib.hid (HBQ.out.setCell (p := ⟨E, 6, none⟩) HXQ.out.bE (.int .i64 0))
    generalize wq.setCell ⟨E, 6, none⟩ (.int .i64 0) = wi at HXP HBW ⊢
    clear t0 hlt0 hkle c6 f6 HXQ HBQ HO0 HN0
    obtain ⟨t, ht⟩ : ∃ q : Nat, q = 0 := ⟨_, rfl⟩
    have e0 : (0 : Int) = (t : Int) := by rw [ht]; rfl
    rw [e0] at HXP
    rw [← ht] at HX
    clear e0 ht
    obtain ⟨ho, hearly⟩ := HOK.out i k t s HX.out
    have HO := Lib.hid ho
    have hea : s.ms.length ≤ 300 := hearly (by first | trivial | rfl)
    obtain ⟨hs1, hs2, hs3, hs4⟩ := ho.small HG.out (by omega)
    have c1 := HXP.out.c1; have c6 := HXP.out.c6
    have htl : t ≤ TN := by rw [HTN.out]; exact ho.tle
    clear ho hearly
    go_wp2_with fail
    refine wp_region_held_drew (S := fun w' => w'.cell? ⟨E, 1, none⟩ = some (.slice at_ TN ct) ∧ w'.cell? ⟨E, 6, none⟩ = some (.int .i64 (t : Int))) (by kernel_rfl) ⟨c1, c6⟩ (fun hHeld => ?_)
    refine tk0 (v := ?_) (by kernel_rfl) (by kernel_rfl) (by kernel_rfl) (by first | exact fun _ _ _ h => h | exact fun _ _ _ h => absurd h.1 (by simp)) (Or.inl ⟨by rfl, ?_⟩) (by assumption) ?_
    rotate_left 1
    focus (intro wx hSw; (try dsimp only at hSw); go_simp; try (with_reducible rfl))
    try simp only [Act.put, List.setIfInBounds_toArray, List.set_cons_zero, List.set_cons_succ]
    refine tk1 (v := ?_) (by kernel_rfl) (by kernel_rfl) (by kernel_rfl) (by first | exact fun _ _ _ h => h | exact fun _ _ _ h => absurd h.1 (by simp)) (Or.inl ⟨by rfl, ?_⟩) (by assumption) ?_
    rotate_left 1
    focus (intro wx hSw; (try dsimp only at hSw); go_simp; try (with_reducible rfl))
    try simp only [Act.put, List.setIfInBounds_toArray, List.set_cons_zero, List.set_cons_succ]
    refine tk2 (v := ?_) (by kernel_rfl) (by kernel_rfl) (by kernel_rfl) (by first | exact fun _ _ _ h => h | exact fun _ _ _ h => absurd h.1 (by simp)) (Or.inl ⟨by rfl, ?_⟩) (by assumption) ?_
    rotate_left 1
    focus (intro wx hSw; (try dsimp only at hSw); go_simp; try (with_reducible rfl))
    try simp only [Act.put, List.setIfInBounds_toArray, List.set_cons_zero, List.set_cons_succ]
    refine tk3 (v := ?_) (by kernel_rfl) (by kernel_rfl) (by kernel_rfl) (by first | exact fun _ _ _ h => h | exact fun _ _ _ h => absurd h.1 (by simp)) (Or.inl ⟨by rfl, ?_⟩) (by assumption) ?_
    rotate_left 1
    focus (intro wx hSw; (try dsimp only at hSw); go_simp; try (with_reducible rfl))
    try simp only [Act.put, List.setIfInBounds_toArray, List.set_cons_zero, List.set_cons_succ]
    refine tk4 (v := ?_) (by kernel_rfl) (by kernel_rfl) (by kernel_rfl) (by first | exact fun _ _ _ h => h | exact fun _ _ _ h => absurd h.1 (by simp)) (Or.inl ⟨by rfl, ?_⟩) (by assumption) ?_
    rotate_left 1
    focus (intro wx hSw; (try dsimp only at hSw); go_simp; try (with_reducible rfl))
    try simp only [Act.put, List.setIfInBounds_toArray, List.set_cons_zero, List.set_cons_succ]
    refine tk5 (v := ?_) (by kernel_rfl) (by kernel_rfl) (by kernel_rfl) (by first | exact fun _ _ _ h => h | exact fun _ _ _ h => absurd h.1 (by simp)) (Or.inl ⟨by rfl, ?_⟩) (by assumption) ?_
    rotate_left 1
    focus (intro wx hSw; (try dsimp only at hSw); go_simp; try (with_reducible rfl))
    try simp only [Act.put, List.setIfInBounds_toArray, List.set_cons_zero, List.set_cons_succ]
    refine tk6 (v := ?_) (by kernel_rfl) (by kernel_rfl) (by kernel_rfl) (by first | exact fun _ _ _ h => h | exact fun _ _ _ h => absurd h.1 (by simp)) (Or.inl ⟨by rfl, ?_⟩) (by assumption) ?_
    rotate_left 1
    focus (intro wx hSw; (try dsimp only at hSw); go_simp; try (with_reducible rfl))
    try simp only [Act.put, List.setIfInBounds_toArray, List.set_cons_zero, List.set_cons_succ]
    refine tk7 (v := ?_) (by kernel_rfl) (by kernel_rfl) (by kernel_rfl) (by first | exact fun _ _ _ h => h | exact fun _ _ _ h => absurd h.1 (by simp)) (Or.inl ⟨by rfl, ?_⟩) (by assumption) ?_
    rotate_left 1
    focus (intro wx hSw; (try dsimp only at hSw); go_simp; try (with_reducible rfl))
    try simp only [Act.put, List.setIfInBounds_toArray, List.set_cons_zero, List.set_cons_succ]
    refine tk8 (v := ?_) (by kernel_rfl) (by kernel_rfl) (by kernel_rfl) (by first | exact fun _ _ _ h => h | exact fun _ _ _ h => absurd h.1 (by simp)) (Or.inl ⟨by rfl, ?_⟩) (by assumption) ?_
    rotate_left 1
    focus (intro wx hSw; (try dsimp only at hSw); go_simp; try (with_reducible rfl))
    try simp only [Act.put, List.setIfInBounds_toArray, List.set_cons_zero, List.set_cons_succ]
    refine tk9 (v := ?_) (by kernel_rfl) (by kernel_rfl) (by kernel_rfl) (by first | exact fun _ _ _ h => h | exact fun _ _ _ h => absurd h.1 (by simp)) (Or.inl ⟨by rfl, ?_⟩) (by assumption) ?_
    rotate_left 1
    focus (intro wx hSw; (try dsimp only at hSw); go_simp; try (with_reducible rfl))
    try simp only [Act.put, List.setIfInBounds_toArray, List.set_cons_zero, List.set_cons_succ]
    refine tk10 (v := ?_) (by kernel_rfl) (by kernel_rfl) (by kernel_rfl) (by first | exact fun _ _ _ h => h | exact fun _ _ _ h => absurd h.1 (by simp)) (Or.inl ⟨by rfl, ?_⟩) (by assumption) ?_
    rotate_left 1
    focus (intro wx hSw; (try dsimp only at hSw); go_simp; try (with_reducible rfl))
    try simp only [Act.put, List.setIfInBounds_toArray, List.set_cons_zero, List.set_cons_succ]
    refine wpAnyH_done (by kernel_rfl) ?_ _
    have hdr : Below wi.heap.size wi wi.drew := (Below.refl _ _).drew
    have HXD := Lib.hid (HXP.out.after hdr)
    have HBD := Lib.hid (HBW.out.drew)
    clear hdr c1 c6 hHeld
    generalize wi.drew = wd at HXD HBD ⊢
    by_cases hlt : t < TN
    case neg =>
      have htn : ¬ t < n.ts.length := by rw [← HTN.out]; exact hlt
      have t0 : ((t : Int) == (TN : Int)) = true := by rw [beq_iff_eq]; omega
      have c5 := HXD.out.c5; have f5 := HXD.out.fr 5
      have hr := ex_row HX.out HKS.out htn (Or.inl rfl)
      have HRR := Lib.hid hr
      clear hr htn
      go_wp2_with fail
      have hw : wrap64 ((k : Int) + 1) = ((k + 1 : Nat) : Int) := by rw [IntWalk.wrap64_in _ ⟨by omega, by omega⟩]; rfl
      have hxk := HXD.out.setK ((k + 1 : Nat) : Int)
      have hbk := HBD.out.setCell (p := ⟨E, 5, none⟩) HXD.out.bE (.int .i64 ((k + 1 : Nat) : Int))
      try rw [hw]
      have hib : i + 1 ≤ 20000 := small_i HO.out HG.out
      obtain ⟨m2, hm2⟩ : ∃ m2, m2 + (i + 1) = 20000 := ⟨20000 - (i + 1), Nat.sub_add_cancel hib⟩
      go_step3
      exact Or.inl ⟨rfl, m2, _, _, _, _, _, _, _, _, _, _, _, _, _, _, _, _, _, _, _, _, _, _, _, _, _, _, _, _, _, _, _, _, _, _, _, _, _, _, _, _, _, _, _, _, _, _, _, _, _, rfl, ⟨i + 1, k + 1, s, _, _, _, hm2, HRR.out, hxk, hbk⟩⟩
    have t0 : ((t : Int) == (TN : Int)) = false := by rw [beq_eq_false_iff_ne]; omega
    have htn : t < n.ts.length := by rw [← HTN.out]; exact hlt
    have HTNN := Lib.hid htn
    clear htn
    go_wp2_with fail
    refine (fire_any n E M w0 wd P _ _ _ k t s lo HXD.out (HB.out.trans HBD.out) HT.out HS.out HG.out HKS.out HTNN.out HO.out.mks HO.out.dist (by omega) hs2).mono ?_
    rintro e w1 ⟨hb1, hc⟩
    rcases hc with ⟨hr, rfl, vm1, vv1, hx1⟩ | ⟨hr, hk, rfl, vm1, vv1, hx1⟩ | ⟨hr, hk, rfl, vm1, vv1, hx1⟩
    · have HX1 := Lib.hid hx1
      have HB1 := Lib.hid (HBD.out.trans hb1)
      have HNX := Lib.hid (ex_not HX.out HKS.out HTNN.out hr)
      obtain ⟨g1, cm1, hvm1, _, _⟩ := hx1.rm.form HO.out.pos
      subst hvm1
      obtain ⟨N, hN⟩ : ∃ q, q = s.ms.length := ⟨_, rfl⟩
      have c3 := hx1.c3; have c6 := hx1.c6; have f6 := hx1.fr 6
      rw [← hN] at c3 hea
      have t1 : decide ((N : Int) > 300) = false := by rw [decide_eq_false_iff_not]; omega
      clear hx1 hb1 hr hN
      go_wp2_with fail
      have hxk := HX1.out.setT ((t + 1 : Nat) : Int)
      have hbk := HB1.out.setCell (p := ⟨E, 6, none⟩) HX1.out.bE (.int .i64 ((t + 1 : Nat) : Int))
      have hw : wrap64 ((t : Int) + 1) = ((t + 1 : Nat) : Int) := by rw [IntWalk.wrap64_in _ ⟨by omega, by omega⟩]; rfl
      try rw [hw]
      have hib : i + 1 ≤ 20000 := small_i HO.out HG.out
      obtain ⟨m2, hm2⟩ : ∃ m2, m2 + (i + 1) = 20000 := ⟨20000 - (i + 1), Nat.sub_add_cancel hib⟩
      go_step3
      exact Or.inr ⟨rfl, m2, _, _, _, _, _, _, _, _, _, _, _, _, _, _, _, _, _, _, _, _, _, _, _, _, _, _, _, _, _, _, _, _, _, _, _, _, _, _, _, _, _, _, _, _, _, _, _, _, _, rfl, ⟨i + 1, k, t + 1, s, _, _, hm2, HNX.out, HKS.out, hxk, hbk⟩⟩
    · have HX1 := Lib.hid hx1
      have HB1 := Lib.hid (HBD.out.trans hb1)
      have HFN := Lib.hid (HFI.out _ _ (ex_bad HX.out HKS.out HTNN.out hr hk) rfl)
      clear hx1 hb1 hr hk
      go_wp2_with fail
      simp only [Exit.two]
      go_ret
      exact ⟨HB1.out, Or.inr (Or.inl ⟨s, _, _, i, k, t, HFN.out, rfl, HO.out, HX1.out⟩)⟩
    · have HX1 := Lib.hid hx1
      have HB1 := Lib.hid (HBD.out.trans hb1)
      have hlen := exMs_length_le s.ms (exNext n (stN s.ms k) t)
      obtain ⟨g1, cm1, hvm1, _, _⟩ := hx1.rm.form (show 0 < (exMs s.ms (exNext n (stN s.ms k) t)).length by have := HO.out.pos; omega)
      subst hvm1
      obtain ⟨N, hN⟩ : ∃ q, q = (exAdd s k t (exNext n (stN s.ms k) t)).ms.length := ⟨_, rfl⟩
      have hN2 : N = (exMs s.ms (exNext n (stN s.ms k) t)).length := hN
      have c3 := hx1.c3; have c6 := hx1.c6; have f6 := hx1.fr 6
      rw [← hN] at c3
      have HN2 := Lib.hid hN2
      by_cases hful : 300 < N
      · have t1 : decide ((N : Int) > 300) = true := decide_eq_true (by omega)
        have HFN := Lib.hid (HFI.out _ _ (ex_full HX.out HKS.out HTNN.out hr hk rfl (by rw [← HN2.out]; exact hful)) rfl)
        clear hx1 hb1 hr hk hN hN2 hlen
        go_wp2_with fail
        simp only [Exit.two]
        go_ret
        exact ⟨HB1.out, Or.inr (Or.inr ⟨HFN.out, rfl, _, _, _, _, _, HX1.out⟩)⟩
      · have t1 : decide ((N : Int) > 300) = false := by rw [decide_eq_false_iff_not]; omega
        have HNX := Lib.hid (ex_fire HX.out HKS.out HTNN.out hr hk (Or.inr (by rw [← HN2.out]; omega)))
        have HK2 : Hid (k < (exAdd s k t (exNext n (stN s.ms k) t)).ms.length) := by have := HKS.out; unfold Hid; rw [← hN, hN2]; omega
        clear hx1 hb1 hr hk hN hN2 hlen
        go_wp2_with fail
        have hxk := HX1.out.setT ((t + 1 : Nat) : Int)
        have hbk := HB1.out.setCell (p := ⟨E, 6, none⟩) HX1.out.bE (.int .i64 ((t + 1 : Nat) : Int))
        have hw : wrap64 ((t : Int) + 1) = ((t + 1 : Nat) : Int) := by rw [IntWalk.wrap64_in _ ⟨by omega, by omega⟩]; rfl
        try rw [hw]
        have hib : i + 1 ≤ 20000 := small_i HO.out HG.out
        obtain ⟨m2, hm2⟩ : ∃ m2, m2 + (i + 1) = 20000 := ⟨20000 - (i + 1), Nat.sub_add_cancel hib⟩
        go_step3
        exact Or.inr ⟨rfl, m2, _, _, _, _, _, _, _, _, _, _, _, _, _, _, _, _, _, _, _, _, _, _, _, _, _, _, _, _, _, _, _, _, _, _, _, _, _, _, _, _, _, _, _, _, _, _, _, _, _, rfl, ⟨i + 1, k, t + 1, _, _, _, hm2, HNX.out, HK2.out, hxk, hbk⟩⟩
  · rintro mm a' wo ⟨u3, u4, u5, u6, u7, u8, u9, u10, u11, u12, u13, u14, u15, u16, u17, u18, u19, u20, u21, u22, u23, u24, u25, u26, u27, u28, u29, u30, u31, u32, u33, u34, u35, u36, u37, u38, u39, u40, u41, u42, u43, u44, u45, u46, u47, u48, u49, u50, u51, rfl, i, k, s, vm, vv, tt, hmi, hx, hxp, hbw⟩
    have HX := Lib.hid hx; have HXP := Lib.hid hxp; have HBW := Lib.hid hbw
    clear hx hxp hbw HH
    obtain ⟨ho0, _⟩ := HOK.out i k 0 s HX.out
    have HO0 := Lib.hid ho0
    obtain ⟨g0, cm0, hvm0, _, _⟩ := HXP.out.rm.form ho0.pos
    subst hvm0
    obtain ⟨N0, hN0⟩ : ∃ q, q = s.ms.length := ⟨_, rfl⟩
    have HN0 := Lib.hid hN0
    have c3 := HXP.out.c3; have c5 := HXP.out.c5
    rw [← hN0] at c3
    have hkle : k ≤ N0 := by rw [hN0]; exact ho0.kle
    clear ho0 hN0
    go_wp2_with fail
    refine wp_region_held_drew (S := fun w' => w'.cell? ⟨E, 3, none⟩ = some (.slice (some ⟨g0, 0, none⟩) N0 cm0) ∧ w'.cell? ⟨E, 5, none⟩ = some (.int .i64 (k : Int))) (by kernel_rfl) ⟨c3, c5⟩ (fun hHeld => ?_)
    refine tk0 (v := ?_) (by kernel_rfl) (by kernel_rfl) (by kernel_rfl) (by first | exact fun _ _ _ h => h | exact fun _ _ _ h => absurd h.1 (by simp)) (Or.inl ⟨by rfl, ?_⟩) (by assumption) ?_
    rotate_left 1
    focus (intro wx hSw; (try dsimp only at hSw); go_simp; try (with_reducible rfl))
    try simp only [Act.put, List.setIfInBounds_toArray, List.set_cons_zero, List.set_cons_succ]
    refine tk1 (v := ?_) (by kernel_rfl) (by kernel_rfl) (by kernel_rfl) (by first | exact fun _ _ _ h => h | exact fun _ _ _ h => absurd h.1 (by simp)) (Or.inl ⟨by rfl, ?_⟩) (by assumption) ?_
    rotate_left 1
    focus (intro wx hSw; (try dsimp only at hSw); go_simp; try (with_reducible rfl))
    try simp only [Act.put, List.setIfInBounds_toArray, List.set_cons_zero, List.set_cons_succ]
    refine tk2 (v := ?_) (by kernel_rfl) (by kernel_rfl) (by kernel_rfl) (by first | exact fun _ _ _ h => h | exact fun _ _ _ h => absurd h.1 (by simp)) (Or.inl ⟨by rfl, ?_⟩) (by assumption) ?_
    rotate_left 1
    focus (intro wx hSw; (try dsimp only at hSw); go_simp; try (with_reducible rfl))
    try simp only [Act.put, List.setIfInBounds_toArray, List.set_cons_zero, List.set_cons_succ]
    refine tk3 (v := ?_) (by kernel_rfl) (by kernel_rfl) (by kernel_rfl) (by first | exact fun _ _ _ h => h | exact fun _ _ _ h => absurd h.1 (by simp)) (Or.inl ⟨by rfl, ?_⟩) (by assumption) ?_
    rotate_left 1
    focus (intro wx hSw; (try dsimp only at hSw); go_simp; try (with_reducible rfl))
    try simp only [Act.put, List.setIfInBounds_toArray, List.set_cons_zero, List.set_cons_succ]
    refine tk4 (v := ?_) (by kernel_rfl) (by kernel_rfl) (by kernel_rfl) (by first | exact fun _ _ _ h => h | exact fun _ _ _ h => absurd h.1 (by simp)) (Or.inl ⟨by rfl, ?_⟩) (by assumption) ?_
    rotate_left 1
    focus (intro wx hSw; (try dsimp only at hSw); go_simp; try (with_reducible rfl))
    try simp only [Act.put, List.setIfInBounds_toArray, List.set_cons_zero, List.set_cons_succ]
    refine tk5 (v := ?_) (by kernel_rfl) (by kernel_rfl) (by kernel_rfl) (by first | exact fun _ _ _ h => h | exact fun _ _ _ h => absurd h.1 (by simp)) (Or.inl ⟨by rfl, ?_⟩) (by assumption) ?_
    rotate_left 1
    focus (intro wx hSw; (try dsimp only at hSw); go_simp; try (with_reducible rfl))
    try simp only [Act.put, List.setIfInBounds_toArray, List.set_cons_zero, List.set_cons_succ]
    refine tk6 (v := ?_) (by kernel_rfl) (by kernel_rfl) (by kernel_rfl) (by first | exact fun _ _ _ h => h | exact fun _ _ _ h => absurd h.1 (by simp)) (Or.inl ⟨by rfl, ?_⟩) (by assumption) ?_
    rotate_left 1
    focus (intro wx hSw; (try dsimp only at hSw); go_simp; try (with_reducible rfl))
    try simp only [Act.put, List.setIfInBounds_toArray, List.set_cons_zero, List.set_cons_succ]
    refine tk7 (v := ?_) (by kernel_rfl) (by kernel_rfl) (by kernel_rfl) (by first | exact fun _ _ _ h => h | exact fun _ _ _ h => absurd h.1 (by simp)) (Or.inl ⟨by rfl, ?_⟩) (by assumption) ?_
    rotate_left 1
    focus (intro wx hSw; (try dsimp only at hSw); go_simp; try (with_reducible rfl))
    try simp only [Act.put, List.setIfInBounds_toArray, List.set_cons_zero, List.set_cons_succ]
    refine tk8 (v := ?_) (by kernel_rfl) (by kernel_rfl) (by kernel_rfl) (by first | exact fun _ _ _ h => h | exact fun _ _ _ h => absurd h.1 (by simp)) (Or.inl ⟨by rfl, ?_⟩) (by assumption) ?_
    rotate_left 1
    focus (intro wx hSw; (try dsimp only at hSw); go_simp; try (with_reducible rfl))
    try simp only [Act.put, List.setIfInBounds_toArray, List.set_cons_zero, List.set_cons_succ]
    refine tk9 (v := ?_) (by kernel_rfl) (by kernel_rfl) (by kernel_rfl) (by first | exact fun _ _ _ h => h | exact fun _ _ _ h => absurd h.1 (by simp)) (Or.inl ⟨by rfl, ?_⟩) (by assumption) ?_
    rotate_left 1
    focus (intro wx hSw; (try dsimp only at hSw); go_simp; try (with_reducible rfl))
    try simp only [Act.put, List.setIfInBounds_toArray, List.set_cons_zero, List.set_cons_succ]
    refine wpAnyH_done (by kernel_rfl) ?_ _
    have hdr0 : Below wo.heap.size wo wo.drew := (Below.refl _ _).drew
    have HXQ := Lib.hid (HXP.out.after hdr0)
    have HBQ := Lib.hid (HBW.out.drew)
    clear hdr0 c3 c5 hHeld HXP HBW
    generalize wo.drew = wq at HXQ HBQ ⊢
    by_cases hlt0 : k < N0
    case neg =>
      have hkN : ¬ k < s.ms.length := by rw [← HN0.out]; exact hlt0
      have HFN := Lib.hid (HFI.out _ _ (ex_end HX.out hkN) rfl)
      have t0 : ((k : Int) == (N0 : Int)) = true := by rw [beq_iff_eq]; omega
      clear hkN
      go_wp2_with fail
      simp only [Exit.two]
      go_ret
      exact ⟨HBQ.out, Or.inl ⟨s, _, _, i, k, 0, _, _, HFN.out, rfl, HO0.out, HXQ.out⟩⟩
    have t0 : ((k : Int) == (N0 : Int)) = false := by rw [beq_eq_false_iff_ne]; omega
    have HKS : Hid (k < s.ms.length) := by rw [← HN0.out]; exact hlt0
    have c6 := HXQ.out.c6; have f6 := HXQ.out.fr 6
    go_wp2_with fail
    go_step3
    have HXP := Lib.hid (HXQ.out.setT 0)
    have HBW := Lib.hid (HBQ.out.setCell (p := ⟨E, 6, none⟩) HXQ.out.bE (.int .i64 0))
    generalize wq.setCell ⟨E, 6, none⟩ (.int .i64 0) = wi at HXP HBW ⊢
    clear t0 hlt0 hkle c6 f6 HXQ HBQ HO0 HN0
    obtain ⟨t, ht⟩ : ∃ q : Nat, q = 0 := ⟨_, rfl⟩
    have e0 : (0 : Int) = (t : Int) := by rw [ht]; rfl
    rw [e0] at HXP
    rw [← ht] at HX
    clear e0 ht
    obtain ⟨ho, hearly⟩ := HOK.out i k t s HX.out
    have HO := Lib.hid ho
    have hea : s.ms.length ≤ 300 := hearly (by first | trivial | rfl)
    obtain ⟨hs1, hs2, hs3, hs4⟩ := ho.small HG.out (by omega)
    have c1 := HXP.out.c1; have c6 := HXP.out.c6
    have htl : t ≤ TN := by rw [HTN.out]; exact ho.tle
    clear ho hearly
    go_wp2_with fail
    refine wp_region_held_drew (S := fun w' => w'.cell? ⟨E, 1, none⟩ = some (.slice at_ TN ct) ∧ w'.cell? ⟨E, 6, none⟩ = some (.int .i64 (t : Int))) (by kernel_rfl) ⟨c1, c6⟩ (fun hHeld => ?_)
    refine tk0 (v := ?_) (by kernel_rfl) (by kernel_rfl) (by kernel_rfl) (by first | exact fun _ _ _ h => h | exact fun _ _ _ h => absurd h.1 (by simp)) (Or.inl ⟨by rfl, ?_⟩) (by assumption) ?_
    rotate_left 1
    focus (intro wx hSw; (try dsimp only at hSw); go_simp; try (with_reducible rfl))
    try simp only [Act.put, List.setIfInBounds_toArray, List.set_cons_zero, List.set_cons_succ]
    refine tk1 (v := ?_) (by kernel_rfl) (by kernel_rfl) (by kernel_rfl) (by first | exact fun _ _ _ h => h | exact fun _ _ _ h => absurd h.1 (by simp)) (Or.inl ⟨by rfl, ?_⟩) (by assumption) ?_
    rotate_left 1
    focus (intro wx hSw; (try dsimp only at hSw); go_simp; try (with_reducible rfl))
    try simp only [Act.put, List.setIfInBounds_toArray, List.set_cons_zero, List.set_cons_succ]
    refine tk2 (v := ?_) (by kernel_rfl) (by kernel_rfl) (by kernel_rfl) (by first | exact fun _ _ _ h => h | exact fun _ _ _ h => absurd h.1 (by simp)) (Or.inl ⟨by rfl, ?_⟩) (by assumption) ?_
    rotate_left 1
    focus (intro wx hSw; (try dsimp only at hSw); go_simp; try (with_reducible rfl))
    try simp only [Act.put, List.setIfInBounds_toArray, List.set_cons_zero, List.set_cons_succ]
    refine tk3 (v := ?_) (by kernel_rfl) (by kernel_rfl) (by kernel_rfl) (by first | exact fun _ _ _ h => h | exact fun _ _ _ h => absurd h.1 (by simp)) (Or.inl ⟨by rfl, ?_⟩) (by assumption) ?_
    rotate_left 1
    focus (intro wx hSw; (try dsimp only at hSw); go_simp; try (with_reducible rfl))
    try simp only [Act.put, List.setIfInBounds_toArray, List.set_cons_zero, List.set_cons_succ]
    refine tk4 (v := ?_) (by kernel_rfl) (by kernel_rfl) (by kernel_rfl) (by first | exact fun _ _ _ h => h | exact fun _ _ _ h => absurd h.1 (by simp)) (Or.inl ⟨by rfl, ?_⟩) (by assumption) ?_
    rotate_left 1
    focus (intro wx hSw; (try dsimp only at hSw); go_simp; try (with_reducible rfl))
    try simp only [Act.put, List.setIfInBounds_toArray, List.set_cons_zero, List.set_cons_succ]
    refine tk5 (v := ?_) (by kernel_rfl) (by kernel_rfl) (by kernel_rfl) (by first | exact fun _ _ _ h => h | exact fun _ _ _ h => absurd h.1 (by simp)) (Or.inl ⟨by rfl, ?_⟩) (by assumption) ?_
    rotate_left 1
    focus (intro wx hSw; (try dsimp only at hSw); go_simp; try (with_reducible rfl))
    try simp only [Act.put, List.setIfInBounds_toArray, List.set_cons_zero, List.set_cons_succ]
    refine tk6 (v := ?_) (by kernel_rfl) (by kernel_rfl) (by kernel_rfl) (by first | exact fun _ _ _ h => h | exact fun _ _ _ h => absurd h.1 (by simp)) (Or.inl ⟨by rfl, ?_⟩) (by assumption) ?_
    rotate_left 1
    focus (intro wx hSw; (try dsimp only at hSw); go_simp; try (with_reducible rfl))
    try simp only [Act.put, List.setIfInBounds_toArray, List.set_cons_zero, List.set_cons_succ]
    refine tk7 (v := ?_) (by kernel_rfl) (by kernel_rfl) (by kernel_rfl) (by first | exact fun _ _ _ h => h | exact fun _ _ _ h => absurd h.1 (by simp)) (Or.inl ⟨by rfl, ?_⟩) (by assumption) ?_
    rotate_left 1
    focus (intro wx hSw; (try dsimp only at hSw); go_simp; try (with_reducible rfl))
    try simp only [Act.put, List.setIfInBounds_toArray, List.set_cons_zero, List.set_cons_succ]
    refine tk8 (v := ?_) (by kernel_rfl) (by kernel_rfl) (by kernel_rfl) (by first | exact fun _ _ _ h => h | exact fun _ _ _ h => absurd h.1 (by simp)) (Or.inl ⟨by rfl, ?_⟩) (by assumption) ?_
    rotate_left 1
    focus (intro wx hSw; (try dsimp only at hSw); go_simp; try (with_reducible rfl))
    try simp only [Act.put, List.setIfInBounds_toArray, List.set_cons_zero, List.set_cons_succ]
    refine tk9 (v := ?_) (by kernel_rfl) (by kernel_rfl) (by kernel_rfl) (by first | exact fun _ _ _ h => h | exact fun _ _ _ h => absurd h.1 (by simp)) (Or.inl ⟨by rfl, ?_⟩) (by assumption) ?_
    rotate_left 1
    focus (intro wx hSw; (try dsimp only at hSw); go_simp; try (with_reducible rfl))
    try simp only [Act.put, List.setIfInBounds_toArray, List.set_cons_zero, List.set_cons_succ]
    refine tk10 (v := ?_) (by kernel_rfl) (by kernel_rfl) (by kernel_rfl) (by first | exact fun _ _ _ h => h | exact fun _ _ _ h => absurd h.1 (by simp)) (Or.inl ⟨by rfl, ?_⟩) (by assumption) ?_
    rotate_left 1
    focus (intro wx hSw; (try dsimp only at hSw); go_simp; try (with_reducible rfl))
    try simp only [Act.put, List.setIfInBounds_toArray, List.set_cons_zero, List.set_cons_succ]
    refine wpAnyH_done (by kernel_rfl) ?_ _
    have hdr : Below wi.heap.size wi wi.drew := (Below.refl _ _).drew
    have HXD := Lib.hid (HXP.out.after hdr)
    have HBD := Lib.hid (HBW.out.drew)
    clear hdr c1 c6 hHeld
    generalize wi.drew = wd at HXD HBD ⊢
    by_cases hlt : t < TN
    case neg =>
      have htn : ¬ t < n.ts.length := by rw [← HTN.out]; exact hlt
      have t0 : ((t : Int) == (TN : Int)) = true := by rw [beq_iff_eq]; omega
      have c5 := HXD.out.c5; have f5 := HXD.out.fr 5
      have hr := ex_row HX.out HKS.out htn (Or.inl rfl)
      have HRR := Lib.hid hr
      clear hr htn
      go_wp2_with fail
      have hw : wrap64 ((k : Int) + 1) = ((k + 1 : Nat) : Int) := by rw [IntWalk.wrap64_in _ ⟨by omega, by omega⟩]; rfl
      have hxk := HXD.out.setK ((k + 1 : Nat) : Int)
      have hbk := HBD.out.setCell (p := ⟨E, 5, none⟩) HXD.out.bE (.int .i64 ((k + 1 : Nat) : Int))
      try rw [hw]
      have hib : i + 1 ≤ 20000 := small_i HO.out HG.out
      obtain ⟨m2, hm2⟩ : ∃ m2, m2 + (i + 1) = 20000 := ⟨20000 - (i + 1), Nat.sub_add_cancel hib⟩
      go_step3
      exact Or.inl ⟨rfl, m2, lt_of_sums hmi hm2, _, _, _, _, _, _, _, _, _, _, _, _, _, _, _, _, _, _, _, _, _, _, _, _, _, _, _, _, _, _, _, _, _, _, _, _, _, _, _, _, _, _, _, _, _, _, _, _, _, rfl, ⟨i + 1, k + 1, s, _, _, _, hm2, HRR.out, hxk, hbk⟩⟩
    have t0 : ((t : Int) == (TN : Int)) = false := by rw [beq_eq_false_iff_ne]; omega
    have htn : t < n.ts.length := by rw [← HTN.out]; exact hlt
    have HTNN := Lib.hid htn
    clear htn
    go_wp2_with fail
    refine (fire_any n E M w0 wd P _ _ _ k t s lo HXD.out (HB.out.trans HBD.out) HT.out HS.out HG.out HKS.out HTNN.out HO.out.mks HO.out.dist (by omega) hs2).mono ?_
    rintro e w1 ⟨hb1, hc⟩
    rcases hc with ⟨hr, rfl, vm1, vv1, hx1⟩ | ⟨hr, hk, rfl, vm1, vv1, hx1⟩ | ⟨hr, hk, rfl, vm1, vv1, hx1⟩
    · have HX1 := Lib.hid hx1
      have HB1 := Lib.hid (HBD.out.trans hb1)
      have HNX := Lib.hid (ex_not HX.out HKS.out HTNN.out hr)
      obtain ⟨g1, cm1, hvm1, _, _⟩ := hx1.rm.form HO.out.pos
      subst hvm1
      obtain ⟨N, hN⟩ : ∃ q, q = s.ms.length := ⟨_, rfl⟩
      have c3 := hx1.c3; have c6 := hx1.c6; have f6 := hx1.fr 6
      rw [← hN] at c3 hea
      have t1 : decide ((N : Int) > 300) = false := by rw [decide_eq_false_iff_not]; omega
      clear hx1 hb1 hr hN
      go_wp2_with fail
      have hxk := HX1.out.setT ((t + 1 : Nat) : Int)
      have hbk := HB1.out.setCell (p := ⟨E, 6, none⟩) HX1.out.bE (.int .i64 ((t + 1 : Nat) : Int))
      have hw : wrap64 ((t : Int) + 1) = ((t + 1 : Nat) : Int) := by rw [IntWalk.wrap64_in _ ⟨by omega, by omega⟩]; rfl
      try rw [hw]
      have hib : i + 1 ≤ 20000 := small_i HO.out HG.out
      obtain ⟨m2, hm2⟩ : ∃ m2, m2 + (i + 1) = 20000 := ⟨20000 - (i + 1), Nat.sub_add_cancel hib⟩
      go_step3
      exact Or.inr ⟨rfl, m2, lt_of_sums hmi hm2, _, _, _, _, _, _, _, _, _, _, _, _, _, _, _, _, _, _, _, _, _, _, _, _, _, _, _, _, _, _, _, _, _, _, _, _, _, _, _, _, _, _, _, _, _, _, _, _, _, rfl, ⟨i + 1, k, t + 1, s, _, _, hm2, HNX.out, HKS.out, hxk, hbk⟩⟩
    · have HX1 := Lib.hid hx1
      have HB1 := Lib.hid (HBD.out.trans hb1)
      have HFN := Lib.hid (HFI.out _ _ (ex_bad HX.out HKS.out HTNN.out hr hk) rfl)
      clear hx1 hb1 hr hk
      go_wp2_with fail
      simp only [Exit.two]
      go_ret
      exact ⟨HB1.out, Or.inr (Or.inl ⟨s, _, _, i, k, t, HFN.out, rfl, HO.out, HX1.out⟩)⟩
    · have HX1 := Lib.hid hx1
      have HB1 := Lib.hid (HBD.out.trans hb1)
      have hlen := exMs_length_le s.ms (exNext n (stN s.ms k) t)
      obtain ⟨g1, cm1, hvm1, _, _⟩ := hx1.rm.form (show 0 < (exMs s.ms (exNext n (stN s.ms k) t)).length by have := HO.out.pos; omega)
      subst hvm1
      obtain ⟨N, hN⟩ : ∃ q, q = (exAdd s k t (exNext n (stN s.ms k) t)).ms.length := ⟨_, rfl⟩
      have hN2 : N = (exMs s.ms (exNext n (stN s.ms k) t)).length := hN
      have c3 := hx1.c3; have c6 := hx1.c6; have f6 := hx1.fr 6
      rw [← hN] at c3
      have HN2 := Lib.hid hN2
      by_cases hful : 300 < N
      · have t1 : decide ((N : Int) > 300) = true := decide_eq_true (by omega)
        have HFN := Lib.hid (HFI.out _ _ (ex_full HX.out HKS.out HTNN.out hr hk rfl (by rw [← HN2.out]; exact hful)) rfl)
        clear hx1 hb1 hr hk hN hN2 hlen
        go_wp2_with fail
        simp only [Exit.two]
        go_ret
        exact ⟨HB1.out, Or.inr (Or.inr ⟨HFN.out, rfl, _, _, _, _, _, HX1.out⟩)⟩
      · have t1 : decide ((N : Int) > 300) = false := by rw [decide_eq_false_iff_not]; omega
        have HNX := Lib.hid (ex_fire HX.out HKS.out HTNN.out hr hk (Or.inr (by rw [← HN2.out]; omega)))
        have HK2 : Hid (k < (exAdd s k t (exNext n (stN s.ms k) t)).ms.length) := by have := HKS.out; unfold Hid; rw [← hN, hN2]; omega
        clear hx1 hb1 hr hk hN hN2 hlen
        go_wp2_with fail
        have hxk := HX1.out.setT ((t + 1 : Nat) : Int)
        have hbk := HB1.out.setCell (p := ⟨E, 6, none⟩) HX1.out.bE (.int .i64 ((t + 1 : Nat) : Int))
        have hw : wrap64 ((t : Int) + 1) = ((t + 1 : Nat) : Int) := by rw [IntWalk.wrap64_in _ ⟨by omega, by omega⟩]; rfl
        try rw [hw]
        have hib : i + 1 ≤ 20000 := small_i HO.out HG.out
        obtain ⟨m2, hm2⟩ : ∃ m2, m2 + (i + 1) = 20000 := ⟨20000 - (i + 1), Nat.sub_add_cancel hib⟩
        go_step3
        exact Or.inr ⟨rfl, m2, lt_of_sums hmi hm2, _, _, _, _, _, _, _, _, _, _, _, _, _, _, _, _, _, _, _, _, _, _, _, _, _, _, _, _, _, _, _, _, _, _, _, _, _, _, _, _, _, _, _, _, _, _, _, _, _, rfl, ⟨i + 1, k, t + 1, _, _, _, hm2, HNX.out, HK2.out, hxk, hbk⟩⟩
  · rintro mm a' wi ⟨u3, u4, u5, u6, u7, u8, u9, u10, u11, u12, u13, u14, u15, u16, u17, u18, u19, u20, u21, u22, u23, u24, u25, u26, u27, u28, u29, u30, u31, u32, u33, u34, u35, u36, u37, u38, u39, u40, u41, u42, u43, u44, u45, u46, u47, u48, u49, u50, u51, rfl, i, k, t, s, vm, vv, hmi, hx, hks, hxp, hbw⟩
    have HX := Lib.hid hx; have HXP := Lib.hid hxp; have HBW := Lib.hid hbw; have HKS := Lib.hid hks
    clear hx hks hxp hbw HH
    obtain ⟨ho, hearly⟩ := HOK.out i k t s HX.out
    have HO := Lib.hid ho
    have hea : s.ms.length ≤ 300 := hearly (by first | trivial | rfl)
    obtain ⟨hs1, hs2, hs3, hs4⟩ := ho.small HG.out (by omega)
    have c1 := HXP.out.c1; have c6 := HXP.out.c6
    have htl : t ≤ TN := by rw [HTN.out]; exact ho.tle
    clear ho hearly
    go_wp2_with fail
    refine wp_region_held_drew (S := fun w' => w'.cell? ⟨E, 1, none⟩ = some (.slice at_ TN ct) ∧ w'.cell? ⟨E, 6, none⟩ = some (.int .i64 (t : Int))) (by kernel_rfl) ⟨c1, c6⟩ (fun hHeld => ?_)
    refine tk0 (v := ?_) (by kernel_rfl) (by kernel_rfl) (by kernel_rfl) (by first | exact fun _ _ _ h => h | exact fun _ _ _ h => absurd h.1 (by simp)) (Or.inl ⟨by rfl, ?_⟩) (by assumption) ?_
    rotate_left 1
    focus (intro wx hSw; (try dsimp only at hSw); go_simp; try (with_reducible rfl))
    try simp only [Act.put, List.setIfInBounds_toArray, List.set_cons_zero, List.set_cons_succ]
    refine tk1 (v := ?_) (by kernel_rfl) (by kernel_rfl) (by kernel_rfl) (by first | exact fun _ _ _ h => h | exact fun _ _ _ h => absurd h.1 (by simp)) (Or.inl ⟨by rfl, ?_⟩) (by assumption) ?_
    rotate_left 1
    focus (intro wx hSw; (try dsimp only at hSw); go_simp; try (with_reducible rfl))
    try simp only [Act.put, List.setIfInBounds_toArray, List.set_cons_zero, List.set_cons_succ]
    refine tk2 (v := ?_) (by kernel_rfl) (by kernel_rfl) (by kernel_rfl) (by first | exact fun _ _ _ h => h | exact fun _ _ _ h => absurd h.1 (by simp)) (Or.inl ⟨by rfl, ?_⟩) (by assumption) ?_
    rotate_left 1
    focus (intro wx hSw; (try dsimp only at hSw); go_simp; try (with_reducible rfl))
    try simp only [Act.put, List.setIfInBounds_toArray, List.set_cons_zero, List.set_cons_succ]
    refine tk3 (v := ?_) (by kernel_rfl) (by kernel_rfl) (by kernel_rfl) (by first | exact fun _ _ _ h => h | exact fun _ _ _ h => absurd h.1 (by simp)) (Or.inl ⟨by rfl, ?_⟩) (by assumption) ?_
    rotate_left 1
    focus (intro wx hSw; (try dsimp only at hSw); go_simp; try (with_reducible rfl))
    try simp only [Act.put, List.setIfInBounds_toArray, List.set_cons_zero, List.set_cons_succ]
    refine tk4 (v := ?_) (by kernel_rfl) (by kernel_rfl) (by kernel_rfl) (by first | exact fun _ _ _ h => h | exact fun _ _ _ h => absurd h.1 (by simp)) (Or.inl ⟨by rfl, ?_⟩) (by assumption) ?_
    rotate_left 1
    focus (intro wx hSw; (try dsimp only at hSw); go_simp; try (with_reducible rfl))
    try simp only [Act.put, List.setIfInBounds_toArray, List.set_cons_zero, List.set_cons_succ]
    refine tk5 (v := ?_) (by kernel_rfl) (by kernel_rfl) (by kernel_rfl) (by first | exact fun _ _ _ h => h | exact fun _ _ _ h => absurd h.1 (by simp)) (Or.inl ⟨by rfl, ?_⟩) (by assumption) ?_
    rotate_left 1
    focus (intro wx hSw; (try dsimp only at hSw); go_simp; try (with_reducible rfl))
    try simp only [Act.put, List.setIfInBounds_toArray, List.set_cons_zero, List.set_cons_succ]
    refine tk6 (v := ?_) (by kernel_rfl) (by kernel_rfl) (by kernel_rfl) (by first | exact fun _ _ _ h => h | exact fun _ _ _ h => absurd h.1 (by simp)) (Or.inl ⟨by rfl, ?_⟩) (by assumption) ?_
    rotate_left 1
    focus (intro wx hSw; (try dsimp only at hSw); go_simp; try (with_reducible rfl))
    try simp only [Act.put, List.setIfInBounds_toArray, List.set_cons_zero, List.set_cons_succ]
    refine tk7 (v := ?_) (by kernel_rfl) (by kernel_rfl) (by kernel_rfl) (by first | exact fun _ _ _ h => h | exact fun _ _ _ h => absurd h.1 (by simp)) (Or.inl ⟨by rfl, ?_⟩) (by assumption) ?_
    rotate_left 1
    focus (intro wx hSw; (try dsimp only at hSw); go_simp; try (with_reducible rfl))
    try simp only [Act.put, List.setIfInBounds_toArray, List.set_cons_zero, List.set_cons_succ]
    refine tk8 (v := ?_) (by kernel_rfl) (by kernel_rfl) (by kernel_rfl) (by first | exact fun _ _ _ h => h | exact fun _ _ _ h => absurd h.1 (by simp)) (Or.inl ⟨by rfl, ?_⟩) (by assumption) ?_
    rotate_left 1
    focus (intro wx hSw; (try dsimp only at hSw); go_simp; try (with_reducible rfl))
    try simp only [Act.put, List.setIfInBounds_toArray, List.set_cons_zero, List.set_cons_succ]
    refine tk9 (v := ?_) (by kernel_rfl) (by kernel_rfl) (by kernel_rfl) (by first | exact fun _ _ _ h => h | exact fun _ _ _ h => absurd h.1 (by simp)) (Or.inl ⟨by rfl, ?_⟩) (by assumption) ?_
    rotate_left 1
    focus (intro wx hSw; (try dsimp only at hSw); go_simp; try (with_reducible rfl))
    try simp only [Act.put, List.setIfInBounds_toArray, List.set_cons_zero, List.set_cons_succ]
    refine tk10 (v := ?_) (by kernel_rfl) (by kernel_rfl) (by kernel_rfl) (by first | exact fun _ _ _ h => h | exact fun _ _ _ h => absurd h.1 (by simp)) (Or.inl ⟨by rfl, ?_⟩) (by assumption) ?_
    rotate_left 1
    focus (intro wx hSw; (try dsimp only at hSw); go_simp; try (with_reducible rfl))
    try simp only [Act.put, List.setIfInBounds_toArray, List.set_cons_zero, List.set_cons_succ]
    refine wpAnyH_done (by kernel_rfl) ?_ _
    have hdr : Below wi.heap.size wi wi.drew := (Below.refl _ _).drew
    have HXD := Lib.hid (HXP.out.after hdr)
    have HBD := Lib.hid (HBW.out.drew)
    clear hdr c1 c6 hHeld
    generalize wi.drew = wd at HXD HBD ⊢
    by_cases hlt : t < TN
    case neg =>
      have htn : ¬ t < n.ts.length := by rw [← HTN.out]; exact hlt
      have t0 : ((t : Int) == (TN : Int)) = true := by rw [beq_iff_eq]; omega
      have c5 := HXD.out.c5; have f5 := HXD.out.fr 5
      have hr := ex_row HX.out HKS.out htn (Or.inl rfl)
      have HRR := Lib.hid hr
      clear hr htn
      go_wp2_with fail
      have hw : wrap64 ((k : Int) + 1) = ((k + 1 : Nat) : Int) := by rw [IntWalk.wrap64_in _ ⟨by omega, by omega⟩]; rfl
      have hxk := HXD.out.setK ((k + 1 : Nat) : Int)
      have hbk := HBD.out.setCell (p := ⟨E, 5, none⟩) HXD.out.bE (.int .i64 ((k + 1 : Nat) : Int))
      try rw [hw]
      have hib : i + 1 ≤ 20000 := small_i HO.out HG.out
      obtain ⟨m2, hm2⟩ : ∃ m2, m2 + (i + 1) = 20000 := ⟨20000 - (i + 1), Nat.sub_add_cancel hib⟩
      go_step3
      exact Or.inl ⟨rfl, m2, lt_of_sums hmi hm2, _, _, _, _, _, _, _, _, _, _, _, _, _, _, _, _, _, _, _, _, _, _, _, _, _, _, _, _, _, _, _, _, _, _, _, _, _, _, _, _, _, _, _, _, _, _, _, _, _, rfl, ⟨i + 1, k + 1, s, _, _, _, hm2, HRR.out, hxk, hbk⟩⟩
    have t0 : ((t : Int) == (TN : Int)) = false := by rw [beq_eq_false_iff_ne]; omega
    have htn : t < n.ts.length := by rw [← HTN.out]; exact hlt
    have HTNN := Lib.hid htn
    clear htn
    go_wp2_with fail
    refine (fire_any n E M w0 wd P _ _ _ k t s lo HXD.out (HB.out.trans HBD.out) HT.out HS.out HG.out HKS.out HTNN.out HO.out.mks HO.out.dist (by omega) hs2).mono ?_
    rintro e w1 ⟨hb1, hc⟩
    rcases hc with ⟨hr, rfl, vm1, vv1, hx1⟩ | ⟨hr, hk, rfl, vm1, vv1, hx1⟩ | ⟨hr, hk, rfl, vm1, vv1, hx1⟩
    · have HX1 := Lib.hid hx1
      have HB1 := Lib.hid (HBD.out.trans hb1)
      have HNX := Lib.hid (ex_not HX.out HKS.out HTNN.out hr)
      obtain ⟨g1, cm1, hvm1, _, _⟩ := hx1.rm.form HO.out.pos
      subst hvm1
      obtain ⟨N, hN⟩ : ∃ q, q = s.ms.length := ⟨_, rfl⟩
      have c3 := hx1.c3; have c6 := hx1.c6; have f6 := hx1.fr 6
      rw [← hN] at c3 hea
      have t1 : decide ((N : Int) > 300) = false := by rw [decide_eq_false_iff_not]; omega
      clear hx1 hb1 hr hN
      go_wp2_with fail
      have hxk := HX1.out.setT ((t + 1 : Nat) : Int)
      have hbk := HB1.out.setCell (p := ⟨E, 6, none⟩) HX1.out.bE (.int .i64 ((t + 1 : Nat) : Int))
      have hw : wrap64 ((t : Int) + 1) = ((t + 1 : Nat) : Int) := by rw [IntWalk.wrap64_in _ ⟨by omega, by omega⟩]; rfl
      try rw [hw]
      have hib : i + 1 ≤ 20000 := small_i HO.out HG.out
      obtain ⟨m2, hm2⟩ : ∃ m2, m2 + (i + 1) = 20000 := ⟨20000 - (i + 1), Nat.sub_add_cancel hib⟩
      go_step3
      exact Or.inr ⟨rfl, m2, lt_of_sums hmi hm2, _, _, _, _, _, _, _, _, _, _, _, _, _, _, _, _, _, _, _, _, _, _, _, _, _, _, _, _, _, _, _, _, _, _, _, _, _, _, _, _, _, _, _, _, _, _, _, _, _, rfl, ⟨i + 1, k, t + 1, s, _, _, hm2, HNX.out, HKS.out, hxk, hbk⟩⟩
    · have HX1 := Lib.hid hx1
      have HB1 := Lib.hid (HBD.out.trans hb1)
      have HFN := Lib.hid (HFI.out _ _ (ex_bad HX.out HKS.out HTNN.out hr hk) rfl)
      clear hx1 hb1 hr hk
      go_wp2_with fail
      simp only [Exit.two]
      go_ret
      exact ⟨HB1.out, Or.inr (Or.inl ⟨s, _, _, i, k, t, HFN.out, rfl, HO.out, HX1.out⟩)⟩
    · have HX1 := Lib.hid hx1
      have HB1 := Lib.hid (HBD.out.trans hb1)
      have hlen := exMs_length_le s.ms (exNext n (stN s.ms k) t)
      obtain ⟨g1, cm1, hvm1, _, _⟩ := hx1.rm.form (show 0 < (exMs s.ms (exNext n (stN s.ms k) t)).length by have := HO.out.pos; omega)
      subst hvm1
      obtain ⟨N, hN⟩ : ∃ q, q = (exAdd s k t (exNext n (stN s.ms k) t)).ms.length := ⟨_, rfl⟩
      have hN2 : N = (exMs s.ms (exNext n (stN s.ms k) t)).length := hN
      have c3 := hx1.c3; have c6 := hx1.c6; have f6 := hx1.fr 6
      rw [← hN] at c3
      have HN2 := Lib.hid hN2
      by_cases hful : 300 < N
      · have t1 : decide ((N : Int) > 300) = true := decide_eq_true (by omega)
        have HFN := Lib.hid (HFI.out _ _ (ex_full HX.out HKS.out HTNN.out hr hk rfl (by rw [← HN2.out]; exact hful)) rfl)
        clear hx1 hb1 hr hk hN hN2 hlen
        go_wp2_with fail
        simp only [Exit.two]
        go_ret
        exact ⟨HB1.out, Or.inr (Or.inr ⟨HFN.out, rfl, _, _, _, _, _, HX1.out⟩)⟩
      · have t1 : decide ((N : Int) > 300) = false := by rw [decide_eq_false_iff_not]; omega
        have HNX := Lib.hid (ex_fire HX.out HKS.out HTNN.out hr hk (Or.inr (by rw [← HN2.out]; omega)))
        have HK2 : Hid (k < (exAdd s k t (exNext n (stN s.ms k) t)).ms.length) := by have := HKS.out; unfold Hid; rw [← hN, hN2]; omega
        clear hx1 hb1 hr hk hN hN2 hlen
        go_wp2_with fail
        have hxk := HX1.out.setT ((t + 1 : Nat) : Int)
        have hbk := HB1.out.setCell (p := ⟨E, 6, none⟩) HX1.out.bE (.int .i64 ((t + 1 : Nat) : Int))
        have hw : wrap64 ((t : Int) + 1) = ((t + 1 : Nat) : Int) := by rw [IntWalk.wrap64_in _ ⟨by omega, by omega⟩]; rfl
        try rw [hw]
        have hib : i + 1 ≤ 20000 := small_i HO.out HG.out
        obtain ⟨m2, hm2⟩ : ∃ m2, m2 + (i + 1) = 20000 := ⟨20000 - (i + 1), Nat.sub_add_cancel hib⟩
        go_step3
        exact Or.inr ⟨rfl, m2, lt_of_sums hmi hm2, _, _, _, _, _, _, _, _, _, _, _, _, _, _, _, _, _, _, _, _, _, _, _, _, _, _, _, _, _, _, _, _, _, _, _, _, _, _, _, _, _, _, _, _, _, _, _, _, _, rfl, ⟨i + 1, k, t + 1, _, _, _, hm2, HNX.out, HK2.out, hxk, hbk⟩⟩

end Go.Proofs.Ytigkgfdnnfmmmaa
