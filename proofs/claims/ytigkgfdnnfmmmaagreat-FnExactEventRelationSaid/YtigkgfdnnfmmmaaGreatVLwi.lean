/- WALK: l7With of the model (written by gen8/glwi2.py). -/
import Derived.Test.YtigkgfdnnfmmmaaGreatVMrd
import Derived.Test.YtigkgfdnnfmmmaaGreatVHad
namespace Go.Proofs.YtigkgfdnnfmmmaaGreat
open Go.RowKit

theorem cnd_new (w : World) : CRow w.heap.size (w.alloc (.cells #[] 96)) (.slice (some ⟨w.heap.size, 0, none⟩) 0 0) [] :=
  ⟨rfl, Or.inr ⟨w.heap.size, 0, #[], rfl, Nat.le_refl _, heap_alloc_new w _, Nat.le_refl _, by unfold maxLen; omega, rfl, rfl⟩⟩

set_option maxRecDepth 100000 in
set_option maxHeartbeats 4000000 in
theorem l7With_any (vt vu vh : Value) (n : NetD) (cs : List Cnd) (es : List Ev) (tn : Nat) (L : List Int) (w : World) (lo lo' lo2 : Nat) (hv : NetAt lo w (.agg #[.int .i64 n.places, vt]) n) (hvu : UnfAt lo' w vu ⟨cs, es⟩) (hvh : IntsAt lo2 w vh L) (ht : tn < n.ts.length) (hpo : (postOf n (tn : Int)).length ≤ 30) (hcl : cs.length ≤ 1000000) (hel : es.length ≤ 1000000) (hev : ∀ k, k < es.length → (evP es k).length ≤ 1048576) (hL : L.length ≤ 1048576) :
    Calls Tryz.prog 29 #[.agg #[.int .i64 n.places, vt], vu, .agg #[.int .i64 (tn : Int), vh]] w (RetUnf w ⟨cs ++ madeBy n tn es.length, es ++ [((tn : Int), L)]⟩) := by
  obtain ⟨i0, hi0, hz0, hz1, hz2⟩ := info_parts Tryz.infoEv
  obtain ⟨au, ku, aw, kw, rfl, hcc, hee⟩ := hvu.form
  simp only at hcc hee ⊢
  obtain ⟨nc, hnc⟩ : ∃ m, m = cs.length := ⟨_, rfl⟩
  obtain ⟨ne, hne⟩ : ∃ m, m = es.length := ⟨_, rfl⟩
  obtain ⟨nl, hnl⟩ : ∃ m, m = L.length := ⟨_, rfl⟩
  rw [← hnc] at hcc
  rw [← hne] at hee
  have HC := Lib.hid hcc; have HE := Lib.hid hee
  have HL := Lib.hid hvh
  obtain ⟨al, kl, rfl, hxa, hxb⟩ := hvh
  rw [← hnl] at HL
  rw [← hnc, ← hne, ← hnl]
  have HNC := Lib.hid hnc; have HNE := Lib.hid hne; have HNL := Lib.hid hnl
  have HEV := Lib.hid hev
  clear hcc hee hnc hne hnl hxa hxb hvu hev
  have HN := Lib.hid hv
  obtain ⟨_, _, q, e0, hts⟩ := hv
  injection e0 with e0
  have e0 : vt = q := by
    have := congrArg (fun a => a.getD 1 undef) e0
    simpa using this
  subst e0
  obtain ⟨at_, ct, rfl, hxa, hz⟩ := hts
  rcases hz with h0 | ⟨bt, offt, rfl, hlon, hcell⟩
  · exact absurd ht (by rw [h0]; exact Nat.not_lt_zero _)
  obtain ⟨v0, v1, hxb, d1, htr⟩ := hcell tn ht
  have htr := htr.2
  have hpo2 : postOf n (tn : Int) = (n.ts.getD tn ([], [])).2 := by unfold postOf; rw [Int.toNat_natCast]
  rw [← hpo2] at htr
  have HPO := Lib.hid htr
  obtain ⟨apo, cpo, rfl, hxc, hxd⟩ := htr
  clear hxa hxb hxc hxd hcell hpo2
  obtain ⟨npo, hnpo⟩ : ∃ x, x = (postOf n (tn : Int)).length := ⟨_, rfl⟩
  rw [← hnpo] at d1 HPO hpo
  have HNPO := Lib.hid hnpo; clear hnpo
  obtain ⟨m, hm⟩ : ∃ x, x = n.ts.length := ⟨_, rfl⟩
  rw [← hm] at ht HN ⊢
  have HM := Lib.hid hm; clear hm
  obtain ⟨p, hp⟩ : ∃ x, x = n.places := ⟨_, rfl⟩
  rw [← hp] at HN ⊢
  clear hp HN
  obtain ⟨W1, hW1⟩ : ∃ x, x = w.alloc (.cells #[.int .i64 p, .slice (some ⟨bt, offt, none⟩) m ct] 43) := ⟨_, rfl⟩
  obtain ⟨W2, hW2⟩ : ∃ x, x = W1.alloc (.cells #[.slice au nc ku, .slice aw ne kw] 38) := ⟨_, rfl⟩
  obtain ⟨W3, hW3⟩ : ∃ x, x = W2.alloc (.cells #[.int .i64 (tn : Int), .slice al nl kl] 46) := ⟨_, rfl⟩
  obtain ⟨W, hW⟩ : ∃ x, x = W3.alloc (.cells #[.slice none 0 0, .slice none 0 0] 38) := ⟨_, rfl⟩
  have s1 : W1.heap.size = w.heap.size + 1 := by rw [hW1]; simp
  have s2 : W2.heap.size = w.heap.size + 1 + 1 := by rw [hW2]; simp [s1]
  have s3 : W3.heap.size = w.heap.size + 1 + 1 + 1 := by rw [hW3]; simp [s2]
  have zW : W.heap.size = w.heap.size + 4 := by rw [hW]; simp [s3]
  have k2 : Carries 0 W1 W2 := by rw [hW2]; exact (Carries.refl 0 _).alloc _
  have k3 : Carries 0 W2 W3 := by rw [hW3]; exact (Carries.refl 0 _).alloc _
  have k4 : Carries 0 W3 W := by rw [hW]; exact (Carries.refl 0 _).alloc _
  have n1 : W1.cell? ⟨w.heap.size, 1, none⟩ = some (.slice (some ⟨bt, offt, none⟩) m ct) := by rw [hW1]; exact (cell_new2 rfl).2
  have u0 : W2.cell? ⟨w.heap.size + 1, 0, none⟩ = some (.slice au nc ku) := by rw [hW2]; exact (cell_new2 s1.symm).1
  have u1 : W2.cell? ⟨w.heap.size + 1, 1, none⟩ = some (.slice aw ne kw) := by rw [hW2]; exact (cell_new2 s1.symm).2
  have h0 : W3.cell? ⟨w.heap.size + 1 + 1, 0, none⟩ = some (.int .i64 (tn : Int)) := by rw [hW3]; exact (cell_new2 s2.symm).1
  have h1 : W3.cell? ⟨w.heap.size + 1 + 1, 1, none⟩ = some (.slice al nl kl) := by rw [hW3]; exact (cell_new2 s2.symm).2
  have hT : TyAt W3 (w.heap.size + 1 + 1) 46 := by rw [hW3, ← s2]; exact TyAt.new _ _ _
  have r0 : W.cell? ⟨w.heap.size + 1 + 1 + 1, 0, none⟩ = some (.slice none 0 0) := by rw [hW]; exact (cell_new2 s3.symm).1
  have r1 : W.cell? ⟨w.heap.size + 1 + 1 + 1, 1, none⟩ = some (.slice none 0 0) := by rw [hW]; exact (cell_new2 s3.symm).2
  have rT : TyAt W (w.heap.size + 1 + 1 + 1) 38 := by rw [hW, ← s3]; exact TyAt.new _ _ _
  have rf : ∀ i, W.frozen? ⟨w.heap.size + 1 + 1 + 1, i, none⟩ = false := fun i => by rw [hW, ← s3]; simp
  have n1 := cell_carry (cell_carry (cell_carry n1 k2) k3) k4
  have u0 := cell_carry (cell_carry u0 k3) k4
  have u1 := cell_carry (cell_carry u1 k3) k4
  have h0 := cell_carry h0 k4
  have h1 := cell_carry h1 k4
  have hT : TyAt W (w.heap.size + 1 + 1) 46 := hT.keep (by rw [hW]; exact (Below.refl _ _).alloc (Nat.le_refl _) _)
  have hw0 : Below w.heap.size w W := by rw [hW, hW3, hW2, hW1]; (repeat' (first | (with_reducible exact Below.refl _ _) | (with_reducible assumption) | (with_reducible refine Below.alloc ?_ ?_ _) | (with_reducible refine Below.drew ?_) | (with_reducible refine below_drewN ?_ _) | (with_reducible refine Below.setCell ?_ ?_ _) | go_size))
  have HRF := Lib.hid rf; have HRT := Lib.hid rT; have HZ := Lib.hid zW
  have hWW : W = (((w.alloc (.cells #[.int .i64 p, .slice (some ⟨bt, offt, none⟩) m ct] 43)).alloc (.cells #[.slice au nc ku, .slice aw ne kw] 38)).alloc (.cells #[.int .i64 (tn : Int), .slice al nl kl] 46)).alloc (.cells #[.slice none 0 0, .slice none 0 0] 38) := by rw [hW, hW3, hW2, hW1]
  have z1 : w.heap.size + 1 < W.heap.size := by omega
  clear k2 k3 k4 s1 s2 s3 rf rT zW hW hW3 hW2 hW1
  go_enter Tryz.func29, Tryz.ntmps29
  go_upto_region 1 with fail
  rw [← hWW]
  clear hWW
  go_wp2_with (refine wpList_append_cnds rfl (.tmp 12) (.tmp 14) rfl W.heap.size lo' _ [] rfl (cnd_new W) _ cs rfl (HC.out.keep (Carries.of lo' ?_)) (by simp; omega) (by simp) ?_)
  · exact hw0.trans (((Below.refl _ _).alloc (Nat.le_refl _) _).mono hw0.size)
  intro vc w1 hrc hg
  try rw [List.nil_append] at hrc
  have HY1 := Lib.hid (below_grown (a := W) ((Below.refl _ _).alloc (Nat.le_refl W.heap.size) _) (by simp) (cnd_new W) (Nat.le_refl _) hg)
  obtain ⟨ac, kc, rfl⟩ := hrc.form
  rw [← HNC.out] at hrc ⊢
  have HRC := Lib.hid hrc; clear hrc hg
  obtain ⟨B, hB⟩ : ∃ x, x = W.heap.size := ⟨_, rfl⟩
  rw [← hB] at HY1 HRC
  have HZW := Lib.hid hB; clear hB
  have HW0 := Lib.hid hw0; clear hw0
  have HN1 := Lib.hid n1; have HU0 := Lib.hid u0; have HU1 := Lib.hid u1; have HH0 := Lib.hid h0; have HH1 := Lib.hid h1; have HR0 := Lib.hid r0; have HR1 := Lib.hid r1; have HHT := Lib.hid hT; have HD1 := Lib.hid d1
  clear n1 u0 u1 h0 h1 r0 r1 hT d1
  have u1 := cell_carry HU1.out (Carries.of 0 (show Below W.heap.size W w1 by rw [← HZW.out]; exact HY1.out))
  go_upto_region 2 with fail
  obtain ⟨O, hO⟩ : ∃ x, x = w1.heap.size := ⟨_, rfl⟩
  have HO : Hid (OutAt B O (w1.alloc (.cells #[.slice ac nc kc, .slice none 0 0] 38)) (.slice ac nc kc) (.slice none 0 0) cs []) := by
    have hb : Below w1.heap.size w1 (w1.alloc (.cells #[.slice ac nc kc, .slice none 0 0] 38)) := (Below.refl _ _).alloc (Nat.le_refl _) _
    refine ⟨(cell_new2 hO).1, (cell_new2 hO).2, fun i => by rw [hO]; simp, by rw [hO]; exact TyAt.new _ _ _, by rw [hO, HZW.out]; exact HY1.out.size, owns_after HRC.out hb, MRow.nil _ _⟩
  have HY : Hid (Below B W (w1.alloc (.cells #[.slice ac nc kc, .slice none 0 0] 38))) := HY1.out.alloc (by rw [HZW.out]; exact HY1.out.size) _
  have HBO : Hid (B ≤ O) := HO.out.bO
  rw [← hO]
  generalize w1.alloc (.cells #[.slice ac nc kc, .slice none 0 0] 38) = wo at HO HY ⊢
  clear hO HY1 HRC u1
  have u1 := cell_carry HU1.out (Carries.of 0 (show Below W.heap.size W wo by rw [← HZW.out]; exact HY.out))
  go_wp2_with fail
  go_loopw [20] (fun i wr => ∃ k : Nat, k ≤ ne ∧ i = .int .i64 k ∧ Hid (∃ vc ve, OutAt B O wr vc ve cs (es.take k)) ∧ Hid (Below B W wr)) (fun i _ => ne - (intOf i).toNat)
  case atStart => exact ⟨0, Nat.zero_le _, rfl, ⟨_, _, HO.out⟩, HY.out⟩
  case round =>
    obtain ⟨k, hk, rfl, hO, hYr⟩ := hrel
    by_cases hlt : k < ne
    · have hkl : k < es.length := by rw [← HNE.out]; exact hlt
      obtain ⟨ao2, cap2, e0, hxa, hz⟩ := id HE.out
      rw [← HNE.out] at e0
      injection e0 with e1 e2 e3
      subst e1; subst e3
      clear e2 hxa
      rcases hz with h0 | ⟨b, off, rfl, hlo, hcell⟩
      · exact absurd hkl (by rw [h0]; exact Nat.not_lt_zero _)
      obtain ⟨x1, c0, c1, hx⟩ := hcell k hkl
      have hwr : Below w.heap.size w wr := HW0.out.trans (hYr.out.mono (by rw [HZW.out]; exact HW0.out.size))
      have d0 := Carries.of lo' hwr _ _ hlo c0
      have d1 := Carries.of lo' hwr _ _ hlo c1
      have hx := hx.keep (Carries.of lo' hwr)
      clear hcell c0 c1
      have hTK : es.take (k + 1) = es.take k ++ [(evT es k, evP es k)] := by rw [List.take_succ_eq_append_getElem hkl, ev_getD hkl]
      have hPl := HEV.out k hkl
      obtain ⟨T, hT⟩ : ∃ x, x = evT es k := ⟨_, rfl⟩
      obtain ⟨M, hM⟩ : ∃ x, x = evP es k := ⟨_, rfl⟩
      rw [← hT] at d0 hTK
      rw [← hM] at hx hPl hTK
      have HTK := Lib.hid hTK
      have HX := Lib.hid hx
      obtain ⟨a2, k2, rfl, hxa, hxb⟩ := hx
      clear hT hM hTK hxa hxb
      obtain ⟨nM, hnM⟩ : ∃ x, x = M.length := ⟨_, rfl⟩
      rw [← hnM] at d1 HX
      have HNM := Lib.hid hnM; clear hnM
      obtain ⟨vc3, ve3, hO3⟩ := hO.out
      have hlk : (es.take k).length = k := by rw [List.length_take]; omega
      obtain ⟨ae, ke, rfl⟩ := hO3.rm.form
      rw [hlk] at hO3
      have HLE := Lib.hid hlk; clear hlk
      have o1 := hO3.o1
      have HEB : Hid (∀ b, (Value.slice ae k ke).ownBlock = some b → b ≠ wr.heap.size) := fun b hb => by
        obtain ⟨xs, hxs, _⟩ := hO3.rm
        have := own_lt hxs hb
        omega
      have HOE : Hid (O ≠ wr.heap.size) := by have := hO3.ty.lt; unfold Hid; omega
      have HO := Lib.hid hO3; clear hO3 hO
      go_upto_region 5 with fail
      have hba : Below wr.heap.size wr (wr.alloc (.cells #[.int .i64 T, .slice a2 nM k2] 46)) := (Below.refl _ _).alloc (Nat.le_refl _) _
      have e0 : (wr.alloc (.cells #[.int .i64 T, .slice a2 nM k2] 46)).cell? ⟨wr.heap.size, 0, none⟩ = some (.int .i64 T) := (cell_new2 rfl).1
      have e1 : (wr.alloc (.cells #[.int .i64 T, .slice a2 nM k2] 46)).cell? ⟨wr.heap.size, 1, none⟩ = some (.slice a2 nM k2) := (cell_new2 rfl).2
      have eT : TyAt (wr.alloc (.cells #[.int .i64 T, .slice a2 nM k2] 46)) wr.heap.size 46 := TyAt.new _ _ _
      have o1 := cell_carry o1 (Carries.of 0 hba)
      have HO := Lib.hid (HO.out.after hba)
      have HX := Lib.hid (HX.out.keep (Carries.of _ hba))
      have HY := Lib.hid (hYr.out.trans (hba.mono (by have := hYr.out.size; have := HZW.out; omega)))
      generalize wr.alloc (.cells #[.int .i64 T, .slice a2 nM k2] 46) = wa at hba e0 e1 eT o1 HO HX HY ⊢
      clear hba hwr hYr
      generalize wr.heap.size = EB at e0 e1 eT HEB HOE ⊢
      clear d0 d1
      have hnk : k ≤ 1000000 := by omega
      refine wp_region_held_drew (S := fun w' => w'.cell? ⟨EB, 0, none⟩ = some (.int .i64 T) ∧ w'.cell? ⟨EB, 1, none⟩ = some (.slice a2 nM k2)) (by kernel_rfl) ⟨e0, e1⟩ (fun hHeld => ?_)
      refine tk0 (v := ?_) (by kernel_rfl) (by kernel_rfl) (by kernel_rfl) (by first | exact fun _ _ _ h => h | exact fun _ _ _ h => absurd h.1 (by simp)) (Or.inl ⟨by rfl, ?_⟩) (by assumption) ?_
      rotate_left 1
      focus (intro wx hSw; (try dsimp only at hSw); go_simp; try (with_reducible rfl))
      try simp only [Act.put, List.setIfInBounds_toArray, List.set_cons_zero, List.set_cons_succ]
      refine tk2 (v := ?_) (by kernel_rfl) (by kernel_rfl) (by kernel_rfl) (by first | exact fun _ _ _ h => h | exact fun _ _ _ h => absurd h.1 (by simp)) (Or.inl ⟨by rfl, ?_⟩) (by assumption) ?_
      rotate_left 1
      focus (intro wx hSw; (try dsimp only at hSw); go_simp; try (with_reducible rfl))
      try simp only [Act.put, List.setIfInBounds_toArray, List.set_cons_zero, List.set_cons_succ]
      refine wpAnyH_ready (rs := [1, 3]) (by kernel_rfl) (by simp) ?_
      refine AllReadyH.cons rfl (fun K hK => ?_) ?_
      · go_simp
        refine hK.out _ _ ⟨hHeld.1, hHeld.2⟩ (fun hHeld => ?_)
        clear hK K
        try simp only [Act.put, List.setIfInBounds_toArray, List.set_cons_zero, List.set_cons_succ]
        refine rd3 (by kernel_rfl) (fun K hK => ?_)
        go_simp
        refine (l7OwnH_any _ T M wa.drew lo' (HX.out.keep (Carries.of _ (Below.refl _ _).drew)) (Nat.le_trans hPl (by decide))).mono ?_
        rintro e w1 ⟨vq, rfl, hrow, hb1⟩
        have hb1 : Below wa.heap.size wa w1 := Below.trans (b := wa.drew) (Below.refl _ _).drew (hb1.mono (by simp))
        have hrow : IRow B w1 vq M := Go.Joins.ownsRow_le hrow (by have := HY.out.size; have := HZW.out; simp; omega)
        have HROW := Lib.hid hrow; clear hrow
        have z1 : wa.heap.size ≤ w1.heap.size := hb1.size
        have o1 := cell_carry o1 (Carries.of 0 hb1)
        have e0 := cell_carry e0 (Carries.of 0 hb1)
        have e1 := cell_carry e1 (Carries.of 0 hb1)
        have eT := eT.keep hb1
        have HO1 := Lib.hid (HO.out.after hb1)
        have HY1 := Lib.hid (HY.out.trans (hb1.mono (by have := HY.out.size; have := HZW.out; omega)))
        clear hb1
        refine hK.out _ _ ⟨e0, e1⟩ (fun hHeld => ?_)
        clear hK K
        try simp only [Act.put, List.setIfInBounds_toArray, List.set_cons_zero, List.set_cons_succ]
        refine rd4 (by kernel_rfl) (fun K hK => ?_)
        go_simp
        have hb2 : Below w1.heap.size w1 (w1.alloc (.cells #[.int .i64 T, vq] 46)) := (Below.refl _ _).alloc (Nat.le_refl _) _
        have HN2 := Lib.hid (World.news_of_block (cs := #[.int .i64 T, vq]) (t := 46) (fr := (0, 0)) (heap_alloc_new w1 _))
        generalize w1.alloc (.cells #[.int .i64 T, vq] 46) = w2 at hb2 HN2 ⊢
        have o1 := cell_carry o1 (Carries.of 0 hb2)
        have e0 := cell_carry e0 (Carries.of 0 hb2)
        have e1 := cell_carry e1 (Carries.of 0 hb2)
        have eT := eT.keep hb2
        have HO2 := Lib.hid (HO1.out.after hb2)
        have HY2 := Lib.hid (HY1.out.trans (hb2.mono (by have := HY1.out.size; have := HZW.out; omega)))
        have HROW2 := Lib.hid (owns_after HROW.out hb2)
        clear hb2
        refine hK.out _ _ ⟨e0, e1⟩ (fun hHeld => ?_)
        clear hK K
        try simp only [Act.put, List.setIfInBounds_toArray, List.set_cons_zero, List.set_cons_succ]
        obtain ⟨xs, hxs, hxc⟩ := HO2.out.rm
        have HXC2 := Lib.hid hxc; clear hxc
        have HXS2 := Lib.hid hxs
        rw [HLE.out] at hxs
        have hrone : vq.oneCell' = true := by
          obtain ⟨aa, cc, rfl⟩ := owns_form HROW.out
          rfl
        refine rd5 (by kernel_rfl) (fun K hK => ?_)
        refine step_append_lies _ (by rfl) _ _ _ (by rfl) B 46 i0 _ 2 32 Tryz.underlying36 hi0 hz0 hz1 hz2 rfl (by omega) (.slice ae k ke) k xs (by rfl) hxs ⟨w1.heap.size, 0, none⟩ 1 1 [.int .i64 T, vq] (by rfl) (by rfl) HN2.out (fun u hu => by simp only [List.mem_cons, List.not_mem_nil, or_false] at hu; rcases hu with h | h <;> rw [h] <;> first | rfl | exact hrone) (by omega) (by unfold maxLen; omega) (by omega) (by have := HY2.out.size; have := HZW.out; omega) w2.heap.size rfl ?_
        intro g kg w3 hown hgrow hat hlt3
        obtain ⟨⟨k0, k1⟩, kf, kT⟩ := HO2.out.mid HXS2.out (by decide) hgrow
        have kf1 := kf 1; clear kf
        have hhr : some EB ≠ (Value.slice ae k ke).ownBlock := fun q => HEB.out _ q.symm rfl
        have e0 := gcell hgrow hhr e0
        have e1 := gcell hgrow hhr e1
        have HE3 := Lib.hid (MRow.push HXS2.out HXC2.out (by rw [HLE.out]; exact hown) hgrow HROW2.out)
        have HP3 := Lib.hid (HO2.out.pushM HXS2.out HE3.out hgrow)
        have HB3 := Lib.hid (below_grown HY2.out (by have := HY2.out.size; have := HZW.out; omega) HXS2.out (Nat.le_refl _) hgrow)
        clear hown hgrow hat hxs k0 hrone
        refine hK.out _ _ ⟨e0, e1⟩ (fun hHeld => ?_)
        clear hK K
        try simp only [Act.put, List.setIfInBounds_toArray, List.set_cons_zero, List.set_cons_succ]
        refine tk6 (v := ?_) (by kernel_rfl) (by kernel_rfl) (by kernel_rfl) (by first | exact fun _ _ _ h => h | exact fun _ _ _ h => absurd h.1 (by simp)) (Or.inl ⟨by rfl, ?_⟩) (by assumption) ?_
        rotate_left 1
        focus (intro wx hSw; (try dsimp only at hSw); go_simp; try (with_reducible rfl))
        try simp only [Act.put, List.setIfInBounds_toArray, List.set_cons_zero, List.set_cons_succ]
        refine rd7 (by kernel_rfl) (fun K hK => ?_)
        go_simp
        have hne : ∀ i, (⟨O, 1, none⟩ : Addr) ≠ ⟨EB, i, none⟩ := fun i q => HOE.out (by injection q)
        have e0 := (World.cell?_setCell_other w3 _ _ (.slice (some ⟨g, 0, none⟩) (k + 1) kg) (hne 0)).trans e0
        have e1 := (World.cell?_setCell_other w3 _ _ (.slice (some ⟨g, 0, none⟩) (k + 1) kg) (hne 1)).trans e1
        refine hK.out _ _ ⟨e0, e1⟩ (fun hHeld => ?_)
        clear hK K
        try simp only [Act.put, List.setIfInBounds_toArray, List.set_cons_zero, List.set_cons_succ]
        refine wpAnyH_done (by kernel_rfl) ?_ _
        have HP4 : Hid (∃ vc ve, OutAt B O (w3.setCell ⟨O, 1, none⟩ (.slice (some ⟨g, 0, none⟩) (k + 1) kg)) vc ve cs (es.take k ++ [(T, M)])) := ⟨_, _, HP3.out⟩
        have HB4 := Lib.hid (HB3.out.setCell (p := ⟨O, 1, none⟩) HBO.out (.slice (some ⟨g, 0, none⟩) (k + 1) kg))
        generalize w3.setCell ⟨O, 1, none⟩ (.slice (some ⟨g, 0, none⟩) (k + 1) kg) = w5 at HP4 HB4 e0 e1 ⊢
        go_wp2_with fail
        rw [← HTK.out] at HP4
        go_roundw
        case rel => exact ⟨k + 1, by omega, by go_num, HP4, HB4⟩
        case measure => first | (simp [intOf]; omega) | simp [intOf]
      refine AllReadyH.cons rfl (fun K hK => ?_) AllReadyH.nil
      go_simp
      refine (l7OwnH_any _ T M wa.drew lo' (HX.out.keep (Carries.of _ (Below.refl _ _).drew)) (Nat.le_trans hPl (by decide))).mono ?_
      rintro e w1 ⟨vq, rfl, hrow, hb1⟩
      have hb1 : Below wa.heap.size wa w1 := Below.trans (b := wa.drew) (Below.refl _ _).drew (hb1.mono (by simp))
      have hrow : IRow B w1 vq M := Go.Joins.ownsRow_le hrow (by have := HY.out.size; have := HZW.out; simp; omega)
      have HROW := Lib.hid hrow; clear hrow
      have z1 : wa.heap.size ≤ w1.heap.size := hb1.size
      have o1 := cell_carry o1 (Carries.of 0 hb1)
      have e0 := cell_carry e0 (Carries.of 0 hb1)
      have e1 := cell_carry e1 (Carries.of 0 hb1)
      have eT := eT.keep hb1
      have HO1 := Lib.hid (HO.out.after hb1)
      have HY1 := Lib.hid (HY.out.trans (hb1.mono (by have := HY.out.size; have := HZW.out; omega)))
      clear hb1
      refine hK.out _ _ ⟨e0, e1⟩ (fun hHeld => ?_)
      clear hK K
      try simp only [Act.put, List.setIfInBounds_toArray, List.set_cons_zero, List.set_cons_succ]
      refine wpAnyH_ready (rs := [1, 4]) (by kernel_rfl) (by simp) ?_
      refine AllReadyH.cons rfl (fun K hK => ?_) ?_
      · go_simp
        refine hK.out _ _ ⟨e0, e1⟩ (fun hHeld => ?_)
        clear hK K
        try simp only [Act.put, List.setIfInBounds_toArray, List.set_cons_zero, List.set_cons_succ]
        refine rd4 (by kernel_rfl) (fun K hK => ?_)
        go_simp
        have hb2 : Below w1.heap.size w1 (w1.alloc (.cells #[.int .i64 T, vq] 46)) := (Below.refl _ _).alloc (Nat.le_refl _) _
        have HN2 := Lib.hid (World.news_of_block (cs := #[.int .i64 T, vq]) (t := 46) (fr := (0, 0)) (heap_alloc_new w1 _))
        generalize w1.alloc (.cells #[.int .i64 T, vq] 46) = w2 at hb2 HN2 ⊢
        have o1 := cell_carry o1 (Carries.of 0 hb2)
        have e0 := cell_carry e0 (Carries.of 0 hb2)
        have e1 := cell_carry e1 (Carries.of 0 hb2)
        have eT := eT.keep hb2
        have HO2 := Lib.hid (HO1.out.after hb2)
        have HY2 := Lib.hid (HY1.out.trans (hb2.mono (by have := HY1.out.size; have := HZW.out; omega)))
        have HROW2 := Lib.hid (owns_after HROW.out hb2)
        clear hb2
        refine hK.out _ _ ⟨e0, e1⟩ (fun hHeld => ?_)
        clear hK K
        try simp only [Act.put, List.setIfInBounds_toArray, List.set_cons_zero, List.set_cons_succ]
        obtain ⟨xs, hxs, hxc⟩ := HO2.out.rm
        have HXC2 := Lib.hid hxc; clear hxc
        have HXS2 := Lib.hid hxs
        rw [HLE.out] at hxs
        have hrone : vq.oneCell' = true := by
          obtain ⟨aa, cc, rfl⟩ := owns_form HROW.out
          rfl
        refine rd5 (by kernel_rfl) (fun K hK => ?_)
        refine step_append_lies _ (by rfl) _ _ _ (by rfl) B 46 i0 _ 2 32 Tryz.underlying36 hi0 hz0 hz1 hz2 rfl (by omega) (.slice ae k ke) k xs (by rfl) hxs ⟨w1.heap.size, 0, none⟩ 1 1 [.int .i64 T, vq] (by rfl) (by rfl) HN2.out (fun u hu => by simp only [List.mem_cons, List.not_mem_nil, or_false] at hu; rcases hu with h | h <;> rw [h] <;> first | rfl | exact hrone) (by omega) (by unfold maxLen; omega) (by omega) (by have := HY2.out.size; have := HZW.out; omega) w2.heap.size rfl ?_
        intro g kg w3 hown hgrow hat hlt3
        obtain ⟨⟨k0, k1⟩, kf, kT⟩ := HO2.out.mid HXS2.out (by decide) hgrow
        have kf1 := kf 1; clear kf
        have hhr : some EB ≠ (Value.slice ae k ke).ownBlock := fun q => HEB.out _ q.symm rfl
        have e0 := gcell hgrow hhr e0
        have e1 := gcell hgrow hhr e1
        have HE3 := Lib.hid (MRow.push HXS2.out HXC2.out (by rw [HLE.out]; exact hown) hgrow HROW2.out)
        have HP3 := Lib.hid (HO2.out.pushM HXS2.out HE3.out hgrow)
        have HB3 := Lib.hid (below_grown HY2.out (by have := HY2.out.size; have := HZW.out; omega) HXS2.out (Nat.le_refl _) hgrow)
        clear hown hgrow hat hxs k0 hrone
        refine hK.out _ _ ⟨e0, e1⟩ (fun hHeld => ?_)
        clear hK K
        try simp only [Act.put, List.setIfInBounds_toArray, List.set_cons_zero, List.set_cons_succ]
        refine tk6 (v := ?_) (by kernel_rfl) (by kernel_rfl) (by kernel_rfl) (by first | exact fun _ _ _ h => h | exact fun _ _ _ h => absurd h.1 (by simp)) (Or.inl ⟨by rfl, ?_⟩) (by assumption) ?_
        rotate_left 1
        focus (intro wx hSw; (try dsimp only at hSw); go_simp; try (with_reducible rfl))
        try simp only [Act.put, List.setIfInBounds_toArray, List.set_cons_zero, List.set_cons_succ]
        refine rd7 (by kernel_rfl) (fun K hK => ?_)
        go_simp
        have hne : ∀ i, (⟨O, 1, none⟩ : Addr) ≠ ⟨EB, i, none⟩ := fun i q => HOE.out (by injection q)
        have e0 := (World.cell?_setCell_other w3 _ _ (.slice (some ⟨g, 0, none⟩) (k + 1) kg) (hne 0)).trans e0
        have e1 := (World.cell?_setCell_other w3 _ _ (.slice (some ⟨g, 0, none⟩) (k + 1) kg) (hne 1)).trans e1
        refine hK.out _ _ ⟨e0, e1⟩ (fun hHeld => ?_)
        clear hK K
        try simp only [Act.put, List.setIfInBounds_toArray, List.set_cons_zero, List.set_cons_succ]
        refine wpAnyH_done (by kernel_rfl) ?_ _
        have HP4 : Hid (∃ vc ve, OutAt B O (w3.setCell ⟨O, 1, none⟩ (.slice (some ⟨g, 0, none⟩) (k + 1) kg)) vc ve cs (es.take k ++ [(T, M)])) := ⟨_, _, HP3.out⟩
        have HB4 := Lib.hid (HB3.out.setCell (p := ⟨O, 1, none⟩) HBO.out (.slice (some ⟨g, 0, none⟩) (k + 1) kg))
        generalize w3.setCell ⟨O, 1, none⟩ (.slice (some ⟨g, 0, none⟩) (k + 1) kg) = w5 at HP4 HB4 e0 e1 ⊢
        go_wp2_with fail
        rw [← HTK.out] at HP4
        go_roundw
        case rel => exact ⟨k + 1, by omega, by go_num, HP4, HB4⟩
        case measure => first | (simp [intOf]; omega) | simp [intOf]
      refine AllReadyH.cons rfl (fun K hK => ?_) AllReadyH.nil
      go_simp
      have hb2 : Below w1.heap.size w1 (w1.alloc (.cells #[.int .i64 T, vq] 46)) := (Below.refl _ _).alloc (Nat.le_refl _) _
      have HN2 := Lib.hid (World.news_of_block (cs := #[.int .i64 T, vq]) (t := 46) (fr := (0, 0)) (heap_alloc_new w1 _))
      generalize w1.alloc (.cells #[.int .i64 T, vq] 46) = w2 at hb2 HN2 ⊢
      have o1 := cell_carry o1 (Carries.of 0 hb2)
      have e0 := cell_carry e0 (Carries.of 0 hb2)
      have e1 := cell_carry e1 (Carries.of 0 hb2)
      have eT := eT.keep hb2
      have HO2 := Lib.hid (HO1.out.after hb2)
      have HY2 := Lib.hid (HY1.out.trans (hb2.mono (by have := HY1.out.size; have := HZW.out; omega)))
      have HROW2 := Lib.hid (owns_after HROW.out hb2)
      clear hb2
      refine hK.out _ _ ⟨e0, e1⟩ (fun hHeld => ?_)
      clear hK K
      try simp only [Act.put, List.setIfInBounds_toArray, List.set_cons_zero, List.set_cons_succ]
      refine rd1 (by kernel_rfl) (fun K hK => ?_)
      go_simp
      refine hK.out _ _ ⟨e0, e1⟩ (fun hHeld => ?_)
      clear hK K
      try simp only [Act.put, List.setIfInBounds_toArray, List.set_cons_zero, List.set_cons_succ]
      obtain ⟨xs, hxs, hxc⟩ := HO2.out.rm
      have HXC2 := Lib.hid hxc; clear hxc
      have HXS2 := Lib.hid hxs
      rw [HLE.out] at hxs
      have hrone : vq.oneCell' = true := by
        obtain ⟨aa, cc, rfl⟩ := owns_form HROW.out
        rfl
      refine rd5 (by kernel_rfl) (fun K hK => ?_)
      refine step_append_lies _ (by rfl) _ _ _ (by rfl) B 46 i0 _ 2 32 Tryz.underlying36 hi0 hz0 hz1 hz2 rfl (by omega) (.slice ae k ke) k xs (by rfl) hxs ⟨w1.heap.size, 0, none⟩ 1 1 [.int .i64 T, vq] (by rfl) (by rfl) HN2.out (fun u hu => by simp only [List.mem_cons, List.not_mem_nil, or_false] at hu; rcases hu with h | h <;> rw [h] <;> first | rfl | exact hrone) (by omega) (by unfold maxLen; omega) (by omega) (by have := HY2.out.size; have := HZW.out; omega) w2.heap.size rfl ?_
      intro g kg w3 hown hgrow hat hlt3
      obtain ⟨⟨k0, k1⟩, kf, kT⟩ := HO2.out.mid HXS2.out (by decide) hgrow
      have kf1 := kf 1; clear kf
      have hhr : some EB ≠ (Value.slice ae k ke).ownBlock := fun q => HEB.out _ q.symm rfl
      have e0 := gcell hgrow hhr e0
      have e1 := gcell hgrow hhr e1
      have HE3 := Lib.hid (MRow.push HXS2.out HXC2.out (by rw [HLE.out]; exact hown) hgrow HROW2.out)
      have HP3 := Lib.hid (HO2.out.pushM HXS2.out HE3.out hgrow)
      have HB3 := Lib.hid (below_grown HY2.out (by have := HY2.out.size; have := HZW.out; omega) HXS2.out (Nat.le_refl _) hgrow)
      clear hown hgrow hat hxs k0 hrone
      refine hK.out _ _ ⟨e0, e1⟩ (fun hHeld => ?_)
      clear hK K
      try simp only [Act.put, List.setIfInBounds_toArray, List.set_cons_zero, List.set_cons_succ]
      refine tk6 (v := ?_) (by kernel_rfl) (by kernel_rfl) (by kernel_rfl) (by first | exact fun _ _ _ h => h | exact fun _ _ _ h => absurd h.1 (by simp)) (Or.inl ⟨by rfl, ?_⟩) (by assumption) ?_
      rotate_left 1
      focus (intro wx hSw; (try dsimp only at hSw); go_simp; try (with_reducible rfl))
      try simp only [Act.put, List.setIfInBounds_toArray, List.set_cons_zero, List.set_cons_succ]
      refine rd7 (by kernel_rfl) (fun K hK => ?_)
      go_simp
      have hne : ∀ i, (⟨O, 1, none⟩ : Addr) ≠ ⟨EB, i, none⟩ := fun i q => HOE.out (by injection q)
      have e0 := (World.cell?_setCell_other w3 _ _ (.slice (some ⟨g, 0, none⟩) (k + 1) kg) (hne 0)).trans e0
      have e1 := (World.cell?_setCell_other w3 _ _ (.slice (some ⟨g, 0, none⟩) (k + 1) kg) (hne 1)).trans e1
      refine hK.out _ _ ⟨e0, e1⟩ (fun hHeld => ?_)
      clear hK K
      try simp only [Act.put, List.setIfInBounds_toArray, List.set_cons_zero, List.set_cons_succ]
      refine wpAnyH_done (by kernel_rfl) ?_ _
      have HP4 : Hid (∃ vc ve, OutAt B O (w3.setCell ⟨O, 1, none⟩ (.slice (some ⟨g, 0, none⟩) (k + 1) kg)) vc ve cs (es.take k ++ [(T, M)])) := ⟨_, _, HP3.out⟩
      have HB4 := Lib.hid (HB3.out.setCell (p := ⟨O, 1, none⟩) HBO.out (.slice (some ⟨g, 0, none⟩) (k + 1) kg))
      generalize w3.setCell ⟨O, 1, none⟩ (.slice (some ⟨g, 0, none⟩) (k + 1) kg) = w5 at HP4 HB4 e0 e1 ⊢
      go_wp2_with fail
      rw [← HTK.out] at HP4
      go_roundw
      case rel => exact ⟨k + 1, by omega, by go_num, HP4, HB4⟩
      case measure => first | (simp [intOf]; omega) | simp [intOf]
    · have hkk : k = ne := by omega
      subst hkk
      obtain ⟨vc3, ve3, hO3⟩ := hO.out
      rw [List.take_of_length_le (by rw [← HNE.out]; exact Nat.le_refl _)] at hO3
      obtain ⟨W5, hW5⟩ : ∃ x, x = wr := ⟨_, rfl⟩
      subst hW5
      obtain ⟨ae, ke, rfl⟩ := hO3.rm.form
      rw [← HNE.out] at hO3
      have HLE : Hid (es.length = k) := HNE.out.symm
      have hnk : k ≤ 1000000 := by rw [HNE.out]; exact hel
      have o1 := hO3.o1
      have HY := Lib.hid hYr.out; clear hYr
      have hWc : Below W.heap.size W W5 := by rw [← HZW.out]; exact HY.out
      have e0 := cell_carry HH0.out (Carries.of 0 hWc)
      have e1 := cell_carry HH1.out (Carries.of 0 hWc)
      have eT := HHT.out.keep hWc
      obtain ⟨EB, hEB⟩ : ∃ x, x = w.heap.size + 1 + 1 := ⟨_, rfl⟩
      have hEBB : EB < B := by rw [hEB, HZW.out, HZ.out]; omega
      have HEB : Hid (∀ b, (Value.slice ae k ke).ownBlock = some b → b ≠ EB) := fun b hb => by
        obtain ⟨xs, hxs, _⟩ := hO3.rm
        rcases hxs.2 with ⟨h, _⟩ | ⟨g, cap, cur, h, hB, _⟩
        · injection h with h1
          subst h1
          simp [Value.ownBlock] at hb
        · injection h with h1
          subst h1
          simp only [Value.ownBlock, Option.some.injEq] at hb
          omega
      have HOE : Hid (O ≠ EB) := by have := HBO.out; unfold Hid; omega
      have HO := Lib.hid hO3; clear hO3 hO hWc hEBB
      go_upto_region 7 with fail
      rw [← hEB] at e0 e1 eT ⊢
      have HHE := Lib.hid hEB; clear hEB
      go_cut [] from 32 to 38 (fun wx => (∃ vc ve, OutAt B O wx vc ve cs (es ++ [((tn : Int), L)])) ∧ Below B W wx)
      case first =>
        refine wp_region_held_drew (S := fun w' => w'.cell? ⟨EB, 0, none⟩ = some (.int .i64 (tn : Int)) ∧ w'.cell? ⟨EB, 1, none⟩ = some (.slice al nl kl)) (by kernel_rfl) ⟨e0, e1⟩ (fun hHeld => ?_)
        refine tk0 (v := ?_) (by kernel_rfl) (by kernel_rfl) (by kernel_rfl) (by first | exact fun _ _ _ h => h | exact fun _ _ _ h => absurd h.1 (by simp)) (Or.inl ⟨by rfl, ?_⟩) (by assumption) ?_
        rotate_left 1
        focus (intro wx hSw; (try dsimp only at hSw); go_simp; try (with_reducible rfl))
        try simp only [Act.put, List.setIfInBounds_toArray, List.set_cons_zero, List.set_cons_succ]
        refine tk2 (v := ?_) (by kernel_rfl) (by kernel_rfl) (by kernel_rfl) (by first | exact fun _ _ _ h => h | exact fun _ _ _ h => absurd h.1 (by simp)) (Or.inl ⟨by rfl, ?_⟩) (by assumption) ?_
        rotate_left 1
        focus (intro wx hSw; (try dsimp only at hSw); go_simp; try (with_reducible rfl))
        try simp only [Act.put, List.setIfInBounds_toArray, List.set_cons_zero, List.set_cons_succ]
        refine wpAnyH_ready (rs := [1, 3]) (by kernel_rfl) (by simp) ?_
        refine AllReadyH.cons rfl (fun K hK => ?_) ?_
        · go_simp
          refine hK.out _ _ ⟨hHeld.1, hHeld.2⟩ (fun hHeld => ?_)
          clear hK K
          try simp only [Act.put, List.setIfInBounds_toArray, List.set_cons_zero, List.set_cons_succ]
          refine rd3 (by kernel_rfl) (fun K hK => ?_)
          go_simp
          refine (l7OwnH_any _ (tn : Int) L W5.drew lo2 (HL.out.keep (Carries.of lo2 ((HW0.out.trans (HY.out.mono (by rw [HZW.out]; exact HW0.out.size))).drew))) (Nat.le_trans hL (by decide))).mono ?_
          rintro e w1 ⟨vq, rfl, hrow, hb1⟩
          have hb1 : Below W5.heap.size W5 w1 := Below.trans (b := W5.drew) (Below.refl _ _).drew (hb1.mono (by simp))
          have hrow : IRow B w1 vq L := Go.Joins.ownsRow_le hrow (by have := HY.out.size; have := HZW.out; simp; omega)
          have HROW := Lib.hid hrow; clear hrow
          have z1 : W5.heap.size ≤ w1.heap.size := hb1.size
          have o1 := cell_carry o1 (Carries.of 0 hb1)
          have e0 := cell_carry e0 (Carries.of 0 hb1)
          have e1 := cell_carry e1 (Carries.of 0 hb1)
          have eT := eT.keep hb1
          have HO1 := Lib.hid (HO.out.after hb1)
          have HY1 := Lib.hid (HY.out.trans (hb1.mono (by have := HY.out.size; have := HZW.out; omega)))
          clear hb1
          refine hK.out _ _ ⟨e0, e1⟩ (fun hHeld => ?_)
          clear hK K
          try simp only [Act.put, List.setIfInBounds_toArray, List.set_cons_zero, List.set_cons_succ]
          refine rd4 (by kernel_rfl) (fun K hK => ?_)
          go_simp
          have hb2 : Below w1.heap.size w1 (w1.alloc (.cells #[.int .i64 (tn : Int), vq] 46)) := (Below.refl _ _).alloc (Nat.le_refl _) _
          have HN2 := Lib.hid (World.news_of_block (cs := #[.int .i64 (tn : Int), vq]) (t := 46) (fr := (0, 0)) (heap_alloc_new w1 _))
          generalize w1.alloc (.cells #[.int .i64 (tn : Int), vq] 46) = w2 at hb2 HN2 ⊢
          have o1 := cell_carry o1 (Carries.of 0 hb2)
          have e0 := cell_carry e0 (Carries.of 0 hb2)
          have e1 := cell_carry e1 (Carries.of 0 hb2)
          have eT := eT.keep hb2
          have HO2 := Lib.hid (HO1.out.after hb2)
          have HY2 := Lib.hid (HY1.out.trans (hb2.mono (by have := HY1.out.size; have := HZW.out; omega)))
          have HROW2 := Lib.hid (owns_after HROW.out hb2)
          clear hb2
          refine hK.out _ _ ⟨e0, e1⟩ (fun hHeld => ?_)
          clear hK K
          try simp only [Act.put, List.setIfInBounds_toArray, List.set_cons_zero, List.set_cons_succ]
          obtain ⟨xs, hxs, hxc⟩ := HO2.out.rm
          have HXC2 := Lib.hid hxc; clear hxc
          have HXS2 := Lib.hid hxs
          rw [HLE.out] at hxs
          have hrone : vq.oneCell' = true := by
            obtain ⟨aa, cc, rfl⟩ := owns_form HROW.out
            rfl
          refine rd5 (by kernel_rfl) (fun K hK => ?_)
          refine step_append_lies _ (by rfl) _ _ _ (by rfl) B 46 i0 _ 2 32 Tryz.underlying36 hi0 hz0 hz1 hz2 rfl (by omega) (.slice ae k ke) k xs (by rfl) hxs ⟨w1.heap.size, 0, none⟩ 1 1 [.int .i64 (tn : Int), vq] (by rfl) (by rfl) HN2.out (fun u hu => by simp only [List.mem_cons, List.not_mem_nil, or_false] at hu; rcases hu with h | h <;> rw [h] <;> first | rfl | exact hrone) (by omega) (by unfold maxLen; omega) (by omega) (by have := HY2.out.size; have := HZW.out; omega) w2.heap.size rfl ?_
          intro g kg w3 hown hgrow hat hlt3
          obtain ⟨⟨k0, k1⟩, kf, kT⟩ := HO2.out.mid HXS2.out (by decide) hgrow
          have kf1 := kf 1; clear kf
          have hhr : some EB ≠ (Value.slice ae k ke).ownBlock := fun q => HEB.out _ q.symm rfl
          have e0 := gcell hgrow hhr e0
          have e1 := gcell hgrow hhr e1
          have HE3 := Lib.hid (MRow.push HXS2.out HXC2.out (by rw [HLE.out]; exact hown) hgrow HROW2.out)
          have HP3 := Lib.hid (HO2.out.pushM HXS2.out HE3.out hgrow)
          have HB3 := Lib.hid (below_grown HY2.out (by have := HY2.out.size; have := HZW.out; omega) HXS2.out (Nat.le_refl _) hgrow)
          clear hown hgrow hat hxs k0 hrone
          refine hK.out _ _ ⟨e0, e1⟩ (fun hHeld => ?_)
          clear hK K
          try simp only [Act.put, List.setIfInBounds_toArray, List.set_cons_zero, List.set_cons_succ]
          refine tk6 (v := ?_) (by kernel_rfl) (by kernel_rfl) (by kernel_rfl) (by first | exact fun _ _ _ h => h | exact fun _ _ _ h => absurd h.1 (by simp)) (Or.inl ⟨by rfl, ?_⟩) (by assumption) ?_
          rotate_left 1
          focus (intro wx hSw; (try dsimp only at hSw); go_simp; try (with_reducible rfl))
          try simp only [Act.put, List.setIfInBounds_toArray, List.set_cons_zero, List.set_cons_succ]
          refine rd7 (by kernel_rfl) (fun K hK => ?_)
          go_simp
          have hne : ∀ i, (⟨O, 1, none⟩ : Addr) ≠ ⟨EB, i, none⟩ := fun i q => HOE.out (by injection q)
          have e0 := (World.cell?_setCell_other w3 _ _ (.slice (some ⟨g, 0, none⟩) (k + 1) kg) (hne 0)).trans e0
          have e1 := (World.cell?_setCell_other w3 _ _ (.slice (some ⟨g, 0, none⟩) (k + 1) kg) (hne 1)).trans e1
          refine hK.out _ _ ⟨e0, e1⟩ (fun hHeld => ?_)
          clear hK K
          try simp only [Act.put, List.setIfInBounds_toArray, List.set_cons_zero, List.set_cons_succ]
          refine wpAnyH_done (by kernel_rfl) ?_ _
          have HP4 : Hid (∃ vc ve, OutAt B O (w3.setCell ⟨O, 1, none⟩ (.slice (some ⟨g, 0, none⟩) (k + 1) kg)) vc ve cs (es ++ [((tn : Int), L)])) := ⟨_, _, HP3.out⟩
          have HB4 := Lib.hid (HB3.out.setCell (p := ⟨O, 1, none⟩) HBO.out (.slice (some ⟨g, 0, none⟩) (k + 1) kg))
          generalize w3.setCell ⟨O, 1, none⟩ (.slice (some ⟨g, 0, none⟩) (k + 1) kg) = w5 at HP4 HB4 e0 e1 ⊢
          go_wp2_with fail
          go_meet
          case rel =>
            exact ⟨HP4.out, HB4.out⟩
        refine AllReadyH.cons rfl (fun K hK => ?_) AllReadyH.nil
        go_simp
        refine (l7OwnH_any _ (tn : Int) L W5.drew lo2 (HL.out.keep (Carries.of lo2 ((HW0.out.trans (HY.out.mono (by rw [HZW.out]; exact HW0.out.size))).drew))) (Nat.le_trans hL (by decide))).mono ?_
        rintro e w1 ⟨vq, rfl, hrow, hb1⟩
        have hb1 : Below W5.heap.size W5 w1 := Below.trans (b := W5.drew) (Below.refl _ _).drew (hb1.mono (by simp))
        have hrow : IRow B w1 vq L := Go.Joins.ownsRow_le hrow (by have := HY.out.size; have := HZW.out; simp; omega)
        have HROW := Lib.hid hrow; clear hrow
        have z1 : W5.heap.size ≤ w1.heap.size := hb1.size
        have o1 := cell_carry o1 (Carries.of 0 hb1)
        have e0 := cell_carry e0 (Carries.of 0 hb1)
        have e1 := cell_carry e1 (Carries.of 0 hb1)
        have eT := eT.keep hb1
        have HO1 := Lib.hid (HO.out.after hb1)
        have HY1 := Lib.hid (HY.out.trans (hb1.mono (by have := HY.out.size; have := HZW.out; omega)))
        clear hb1
        refine hK.out _ _ ⟨e0, e1⟩ (fun hHeld => ?_)
        clear hK K
        try simp only [Act.put, List.setIfInBounds_toArray, List.set_cons_zero, List.set_cons_succ]
        refine wpAnyH_ready (rs := [1, 4]) (by kernel_rfl) (by simp) ?_
        refine AllReadyH.cons rfl (fun K hK => ?_) ?_
        · go_simp
          refine hK.out _ _ ⟨e0, e1⟩ (fun hHeld => ?_)
          clear hK K
          try simp only [Act.put, List.setIfInBounds_toArray, List.set_cons_zero, List.set_cons_succ]
          refine rd4 (by kernel_rfl) (fun K hK => ?_)
          go_simp
          have hb2 : Below w1.heap.size w1 (w1.alloc (.cells #[.int .i64 (tn : Int), vq] 46)) := (Below.refl _ _).alloc (Nat.le_refl _) _
          have HN2 := Lib.hid (World.news_of_block (cs := #[.int .i64 (tn : Int), vq]) (t := 46) (fr := (0, 0)) (heap_alloc_new w1 _))
          generalize w1.alloc (.cells #[.int .i64 (tn : Int), vq] 46) = w2 at hb2 HN2 ⊢
          have o1 := cell_carry o1 (Carries.of 0 hb2)
          have e0 := cell_carry e0 (Carries.of 0 hb2)
          have e1 := cell_carry e1 (Carries.of 0 hb2)
          have eT := eT.keep hb2
          have HO2 := Lib.hid (HO1.out.after hb2)
          have HY2 := Lib.hid (HY1.out.trans (hb2.mono (by have := HY1.out.size; have := HZW.out; omega)))
          have HROW2 := Lib.hid (owns_after HROW.out hb2)
          clear hb2
          refine hK.out _ _ ⟨e0, e1⟩ (fun hHeld => ?_)
          clear hK K
          try simp only [Act.put, List.setIfInBounds_toArray, List.set_cons_zero, List.set_cons_succ]
          obtain ⟨xs, hxs, hxc⟩ := HO2.out.rm
          have HXC2 := Lib.hid hxc; clear hxc
          have HXS2 := Lib.hid hxs
          rw [HLE.out] at hxs
          have hrone : vq.oneCell' = true := by
            obtain ⟨aa, cc, rfl⟩ := owns_form HROW.out
            rfl
          refine rd5 (by kernel_rfl) (fun K hK => ?_)
          refine step_append_lies _ (by rfl) _ _ _ (by rfl) B 46 i0 _ 2 32 Tryz.underlying36 hi0 hz0 hz1 hz2 rfl (by omega) (.slice ae k ke) k xs (by rfl) hxs ⟨w1.heap.size, 0, none⟩ 1 1 [.int .i64 (tn : Int), vq] (by rfl) (by rfl) HN2.out (fun u hu => by simp only [List.mem_cons, List.not_mem_nil, or_false] at hu; rcases hu with h | h <;> rw [h] <;> first | rfl | exact hrone) (by omega) (by unfold maxLen; omega) (by omega) (by have := HY2.out.size; have := HZW.out; omega) w2.heap.size rfl ?_
          intro g kg w3 hown hgrow hat hlt3
          obtain ⟨⟨k0, k1⟩, kf, kT⟩ := HO2.out.mid HXS2.out (by decide) hgrow
          have kf1 := kf 1; clear kf
          have hhr : some EB ≠ (Value.slice ae k ke).ownBlock := fun q => HEB.out _ q.symm rfl
          have e0 := gcell hgrow hhr e0
          have e1 := gcell hgrow hhr e1
          have HE3 := Lib.hid (MRow.push HXS2.out HXC2.out (by rw [HLE.out]; exact hown) hgrow HROW2.out)
          have HP3 := Lib.hid (HO2.out.pushM HXS2.out HE3.out hgrow)
          have HB3 := Lib.hid (below_grown HY2.out (by have := HY2.out.size; have := HZW.out; omega) HXS2.out (Nat.le_refl _) hgrow)
          clear hown hgrow hat hxs k0 hrone
          refine hK.out _ _ ⟨e0, e1⟩ (fun hHeld => ?_)
          clear hK K
          try simp only [Act.put, List.setIfInBounds_toArray, List.set_cons_zero, List.set_cons_succ]
          refine tk6 (v := ?_) (by kernel_rfl) (by kernel_rfl) (by kernel_rfl) (by first | exact fun _ _ _ h => h | exact fun _ _ _ h => absurd h.1 (by simp)) (Or.inl ⟨by rfl, ?_⟩) (by assumption) ?_
          rotate_left 1
          focus (intro wx hSw; (try dsimp only at hSw); go_simp; try (with_reducible rfl))
          try simp only [Act.put, List.setIfInBounds_toArray, List.set_cons_zero, List.set_cons_succ]
          refine rd7 (by kernel_rfl) (fun K hK => ?_)
          go_simp
          have hne : ∀ i, (⟨O, 1, none⟩ : Addr) ≠ ⟨EB, i, none⟩ := fun i q => HOE.out (by injection q)
          have e0 := (World.cell?_setCell_other w3 _ _ (.slice (some ⟨g, 0, none⟩) (k + 1) kg) (hne 0)).trans e0
          have e1 := (World.cell?_setCell_other w3 _ _ (.slice (some ⟨g, 0, none⟩) (k + 1) kg) (hne 1)).trans e1
          refine hK.out _ _ ⟨e0, e1⟩ (fun hHeld => ?_)
          clear hK K
          try simp only [Act.put, List.setIfInBounds_toArray, List.set_cons_zero, List.set_cons_succ]
          refine wpAnyH_done (by kernel_rfl) ?_ _
          have HP4 : Hid (∃ vc ve, OutAt B O (w3.setCell ⟨O, 1, none⟩ (.slice (some ⟨g, 0, none⟩) (k + 1) kg)) vc ve cs (es ++ [((tn : Int), L)])) := ⟨_, _, HP3.out⟩
          have HB4 := Lib.hid (HB3.out.setCell (p := ⟨O, 1, none⟩) HBO.out (.slice (some ⟨g, 0, none⟩) (k + 1) kg))
          generalize w3.setCell ⟨O, 1, none⟩ (.slice (some ⟨g, 0, none⟩) (k + 1) kg) = w5 at HP4 HB4 e0 e1 ⊢
          go_wp2_with fail
          go_meet
          case rel =>
            exact ⟨HP4.out, HB4.out⟩
        refine AllReadyH.cons rfl (fun K hK => ?_) AllReadyH.nil
        go_simp
        have hb2 : Below w1.heap.size w1 (w1.alloc (.cells #[.int .i64 (tn : Int), vq] 46)) := (Below.refl _ _).alloc (Nat.le_refl _) _
        have HN2 := Lib.hid (World.news_of_block (cs := #[.int .i64 (tn : Int), vq]) (t := 46) (fr := (0, 0)) (heap_alloc_new w1 _))
        generalize w1.alloc (.cells #[.int .i64 (tn : Int), vq] 46) = w2 at hb2 HN2 ⊢
        have o1 := cell_carry o1 (Carries.of 0 hb2)
        have e0 := cell_carry e0 (Carries.of 0 hb2)
        have e1 := cell_carry e1 (Carries.of 0 hb2)
        have eT := eT.keep hb2
        have HO2 := Lib.hid (HO1.out.after hb2)
        have HY2 := Lib.hid (HY1.out.trans (hb2.mono (by have := HY1.out.size; have := HZW.out; omega)))
        have HROW2 := Lib.hid (owns_after HROW.out hb2)
        clear hb2
        refine hK.out _ _ ⟨e0, e1⟩ (fun hHeld => ?_)
        clear hK K
        try simp only [Act.put, List.setIfInBounds_toArray, List.set_cons_zero, List.set_cons_succ]
        refine rd1 (by kernel_rfl) (fun K hK => ?_)
        go_simp
        refine hK.out _ _ ⟨e0, e1⟩ (fun hHeld => ?_)
        clear hK K
        try simp only [Act.put, List.setIfInBounds_toArray, List.set_cons_zero, List.set_cons_succ]
        obtain ⟨xs, hxs, hxc⟩ := HO2.out.rm
        have HXC2 := Lib.hid hxc; clear hxc
        have HXS2 := Lib.hid hxs
        rw [HLE.out] at hxs
        have hrone : vq.oneCell' = true := by
          obtain ⟨aa, cc, rfl⟩ := owns_form HROW.out
          rfl
        refine rd5 (by kernel_rfl) (fun K hK => ?_)
        refine step_append_lies _ (by rfl) _ _ _ (by rfl) B 46 i0 _ 2 32 Tryz.underlying36 hi0 hz0 hz1 hz2 rfl (by omega) (.slice ae k ke) k xs (by rfl) hxs ⟨w1.heap.size, 0, none⟩ 1 1 [.int .i64 (tn : Int), vq] (by rfl) (by rfl) HN2.out (fun u hu => by simp only [List.mem_cons, List.not_mem_nil, or_false] at hu; rcases hu with h | h <;> rw [h] <;> first | rfl | exact hrone) (by omega) (by unfold maxLen; omega) (by omega) (by have := HY2.out.size; have := HZW.out; omega) w2.heap.size rfl ?_
        intro g kg w3 hown hgrow hat hlt3
        obtain ⟨⟨k0, k1⟩, kf, kT⟩ := HO2.out.mid HXS2.out (by decide) hgrow
        have kf1 := kf 1; clear kf
        have hhr : some EB ≠ (Value.slice ae k ke).ownBlock := fun q => HEB.out _ q.symm rfl
        have e0 := gcell hgrow hhr e0
        have e1 := gcell hgrow hhr e1
        have HE3 := Lib.hid (MRow.push HXS2.out HXC2.out (by rw [HLE.out]; exact hown) hgrow HROW2.out)
        have HP3 := Lib.hid (HO2.out.pushM HXS2.out HE3.out hgrow)
        have HB3 := Lib.hid (below_grown HY2.out (by have := HY2.out.size; have := HZW.out; omega) HXS2.out (Nat.le_refl _) hgrow)
        clear hown hgrow hat hxs k0 hrone
        refine hK.out _ _ ⟨e0, e1⟩ (fun hHeld => ?_)
        clear hK K
        try simp only [Act.put, List.setIfInBounds_toArray, List.set_cons_zero, List.set_cons_succ]
        refine tk6 (v := ?_) (by kernel_rfl) (by kernel_rfl) (by kernel_rfl) (by first | exact fun _ _ _ h => h | exact fun _ _ _ h => absurd h.1 (by simp)) (Or.inl ⟨by rfl, ?_⟩) (by assumption) ?_
        rotate_left 1
        focus (intro wx hSw; (try dsimp only at hSw); go_simp; try (with_reducible rfl))
        try simp only [Act.put, List.setIfInBounds_toArray, List.set_cons_zero, List.set_cons_succ]
        refine rd7 (by kernel_rfl) (fun K hK => ?_)
        go_simp
        have hne : ∀ i, (⟨O, 1, none⟩ : Addr) ≠ ⟨EB, i, none⟩ := fun i q => HOE.out (by injection q)
        have e0 := (World.cell?_setCell_other w3 _ _ (.slice (some ⟨g, 0, none⟩) (k + 1) kg) (hne 0)).trans e0
        have e1 := (World.cell?_setCell_other w3 _ _ (.slice (some ⟨g, 0, none⟩) (k + 1) kg) (hne 1)).trans e1
        refine hK.out _ _ ⟨e0, e1⟩ (fun hHeld => ?_)
        clear hK K
        try simp only [Act.put, List.setIfInBounds_toArray, List.set_cons_zero, List.set_cons_succ]
        refine wpAnyH_done (by kernel_rfl) ?_ _
        have HP4 : Hid (∃ vc ve, OutAt B O (w3.setCell ⟨O, 1, none⟩ (.slice (some ⟨g, 0, none⟩) (k + 1) kg)) vc ve cs (es ++ [((tn : Int), L)])) := ⟨_, _, HP3.out⟩
        have HB4 := Lib.hid (HB3.out.setCell (p := ⟨O, 1, none⟩) HBO.out (.slice (some ⟨g, 0, none⟩) (k + 1) kg))
        generalize w3.setCell ⟨O, 1, none⟩ (.slice (some ⟨g, 0, none⟩) (k + 1) kg) = w5 at HP4 HB4 e0 e1 ⊢
        go_wp2_with fail
        go_meet
        case rel =>
          exact ⟨HP4.out, HB4.out⟩
      case rest =>
        obtain ⟨hO6, hY6⟩ := hcut
        clear e0 e1 eT o1 HO HY
        obtain ⟨W6, hW6⟩ : ∃ x, x = wc := ⟨_, rfl⟩
        subst hW6
        have HO := Lib.hid hO6; have HY := Lib.hid hY6
        clear hO6 hY6
        have hWc : Below W.heap.size W W6 := by rw [← HZW.out]; exact HY.out
        have n1 := cell_carry HN1.out (Carries.of 0 hWc)
        have h0 := cell_carry HH0.out (Carries.of 0 hWc)
        rw [← HHE.out] at h0
        have d1 := cell_carry HD1.out (Carries.of 0 (HW0.out.trans (hWc.mono HW0.out.size)))
        clear hWc
        go_wp2_with fail
        clear n1 h0 d1
        go_loopw [47] (fun i wr => ∃ j : Nat, j ≤ npo ∧ i = .int .i64 j ∧ Hid (∃ vc ve, OutAt B O wr vc ve (cs ++ (madeBy n tn k).take j) (es ++ [((tn : Int), L)])) ∧ Hid (Below B W wr)) (fun i _ => npo - (intOf i).toNat)
        case atStart => exact ⟨0, Nat.zero_le _, rfl, by unfold Hid; simpa using HO.out, HY.out⟩
        case round =>
          obtain ⟨j, hj, rfl, hO, hYr⟩ := hrel
          by_cases hlt : j < npo
          · obtain ⟨vc7, ve7, hO7⟩ := hO.out
            have hltL : j < (postOf n (tn : Int)).length := by rw [← HNPO.out]; exact hlt
            have hmt := madeBy_take (ne := k) hltL
            obtain ⟨ao2, cap2, e0, hxa, hz⟩ := id HPO.out
            rw [← HNPO.out] at e0
            injection e0 with e1 e2 e3
            subst e1; subst e3
            clear e2 hxa
            rcases hz with h0 | ⟨b, off, rfl, hlo, hcell⟩
            · exact absurd hltL (by rw [h0]; exact Nat.not_lt_zero _)
            have hwr : Below w.heap.size w wr := HW0.out.trans (hYr.out.mono (by rw [HZW.out]; exact HW0.out.size))
            have hWr : Below W.heap.size W wr := by rw [← HZW.out]; exact hYr.out
            have d0 := Carries.of lo hwr _ _ hlo (hcell j hltL)
            have u1 := cell_carry HU1.out (Carries.of 0 hWr)
            clear hcell
            generalize (postOf n (tn : Int)).getD j 0 = c at d0 hmt
            have HMT := Lib.hid hmt; clear hmt
            have hlen : (cs ++ (madeBy n tn k).take j).length ≤ 1073741824 := by
              have := List.length_take_le j (madeBy n tn k)
              rw [List.length_append]
              omega
            obtain ⟨ac7, kc7, rfl⟩ := hO7.rc.form
            obtain ⟨nx, hnx⟩ : ∃ x, x = (cs ++ (madeBy n tn k).take j).length := ⟨_, rfl⟩
            rw [← hnx] at hO7
            have HNX := Lib.hid hnx; clear hnx
            have o0 := hO7.o0
            have hb8 : Below wr.heap.size wr (wr.alloc (.cells #[.int .i64 c, .int .i64 (k : Int)] 96)) := (Below.refl _ _).alloc (Nat.le_refl _) _
            have HO8 := Lib.hid (hO7.after hb8)
            have hBr : B ≤ wr.heap.size := by have := hYr.out.size; have := HZW.out; omega
            have HY8 := Lib.hid (hYr.out.trans (hb8.mono hBr))
            clear hO7 hO hb8 hwr hWr
            go_wp2_with (refine wpList_append_cnd rfl (.tmp 52) (.tmp 58) rfl B _ (cs ++ (madeBy n tn k).take j) rfl HO8.out.rc wr.heap.size c (k : Int) rfl (by simp) (by simp) hlen (by simp; omega) ?_; intro gv kv w9 hown hg; rw [← HNX.out] at hown ⊢; obtain ⟨⟨k0, k1⟩, kf, _⟩ := HO8.out.mid HO8.out.rc (by decide) hg; have kf0 := kf 0; clear kf; have HY9 := Lib.hid (below_grown HY8.out (by simp; omega) HO8.out.rc (Nat.le_refl _) hg); have HO9 := Lib.hid (HO8.out.pushC hown hg); clear hown hg o0 k1)
            have HP9 : Hid (∃ vc ve, OutAt B O (w9.setCell ⟨O, 0, none⟩ (.slice (some ⟨gv, 0, none⟩) (nx + 1) kv)) vc ve (cs ++ (madeBy n tn k).take (j + 1)) (es ++ [((tn : Int), L)])) := ⟨_, _, by rw [HMT.out, ← List.append_assoc]; exact HO9.out⟩
            have HZ9 := Lib.hid (HY9.out.setCell (p := ⟨O, 0, none⟩) HBO.out (.slice (some ⟨gv, 0, none⟩) (nx + 1) kv))
            go_roundw
            case rel => exact ⟨j + 1, by omega, by go_num, HP9, HZ9⟩
            case measure => first | (simp [intOf]; omega) | simp [intOf]
          · have hjj : j = npo := by omega
            subst hjj
            obtain ⟨vc7, ve7, hO7⟩ := hO.out
            have hml : (madeBy n tn k).length = j := by unfold madeBy; rw [List.length_map, ← HNPO.out]
            rw [List.take_of_length_le (by omega)] at hO7
            have hWr : Below W.heap.size W wr := by rw [← HZW.out]; exact hYr.out
            have hwr : Below w.heap.size w wr := HW0.out.trans (hWr.mono HW0.out.size)
            have r0 := cell_carry HR0.out (Carries.of 0 hWr)
            have r1 := cell_carry HR1.out (Carries.of 0 hWr)
            have rT := HRT.out.keep hWr
            have rf0 := (hWr.frozen (p := ⟨w.heap.size + 1 + 1 + 1, 0, none⟩) HRT.out.lt).trans (HRF.out 0)
            have rf1 := (hWr.frozen (p := ⟨w.heap.size + 1 + 1 + 1, 1, none⟩) HRT.out.lt).trans (HRF.out 1)
            rw [← HHE.out] at r0 r1 rT rf0 rf1
            obtain ⟨ac7, kc7, rfl⟩ := hO7.rc.form
            obtain ⟨ae7, ke7, rfl⟩ := hO7.rm.form
            have o0 := hO7.o0
            have o1 := hO7.o1
            have HRCC := Lib.hid (owns_setT (owns_setT hO7.rc (p := ⟨EB + 1, 0, none⟩) rT (by decide) (.slice ac7 (cs ++ madeBy n tn k).length kc7)) (p := ⟨EB + 1, 1, none⟩) (rT.set _ _) (by decide) (.slice ae7 (es ++ [((tn : Int), L)]).length ke7))
            have HRMM := Lib.hid ((hO7.rm.setT (p := ⟨EB + 1, 0, none⟩) rT (by decide) (by decide) (.slice ac7 (cs ++ madeBy n tn k).length kc7)).setT (p := ⟨EB + 1, 1, none⟩) (rT.set _ _) (by decide) (by decide) (.slice ae7 (es ++ [((tn : Int), L)]).length ke7))
            generalize hq0 : (cs ++ madeBy n tn k).length = q0 at o0 HRCC HRMM
            generalize hq1 : (es ++ [((tn : Int), L)]).length = q1 at o1 HRCC HRMM
            clear hO7 hO
            go_wp2_with fail
            refine bodyPost_ret (v := .agg #[.slice ac7 q0 kc7, .slice ae7 q1 ke7]) (by simp [results, Tryz.results29, go_sem, r0, r1]) rfl ?_
            have hz : w.heap.size ≤ EB + 1 := by rw [HHE.out]; omega
            have hBw : w.heap.size ≤ B := by rw [HZW.out, HZ.out]; omega
            subst hq0
            subst hq1
            exact ⟨_, rfl, ⟨_, _, rfl, CRow.at (ms := cs ++ madeBy n tn k) (Go.Joins.ownsRow_le HRCC.out hBw), HRMM.out.at.low hBw⟩, (hwr.setCell hz _).setCell hz _⟩

end Go.Proofs.YtigkgfdnnfmmmaaGreat
