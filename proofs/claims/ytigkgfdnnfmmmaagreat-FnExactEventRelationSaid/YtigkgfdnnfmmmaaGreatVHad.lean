/- WALK: add of the program (written by gen8/ghad.py). -/
import Derived.Test.YtigkgfdnnfmmmaaGreatVHpz
import Derived.Deep.AppendLies
import Derived.Deep.CutRange
import Derived.Deep.RegionHeld
namespace Go.Proofs.YtigkgfdnnfmmmaaGreat
open Go.RowKit

theorem Tryz.infoEv : (Tryz.prog.info? 46).map (fun i => (i.zero, i.size, i.bytes)) = some (some (.agg #[.int .i64 0, .slice none 0 0]), 2, 32) := by kernel_rfl

/-- behind a statement of add: the history at this stage, the event's box as it was -/
def AddE (B H Z : Nat) (w : World) (P : Int) (vt : Value) (cs : List Cnd) (es : List Ev) (ps us : List Nat) (tn : Nat) (vl : Value) (w' : World) : Prop :=
  (∃ vc ve vp vu, HisAt B H w' P vt vc ve vp vu cs es ps us) ∧ Below B w w' ∧ (w'.cell? ⟨Z, 0, none⟩ = some (.int .i64 (tn : Int)) ∧ w'.cell? ⟨Z, 1, none⟩ = some vl) ∧ TyAt w' Z 46

theorem gcell {w w' : World} {row : Option Nat} (hg : w.grownBy w' row) {a : Addr} {v : Value} (hr : some a.block ≠ row) (hc : w.cell? a = some v) : w'.cell? a = some v :=
  (World.cell?_of_block (hg.block a.block (cell_old hc) hr)).trans hc
theorem pow60 {ne : Nat} (h : ne ≤ 60) : (2 : Nat) ^ ne < 18446744073709551616 := by
  have h1 : (2 : Nat) ^ ne < 2 ^ 64 := Nat.pow_lt_pow_right (by decide) (by omega)
  omega
theorem shl_one {ne : Nat} (h : ne ≤ 60) : IntKind.u64.wrap ((2 : Int) ^ ne) = ((2 ^ ne : Nat) : Int) := by
  have h1 := pow60 h
  have h2 : ((2 ^ ne : Nat) : Int) = (2 : Int) ^ ne := by push_cast; rfl
  rw [IntKind.wrap_u64, ← h2]
  clear h2
  generalize (2 ^ ne : Nat) = z at h1 ⊢
  omega
theorem URow.snoc {B : Nat} {w : World} {v : Value} {l : List Nat} {n m : Nat} (hn : n = l.length) (h : w.ownsRow B 109 1 v (n + 1) (usCells l ++ [.int .u64 (m : Int)])) : URow B w v (l ++ [m]) := by
  subst hn
  show w.ownsRow B _ 1 _ (l ++ [m]).length (usCells (l ++ [m]))
  rw [usCells_append, List.length_append]
  exact h
theorem AddE.below {B H Z : Nat} {w : World} {P : Int} {vt : Value} {cs : List Cnd} {es : List Ev} {ps us : List Nat} {tn : Nat} {vl : Value} {w' w2 : World} (h : AddE B H Z w P vt cs es ps us tn vl w') (hB : B ≤ w.heap.size) (hb : Below w'.heap.size w' w2) : AddE B H Z w P vt cs es ps us tn vl w2 := by
  obtain ⟨⟨vc, ve, vp, vu, h1⟩, h2, ⟨h3, h4⟩, h5⟩ := h
  exact ⟨⟨vc, ve, vp, vu, h1.after hb⟩, h2.trans (hb.mono (Nat.le_trans hB h2.size)), ⟨cell_carry h3 (Carries.of 0 hb), cell_carry h4 (Carries.of 0 hb)⟩, h5.keep hb⟩
theorem madeBy_take {n : NetD} {t : Int} {ne k : Nat} (hk : k < (postOf n t).length) : (madeBy n t ne).take (k + 1) = (madeBy n t ne).take k ++ [((postOf n t).getD k 0, (ne : Int))] := by
  have hk2 : k < (madeBy n t ne).length := by unfold madeBy; rw [List.length_map]; exact hk
  rw [List.take_succ_eq_append_getElem hk2]
  unfold madeBy
  simp only [List.getD, List.getElem?_eq_getElem hk, Option.getD_some]
  first
    | exact congrArg (fun z => List.take k (List.map (fun p => (p, (ne : Int))) (postOf n t)) ++ [z]) (List.getElem_map _)
    | simp

set_option maxRecDepth 100000 in
set_option maxHeartbeats 4000000 in
theorem add_any (B H : Nat) (w0 w : World) (n : NetD) (vt vc ve vp vu : Value) (x : His) (tn : Nat) (v : Value) (L : List Int) (lo lon : Nat)
    (h : HisAt B H w n.places vt vc ve vp vu x.cs x.es x.ps x.us) (hB0 : w0.heap.size = B) (hb0 : Below B w0 w) (hn : NetAt lon w0 (.agg #[.int .i64 n.places, vt]) n) (hsm : SmallTrs n.ts) (hv : IntsAt lo w0 v L) (hl : L.length ≤ 1048576) (hok : HisOk n x.cs x.es x.ps x.us) (hcl : x.cs.length ≤ 1000000) (hes : x.es.length ≤ 60) (ht : tn < n.ts.length) (hpo : (postOf n (tn : Int)).length ≤ 30) (hin : ∀ k, k < L.length → 0 ≤ L.getD k 0 ∧ L.getD k 0 < (x.cs.length : Int)) :
    Calls Tryz.prog 36 #[.pointer (some ⟨H, 0, none⟩), .agg #[.int .i64 (tn : Int), v]] w (fun e w' => e = .returned (.tuple #[]) ∧ (∃ vc' ve' vp' vu', HisAt B H w' n.places vt vc' ve' vp' vu' (hisAdd n x tn L).cs (hisAdd n x tn L).es (hisAdd n x tn L).ps (hisAdd n x tn L).us) ∧ Below B w w') := by
  obtain ⟨cs, es, ps, us⟩ := x
  simp only at h hok hcl hes hin
  have hBw : B ≤ w.heap.size := by have := hb0.size; omega
  have HH := Lib.hid h
  have HOK := Lib.hid hok; clear hok
  have HIN := Lib.hid hin; clear hin
  have HB0 := Lib.hid hb0; clear hb0
  have c3 := h.c3
  obtain ⟨i0, hi0, hz0, hz1, hz2⟩ := info_parts Tryz.infoEv
  obtain ⟨ae, ke, rfl⟩ := h.re.form
  have hHlt := h.ty.lt
  have hBH := h.bH
  have hael := fun b hb => h.re.lt (b := b) hb
  have HAEL := Lib.hid hael
  clear h hael
  have HV := Lib.hid hv
  obtain ⟨ao, cap, rfl, hxa, hxb⟩ := hv
  clear hxa hxb
  have HN := Lib.hid hn; clear hn
  have HSM := Lib.hid hsm; clear hsm
  obtain ⟨nl, hnl⟩ : ∃ x, x = L.length := ⟨_, rfl⟩
  obtain ⟨ne, hne⟩ : ∃ x, x = es.length := ⟨_, rfl⟩
  rw [← hnl] at HV hl ⊢
  rw [← hne] at c3 HH hes HAEL
  have HNL := Lib.hid hnl; have HNE := Lib.hid hne
  clear hnl hne
  have HA : Below w.heap.size w (w.alloc (.cells #[.int .i64 (tn : Int), .slice ao nl cap] 46)) := (Below.refl _ _).alloc (Nat.le_refl _) _
  have HH0 := Lib.hid (HH.out.after HA)
  have c3 := cell_carry c3 (Carries.of 0 HA)
  have b0 : (w.alloc (.cells #[.int .i64 (tn : Int), .slice ao nl cap] 46)).cell? ⟨w.heap.size, 0, none⟩ = some (.int .i64 (tn : Int)) := (cell_new2 rfl).1
  have b1 : (w.alloc (.cells #[.int .i64 (tn : Int), .slice ao nl cap] 46)).cell? ⟨w.heap.size, 1, none⟩ = some (.slice ao nl cap) := (cell_new2 rfl).2
  have bT : TyAt (w.alloc (.cells #[.int .i64 (tn : Int), .slice ao nl cap] 46)) w.heap.size 46 := TyAt.new _ _ _
  go_enter Tryz.func36, Tryz.ntmps36
  go_upto_region 2 with fail
  obtain ⟨W0, hW0⟩ : ∃ x, x = w.alloc (.cells #[.int .i64 (tn : Int), .slice ao nl cap] 46) := ⟨_, rfl⟩
  have zW0 : W0.heap.size = w.heap.size + 1 := by rw [hW0]; simp
  rw [← hW0] at HA HH0 c3 b0 b1 bT ⊢
  clear hW0
  have HZ0 := Lib.hid zW0; clear zW0
  have HW0 := Lib.hid (HB0.out.trans (HA.mono hBw))
  have HWB := Lib.hid (HA.mono hBw)
  go_cut [] from 15 to 31 (fun wx => AddE B H w.heap.size w n.places vt cs (es ++ [((tn : Int), L)]) ps us tn (.slice ao nl cap) wx)
  case first =>
    refine wp_region_held_drew (S := fun w' => w'.cell? ⟨w.heap.size, 0, none⟩ = some (.int .i64 (tn : Int)) ∧ w'.cell? ⟨w.heap.size, 1, none⟩ = some (.slice ao nl cap)) (by kernel_rfl) ⟨b0, b1⟩ (fun hHeld => ?_)
    refine tk0 (v := ?_) (by kernel_rfl) (by kernel_rfl) (by kernel_rfl) (by first | exact fun _ _ _ h => h | exact fun _ _ _ h => absurd h.1 (by simp)) (Or.inl ⟨by rfl, ?_⟩) (by assumption) ?_
    rotate_left 1
    focus (intro wx hSw; (try dsimp only at hSw); go_simp; try (with_reducible rfl))
    try simp only [Act.put, List.setIfInBounds_toArray, List.set_cons_zero, List.set_cons_succ]
    refine tk1 (v := ?_) (by kernel_rfl) (by kernel_rfl) (by kernel_rfl) (by first | exact fun _ _ _ h => h | exact fun _ _ _ h => absurd h.1 (by simp)) (Or.inl ⟨by rfl, ?_⟩) (by assumption) ?_
    rotate_left 1
    focus (intro wx hSw; (try dsimp only at hSw); go_simp; try (with_reducible rfl))
    try simp only [Act.put, List.setIfInBounds_toArray, List.set_cons_zero, List.set_cons_succ]
    refine tk2 (v := ?_) (by kernel_rfl) (by kernel_rfl) (by kernel_rfl) (by first | exact fun _ _ _ h => h | exact fun _ _ _ h => absurd h.1 (by simp)) (Or.inl ⟨by rfl, ?_⟩) (by assumption) ?_
    rotate_left 1
    focus (intro wx hSw; (try dsimp only at hSw); go_simp; try (with_reducible rfl))
    try simp only [Act.put, List.setIfInBounds_toArray, List.set_cons_zero, List.set_cons_succ]
    refine tk3 (v := ?_) (by kernel_rfl) (by kernel_rfl) (by kernel_rfl) (by first | exact fun _ _ _ h => h | exact fun _ _ _ h => absurd h.1 (by simp)) (Or.inl ⟨by rfl, ?_⟩) (by assumption) ?_
    rotate_left 1
    focus (intro wx hSw; (try dsimp only at hSw); go_simp; try (with_reducible rfl))
    try simp only [Act.put, List.setIfInBounds_toArray, List.set_cons_zero, List.set_cons_succ]
    refine tk4 (v := ?_) (by kernel_rfl) (by kernel_rfl) (by kernel_rfl) (by first | exact fun _ _ _ h => h | exact fun _ _ _ h => absurd h.1 (by simp)) (Or.inl ⟨by rfl, ?_⟩) (by assumption) ?_
    rotate_left 1
    focus (intro wx hSw; (try dsimp only at hSw); go_simp; try (with_reducible rfl))
    try simp only [Act.put, List.setIfInBounds_toArray, List.set_cons_zero, List.set_cons_succ]
    refine tk6 (v := ?_) (by kernel_rfl) (by kernel_rfl) (by kernel_rfl) (by first | exact fun _ _ _ h => h | exact fun _ _ _ h => absurd h.1 (by simp)) (Or.inl ⟨by rfl, ?_⟩) (by assumption) ?_
    rotate_left 1
    focus (intro wx hSw; (try dsimp only at hSw); go_simp; try (with_reducible rfl))
    try simp only [Act.put, List.setIfInBounds_toArray, List.set_cons_zero, List.set_cons_succ]
    refine tk7 (v := ?_) (by kernel_rfl) (by kernel_rfl) (by kernel_rfl) (by first | exact fun _ _ _ h => h | exact fun _ _ _ h => absurd h.1 (by simp)) (Or.inl ⟨by rfl, ?_⟩) (by assumption) ?_
    rotate_left 1
    focus (intro wx hSw; (try dsimp only at hSw); go_simp; try (with_reducible rfl))
    try simp only [Act.put, List.setIfInBounds_toArray, List.set_cons_zero, List.set_cons_succ]
    refine tk8 (v := ?_) (by kernel_rfl) (by kernel_rfl) (by kernel_rfl) (by first | exact fun _ _ _ h => h | exact fun _ _ _ h => absurd h.1 (by simp)) (Or.inl ⟨by rfl, ?_⟩) (by assumption) ?_
    rotate_left 1
    focus (intro wx hSw; (try dsimp only at hSw); go_simp; try (with_reducible rfl))
    try simp only [Act.put, List.setIfInBounds_toArray, List.set_cons_zero, List.set_cons_succ]
    refine tk9 (v := ?_) (by kernel_rfl) (by kernel_rfl) (by kernel_rfl) (by first | exact fun _ _ _ h => h | exact fun _ _ _ h => absurd h.1 (by simp)) (Or.inl ⟨by rfl, ?_⟩) (by assumption) ?_
    rotate_left 1
    focus (intro wx hSw; (try dsimp only at hSw); go_simp; try (with_reducible rfl))
    try simp only [Act.put, List.setIfInBounds_toArray, List.set_cons_zero, List.set_cons_succ]
    refine wpAnyH_ready (rs := [5, 10]) (by kernel_rfl) (by simp) ?_
    refine AllReadyH.cons rfl (fun K hK => ?_) ?_
    · go_simp
      refine hK.out _ _ ⟨hHeld.1, hHeld.2⟩ (fun hHeld => ?_)
      clear hK K
      try simp only [Act.put, List.setIfInBounds_toArray, List.set_cons_zero, List.set_cons_succ]
      refine rd10 (by kernel_rfl) (fun K hK => ?_)
      go_simp
      refine (copyInts_row _ L W0.drew lo (HV.out.keep (Carries.of lo (by rw [hB0]; exact HW0.out.drew))) (by rw [← HNL.out]; exact hl)).mono ?_
      rintro e w1 ⟨rfl, hrow, hb1⟩
      have hb1 : Below W0.heap.size W0 w1 := Below.trans (b := W0.drew) (Below.refl _ _).drew (hb1.mono (by simp))
      have hrow : w1.rowIs W0.heap.size 3 L.length (fun j => .int .i64 (L.getD j 0)) := by simpa using hrow
      have HROW := Lib.hid hrow; clear hrow
      have z1 : W0.heap.size < w1.heap.size := HROW.out.lt
      have c3 := cell_carry c3 (Carries.of 0 hb1)
      have b0 := cell_carry b0 (Carries.of 0 hb1)
      have b1 := cell_carry b1 (Carries.of 0 hb1)
      have bT := bT.keep hb1
      have HH1 := Lib.hid (HH0.out.after hb1)
      have HBB1 := Lib.hid hb1
      have HW1 := Lib.hid (HWB.out.trans (hb1.mono (by have := HZ0.out; omega)))
      rw [← HNL.out]
      have ed : W0.drew.heap.size = W0.heap.size := rfl
      simp only [ed]
      clear ed
      clear hb1
      refine hK.out _ _ ⟨b0, b1⟩ (fun hHeld => ?_)
      clear hK K
      try simp only [Act.put, List.setIfInBounds_toArray, List.set_cons_zero, List.set_cons_succ]
      refine tk11 (v := ?_) (by kernel_rfl) (by kernel_rfl) (by kernel_rfl) (by first | exact fun _ _ _ h => h | exact fun _ _ _ h => absurd h.1 (by simp)) (Or.inl ⟨by rfl, ?_⟩) (by assumption) ?_
      rotate_left 1
      focus (intro wx hSw; (try dsimp only at hSw); go_simp; try (with_reducible rfl))
      try simp only [Act.put, List.setIfInBounds_toArray, List.set_cons_zero, List.set_cons_succ]
      refine rd12 (by kernel_rfl) (fun K hK => ?_)
      go_simp
      have hb2 : Below w1.heap.size w1 (w1.alloc (.cells #[.int .i64 (tn : Int), .slice (some ⟨W0.heap.size, 0, none⟩) nl nl] 46)) := (Below.refl _ _).alloc (Nat.le_refl _) _
      have HN2 := Lib.hid (World.news_of_block (cs := #[.int .i64 (tn : Int), .slice (some ⟨W0.heap.size, 0, none⟩) nl nl]) (t := 46) (fr := (0, 0)) (heap_alloc_new w1 _))
      have z2 : (w1.alloc (.cells #[.int .i64 (tn : Int), .slice (some ⟨W0.heap.size, 0, none⟩) nl nl] 46)).heap.size = w1.heap.size + 1 := by simp
      generalize w1.alloc (.cells #[.int .i64 (tn : Int), .slice (some ⟨W0.heap.size, 0, none⟩) nl nl] 46) = w2 at hb2 HN2 z2 ⊢
      have c3 := cell_carry c3 (Carries.of 0 hb2)
      have b0 := cell_carry b0 (Carries.of 0 hb2)
      have b1 := cell_carry b1 (Carries.of 0 hb2)
      have bT := bT.keep hb2
      have HH2 := Lib.hid (HH1.out.after hb2)
      have HB02 := Lib.hid (HBB1.out.trans (hb2.mono HBB1.out.size))
      have HW2 := Lib.hid (HW1.out.trans (hb2.mono (by have := HZ0.out; omega)))
      have HROW2 := Lib.hid (HROW.out.of_block (hb2.block _ HROW.out.lt))
      clear hb2
      refine hK.out _ _ ⟨b0, b1⟩ (fun hHeld => ?_)
      clear hK K
      try simp only [Act.put, List.setIfInBounds_toArray, List.set_cons_zero, List.set_cons_succ]
      obtain ⟨xs, hxs, hxc, hfr⟩ := HH0.out.re.at2 HB02.out
      have HFR := Lib.hid hfr; clear hfr
      have hhr : some w.heap.size ≠ (Value.slice ae ne ke).ownBlock := fun q => absurd (HAEL.out _ q.symm) (by omega)
      have HXC2 := Lib.hid hxc; clear hxc
      have HXS2 := Lib.hid hxs
      rw [← HNE.out] at hxs
      refine rd13 (by kernel_rfl) (fun K hK => ?_)
      refine step_append_lies _ (by rfl) _ _ _ (by rfl) B 46 i0 _ 2 32 Tryz.underlying36 hi0 hz0 hz1 hz2 rfl (by omega) (.slice ae ne ke) ne xs (by rfl) hxs ⟨w1.heap.size, 0, none⟩ 1 1 [.int .i64 (tn : Int), .slice (some ⟨W0.heap.size, 0, none⟩) nl nl] (by rfl) (by rfl) HN2.out (by simp [Value.oneCell']) (by omega) (by unfold maxLen; omega) (by omega) (by have := HZ0.out; omega) w2.heap.size rfl ?_
      intro g kg w3 hown hgrow hat hlt3
      obtain ⟨⟨k0, k1, k2, k3, k4, k5⟩, kf, kT⟩ := HH2.out.mid HXS2.out (by decide) hgrow
      have kf3 := kf 3; clear kf
      have b0 := gcell hgrow hhr b0
      have b1 := gcell hgrow hhr b1
      have bT := bT.grown hgrow hhr
      have HE3 := Lib.hid (ERow.push (q := W0.heap.size) HXS2.out HXC2.out (by rw [← HNE.out, ← HNL.out]; exact hown) hgrow HROW2.out (by have := HZ0.out; omega) HFR.out)
      have HP3 := Lib.hid (HH2.out.pushE HXS2.out HE3.out hgrow)
      have HB3 := Lib.hid (below_grown HW2.out (by have := HZ0.out; omega) HXS2.out (Nat.le_refl _) hgrow)
      clear hown hgrow hat hxs k0 k1 k2 k4 k5
      refine hK.out _ _ ⟨b0, b1⟩ (fun hHeld => ?_)
      clear hK K
      try simp only [Act.put, List.setIfInBounds_toArray, List.set_cons_zero, List.set_cons_succ]
      refine tk14 (v := ?_) (by kernel_rfl) (by kernel_rfl) (by kernel_rfl) (by first | exact fun _ _ _ h => h | exact fun _ _ _ h => absurd h.1 (by simp)) (Or.inl ⟨by rfl, ?_⟩) (by assumption) ?_
      rotate_left 1
      focus (intro wx hSw; (try dsimp only at hSw); go_simp; try (with_reducible rfl))
      try simp only [Act.put, List.setIfInBounds_toArray, List.set_cons_zero, List.set_cons_succ]
      refine tk15 (v := ?_) (by kernel_rfl) (by kernel_rfl) (by kernel_rfl) (by first | exact fun _ _ _ h => h | exact fun _ _ _ h => absurd h.1 (by simp)) (Or.inl ⟨by rfl, ?_⟩) (by assumption) ?_
      rotate_left 1
      focus (intro wx hSw; (try dsimp only at hSw); go_simp; try (with_reducible rfl))
      try simp only [Act.put, List.setIfInBounds_toArray, List.set_cons_zero, List.set_cons_succ]
      refine tk16 (v := ?_) (by kernel_rfl) (by kernel_rfl) (by kernel_rfl) (by first | exact fun _ _ _ h => h | exact fun _ _ _ h => absurd h.1 (by simp)) (Or.inl ⟨by rfl, ?_⟩) (by assumption) ?_
      rotate_left 1
      focus (intro wx hSw; (try dsimp only at hSw); go_simp; try (with_reducible rfl))
      try simp only [Act.put, List.setIfInBounds_toArray, List.set_cons_zero, List.set_cons_succ]
      refine rd17 (by kernel_rfl) (fun K hK => ?_)
      go_simp
      have hne : ∀ i, (⟨H, 3, none⟩ : Addr) ≠ ⟨w.heap.size, i, none⟩ := fun i q => by injection q with q1; omega
      have b0 := (World.cell?_setCell_other w3 _ _ (.slice (some ⟨g, 0, none⟩) (ne + 1) kg) (hne 0)).trans b0
      have b1 := (World.cell?_setCell_other w3 _ _ (.slice (some ⟨g, 0, none⟩) (ne + 1) kg) (hne 1)).trans b1
      refine hK.out _ _ ⟨b0, b1⟩ (fun hHeld => ?_)
      clear hK K
      try simp only [Act.put, List.setIfInBounds_toArray, List.set_cons_zero, List.set_cons_succ]
      refine wpAnyH_done (by kernel_rfl) ?_ _
      go_wp2_with fail
      go_meet
      case rel =>
        exact ⟨⟨_, _, _, _, HP3.out⟩, HB3.out.setCell (p := ⟨H, 3, none⟩) hBH _, ⟨b0, b1⟩, bT.set _ _⟩
    refine AllReadyH.cons rfl (fun K hK => ?_) AllReadyH.nil
    go_simp
    refine (copyInts_row _ L W0.drew lo (HV.out.keep (Carries.of lo (by rw [hB0]; exact HW0.out.drew))) (by rw [← HNL.out]; exact hl)).mono ?_
    rintro e w1 ⟨rfl, hrow, hb1⟩
    have hb1 : Below W0.heap.size W0 w1 := Below.trans (b := W0.drew) (Below.refl _ _).drew (hb1.mono (by simp))
    have hrow : w1.rowIs W0.heap.size 3 L.length (fun j => .int .i64 (L.getD j 0)) := by simpa using hrow
    have HROW := Lib.hid hrow; clear hrow
    have z1 : W0.heap.size < w1.heap.size := HROW.out.lt
    have c3 := cell_carry c3 (Carries.of 0 hb1)
    have b0 := cell_carry b0 (Carries.of 0 hb1)
    have b1 := cell_carry b1 (Carries.of 0 hb1)
    have bT := bT.keep hb1
    have HH1 := Lib.hid (HH0.out.after hb1)
    have HBB1 := Lib.hid hb1
    have HW1 := Lib.hid (HWB.out.trans (hb1.mono (by have := HZ0.out; omega)))
    rw [← HNL.out]
    have ed : W0.drew.heap.size = W0.heap.size := rfl
    simp only [ed]
    clear ed
    clear hb1
    refine hK.out _ _ ⟨b0, b1⟩ (fun hHeld => ?_)
    clear hK K
    try simp only [Act.put, List.setIfInBounds_toArray, List.set_cons_zero, List.set_cons_succ]
    refine tk11 (v := ?_) (by kernel_rfl) (by kernel_rfl) (by kernel_rfl) (by first | exact fun _ _ _ h => h | exact fun _ _ _ h => absurd h.1 (by simp)) (Or.inl ⟨by rfl, ?_⟩) (by assumption) ?_
    rotate_left 1
    focus (intro wx hSw; (try dsimp only at hSw); go_simp; try (with_reducible rfl))
    try simp only [Act.put, List.setIfInBounds_toArray, List.set_cons_zero, List.set_cons_succ]
    refine wpAnyH_ready (rs := [5, 12]) (by kernel_rfl) (by simp) ?_
    refine AllReadyH.cons rfl (fun K hK => ?_) ?_
    · go_simp
      refine hK.out _ _ ⟨b0, b1⟩ (fun hHeld => ?_)
      clear hK K
      try simp only [Act.put, List.setIfInBounds_toArray, List.set_cons_zero, List.set_cons_succ]
      refine rd12 (by kernel_rfl) (fun K hK => ?_)
      go_simp
      have hb2 : Below w1.heap.size w1 (w1.alloc (.cells #[.int .i64 (tn : Int), .slice (some ⟨W0.heap.size, 0, none⟩) nl nl] 46)) := (Below.refl _ _).alloc (Nat.le_refl _) _
      have HN2 := Lib.hid (World.news_of_block (cs := #[.int .i64 (tn : Int), .slice (some ⟨W0.heap.size, 0, none⟩) nl nl]) (t := 46) (fr := (0, 0)) (heap_alloc_new w1 _))
      have z2 : (w1.alloc (.cells #[.int .i64 (tn : Int), .slice (some ⟨W0.heap.size, 0, none⟩) nl nl] 46)).heap.size = w1.heap.size + 1 := by simp
      generalize w1.alloc (.cells #[.int .i64 (tn : Int), .slice (some ⟨W0.heap.size, 0, none⟩) nl nl] 46) = w2 at hb2 HN2 z2 ⊢
      have c3 := cell_carry c3 (Carries.of 0 hb2)
      have b0 := cell_carry b0 (Carries.of 0 hb2)
      have b1 := cell_carry b1 (Carries.of 0 hb2)
      have bT := bT.keep hb2
      have HH2 := Lib.hid (HH1.out.after hb2)
      have HB02 := Lib.hid (HBB1.out.trans (hb2.mono HBB1.out.size))
      have HW2 := Lib.hid (HW1.out.trans (hb2.mono (by have := HZ0.out; omega)))
      have HROW2 := Lib.hid (HROW.out.of_block (hb2.block _ HROW.out.lt))
      clear hb2
      refine hK.out _ _ ⟨b0, b1⟩ (fun hHeld => ?_)
      clear hK K
      try simp only [Act.put, List.setIfInBounds_toArray, List.set_cons_zero, List.set_cons_succ]
      obtain ⟨xs, hxs, hxc, hfr⟩ := HH0.out.re.at2 HB02.out
      have HFR := Lib.hid hfr; clear hfr
      have hhr : some w.heap.size ≠ (Value.slice ae ne ke).ownBlock := fun q => absurd (HAEL.out _ q.symm) (by omega)
      have HXC2 := Lib.hid hxc; clear hxc
      have HXS2 := Lib.hid hxs
      rw [← HNE.out] at hxs
      refine rd13 (by kernel_rfl) (fun K hK => ?_)
      refine step_append_lies _ (by rfl) _ _ _ (by rfl) B 46 i0 _ 2 32 Tryz.underlying36 hi0 hz0 hz1 hz2 rfl (by omega) (.slice ae ne ke) ne xs (by rfl) hxs ⟨w1.heap.size, 0, none⟩ 1 1 [.int .i64 (tn : Int), .slice (some ⟨W0.heap.size, 0, none⟩) nl nl] (by rfl) (by rfl) HN2.out (by simp [Value.oneCell']) (by omega) (by unfold maxLen; omega) (by omega) (by have := HZ0.out; omega) w2.heap.size rfl ?_
      intro g kg w3 hown hgrow hat hlt3
      obtain ⟨⟨k0, k1, k2, k3, k4, k5⟩, kf, kT⟩ := HH2.out.mid HXS2.out (by decide) hgrow
      have kf3 := kf 3; clear kf
      have b0 := gcell hgrow hhr b0
      have b1 := gcell hgrow hhr b1
      have bT := bT.grown hgrow hhr
      have HE3 := Lib.hid (ERow.push (q := W0.heap.size) HXS2.out HXC2.out (by rw [← HNE.out, ← HNL.out]; exact hown) hgrow HROW2.out (by have := HZ0.out; omega) HFR.out)
      have HP3 := Lib.hid (HH2.out.pushE HXS2.out HE3.out hgrow)
      have HB3 := Lib.hid (below_grown HW2.out (by have := HZ0.out; omega) HXS2.out (Nat.le_refl _) hgrow)
      clear hown hgrow hat hxs k0 k1 k2 k4 k5
      refine hK.out _ _ ⟨b0, b1⟩ (fun hHeld => ?_)
      clear hK K
      try simp only [Act.put, List.setIfInBounds_toArray, List.set_cons_zero, List.set_cons_succ]
      refine tk14 (v := ?_) (by kernel_rfl) (by kernel_rfl) (by kernel_rfl) (by first | exact fun _ _ _ h => h | exact fun _ _ _ h => absurd h.1 (by simp)) (Or.inl ⟨by rfl, ?_⟩) (by assumption) ?_
      rotate_left 1
      focus (intro wx hSw; (try dsimp only at hSw); go_simp; try (with_reducible rfl))
      try simp only [Act.put, List.setIfInBounds_toArray, List.set_cons_zero, List.set_cons_succ]
      refine tk15 (v := ?_) (by kernel_rfl) (by kernel_rfl) (by kernel_rfl) (by first | exact fun _ _ _ h => h | exact fun _ _ _ h => absurd h.1 (by simp)) (Or.inl ⟨by rfl, ?_⟩) (by assumption) ?_
      rotate_left 1
      focus (intro wx hSw; (try dsimp only at hSw); go_simp; try (with_reducible rfl))
      try simp only [Act.put, List.setIfInBounds_toArray, List.set_cons_zero, List.set_cons_succ]
      refine tk16 (v := ?_) (by kernel_rfl) (by kernel_rfl) (by kernel_rfl) (by first | exact fun _ _ _ h => h | exact fun _ _ _ h => absurd h.1 (by simp)) (Or.inl ⟨by rfl, ?_⟩) (by assumption) ?_
      rotate_left 1
      focus (intro wx hSw; (try dsimp only at hSw); go_simp; try (with_reducible rfl))
      try simp only [Act.put, List.setIfInBounds_toArray, List.set_cons_zero, List.set_cons_succ]
      refine rd17 (by kernel_rfl) (fun K hK => ?_)
      go_simp
      have hne : ∀ i, (⟨H, 3, none⟩ : Addr) ≠ ⟨w.heap.size, i, none⟩ := fun i q => by injection q with q1; omega
      have b0 := (World.cell?_setCell_other w3 _ _ (.slice (some ⟨g, 0, none⟩) (ne + 1) kg) (hne 0)).trans b0
      have b1 := (World.cell?_setCell_other w3 _ _ (.slice (some ⟨g, 0, none⟩) (ne + 1) kg) (hne 1)).trans b1
      refine hK.out _ _ ⟨b0, b1⟩ (fun hHeld => ?_)
      clear hK K
      try simp only [Act.put, List.setIfInBounds_toArray, List.set_cons_zero, List.set_cons_succ]
      refine wpAnyH_done (by kernel_rfl) ?_ _
      go_wp2_with fail
      go_meet
      case rel =>
        exact ⟨⟨_, _, _, _, HP3.out⟩, HB3.out.setCell (p := ⟨H, 3, none⟩) hBH _, ⟨b0, b1⟩, bT.set _ _⟩
    refine AllReadyH.cons rfl (fun K hK => ?_) AllReadyH.nil
    go_simp
    have hb2 : Below w1.heap.size w1 (w1.alloc (.cells #[.int .i64 (tn : Int), .slice (some ⟨W0.heap.size, 0, none⟩) nl nl] 46)) := (Below.refl _ _).alloc (Nat.le_refl _) _
    have HN2 := Lib.hid (World.news_of_block (cs := #[.int .i64 (tn : Int), .slice (some ⟨W0.heap.size, 0, none⟩) nl nl]) (t := 46) (fr := (0, 0)) (heap_alloc_new w1 _))
    have z2 : (w1.alloc (.cells #[.int .i64 (tn : Int), .slice (some ⟨W0.heap.size, 0, none⟩) nl nl] 46)).heap.size = w1.heap.size + 1 := by simp
    generalize w1.alloc (.cells #[.int .i64 (tn : Int), .slice (some ⟨W0.heap.size, 0, none⟩) nl nl] 46) = w2 at hb2 HN2 z2 ⊢
    have c3 := cell_carry c3 (Carries.of 0 hb2)
    have b0 := cell_carry b0 (Carries.of 0 hb2)
    have b1 := cell_carry b1 (Carries.of 0 hb2)
    have bT := bT.keep hb2
    have HH2 := Lib.hid (HH1.out.after hb2)
    have HB02 := Lib.hid (HBB1.out.trans (hb2.mono HBB1.out.size))
    have HW2 := Lib.hid (HW1.out.trans (hb2.mono (by have := HZ0.out; omega)))
    have HROW2 := Lib.hid (HROW.out.of_block (hb2.block _ HROW.out.lt))
    clear hb2
    refine hK.out _ _ ⟨b0, b1⟩ (fun hHeld => ?_)
    clear hK K
    try simp only [Act.put, List.setIfInBounds_toArray, List.set_cons_zero, List.set_cons_succ]
    refine rd5 (by kernel_rfl) (fun K hK => ?_)
    go_simp
    refine hK.out _ _ ⟨b0, b1⟩ (fun hHeld => ?_)
    clear hK K
    try simp only [Act.put, List.setIfInBounds_toArray, List.set_cons_zero, List.set_cons_succ]
    obtain ⟨xs, hxs, hxc, hfr⟩ := HH0.out.re.at2 HB02.out
    have HFR := Lib.hid hfr; clear hfr
    have hhr : some w.heap.size ≠ (Value.slice ae ne ke).ownBlock := fun q => absurd (HAEL.out _ q.symm) (by omega)
    have HXC2 := Lib.hid hxc; clear hxc
    have HXS2 := Lib.hid hxs
    rw [← HNE.out] at hxs
    refine rd13 (by kernel_rfl) (fun K hK => ?_)
    refine step_append_lies _ (by rfl) _ _ _ (by rfl) B 46 i0 _ 2 32 Tryz.underlying36 hi0 hz0 hz1 hz2 rfl (by omega) (.slice ae ne ke) ne xs (by rfl) hxs ⟨w1.heap.size, 0, none⟩ 1 1 [.int .i64 (tn : Int), .slice (some ⟨W0.heap.size, 0, none⟩) nl nl] (by rfl) (by rfl) HN2.out (by simp [Value.oneCell']) (by omega) (by unfold maxLen; omega) (by omega) (by have := HZ0.out; omega) w2.heap.size rfl ?_
    intro g kg w3 hown hgrow hat hlt3
    obtain ⟨⟨k0, k1, k2, k3, k4, k5⟩, kf, kT⟩ := HH2.out.mid HXS2.out (by decide) hgrow
    have kf3 := kf 3; clear kf
    have b0 := gcell hgrow hhr b0
    have b1 := gcell hgrow hhr b1
    have bT := bT.grown hgrow hhr
    have HE3 := Lib.hid (ERow.push (q := W0.heap.size) HXS2.out HXC2.out (by rw [← HNE.out, ← HNL.out]; exact hown) hgrow HROW2.out (by have := HZ0.out; omega) HFR.out)
    have HP3 := Lib.hid (HH2.out.pushE HXS2.out HE3.out hgrow)
    have HB3 := Lib.hid (below_grown HW2.out (by have := HZ0.out; omega) HXS2.out (Nat.le_refl _) hgrow)
    clear hown hgrow hat hxs k0 k1 k2 k4 k5
    refine hK.out _ _ ⟨b0, b1⟩ (fun hHeld => ?_)
    clear hK K
    try simp only [Act.put, List.setIfInBounds_toArray, List.set_cons_zero, List.set_cons_succ]
    refine tk14 (v := ?_) (by kernel_rfl) (by kernel_rfl) (by kernel_rfl) (by first | exact fun _ _ _ h => h | exact fun _ _ _ h => absurd h.1 (by simp)) (Or.inl ⟨by rfl, ?_⟩) (by assumption) ?_
    rotate_left 1
    focus (intro wx hSw; (try dsimp only at hSw); go_simp; try (with_reducible rfl))
    try simp only [Act.put, List.setIfInBounds_toArray, List.set_cons_zero, List.set_cons_succ]
    refine tk15 (v := ?_) (by kernel_rfl) (by kernel_rfl) (by kernel_rfl) (by first | exact fun _ _ _ h => h | exact fun _ _ _ h => absurd h.1 (by simp)) (Or.inl ⟨by rfl, ?_⟩) (by assumption) ?_
    rotate_left 1
    focus (intro wx hSw; (try dsimp only at hSw); go_simp; try (with_reducible rfl))
    try simp only [Act.put, List.setIfInBounds_toArray, List.set_cons_zero, List.set_cons_succ]
    refine tk16 (v := ?_) (by kernel_rfl) (by kernel_rfl) (by kernel_rfl) (by first | exact fun _ _ _ h => h | exact fun _ _ _ h => absurd h.1 (by simp)) (Or.inl ⟨by rfl, ?_⟩) (by assumption) ?_
    rotate_left 1
    focus (intro wx hSw; (try dsimp only at hSw); go_simp; try (with_reducible rfl))
    try simp only [Act.put, List.setIfInBounds_toArray, List.set_cons_zero, List.set_cons_succ]
    refine rd17 (by kernel_rfl) (fun K hK => ?_)
    go_simp
    have hne : ∀ i, (⟨H, 3, none⟩ : Addr) ≠ ⟨w.heap.size, i, none⟩ := fun i q => by injection q with q1; omega
    have b0 := (World.cell?_setCell_other w3 _ _ (.slice (some ⟨g, 0, none⟩) (ne + 1) kg) (hne 0)).trans b0
    have b1 := (World.cell?_setCell_other w3 _ _ (.slice (some ⟨g, 0, none⟩) (ne + 1) kg) (hne 1)).trans b1
    refine hK.out _ _ ⟨b0, b1⟩ (fun hHeld => ?_)
    clear hK K
    try simp only [Act.put, List.setIfInBounds_toArray, List.set_cons_zero, List.set_cons_succ]
    refine wpAnyH_done (by kernel_rfl) ?_ _
    go_wp2_with fail
    go_meet
    case rel =>
      exact ⟨⟨_, _, _, _, HP3.out⟩, HB3.out.setCell (p := ⟨H, 3, none⟩) hBH _, ⟨b0, b1⟩, bT.set _ _⟩
  case rest =>
    obtain ⟨⟨vc1, ve1, vp1, vu1, hH1⟩, hB1, ⟨b0, b1⟩, bT⟩ := hcut
    clear c3 HH0
    obtain ⟨W1, hW1⟩ : ∃ x, x = wc := ⟨_, rfl⟩
    subst hW1
    have HH1 := Lib.hid hH1
    have HY1 := Lib.hid hB1
    have HW1 := Lib.hid (HB0.out.trans hB1)
    have HZ1 : Hid (B ≤ W1.heap.size) := Nat.le_trans hBw hB1.size
    obtain ⟨j0, hj0, hy0, hy1, hy2⟩ := info_parts Tryz.infoSet
    have c4 := hH1.c4
    obtain ⟨ap, kp, rfl⟩ := hH1.rp.form
    obtain ⟨np, hnp⟩ : ∃ x, x = ps.length := ⟨_, rfl⟩
    rw [← hnp] at c4 HH1
    have HNP := Lib.hid hnp; clear hnp
    clear hH1 hB1
    go_upto_region 3 with fail
    go_cut [] from 32 to 47 (fun wx => AddE B H w.heap.size w n.places vt cs (es ++ [((tn : Int), L)]) (ps ++ [paL cs ps L ||| 2 ^ ne]) us tn (.slice ao nl cap) wx)
    case first =>
      refine wp_region_held_drew (S := fun w' => w'.cell? ⟨w.heap.size, 0, none⟩ = some (.int .i64 (tn : Int)) ∧ w'.cell? ⟨w.heap.size, 1, none⟩ = some (.slice ao nl cap)) (by kernel_rfl) ⟨b0, b1⟩ (fun hHeld => ?_)
      refine tk0 (v := ?_) (by kernel_rfl) (by kernel_rfl) (by kernel_rfl) (by first | exact fun _ _ _ h => h | exact fun _ _ _ h => absurd h.1 (by simp)) (Or.inl ⟨by rfl, ?_⟩) (by assumption) ?_
      rotate_left 1
      focus (intro wx hSw; (try dsimp only at hSw); go_simp; try (with_reducible rfl))
      try simp only [Act.put, List.setIfInBounds_toArray, List.set_cons_zero, List.set_cons_succ]
      refine tk1 (v := ?_) (by kernel_rfl) (by kernel_rfl) (by kernel_rfl) (by first | exact fun _ _ _ h => h | exact fun _ _ _ h => absurd h.1 (by simp)) (Or.inl ⟨by rfl, ?_⟩) (by assumption) ?_
      rotate_left 1
      focus (intro wx hSw; (try dsimp only at hSw); go_simp; try (with_reducible rfl))
      try simp only [Act.put, List.setIfInBounds_toArray, List.set_cons_zero, List.set_cons_succ]
      refine tk2 (v := ?_) (by kernel_rfl) (by kernel_rfl) (by kernel_rfl) (by first | exact fun _ _ _ h => h | exact fun _ _ _ h => absurd h.1 (by simp)) (Or.inl ⟨by rfl, ?_⟩) (by assumption) ?_
      rotate_left 1
      focus (intro wx hSw; (try dsimp only at hSw); go_simp; try (with_reducible rfl))
      try simp only [Act.put, List.setIfInBounds_toArray, List.set_cons_zero, List.set_cons_succ]
      refine tk3 (v := ?_) (by kernel_rfl) (by kernel_rfl) (by kernel_rfl) (by first | exact fun _ _ _ h => h | exact fun _ _ _ h => absurd h.1 (by simp)) (Or.inl ⟨by rfl, ?_⟩) (by assumption) ?_
      rotate_left 1
      focus (intro wx hSw; (try dsimp only at hSw); go_simp; try (with_reducible rfl))
      try simp only [Act.put, List.setIfInBounds_toArray, List.set_cons_zero, List.set_cons_succ]
      refine tk5 (v := ?_) (by kernel_rfl) (by kernel_rfl) (by kernel_rfl) (by first | exact fun _ _ _ h => h | exact fun _ _ _ h => absurd h.1 (by simp)) (Or.inl ⟨by rfl, ?_⟩) (by assumption) ?_
      rotate_left 1
      focus (intro wx hSw; (try dsimp only at hSw); go_simp; try (with_reducible rfl))
      try simp only [Act.put, List.setIfInBounds_toArray, List.set_cons_zero, List.set_cons_succ]
      refine tk6 (v := ?_) (by kernel_rfl) (by kernel_rfl) (by kernel_rfl) (by first | exact fun _ _ _ h => h | exact fun _ _ _ h => absurd h.1 (by simp)) (Or.inl ⟨by rfl, ?_⟩) (by assumption) ?_
      rotate_left 1
      focus (intro wx hSw; (try dsimp only at hSw); go_simp; try (with_reducible rfl))
      try simp only [Act.put, List.setIfInBounds_toArray, List.set_cons_zero, List.set_cons_succ]
      refine tk7 (v := ?_) (by kernel_rfl) (by kernel_rfl) (by kernel_rfl) (by first | exact fun _ _ _ h => h | exact fun _ _ _ h => absurd h.1 (by simp)) (Or.inl ⟨by rfl, ?_⟩) (by assumption) ?_
      rotate_left 1
      focus (intro wx hSw; (try dsimp only at hSw); go_simp; try (with_reducible rfl))
      try simp only [Act.put, List.setIfInBounds_toArray, List.set_cons_zero, List.set_cons_succ]
      refine tk9 (v := ?_) (by kernel_rfl) (by kernel_rfl) (by kernel_rfl) (by first | exact fun _ _ _ h => h | exact fun _ _ _ h => absurd h.1 (by simp)) (Or.inl ⟨by rfl, ?_⟩) (by assumption) ?_
      rotate_left 1
      focus (intro wx hSw; (try dsimp only at hSw); go_simp; try (with_reducible rfl))
      try simp only [Act.put, List.setIfInBounds_toArray, List.set_cons_zero, List.set_cons_succ]
      refine tk10 (v := .int .u64 ((2 ^ ne : Nat) : Int)) (by kernel_rfl) (by kernel_rfl) (by kernel_rfl) (by first | exact fun _ _ _ h => h | exact fun _ _ _ h => absurd h.1 (by simp)) (Or.inl ⟨by rfl, ?_⟩) (by assumption) ?_
      · intro wx hSw
        have e1 := shl_one hes
        push_cast at e1
        go_simp
        try exact e1
      try simp only [Act.put, List.setIfInBounds_toArray, List.set_cons_zero, List.set_cons_succ]
      refine wpAnyH_ready (rs := [4, 8]) (by kernel_rfl) (by simp) ?_
      refine AllReadyH.cons rfl (fun K hK => ?_) ?_
      · go_simp
        refine hK.out _ _ ⟨hHeld.1, hHeld.2⟩ (fun hHeld => ?_)
        clear hK K
        try simp only [Act.put, List.setIfInBounds_toArray, List.set_cons_zero, List.set_cons_succ]
        refine rd8 (by kernel_rfl) (fun K hK => ?_)
        go_simp
        refine (pastOf_any B H W1.drew n.places vt vc1 ve1 _ vu1 cs _ ps us _ L lo (HH1.out.after (Below.refl _ _).drew) (HV.out.keep (Carries.of lo (by rw [hB0]; exact HW1.out.drew))) (by rw [← HNL.out]; exact hl) HIN.out HOK.out.by_ HOK.out.fp (by omega) (by rw [HOK.out.pe, ← HNE.out]; omega)).mono ?_
        rintro e w1 ⟨rfl, hb1⟩
        have hb1 : Below W1.heap.size W1 w1 := Below.trans (b := W1.drew) (Below.refl _ _).drew (hb1.mono (by simp))
        have c4 := cell_carry c4 (Carries.of 0 hb1)
        have b0 := cell_carry b0 (Carries.of 0 hb1)
        have b1 := cell_carry b1 (Carries.of 0 hb1)
        have bT := bT.keep hb1
        have HH2 := Lib.hid (HH1.out.after hb1)
        have HY2 := Lib.hid (HY1.out.trans (hb1.mono HZ1.out))
        have HZ2 : Hid (B ≤ w1.heap.size) := Nat.le_trans HZ1.out hb1.size
        have hzz : w.heap.size ≤ w1.heap.size := HY2.out.size
        have HZZ := Lib.hid hzz; clear hzz
        clear hb1
        refine hK.out _ _ ⟨b0, b1⟩ (fun hHeld => ?_)
        clear hK K
        try simp only [Act.put, List.setIfInBounds_toArray, List.set_cons_zero, List.set_cons_succ]
        refine tk11 (v := .int .u64 ((paL cs ps L ||| 2 ^ ne : Nat) : Int)) (by kernel_rfl) (by kernel_rfl) (by kernel_rfl) (by first | exact fun _ _ _ h => h | exact fun _ _ _ h => absurd h.1 (by simp)) (Or.inl ⟨by rfl, ?_⟩) (by assumption) ?_
        · intro wx hSw
          have e1 : bits .or .u64 ((paL cs ps L : Nat) : Int) ((2 ^ ne : Nat) : Int) = ((paL cs ps L ||| 2 ^ ne : Nat) : Int) := bits_or_u64_nat _ _ (paTo_fit HOK.out.fp _) (pow60 hes)
          go_simp
          first | (simp only [e1]; done) | (simp only [e1]; with_reducible rfl) | (push_cast at e1 ⊢; simp only [e1])
        try simp only [Act.put, List.setIfInBounds_toArray, List.set_cons_zero, List.set_cons_succ]
        refine rd12 (by kernel_rfl) (fun K hK => ?_)
        go_simp
        generalize hM : (paL cs ps L ||| 2 ^ ne : Nat) = M
        have hb2 : Below w1.heap.size w1 (w1.alloc (.cells #[.int .u64 (M : Int)] 109)) := (Below.refl _ _).alloc (Nat.le_refl _) _
        have HN2 := Lib.hid (World.news_of_block (cs := #[.int .u64 (M : Int)]) (t := 109) (fr := (0, 0)) (heap_alloc_new w1 _))
        generalize w1.alloc (.cells #[.int .u64 (M : Int)] 109) = w2 at hb2 HN2 ⊢
        have c4 := cell_carry c4 (Carries.of 0 hb2)
        have b0 := cell_carry b0 (Carries.of 0 hb2)
        have b1 := cell_carry b1 (Carries.of 0 hb2)
        have bT := bT.keep hb2
        have HH3 := Lib.hid (HH2.out.after hb2)
        have HY3 := Lib.hid (HY2.out.trans (hb2.mono HZ2.out))
        have HZ3 : Hid (B ≤ w2.heap.size) := Nat.le_trans HZ2.out hb2.size
        have HM := Lib.hid hM; clear hM
        clear hb2
        refine hK.out _ _ ⟨b0, b1⟩ (fun hHeld => ?_)
        clear hK K
        try simp only [Act.put, List.setIfInBounds_toArray, List.set_cons_zero, List.set_cons_succ]
        have hown0 := HH3.out.rp
        have hhr : some w.heap.size ≠ (Value.slice ap np kp).ownBlock := owns_ne hown0 bT (by decide)
        have HOW := Lib.hid hown0
        have hown1 : w2.ownsRow B 109 1 (.slice ap np kp) np (usCells ps) := by rw [HNP.out]; rw [HNP.out] at hown0; exact hown0
        clear hown0
        refine rd13 (by kernel_rfl) (fun K hK => ?_)
        refine step_append_lies _ (by rfl) _ _ _ (by rfl) B 109 j0 _ 1 8 Tryz.underlying75 hj0 hy0 hy1 hy2 rfl (by omega) (.slice ap np kp) np (usCells ps) (by rfl) hown1 ⟨w1.heap.size, 0, none⟩ 1 1 [.int .u64 (M : Int)] (by rfl) (by rfl) HN2.out (by simp [Value.oneCell']) (by omega) (by have := HNP.out; have := HOK.out.pe; have := HNE.out; unfold maxLen; omega) (by have := HNP.out; have := HOK.out.pe; have := HNE.out; omega) HZ3.out w2.heap.size rfl ?_
        intro g kg w3 hown hgrow hat hlt3
        obtain ⟨⟨k0, k1, k2, k3, k4, k5⟩, kf, kT⟩ := HH3.out.mid HOW.out (by decide) hgrow
        have kf4 := kf 4; clear kf
        have b0 := gcell hgrow hhr b0
        have b1 := gcell hgrow hhr b1
        have bT := bT.grown hgrow hhr
        have HP3 := Lib.hid (HH3.out.pushP (URow.snoc HNP.out hown) hgrow hat)
        have HB3 := Lib.hid (below_grown HY3.out HZ3.out HOW.out (Nat.le_refl _) hgrow)
        clear hown hgrow hat hown1 k0 k1 k2 k3 k5
        refine hK.out _ _ ⟨b0, b1⟩ (fun hHeld => ?_)
        clear hK K
        try simp only [Act.put, List.setIfInBounds_toArray, List.set_cons_zero, List.set_cons_succ]
        refine tk14 (v := ?_) (by kernel_rfl) (by kernel_rfl) (by kernel_rfl) (by first | exact fun _ _ _ h => h | exact fun _ _ _ h => absurd h.1 (by simp)) (Or.inl ⟨by rfl, ?_⟩) (by assumption) ?_
        rotate_left 1
        focus (intro wx hSw; (try dsimp only at hSw); go_simp; try (with_reducible rfl))
        try simp only [Act.put, List.setIfInBounds_toArray, List.set_cons_zero, List.set_cons_succ]
        refine tk15 (v := ?_) (by kernel_rfl) (by kernel_rfl) (by kernel_rfl) (by first | exact fun _ _ _ h => h | exact fun _ _ _ h => absurd h.1 (by simp)) (Or.inl ⟨by rfl, ?_⟩) (by assumption) ?_
        rotate_left 1
        focus (intro wx hSw; (try dsimp only at hSw); go_simp; try (with_reducible rfl))
        try simp only [Act.put, List.setIfInBounds_toArray, List.set_cons_zero, List.set_cons_succ]
        refine rd16 (by kernel_rfl) (fun K hK => ?_)
        go_simp
        have hne : ∀ i, (⟨H, 4, none⟩ : Addr) ≠ ⟨w.heap.size, i, none⟩ := fun i q => by injection q with q1; omega
        have b0 := (World.cell?_setCell_other w3 _ _ (.slice (some ⟨g, 0, none⟩) (np + 1) kg) (hne 0)).trans b0
        have b1 := (World.cell?_setCell_other w3 _ _ (.slice (some ⟨g, 0, none⟩) (np + 1) kg) (hne 1)).trans b1
        refine hK.out _ _ ⟨b0, b1⟩ (fun hHeld => ?_)
        clear hK K
        try simp only [Act.put, List.setIfInBounds_toArray, List.set_cons_zero, List.set_cons_succ]
        refine wpAnyH_done (by kernel_rfl) ?_ _
        go_wp2_with fail
        go_meet
        case rel =>
          rw [HM.out]
          exact ⟨⟨_, _, _, _, HP3.out⟩, HB3.out.setCell (p := ⟨H, 4, none⟩) hBH _, ⟨b0, b1⟩, bT.set _ _⟩
      refine AllReadyH.cons rfl (fun K hK => ?_) AllReadyH.nil
      go_simp
      refine (pastOf_any B H W1.drew n.places vt vc1 ve1 _ vu1 cs _ ps us _ L lo (HH1.out.after (Below.refl _ _).drew) (HV.out.keep (Carries.of lo (by rw [hB0]; exact HW1.out.drew))) (by rw [← HNL.out]; exact hl) HIN.out HOK.out.by_ HOK.out.fp (by omega) (by rw [HOK.out.pe, ← HNE.out]; omega)).mono ?_
      rintro e w1 ⟨rfl, hb1⟩
      have hb1 : Below W1.heap.size W1 w1 := Below.trans (b := W1.drew) (Below.refl _ _).drew (hb1.mono (by simp))
      have c4 := cell_carry c4 (Carries.of 0 hb1)
      have b0 := cell_carry b0 (Carries.of 0 hb1)
      have b1 := cell_carry b1 (Carries.of 0 hb1)
      have bT := bT.keep hb1
      have HH2 := Lib.hid (HH1.out.after hb1)
      have HY2 := Lib.hid (HY1.out.trans (hb1.mono HZ1.out))
      have HZ2 : Hid (B ≤ w1.heap.size) := Nat.le_trans HZ1.out hb1.size
      have hzz : w.heap.size ≤ w1.heap.size := HY2.out.size
      have HZZ := Lib.hid hzz; clear hzz
      clear hb1
      refine hK.out _ _ ⟨b0, b1⟩ (fun hHeld => ?_)
      clear hK K
      try simp only [Act.put, List.setIfInBounds_toArray, List.set_cons_zero, List.set_cons_succ]
      refine tk11 (v := .int .u64 ((paL cs ps L ||| 2 ^ ne : Nat) : Int)) (by kernel_rfl) (by kernel_rfl) (by kernel_rfl) (by first | exact fun _ _ _ h => h | exact fun _ _ _ h => absurd h.1 (by simp)) (Or.inl ⟨by rfl, ?_⟩) (by assumption) ?_
      · intro wx hSw
        have e1 : bits .or .u64 ((paL cs ps L : Nat) : Int) ((2 ^ ne : Nat) : Int) = ((paL cs ps L ||| 2 ^ ne : Nat) : Int) := bits_or_u64_nat _ _ (paTo_fit HOK.out.fp _) (pow60 hes)
        go_simp
        first | (simp only [e1]; done) | (simp only [e1]; with_reducible rfl) | (push_cast at e1 ⊢; simp only [e1])
      try simp only [Act.put, List.setIfInBounds_toArray, List.set_cons_zero, List.set_cons_succ]
      refine wpAnyH_ready (rs := [4, 12]) (by kernel_rfl) (by simp) ?_
      refine AllReadyH.cons rfl (fun K hK => ?_) ?_
      · go_simp
        refine hK.out _ _ ⟨b0, b1⟩ (fun hHeld => ?_)
        clear hK K
        try simp only [Act.put, List.setIfInBounds_toArray, List.set_cons_zero, List.set_cons_succ]
        refine rd12 (by kernel_rfl) (fun K hK => ?_)
        go_simp
        generalize hM : (paL cs ps L ||| 2 ^ ne : Nat) = M
        have hb2 : Below w1.heap.size w1 (w1.alloc (.cells #[.int .u64 (M : Int)] 109)) := (Below.refl _ _).alloc (Nat.le_refl _) _
        have HN2 := Lib.hid (World.news_of_block (cs := #[.int .u64 (M : Int)]) (t := 109) (fr := (0, 0)) (heap_alloc_new w1 _))
        generalize w1.alloc (.cells #[.int .u64 (M : Int)] 109) = w2 at hb2 HN2 ⊢
        have c4 := cell_carry c4 (Carries.of 0 hb2)
        have b0 := cell_carry b0 (Carries.of 0 hb2)
        have b1 := cell_carry b1 (Carries.of 0 hb2)
        have bT := bT.keep hb2
        have HH3 := Lib.hid (HH2.out.after hb2)
        have HY3 := Lib.hid (HY2.out.trans (hb2.mono HZ2.out))
        have HZ3 : Hid (B ≤ w2.heap.size) := Nat.le_trans HZ2.out hb2.size
        have HM := Lib.hid hM; clear hM
        clear hb2
        refine hK.out _ _ ⟨b0, b1⟩ (fun hHeld => ?_)
        clear hK K
        try simp only [Act.put, List.setIfInBounds_toArray, List.set_cons_zero, List.set_cons_succ]
        have hown0 := HH3.out.rp
        have hhr : some w.heap.size ≠ (Value.slice ap np kp).ownBlock := owns_ne hown0 bT (by decide)
        have HOW := Lib.hid hown0
        have hown1 : w2.ownsRow B 109 1 (.slice ap np kp) np (usCells ps) := by rw [HNP.out]; rw [HNP.out] at hown0; exact hown0
        clear hown0
        refine rd13 (by kernel_rfl) (fun K hK => ?_)
        refine step_append_lies _ (by rfl) _ _ _ (by rfl) B 109 j0 _ 1 8 Tryz.underlying75 hj0 hy0 hy1 hy2 rfl (by omega) (.slice ap np kp) np (usCells ps) (by rfl) hown1 ⟨w1.heap.size, 0, none⟩ 1 1 [.int .u64 (M : Int)] (by rfl) (by rfl) HN2.out (by simp [Value.oneCell']) (by omega) (by have := HNP.out; have := HOK.out.pe; have := HNE.out; unfold maxLen; omega) (by have := HNP.out; have := HOK.out.pe; have := HNE.out; omega) HZ3.out w2.heap.size rfl ?_
        intro g kg w3 hown hgrow hat hlt3
        obtain ⟨⟨k0, k1, k2, k3, k4, k5⟩, kf, kT⟩ := HH3.out.mid HOW.out (by decide) hgrow
        have kf4 := kf 4; clear kf
        have b0 := gcell hgrow hhr b0
        have b1 := gcell hgrow hhr b1
        have bT := bT.grown hgrow hhr
        have HP3 := Lib.hid (HH3.out.pushP (URow.snoc HNP.out hown) hgrow hat)
        have HB3 := Lib.hid (below_grown HY3.out HZ3.out HOW.out (Nat.le_refl _) hgrow)
        clear hown hgrow hat hown1 k0 k1 k2 k3 k5
        refine hK.out _ _ ⟨b0, b1⟩ (fun hHeld => ?_)
        clear hK K
        try simp only [Act.put, List.setIfInBounds_toArray, List.set_cons_zero, List.set_cons_succ]
        refine tk14 (v := ?_) (by kernel_rfl) (by kernel_rfl) (by kernel_rfl) (by first | exact fun _ _ _ h => h | exact fun _ _ _ h => absurd h.1 (by simp)) (Or.inl ⟨by rfl, ?_⟩) (by assumption) ?_
        rotate_left 1
        focus (intro wx hSw; (try dsimp only at hSw); go_simp; try (with_reducible rfl))
        try simp only [Act.put, List.setIfInBounds_toArray, List.set_cons_zero, List.set_cons_succ]
        refine tk15 (v := ?_) (by kernel_rfl) (by kernel_rfl) (by kernel_rfl) (by first | exact fun _ _ _ h => h | exact fun _ _ _ h => absurd h.1 (by simp)) (Or.inl ⟨by rfl, ?_⟩) (by assumption) ?_
        rotate_left 1
        focus (intro wx hSw; (try dsimp only at hSw); go_simp; try (with_reducible rfl))
        try simp only [Act.put, List.setIfInBounds_toArray, List.set_cons_zero, List.set_cons_succ]
        refine rd16 (by kernel_rfl) (fun K hK => ?_)
        go_simp
        have hne : ∀ i, (⟨H, 4, none⟩ : Addr) ≠ ⟨w.heap.size, i, none⟩ := fun i q => by injection q with q1; omega
        have b0 := (World.cell?_setCell_other w3 _ _ (.slice (some ⟨g, 0, none⟩) (np + 1) kg) (hne 0)).trans b0
        have b1 := (World.cell?_setCell_other w3 _ _ (.slice (some ⟨g, 0, none⟩) (np + 1) kg) (hne 1)).trans b1
        refine hK.out _ _ ⟨b0, b1⟩ (fun hHeld => ?_)
        clear hK K
        try simp only [Act.put, List.setIfInBounds_toArray, List.set_cons_zero, List.set_cons_succ]
        refine wpAnyH_done (by kernel_rfl) ?_ _
        go_wp2_with fail
        go_meet
        case rel =>
          rw [HM.out]
          exact ⟨⟨_, _, _, _, HP3.out⟩, HB3.out.setCell (p := ⟨H, 4, none⟩) hBH _, ⟨b0, b1⟩, bT.set _ _⟩
      refine AllReadyH.cons rfl (fun K hK => ?_) AllReadyH.nil
      go_simp
      generalize hM : (paL cs ps L ||| 2 ^ ne : Nat) = M
      have hb2 : Below w1.heap.size w1 (w1.alloc (.cells #[.int .u64 (M : Int)] 109)) := (Below.refl _ _).alloc (Nat.le_refl _) _
      have HN2 := Lib.hid (World.news_of_block (cs := #[.int .u64 (M : Int)]) (t := 109) (fr := (0, 0)) (heap_alloc_new w1 _))
      generalize w1.alloc (.cells #[.int .u64 (M : Int)] 109) = w2 at hb2 HN2 ⊢
      have c4 := cell_carry c4 (Carries.of 0 hb2)
      have b0 := cell_carry b0 (Carries.of 0 hb2)
      have b1 := cell_carry b1 (Carries.of 0 hb2)
      have bT := bT.keep hb2
      have HH3 := Lib.hid (HH2.out.after hb2)
      have HY3 := Lib.hid (HY2.out.trans (hb2.mono HZ2.out))
      have HZ3 : Hid (B ≤ w2.heap.size) := Nat.le_trans HZ2.out hb2.size
      have HM := Lib.hid hM; clear hM
      clear hb2
      refine hK.out _ _ ⟨b0, b1⟩ (fun hHeld => ?_)
      clear hK K
      try simp only [Act.put, List.setIfInBounds_toArray, List.set_cons_zero, List.set_cons_succ]
      refine rd4 (by kernel_rfl) (fun K hK => ?_)
      go_simp
      refine hK.out _ _ ⟨b0, b1⟩ (fun hHeld => ?_)
      clear hK K
      try simp only [Act.put, List.setIfInBounds_toArray, List.set_cons_zero, List.set_cons_succ]
      have hown0 := HH3.out.rp
      have hhr : some w.heap.size ≠ (Value.slice ap np kp).ownBlock := owns_ne hown0 bT (by decide)
      have HOW := Lib.hid hown0
      have hown1 : w2.ownsRow B 109 1 (.slice ap np kp) np (usCells ps) := by rw [HNP.out]; rw [HNP.out] at hown0; exact hown0
      clear hown0
      refine rd13 (by kernel_rfl) (fun K hK => ?_)
      refine step_append_lies _ (by rfl) _ _ _ (by rfl) B 109 j0 _ 1 8 Tryz.underlying75 hj0 hy0 hy1 hy2 rfl (by omega) (.slice ap np kp) np (usCells ps) (by rfl) hown1 ⟨w1.heap.size, 0, none⟩ 1 1 [.int .u64 (M : Int)] (by rfl) (by rfl) HN2.out (by simp [Value.oneCell']) (by omega) (by have := HNP.out; have := HOK.out.pe; have := HNE.out; unfold maxLen; omega) (by have := HNP.out; have := HOK.out.pe; have := HNE.out; omega) HZ3.out w2.heap.size rfl ?_
      intro g kg w3 hown hgrow hat hlt3
      obtain ⟨⟨k0, k1, k2, k3, k4, k5⟩, kf, kT⟩ := HH3.out.mid HOW.out (by decide) hgrow
      have kf4 := kf 4; clear kf
      have b0 := gcell hgrow hhr b0
      have b1 := gcell hgrow hhr b1
      have bT := bT.grown hgrow hhr
      have HP3 := Lib.hid (HH3.out.pushP (URow.snoc HNP.out hown) hgrow hat)
      have HB3 := Lib.hid (below_grown HY3.out HZ3.out HOW.out (Nat.le_refl _) hgrow)
      clear hown hgrow hat hown1 k0 k1 k2 k3 k5
      refine hK.out _ _ ⟨b0, b1⟩ (fun hHeld => ?_)
      clear hK K
      try simp only [Act.put, List.setIfInBounds_toArray, List.set_cons_zero, List.set_cons_succ]
      refine tk14 (v := ?_) (by kernel_rfl) (by kernel_rfl) (by kernel_rfl) (by first | exact fun _ _ _ h => h | exact fun _ _ _ h => absurd h.1 (by simp)) (Or.inl ⟨by rfl, ?_⟩) (by assumption) ?_
      rotate_left 1
      focus (intro wx hSw; (try dsimp only at hSw); go_simp; try (with_reducible rfl))
      try simp only [Act.put, List.setIfInBounds_toArray, List.set_cons_zero, List.set_cons_succ]
      refine tk15 (v := ?_) (by kernel_rfl) (by kernel_rfl) (by kernel_rfl) (by first | exact fun _ _ _ h => h | exact fun _ _ _ h => absurd h.1 (by simp)) (Or.inl ⟨by rfl, ?_⟩) (by assumption) ?_
      rotate_left 1
      focus (intro wx hSw; (try dsimp only at hSw); go_simp; try (with_reducible rfl))
      try simp only [Act.put, List.setIfInBounds_toArray, List.set_cons_zero, List.set_cons_succ]
      refine rd16 (by kernel_rfl) (fun K hK => ?_)
      go_simp
      have hne : ∀ i, (⟨H, 4, none⟩ : Addr) ≠ ⟨w.heap.size, i, none⟩ := fun i q => by injection q with q1; omega
      have b0 := (World.cell?_setCell_other w3 _ _ (.slice (some ⟨g, 0, none⟩) (np + 1) kg) (hne 0)).trans b0
      have b1 := (World.cell?_setCell_other w3 _ _ (.slice (some ⟨g, 0, none⟩) (np + 1) kg) (hne 1)).trans b1
      refine hK.out _ _ ⟨b0, b1⟩ (fun hHeld => ?_)
      clear hK K
      try simp only [Act.put, List.setIfInBounds_toArray, List.set_cons_zero, List.set_cons_succ]
      refine wpAnyH_done (by kernel_rfl) ?_ _
      go_wp2_with fail
      go_meet
      case rel =>
        rw [HM.out]
        exact ⟨⟨_, _, _, _, HP3.out⟩, HB3.out.setCell (p := ⟨H, 4, none⟩) hBH _, ⟨b0, b1⟩, bT.set _ _⟩
    case rest =>
      have HC2 := Lib.hid hcut
      obtain ⟨⟨vc2, ve2, vp2, vu2, hH2⟩, hB2, ⟨b0, b1⟩, bT⟩ := hcut
      clear hH2 hB2 bT c4
      obtain ⟨W2, hW2⟩ : ∃ x, x = wc := ⟨_, rfl⟩
      subst hW2
      go_wp2_with fail
      have hW2 : Below B w W2 := HC2.out.2.1
      have HW2 := Lib.hid hW2; clear hW2
      go_loopw [51] (fun i wr => ∃ k : Nat, k ≤ L.length ∧ i = .int .i64 k ∧ Hid (AddE B H w.heap.size w n.places vt cs (es ++ [((tn : Int), L)]) (ps ++ [paL cs ps L ||| 2 ^ ne]) (orTo us L (2 ^ ne) k) tn (.slice ao nl cap) wr)) (fun i _ => L.length - (intOf i).toNat)
      case atStart => exact ⟨0, Nat.zero_le _, rfl, HC2.out⟩
      case round =>
        obtain ⟨k, hk, rfl, hadd⟩ := hrel
        by_cases hlt : k < L.length
        · have hltn : k < nl := by rw [HNL.out]; exact hlt
          obtain ⟨⟨vc3, ve3, vp3, vu3, hH3⟩, hB3, ⟨b0, b1⟩, bT⟩ := hadd.out
          clear hadd
          obtain ⟨ao2, cap2, e0, hxa, hz⟩ := id HV.out
          injection e0 with e1 e2 e3
          subst e1; subst e3
          clear e2 hxa
          rcases hz with h0 | ⟨b, off, rfl, hlo, hcell⟩
          · exact absurd hlt (by rw [h0]; exact Nat.not_lt_zero _)
          have d0 := Carries.of lo (show Below w0.heap.size w0 wr by rw [hB0]; exact HB0.out.trans hB3) _ _ hlo (hcell k hlt)
          clear hcell
          have hin := HIN.out k hlt
          have hor : orTo us L (2 ^ ne) (k + 1) = (orTo us L (2 ^ ne) k).set (L.getD k 0).toNat ((orTo us L (2 ^ ne) k).getD (L.getD k 0).toNat 0 ||| 2 ^ ne) := rfl
          have hfit : Fit (orTo us L (2 ^ ne) k) := orTo_fit HOK.out.fu (pow60 hes) k
          have hol : (orTo us L (2 ^ ne) k).length = cs.length := by rw [orTo_length, HOK.out.uc]
          have HOR := Lib.hid hor; clear hor
          generalize orTo us L (2 ^ ne) k = us3 at hH3 HOR hfit hol
          generalize L.getD k 0 = c at d0 hin HOR
          obtain ⟨cn, rfl⟩ : ∃ cn : Nat, c = (cn : Int) := ⟨c.toNat, by omega⟩
          rw [Int.toNat_natCast] at HOR
          have hcn : cn < us3.length := by omega
          have c5 := hH3.c5
          have hru := hH3.ru
          obtain ⟨gu, ku, rfl, hgu, hgB⟩ : ∃ gu ku, vu3 = .slice (some ⟨gu, 0, none⟩) us3.length ku ∧ TyAt wr gu 109 ∧ B ≤ gu := by
            rcases hru.2 with ⟨rfl, hn⟩ | ⟨g, cap, cur, rfl, hb, hg, _⟩
            · omega
            · exact ⟨g, cap, rfl, ⟨cur, _, hg⟩, hb⟩
          have d1 := hru.cellAt cn (by rw [Nat.mul_one]; exact hcn)
          rw [usCells_get hcn] at d1
          have d2 := hru.frozenAt cn
          have hf2 := hfit cn
          obtain ⟨nu, hnu⟩ : ∃ x, x = us3.length := ⟨_, rfl⟩
          have HH3 := Lib.hid hH3
          rw [← hnu] at c5 HH3
          rw [← hnu] at hcn
          have HNU := Lib.hid hnu; clear hnu
          have hne1 : gu ≠ w.heap.size := hgu.ne bT (by decide)
          have HBT := Lib.hid bT
          clear hH3 hru hgu hfit hol bT
          generalize us3.getD cn 0 = z at d1 hf2 HOR
          have i0 := hin.1
          have e1 : bits .or .u64 ((z : Nat) : Int) ((2 : Int) ^ ne) = ((z ||| 2 ^ ne : Nat) : Int) := by
            have h := bits_or_u64_nat z _ hf2 (pow60 hes)
            rw [show ((2 ^ ne : Nat) : Int) = (2 : Int) ^ ne by push_cast; rfl] at h
            exact h
          have e2 := shl_one hes
          push_cast at e2
          clear hin
          go_wp2_with fail
          go_still_tail 11, (by kernel_rfl)
          change wpList _ _ _ _ _ wr.drew
          go_wp2_with fail
          go_roundw
          case rel =>
            have hset := HH3.out.setU (c := cn) (by rw [HNU.out] at hcn; exact hcn) (z ||| 2 ^ ne)
            rw [← HOR.out] at hset
            refine ⟨k + 1, by omega, by go_num, ?_⟩
            try rw [e1]
            have hn : ∀ i, (⟨gu, cn, none⟩ : Addr) ≠ ⟨w.heap.size, i, none⟩ := fun i q => hne1 (by injection q)
            exact AddE.below ⟨⟨_, _, _, _, hset⟩, hB3.setCell (p := ⟨gu, cn, none⟩) hgB _, ⟨(World.cell?_setCell_other _ _ _ _ (hn 0)).trans b0, (World.cell?_setCell_other _ _ _ _ (hn 1)).trans b1⟩, HBT.out.set _ _⟩ hBw (Below.refl _ _).drew
          case measure => first | (simp [intOf]; omega) | simp [intOf]
        · have hkk : k = nl := by have := HNL.out; omega
          subst hkk
          obtain ⟨⟨vc3, ve3, vp3, vu3, hH3⟩, hB3, ⟨b0, b1⟩, bT⟩ := hadd.out
          clear hadd
          obtain ⟨W3, hW3⟩ : ∃ x, x = wr := ⟨_, rfl⟩
          subst hW3
          have c1 := hH3.c1
          have HH3 := Lib.hid hH3
          have HB3 := Lib.hid hB3
          obtain ⟨_, _, q, e0, hts⟩ := id HN.out
          injection e0 with e0
          have e0 : vt = q := by
            have := congrArg (fun a => a.getD 1 undef) e0
            simpa using this
          subst e0
          obtain ⟨at_, ct, rfl, hxa, hz⟩ := hts
          rcases hz with h0 | ⟨bt, offt, rfl, hlon, hcell⟩
          · exact absurd ht (by rw [h0]; exact Nat.not_lt_zero _)
          obtain ⟨v0, v1, hxb, d1, htr⟩ := hcell tn ht
          have htr := htr.2
          have hpo2 : postOf n (tn : Int) = (n.ts.getD tn ([], [])).2 := by unfold postOf; rw [Int.toNat_natCast]
          rw [← hpo2] at htr
          have hw03 : Below w0.heap.size w0 W3 := by rw [hB0]; exact HB0.out.trans hB3
          have d1 := cell_carry d1 (Carries.of 0 hw03)
          have HPO := Lib.hid htr
          obtain ⟨apo, cpo, rfl, hxc, hxd⟩ := htr
          clear hxa hxb hxc hxd hcell hpo2 hH3 hB3
          obtain ⟨npo, hnpo⟩ : ∃ x, x = (postOf n (tn : Int)).length := ⟨_, rfl⟩
          rw [← hnpo] at d1 HPO hpo
          have HNPO := Lib.hid hnpo; clear hnpo
          obtain ⟨m, hm⟩ : ∃ x, x = n.ts.length := ⟨_, rfl⟩
          rw [← hm] at c1 HH3 ht
          have HM := Lib.hid hm; clear hm
          go_wp2_with fail
          refine wp_region_held_drew (S := fun w' => w'.cell? ⟨H, 1, none⟩ = some (.slice (some ⟨bt, offt, none⟩) m ct) ∧ w'.cell? ⟨w.heap.size, 0, none⟩ = some (.int .i64 (tn : Int)) ∧ w'.cell? ⟨bt, offt + tn * 2 + 1, none⟩ = some (.slice apo npo cpo)) (by kernel_rfl) ⟨c1, b0, d1⟩ (fun hHeld => ?_)
          refine tk0 (v := ?_) (by kernel_rfl) (by kernel_rfl) (by kernel_rfl) (by first | exact fun _ _ _ h => h | exact fun _ _ _ h => absurd h.1 (by simp)) (Or.inl ⟨by rfl, ?_⟩) (by assumption) ?_
          rotate_left 1
          focus (intro wx hSw; (try dsimp only at hSw); go_simp; try (with_reducible rfl))
          try simp only [Act.put, List.setIfInBounds_toArray, List.set_cons_zero, List.set_cons_succ]
          refine tk1 (v := ?_) (by kernel_rfl) (by kernel_rfl) (by kernel_rfl) (by first | exact fun _ _ _ h => h | exact fun _ _ _ h => absurd h.1 (by simp)) (Or.inl ⟨by rfl, ?_⟩) (by assumption) ?_
          rotate_left 1
          focus (intro wx hSw; (try dsimp only at hSw); go_simp; try (with_reducible rfl))
          try simp only [Act.put, List.setIfInBounds_toArray, List.set_cons_zero, List.set_cons_succ]
          refine tk2 (v := ?_) (by kernel_rfl) (by kernel_rfl) (by kernel_rfl) (by first | exact fun _ _ _ h => h | exact fun _ _ _ h => absurd h.1 (by simp)) (Or.inl ⟨by rfl, ?_⟩) (by assumption) ?_
          rotate_left 1
          focus (intro wx hSw; (try dsimp only at hSw); go_simp; try (with_reducible rfl))
          try simp only [Act.put, List.setIfInBounds_toArray, List.set_cons_zero, List.set_cons_succ]
          refine tk3 (v := ?_) (by kernel_rfl) (by kernel_rfl) (by kernel_rfl) (by first | exact fun _ _ _ h => h | exact fun _ _ _ h => absurd h.1 (by simp)) (Or.inl ⟨by rfl, ?_⟩) (by assumption) ?_
          rotate_left 1
          focus (intro wx hSw; (try dsimp only at hSw); go_simp; try (with_reducible rfl))
          try simp only [Act.put, List.setIfInBounds_toArray, List.set_cons_zero, List.set_cons_succ]
          refine tk4 (v := ?_) (by kernel_rfl) (by kernel_rfl) (by kernel_rfl) (by first | exact fun _ _ _ h => h | exact fun _ _ _ h => absurd h.1 (by simp)) (Or.inl ⟨by rfl, ?_⟩) (by assumption) ?_
          rotate_left 1
          focus (intro wx hSw; (try dsimp only at hSw); go_simp; try (with_reducible rfl))
          try simp only [Act.put, List.setIfInBounds_toArray, List.set_cons_zero, List.set_cons_succ]
          refine tk5 (v := ?_) (by kernel_rfl) (by kernel_rfl) (by kernel_rfl) (by first | exact fun _ _ _ h => h | exact fun _ _ _ h => absurd h.1 (by simp)) (Or.inl ⟨by rfl, ?_⟩) (by assumption) ?_
          rotate_left 1
          focus (intro wx hSw; (try dsimp only at hSw); go_simp; try (with_reducible rfl))
          try simp only [Act.put, List.setIfInBounds_toArray, List.set_cons_zero, List.set_cons_succ]
          refine tk6 (v := ?_) (by kernel_rfl) (by kernel_rfl) (by kernel_rfl) (by first | exact fun _ _ _ h => h | exact fun _ _ _ h => absurd h.1 (by simp)) (Or.inl ⟨by rfl, ?_⟩) (by assumption) ?_
          rotate_left 1
          focus (intro wx hSw; (try dsimp only at hSw); go_simp; try (with_reducible rfl))
          try simp only [Act.put, List.setIfInBounds_toArray, List.set_cons_zero, List.set_cons_succ]
          refine tk7 (v := ?_) (by kernel_rfl) (by kernel_rfl) (by kernel_rfl) (by first | exact fun _ _ _ h => h | exact fun _ _ _ h => absurd h.1 (by simp)) (Or.inl ⟨by rfl, ?_⟩) (by assumption) ?_
          rotate_left 1
          focus (intro wx hSw; (try dsimp only at hSw); go_simp; try (with_reducible rfl))
          try simp only [Act.put, List.setIfInBounds_toArray, List.set_cons_zero, List.set_cons_succ]
          refine tk8 (v := ?_) (by kernel_rfl) (by kernel_rfl) (by kernel_rfl) (by first | exact fun _ _ _ h => h | exact fun _ _ _ h => absurd h.1 (by simp)) (Or.inl ⟨by rfl, ?_⟩) (by assumption) ?_
          rotate_left 1
          focus (intro wx hSw; (try dsimp only at hSw); go_simp; try (with_reducible rfl))
          try simp only [Act.put, List.setIfInBounds_toArray, List.set_cons_zero, List.set_cons_succ]
          refine tk9 (v := ?_) (by kernel_rfl) (by kernel_rfl) (by kernel_rfl) (by first | exact fun _ _ _ h => h | exact fun _ _ _ h => absurd h.1 (by simp)) (Or.inl ⟨by rfl, ?_⟩) (by assumption) ?_
          rotate_left 1
          focus (intro wx hSw; (try dsimp only at hSw); go_simp; try (with_reducible rfl))
          try simp only [Act.put, List.setIfInBounds_toArray, List.set_cons_zero, List.set_cons_succ]
          refine tk10 (v := ?_) (by kernel_rfl) (by kernel_rfl) (by kernel_rfl) (by first | exact fun _ _ _ h => h | exact fun _ _ _ h => absurd h.1 (by simp)) (Or.inl ⟨by rfl, ?_⟩) (by assumption) ?_
          rotate_left 1
          focus (intro wx hSw; (try dsimp only at hSw); go_simp; try (with_reducible rfl))
          try simp only [Act.put, List.setIfInBounds_toArray, List.set_cons_zero, List.set_cons_succ]
          refine tk11 (v := ?_) (by kernel_rfl) (by kernel_rfl) (by kernel_rfl) (by first | exact fun _ _ _ h => h | exact fun _ _ _ h => absurd h.1 (by simp)) (Or.inl ⟨by rfl, ?_⟩) (by assumption) ?_
          rotate_left 1
          focus (intro wx hSw; (try dsimp only at hSw); go_simp; try (with_reducible rfl))
          try simp only [Act.put, List.setIfInBounds_toArray, List.set_cons_zero, List.set_cons_succ]
          refine wpAnyH_done (by kernel_rfl) ?_ _
          have HH4 := Lib.hid (HH3.out.after (Below.refl _ _).drew)
          have HB4 := Lib.hid (HB3.out.drew)
          have HZ4 : Hid (B ≤ W3.drew.heap.size) := Nat.le_trans hBw HB4.out.size
          generalize W3.drew = W4 at HH4 HB4 HZ4 ⊢
          clear c1 d1 b0 b1 hHeld
          have HLN := Lib.hid (show (orTo us L (2 ^ ne) k).length ≤ 1000000 by rw [orTo_length, HOK.out.uc]; exact hcl)
          generalize hU : orTo us L (2 ^ ne) k = us4 at HH4 HLN ⊢
          have HU := Lib.hid hU; clear hU
          go_wp2_with fail
          go_loopw [78] (fun i wr => ∃ k : Nat, k ≤ npo ∧ i = .int .i64 k ∧ Hid (∃ vc ve vp vu, HisAt B H wr n.places (.slice (some ⟨bt, offt, none⟩) m ct) vc ve vp vu (cs ++ (madeBy n tn ne).take k) (es ++ [((tn : Int), L)]) (ps ++ [paL cs ps L ||| 2 ^ ne]) (us4 ++ List.replicate k 0)) ∧ Below B w wr) (fun i _ => npo - (intOf i).toNat)
          case atStart => exact ⟨0, Nat.zero_le _, rfl, ⟨_, _, _, _, by simpa using HH4.out⟩, HB4.out⟩
          case round =>
            obtain ⟨k, hk, rfl, hadd, hB5⟩ := hrel
            by_cases hlt : k < npo
            · obtain ⟨vc5, ve5, vp5, vu5, hH5⟩ := hadd.out
              clear hadd
              have hltL : k < (postOf n (tn : Int)).length := by rw [← HNPO.out]; exact hlt
              have hmt := madeBy_take (ne := ne) hltL
              obtain ⟨ao2, cap2, e0, hxa, hz⟩ := id HPO.out
              rw [← HNPO.out] at e0
              injection e0 with e1 e2 e3
              subst e1; subst e3
              clear e2 hxa
              rcases hz with h0 | ⟨b, off, rfl, hlo, hcell⟩
              · exact absurd hltL (by rw [h0]; exact Nat.not_lt_zero _)
              have d0 := Carries.of lon (show Below w0.heap.size w0 wr by rw [hB0]; exact HB0.out.trans hB5) _ _ hlo (hcell k hltL)
              clear hcell
              generalize (postOf n (tn : Int)).getD k 0 = c at d0 hmt
              have HMT := Lib.hid hmt; clear hmt
              have hlen : ((madeBy n tn ne).take k).length ≤ 30 := by
                have := List.length_take_le k (madeBy n tn ne)
                omega
              have HH5 := Lib.hid hH5; clear hH5
              have hZ5 : B ≤ wr.heap.size := Nat.le_trans hBw hB5.size
              go_wp2_with fail
              refine (produce_any B H _ n.places _ vc5 ve5 vp5 vu5 _ _ _ _ c ne HH5.out (by rw [List.length_append]; omega) (by rw [List.length_append, List.length_replicate]; have := HLN.out; omega) hZ5).mono ?_
              rintro e w6 ⟨rfl, vc6, vu6, hH6, hb6⟩
              have hB6 : Below B w w6 := hB5.trans hb6
              rw [List.append_assoc, ← HMT.out, List.append_assoc, rep_add] at hH6
              have HH6 := Lib.hid hH6; clear hH6 hb6
              go_wp2_with fail
              go_roundw
              case rel => exact ⟨k + 1, by omega, by go_num, ⟨_, _, _, _, HH6.out⟩, hB6⟩
              case measure => first | (simp [intOf]; omega) | simp [intOf]
            · have hkk : k = npo := by omega
              subst hkk
              go_wp2_with fail
              go_end0
              refine ⟨rfl, ?_, hB5⟩
              obtain ⟨vc5, ve5, vp5, vu5, hH5⟩ := hadd.out
              have hml : (madeBy n tn ne).length = k := by unfold madeBy; rw [List.length_map, ← HNPO.out]
              rw [List.take_of_length_le (by omega)] at hH5
              refine ⟨vc5, ve5, vp5, vu5, ?_⟩
              unfold hisAdd
              simp only [← HNE.out, hml, ← HNL.out, HU.out]
              rw [HM.out] at hH5
              exact hH5

end Go.Proofs.YtigkgfdnnfmmmaaGreat
