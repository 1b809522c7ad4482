/- WALK: Explore of the program. -/
import Derived.Test.YtigkgfdnnfmmmaaVStgv
import Derived.Test.YtigkgfdnnfmmmaaVStgj
namespace Go.Proofs.Ytigkgfdnnfmmmaa
open Go.RowKit Go.Maps

def ExC.isDoneP : ExC → Bool
  | .done _ => true
  | _ => false
/-- what Explore answers, as data -/
def xpV (s : StgD) : RgD := if goodS s = true then (match exF s.net true 300 s.start with
  | .done x => ⟨x.ms, x.mv⟩
  | _ => ⟨[], []⟩) else ⟨[], []⟩
def xpB (s : StgD) : Bool := goodS s && (exF s.net true 300 s.start).isDoneP
def RetXp (w : World) (r : RgD) (b : Bool) (e : Ending) (w' : World) : Prop :=
  ∃ v0 v1, e = .returned (.tuple #[.agg #[v0, v1], .bool b]) ∧ SRow w.heap.size w' v0 r.marks ∧ MRow w.heap.size w' v1 r.moves ∧ Below w.heap.size w w'
theorem good_parts {s : StgD} (h : goodS s = true) : goodN s.net = true ∧ markB s.net s.start = true := by
  unfold goodS at h
  simp only [Bool.and_eq_true] at h
  exact ⟨h.1.1, h.1.2⟩
theorem cell_low {B g i : Nat} {w w' : World} {v : Value} (h : Below B w w') (hg : g < B) (hc : w.cell? ⟨g, i, none⟩ = some v) : w'.cell? ⟨g, i, none⟩ = some v := (World.cell?_of_block (w := w) (w' := w') (a := ⟨g, i, none⟩) (h.block _ hg)).trans hc
theorem frozen_low {B g i : Nat} {w w' : World} (h : Below B w w') (hg : g < B) : w'.frozen? ⟨g, i, none⟩ = w.frozen? ⟨g, i, none⟩ := World.frozen?_of_block (w := w) (w' := w') (a := ⟨g, i, none⟩) (h.block _ hg)
theorem cell_two {w : World} {g E i : Nat} {v x y : Value} (h : w.cell? ⟨E, i, none⟩ = some v) (hne : E ≠ g) : ((w.setCell ⟨g, 0, none⟩ x).setCell ⟨g, 1, none⟩ y).cell? ⟨E, i, none⟩ = some v :=
  (World.cell?_setCell_other _ _ _ _ (by intro e; injection e with e1 _; exact hne e1.symm)).trans ((World.cell?_setCell_other _ _ _ _ (by intro e; injection e with e1 _; exact hne e1.symm)).trans h)
/-- a row of strings that was made is an owned row -/
theorem srow_of_made {w : World} {B b : Nat} {ss : List ByteArray} (hB : B ≤ b) (hn : ss.length ≤ 1000000) (h : w.rowIs b 9 ss.length (scopied ss ss.length)) : SRow B w (.slice (some ⟨b, 0, none⟩) ss.length ss.length) ss := by
  obtain ⟨c, hb, hs, hget⟩ := h
  refine ⟨by rw [txCells_length]; omega, Or.inr ⟨b, ss.length, c, rfl, hB, hb, Nat.le_refl _, by unfold maxLen; omega, by omega, ?_⟩⟩
  rw [List.take_of_length_le (by simp; omega)]
  apply List.ext_getElem?
  intro i
  by_cases hi : i < ss.length
  · have h1 := hget i hi
    rw [Array.getElem?_toList, h1, txCells_get hi]
    simp [scopied, hi]
  · rw [List.getElem?_eq_none (by simp; omega), List.getElem?_eq_none (by rw [txCells_length]; omega)]

set_option maxRecDepth 100000 in
set_option maxHeartbeats 2000000 in
theorem Explore_any (v : Value) (s : StgD) (w : World) (lo : Nat) (hv : StgAt lo w v s) (hs : SmallStg s) :
    Calls Try.prog 13 #[v] w (RetXp w (xpV s) (xpB s)) := by
  obtain ⟨V, hV⟩ : ∃ q, q = xpV s := ⟨_, rfl⟩
  obtain ⟨G, hG⟩ : ∃ q, q = xpB s := ⟨_, rfl⟩
  rw [← hV, ← hG]
  have HVV := Lib.hid hV; have HGG := Lib.hid hG
  obtain ⟨a0, c0, a1, c1, a2, c2, rfl, hn, _, _⟩ := hv.form
  obtain ⟨p, hp⟩ : ∃ q, q = s.net.places := ⟨_, rfl⟩
  obtain ⟨m, hm⟩ : ∃ q, q = s.net.ts.length := ⟨_, rfl⟩
  obtain ⟨ns, hns⟩ : ∃ q, q = s.sigs.length := ⟨_, rfl⟩
  obtain ⟨nl, hnl⟩ : ∃ q, q = s.labs.length := ⟨_, rfl⟩
  obtain ⟨st, hst⟩ : ∃ q, q = s.start := ⟨_, rfl⟩
  rw [← hp, ← hm, ← hns, ← hnl, ← hst] at hv ⊢
  rw [← hp, ← hm] at hn
  have HV := Lib.hid hv; have HS := Lib.hid hs; have HNN := Lib.hid hn; have HP := Lib.hid hp; have HM := Lib.hid hm; have HST := Lib.hid hst
  clear hV hG hv hs hn hp hm hns hnl hst
  have W0 : Below w.heap.size w ((w.alloc (.cells #[.int .i64 p, .slice a0 m c0, .slice a1 ns c1, .slice a2 nl c2, .string st] 42)).alloc (.cells #[.slice none 0 0, .slice none 0 0] 33)) := by (repeat' (first | (with_reducible exact Below.refl _ _) | (with_reducible assumption) | (with_reducible refine Below.alloc ?_ ?_ _) | (with_reducible refine Below.drew ?_) | (with_reducible refine below_drewN ?_ _) | (with_reducible refine Below.setCell ?_ ?_ _) | go_size))
  have b0 : ((w.alloc (.cells #[.int .i64 p, .slice a0 m c0, .slice a1 ns c1, .slice a2 nl c2, .string st] 42)).alloc (.cells #[.slice none 0 0, .slice none 0 0] 33)).cell? ⟨w.heap.size, 0, none⟩ = some (.int .i64 p) := by simp [go_sem]
  have b1 : ((w.alloc (.cells #[.int .i64 p, .slice a0 m c0, .slice a1 ns c1, .slice a2 nl c2, .string st] 42)).alloc (.cells #[.slice none 0 0, .slice none 0 0] 33)).cell? ⟨w.heap.size, 1, none⟩ = some (.slice a0 m c0) := by simp [go_sem]
  have b2 : ((w.alloc (.cells #[.int .i64 p, .slice a0 m c0, .slice a1 ns c1, .slice a2 nl c2, .string st] 42)).alloc (.cells #[.slice none 0 0, .slice none 0 0] 33)).cell? ⟨w.heap.size, 2, none⟩ = some (.slice a1 ns c1) := by simp [go_sem]
  have b3 : ((w.alloc (.cells #[.int .i64 p, .slice a0 m c0, .slice a1 ns c1, .slice a2 nl c2, .string st] 42)).alloc (.cells #[.slice none 0 0, .slice none 0 0] 33)).cell? ⟨w.heap.size, 3, none⟩ = some (.slice a2 nl c2) := by simp [go_sem]
  have b4 : ((w.alloc (.cells #[.int .i64 p, .slice a0 m c0, .slice a1 ns c1, .slice a2 nl c2, .string st] 42)).alloc (.cells #[.slice none 0 0, .slice none 0 0] 33)).cell? ⟨w.heap.size, 4, none⟩ = some (.string st) := by simp [go_sem]
  have r0 : ((w.alloc (.cells #[.int .i64 p, .slice a0 m c0, .slice a1 ns c1, .slice a2 nl c2, .string st] 42)).alloc (.cells #[.slice none 0 0, .slice none 0 0] 33)).cell? ⟨w.heap.size + 1, 0, none⟩ = some (.slice none 0 0) := by simp [go_sem]
  have r1 : ((w.alloc (.cells #[.int .i64 p, .slice a0 m c0, .slice a1 ns c1, .slice a2 nl c2, .string st] 42)).alloc (.cells #[.slice none 0 0, .slice none 0 0] 33)).cell? ⟨w.heap.size + 1, 1, none⟩ = some (.slice none 0 0) := by simp [go_sem]
  have rf0 : ((w.alloc (.cells #[.int .i64 p, .slice a0 m c0, .slice a1 ns c1, .slice a2 nl c2, .string st] 42)).alloc (.cells #[.slice none 0 0, .slice none 0 0] 33)).frozen? ⟨w.heap.size + 1, 0, none⟩ = false := by simp [go_sem]
  have rf1 : ((w.alloc (.cells #[.int .i64 p, .slice a0 m c0, .slice a1 ns c1, .slice a2 nl c2, .string st] 42)).alloc (.cells #[.slice none 0 0, .slice none 0 0] 33)).frozen? ⟨w.heap.size + 1, 1, none⟩ = false := by simp [go_sem]
  have rT : TyAt ((w.alloc (.cells #[.int .i64 p, .slice a0 m c0, .slice a1 ns c1, .slice a2 nl c2, .string st] 42)).alloc (.cells #[.slice none 0 0, .slice none 0 0] 33)) (w.heap.size + 1) 33 := by
    have := TyAt.new (w.alloc (.cells #[.int .i64 p, .slice a0 m c0, .slice a1 ns c1, .slice a2 nl c2, .string st] 42)) #[.slice none 0 0, .slice none 0 0] 33
    rw [World.size_alloc] at this
    exact this
  go_enter Try.func13, Try.ntmps13
  go_wp2_with fail
  generalize (w.alloc (.cells #[.int .i64 p, .slice a0 m c0, .slice a1 ns c1, .slice a2 nl c2, .string st] 42)).alloc (.cells #[.slice none 0 0, .slice none 0 0] 33) = W at W0 b0 b1 b2 b3 b4 r0 r1 rf0 rf1 rT ⊢
  refine (IsValidSTG_any _ s W lo (HV.out.keep (Carries.of lo W0)) HS.out).mono ?_
  rintro e w1 ⟨rfl, hb1⟩
  have hw1 : Below w.heap.size w w1 := W0.trans (hb1.mono W0.size)
  have zR : w.heap.size + 1 < w1.heap.size := Nat.lt_of_lt_of_le rT.lt hb1.size
  have b0 := cell_carry b0 (Carries.of 0 hb1)
  have b1 := cell_carry b1 (Carries.of 0 hb1)
  have b4 := cell_carry b4 (Carries.of 0 hb1)
  have r0 := cell_carry r0 (Carries.of 0 hb1)
  have r1 := cell_carry r1 (Carries.of 0 hb1)
  have rf0 := (hb1.frozen (p := ⟨w.heap.size + 1, 0, none⟩) rT.lt).trans rf0
  have rf1 := (hb1.frozen (p := ⟨w.heap.size + 1, 1, none⟩) rT.lt).trans rf1
  have rT := rT.keep hb1
  clear hb1 b2 b3 W0
  cases hq : goodS s with
  | false =>
    have e1 : G = false := by rw [HGG.out]; unfold xpB; rw [hq]; rfl
    have e2 : V = ⟨[], []⟩ := by rw [HVV.out]; unfold xpV; rw [hq]; rfl
    subst e1; subst e2
    clear hq
    go_wp2_with fail
    refine bodyPost_ret (v := .tuple #[.agg #[.slice none 0 0, .slice none 0 0], .bool false]) (by simp [results, Try.results13, go_sem, r0, r1]) rfl ?_
    exact ⟨_, _, rfl, World.ownsRow_nil _ _ _ _, MRow.nil _ _, (hw1.setCell (by simp) _).setCell (by simp) _⟩
  | true =>
  obtain ⟨hg, hmk⟩ := good_parts hq
  have HQ := Lib.hid hq; have HG := Lib.hid hg; have HK := Lib.hid hmk
  have hp30 := (goodN_parts hg).2.1
  have hp1 := (goodN_parts hg).1
  rw [← HP.out] at hp30 hp1
  obtain ⟨pn, hpn⟩ : ∃ q : Nat, p = (q : Int) := ⟨p.toNat, by omega⟩
  subst hpn
  have hst30 : st.size ≤ 30 := by
    have := mark_size hmk
    rw [← HP.out, ← HST.out] at this
    omega
  have HT1 := Lib.hid (show TrsAt lo w1 (.slice a0 m c0) s.net.ts from by
    obtain ⟨_, _, u, hu, ht⟩ := HNN.out.keep (Carries.of lo hw1)
    injection hu with hu
    have hu2 : (pn : Int) = s.net.places ∧ Value.slice a0 m c0 = u := by simpa using hu
    have hu2 := hu2.2
    rw [hu2]; exact ht)
  clear hq hg hmk
  go_wp2_with fail
  refine (newExplorer_any (pn : Int) a0 m c0 st w1 hst30).mono ?_
  rintro e w2 ⟨E, M, vm, rfl, hx2, hb2⟩
  have HX2 := Lib.hid hx2; have HB2 := Lib.hid hb2
  have hw2 : Below w.heap.size w w2 := hw1.trans (hb2.mono hw1.size)
  have r0 := cell_carry r0 (Carries.of 0 hb2)
  have r1 := cell_carry r1 (Carries.of 0 hb2)
  have rf0 := (hb2.frozen (p := ⟨w.heap.size + 1, 0, none⟩) zR).trans rf0
  have rf1 := (hb2.frozen (p := ⟨w.heap.size + 1, 1, none⟩) zR).trans rf1
  have rT := rT.keep hb2
  clear hx2 hb2 b0 b1 b4
  go_wp2_with fail
  refine (search_any s.net st E M w1 w2 (pn : Int) _ _ _ lo HX2.out HB2.out HT1.out HS.out.1 HG.out (by rw [HST.out]; exact HK.out)).mono ?_
  rintro e w3 ⟨hb3, hc⟩
  have hw3 : Below w.heap.size w w3 := hw2.trans (hb3.mono hw1.size)
  have r0 := cell_low hb3 zR r0
  have r1 := cell_low hb3 zR r1
  have rf0 : w3.frozen? ⟨w.heap.size + 1, 0, none⟩ = false := (frozen_low hb3 zR).trans rf0
  have rf1 : w3.frozen? ⟨w.heap.size + 1, 1, none⟩ = false := (frozen_low hb3 zR).trans rf1
  have rT : TyAt w3 (w.heap.size + 1) 33 := by
    obtain ⟨cur, f, h⟩ := rT
    exact ⟨cur, f, (hb3.block _ zR).trans h⟩
  rcases hc with ⟨s', vm', vv', i, k, t, kk, tt, hf, rfl, ho, hx⟩ | ⟨s', vm', vv', i, k, t, hf, rfl, ho, hx⟩ | ⟨hf, rfl, s', vm', vv', kk, tt, hx⟩
  · rw [HST.out] at hf
    have e1 : G = true := by rw [HGG.out]; unfold xpB; rw [HQ.out, hf]; rfl
    have e2 : V = ⟨s'.ms, s'.mv⟩ := by rw [HVV.out]; unfold xpV; rw [HQ.out, hf]; rfl
    subst e1; subst e2
    obtain ⟨hs1, hs2, hs3, hs4⟩ := ho.small HG.out (by omega)
    have hzs : ∀ a, a < s'.ms.length → (stN s'.ms a).size = pn := fun a ha => by
      have := mark_size (ho.mks a ha)
      rw [← HP.out] at this
      omega
    obtain ⟨av, cv, hvv⟩ : ∃ a c, vv' = .slice a s'.mv.length c := hx.rv.form
    subst hvv
    have HX3 := Lib.hid hx; have HO := Lib.hid ho; have HZS := Lib.hid hzs
    have c4 := hx.c4
    obtain ⟨nV, hnV⟩ : ∃ q, q = s'.mv.length := ⟨_, rfl⟩
    obtain ⟨nM, hnM⟩ : ∃ q, q = s'.ms.length := ⟨_, rfl⟩
    rw [← hnV] at c4
    have HNV := Lib.hid hnV; have HNM := Lib.hid hnM
    have zE := hx.ty.lt
    have hne : E ≠ w.heap.size + 1 := by have := hx.bE; omega
    clear hf ho hx hb3 hzs hnV hnM
    go_wp2_with fail
    refine wp_region_held_drew (S := fun w' => w'.cell? ⟨E, 4, none⟩ = some (.slice av nV cv)) (by kernel_rfl) c4 (fun hHeld => ?_)
    have hdr : Below w3.heap.size w3 w3.drew := (Below.refl _ _).drew
    refine tk0 (v := ?_) (by kernel_rfl) (by kernel_rfl) (by kernel_rfl) (by first | exact fun _ _ _ h => h | exact fun _ _ _ h => absurd h.1 (by simp)) (Or.inl ⟨by rfl, ?_⟩) (by assumption) ?_
    rotate_left 1
    focus (intro wx hSw; (try dsimp only at hSw); go_simp; try (with_reducible rfl))
    try simp only [Act.put, List.setIfInBounds_toArray, List.set_cons_zero, List.set_cons_succ]
    refine tk2 (v := ?_) (by kernel_rfl) (by kernel_rfl) (by kernel_rfl) (by first | exact fun _ _ _ h => h | exact fun _ _ _ h => absurd h.1 (by simp)) (Or.inl ⟨by rfl, ?_⟩) (by assumption) ?_
    rotate_left 1
    focus (intro wx hSw; (try dsimp only at hSw); go_simp; try (with_reducible rfl))
    try simp only [Act.put, List.setIfInBounds_toArray, List.set_cons_zero, List.set_cons_succ]
    refine tk3 (v := ?_) (by kernel_rfl) (by kernel_rfl) (by kernel_rfl) (by first | exact fun _ _ _ h => h | exact fun _ _ _ h => absurd h.1 (by simp)) (Or.inl ⟨by rfl, ?_⟩) (by assumption) ?_
    rotate_left 1
    focus (intro wx hSw; (try dsimp only at hSw); go_simp; try (with_reducible rfl))
    try simp only [Act.put, List.setIfInBounds_toArray, List.set_cons_zero, List.set_cons_succ]
    refine tk4 (v := ?_) (by kernel_rfl) (by kernel_rfl) (by kernel_rfl) (by first | exact fun _ _ _ h => h | exact fun _ _ _ h => absurd h.1 (by simp)) (Or.inl ⟨by rfl, ?_⟩) (by assumption) ?_
    rotate_left 1
    focus (intro wx hSw; (try dsimp only at hSw); go_simp; try (with_reducible rfl))
    try simp only [Act.put, List.setIfInBounds_toArray, List.set_cons_zero, List.set_cons_succ]
    refine tk5 (v := ?_) (by kernel_rfl) (by kernel_rfl) (by kernel_rfl) (by first | exact fun _ _ _ h => h | exact fun _ _ _ h => absurd h.1 (by simp)) (Or.inl ⟨by rfl, ?_⟩) (by assumption) ?_
    rotate_left 1
    focus (intro wx hSw; (try dsimp only at hSw); go_simp; try (with_reducible rfl))
    try simp only [Act.put, List.setIfInBounds_toArray, List.set_cons_zero, List.set_cons_succ]
    refine rd1 (by kernel_rfl) (fun K hK => ?_)
    go_simp
    refine (markTexts_any w1.heap.size E M w3.drew pn a0 m c0 _ _ kk tt false s' (HX3.out.after hdr) (by omega) HZS.out (by omega) HO.out.pos).mono ?_
    rintro e w4 ⟨bT, rfl, hbT, hbT2, hrow, hb4⟩
    have hb34 : Below w3.heap.size w3 w4 := hdr.trans (hb4.mono hdr.size)
    have c4 := cell_carry c4 (Carries.of 0 hb34)
    have r0 := cell_carry r0 (Carries.of 0 hb34)
    have r1 := cell_carry r1 (Carries.of 0 hb34)
    have rf0 := (hb34.frozen (p := ⟨w.heap.size + 1, 0, none⟩) rT.lt).trans rf0
    have rf1 := (hb34.frozen (p := ⟨w.heap.size + 1, 1, none⟩) rT.lt).trans rf1
    have rT := rT.keep hb34
    have hw4 := hw3.trans (hb34.mono hw3.size)
    have HROW := Lib.hid hrow
    have HM4 := Lib.hid (show MRow w1.heap.size w4 (.slice av nV cv) s'.mv by rw [HNV.out]; exact owns_after HX3.out.rv hb34)
    have zbT : w.heap.size ≤ bT := Nat.le_trans hw3.size hbT
    rw [← HNM.out]
    clear hrow hb4 hdr
    refine hK.out _ _ c4 (fun hHeld => ?_)
    clear hK K
    try simp only [Act.put, List.setIfInBounds_toArray, List.set_cons_zero, List.set_cons_succ]
    refine tk6 (v := ?_) (by kernel_rfl) (by kernel_rfl) (by kernel_rfl) (by first | exact fun _ _ _ h => h | exact fun _ _ _ h => absurd h.1 (by simp)) (Or.inl ⟨by rfl, ?_⟩) (by assumption) ?_
    rotate_left 1
    focus (intro wx hSw; (try dsimp only at hSw); go_simp; try (with_reducible rfl))
    try simp only [Act.put, List.setIfInBounds_toArray, List.set_cons_zero, List.set_cons_succ]
    refine rd7 (by kernel_rfl) (fun K hK => ?_)
    go_simp
    have k4 := cell_two (x := .slice (some ⟨bT, 0, none⟩) nM nM) (y := .slice av nV cv) c4 hne
    refine hK.out _ _ k4 (fun hHeld => ?_)
    clear hK K
    try simp only [Act.put, List.setIfInBounds_toArray, List.set_cons_zero, List.set_cons_succ]
    refine tk8 (v := ?_) (by kernel_rfl) (by kernel_rfl) (by kernel_rfl) (by first | exact fun _ _ _ h => h | exact fun _ _ _ h => absurd h.1 (by simp)) (Or.inl ⟨by rfl, ?_⟩) (by assumption) ?_
    rotate_left 1
    focus (intro wx hSw; (try dsimp only at hSw); go_simp; try (with_reducible rfl))
    try simp only [Act.put, List.setIfInBounds_toArray, List.set_cons_zero, List.set_cons_succ]
    refine wpAnyH_done (by kernel_rfl) ?_ _
    go_wp2_with fail
    refine bodyPost_ret (v := .tuple #[.agg #[.slice (some ⟨bT, 0, none⟩) nM nM, .slice av nV cv], .bool true]) (by simp [results, Try.results13, go_sem, r0, r1]) rfl ?_
    have hsr : SRow w.heap.size w4 (.slice (some ⟨bT, 0, none⟩) nM nM) s'.ms := by rw [HNM.out]; exact srow_of_made zbT (by omega) HROW.out
    have h1 := owns_setT hsr (p := ⟨w.heap.size + 1, 0, none⟩) rT (by decide) (.slice (some ⟨bT, 0, none⟩) nM nM)
    have h2 := owns_setT h1 (p := ⟨w.heap.size + 1, 1, none⟩) (rT.set _ _) (by decide) (.slice av nV cv)
    have g1 := owns_setT HM4.out (p := ⟨w.heap.size + 1, 0, none⟩) rT (by decide) (.slice (some ⟨bT, 0, none⟩) nM nM)
    have g2 := owns_setT g1 (p := ⟨w.heap.size + 1, 1, none⟩) (rT.set _ _) (by decide) (.slice av nV cv)
    exact ⟨_, _, rfl, h2, Go.Joins.ownsRow_le g2 hw1.size, (hw4.setCell (by simp) _).setCell (by simp) _⟩
  all_goals
    rw [HST.out] at hf
    have e1 : G = false := by rw [HGG.out]; unfold xpB; rw [HQ.out, hf]; rfl
    have e2 : V = ⟨[], []⟩ := by rw [HVV.out]; unfold xpV; rw [HQ.out, hf]; rfl
    subst e1; subst e2
    clear hf hx hb3
    go_wp2_with fail
    refine bodyPost_ret (v := .tuple #[.agg #[.slice none 0 0, .slice none 0 0], .bool false]) (by simp [results, Try.results13, go_sem, r0, r1]) rfl ?_
    exact ⟨_, _, rfl, World.ownsRow_nil _ _ _ _, MRow.nil _ _, (hw3.setCell (by simp) _).setCell (by simp) _⟩

end Go.Proofs.Ytigkgfdnnfmmmaa
