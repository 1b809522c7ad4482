/- WALKS: transitionsAlong, ShortestFiringSequence of the program. -/
import Derived.Test.YtfipnlehaklepaaVShp
import Derived.Test.YtfipnlehaklepaaVRgi
import Derived.Test.YtfipnlehaklepaaVSgt
import Derived.Test.YtfipnlehaklepaaVOwn
namespace Go.Proofs.Ytfipnlehaklepaa
open Go.RowKit

theorem goodR_in {r : RgD} (h : goodR r = true) : MvIn r.moves r.marks.length := fun _ hi => ⟨(goodR_moves h hi).1, (goodR_moves h hi).2.1⟩
/-- is there a way to t, and the transitions along a shortest one -/
def sfB (r : RgD) (t : Int) : Bool := goodR r && (decide (0 ≤ t ∧ t < r.marks.length) && decide (0 ≤ distC r.marks.length r.moves t.toNat))
def byL (ms : List Mv) (W : List Nat) : List Int := W.map (fun i => mvB ms i)
def sfL (r : RgD) (t : Int) : List Int := if sfB r t = true then byL r.moves (wayTo r.moves (distC r.marks.length r.moves) (distC r.marks.length r.moves t.toNat).toNat t.toNat) else []
theorem sf_no {r : RgD} {t : Int} (h : sfB r t = false) : sfL r t = [] := by unfold sfL; rw [h]; rfl
theorem sfB_bad {r : RgD} {t : Int} (h : goodR r = false) : sfB r t = false := by unfold sfB; rw [h]; rfl
theorem sfB_out {r : RgD} {t : Int} (h : ¬ (0 ≤ t ∧ t < r.marks.length)) : sfB r t = false := by unfold sfB; rw [decide_eq_false h]; simp
theorem sfB_far {r : RgD} {t : Nat} {D : Nat → Int} (hD : Dist r.marks.length (tgL r.moves) 0 D) (ht : t < r.marks.length) (h : D t < 0) : sfB r t = false := by
  cases hg : goodR r with
  | false => exact sfB_bad hg
  | true =>
  unfold sfB
  rw [Int.toNat_natCast, distC_eq (goodR_in hg) hD t ht, decide_eq_false (show ¬ 0 ≤ D t by omega)]
  simp
theorem sfB_yes {r : RgD} {t : Nat} {D : Nat → Int} (hg : goodR r = true) (hD : Dist r.marks.length (tgL r.moves) 0 D) (ht : t < r.marks.length) (h : 0 ≤ D t) : sfB r t = true := by
  unfold sfB
  rw [hg, Int.toNat_natCast, distC_eq (goodR_in hg) hD t ht, decide_eq_true h, decide_eq_true (show (0 : Int) ≤ (t : Int) ∧ (t : Int) < r.marks.length by omega)]
  rfl
theorem sfL_yes {r : RgD} {t : Nat} {D : Nat → Int} (hg : goodR r = true) (hD : Dist r.marks.length (tgL r.moves) 0 D) (hin : MvIn r.moves r.marks.length) (ht : t < r.marks.length) (h : 0 ≤ D t) : sfL r t = byL r.moves (wayTo r.moves D (D t).toNat t) := by
  unfold sfL
  rw [sfB_yes hg hD ht h, if_pos rfl, Int.toNat_natCast, distC_eq hin hD t ht, wayTo_congr hin (distC_eq hin hD)]
theorem byL_length (ms : List Mv) (W : List Nat) : (byL ms W).length = W.length := by simp [byL]
theorem byL_toMv (ms : List Mv) (W : List Nat) (i : Nat) (h : i < W.length) : (byL ms W).getD i 0 = mvB (toMv ms W) i := by
  have h1 : W[i]? = some W[i] := List.getElem?_eq_getElem h
  rw [(toMv_get (ms := ms) h1).2.1]
  unfold byL
  simp [List.getD, h1]
theorem sfL_small {r : RgD} {t : Int} (h : SmallRg r) : (sfL r t).length ≤ 1048576 := by
  unfold sfL
  by_cases hb : sfB r t = true
  · rw [if_pos hb, byL_length, wayTo_length]
    unfold sfB at hb
    simp only [Bool.and_eq_true, decide_eq_true_eq] at hb
    have ht : t.toNat < r.marks.length := by omega
    have h1 := (distC_is (goodR_in hb.1) (by omega) t.toNat ht).2.1
    have h2 := h.1.1
    omega
  · rw [if_neg hb]; exact Nat.zero_le _

set_option maxRecDepth 100000 in
set_option maxHeartbeats 1000000 in
theorem along_any (v : Value) (ms : List Mv) (w : World) (lo : Nat) (hv : MovesAt lo w v ms) (hl : ms.length ≤ 1048576) :
    Calls Try.prog 92 #[v] w (fun e w' => ∃ b : Nat, e = .returned (.slice (some ⟨b, 0, none⟩) ms.length ms.length) ∧ w.heap.size ≤ b ∧ w'.rowIs b 3 ms.length (dV (fun i => mvB ms i)) ∧ Below w.heap.size w w') := by
  obtain ⟨ao, cap, rfl, hc, hz⟩ := hv
  have HF := Lib.hid hz; clear hz
  have hmk := run_make_row' (P := Try.prog) 45 3 (.int .i64 0) 8 Try.underlying45 Try.infoInt rfl .i64 .i64 ms.length (by omega) (by omega)
  have hr0 := Lib.hid (World.rowIs_made w (.int .i64 0) ms.length 3)
  have hb0 : Below w.heap.size w (w.alloc (.cells (madeCells #[.int .i64 0] ms.length) 3)) := (Below.refl _ _).alloc (Nat.le_refl _) _
  go_enter Try.func92, Try.ntmps92
  go_wp2_with fail
  generalize w.alloc (.cells (madeCells #[.int .i64 0] ms.length) 3) = W at hr0 hb0 ⊢
  go_loopw [11] (fun i wr => ∃ k : Nat, k ≤ ms.length ∧ i = .int .i64 k ∧ Hid (∃ f, wr.rowIs w.heap.size 3 ms.length f ∧ ∀ j, j < k → f j = dV (fun i => mvB ms i) j) ∧ Below w.heap.size w wr) (fun i _ => ms.length - (intOf i).toNat)
  case atStart => exact ⟨0, Nat.zero_le _, rfl, ⟨_, hr0.out, fun j hj => absurd hj (Nat.not_lt_zero _)⟩, hb0⟩
  case round =>
    clear hr0 hb0
    obtain ⟨k, hk, rfl, hrow, hb1⟩ := hrel
    by_cases hlt : k < ms.length
    · rcases HF.out with h0 | ⟨b, off, rfl, hlo, hcell⟩
      · omega
      obtain ⟨q0, q1, q2⟩ := hcell k hlt
      have d0 := Carries.of lo hb1 _ _ hlo q0
      have d1 := Carries.of lo hb1 _ _ hlo q1
      have d2 := Carries.of lo hb1 _ _ hlo q2
      clear hcell q0 q1 q2
      try dsimp only at d0 d1 d2
      obtain ⟨f, hr, hf⟩ := hrow.out
      have ck := hr.cell hlt
      have fk := hr.frozen k
      have zr := hr.lt
      have HS : Hid (∀ o, ∃ f, ((wr.setCell ⟨w.heap.size, k, none⟩ (.int .i64 (mvB ms k))).alloc o).rowIs w.heap.size 3 ms.length f ∧ ∀ j, j < k + 1 → f j = dV (fun i => mvB ms i) j) := fun o => by
        refine ⟨_, (hr.set k (.int .i64 (mvB ms k))).alloc o, fun j hj => ?_⟩
        by_cases e : j = k
        · subst e; simp [dV]
        · rw [if_neg e]; exact hf j (by omega)
      have hb2 : Hid (Below w.heap.size w (wr.setCell ⟨w.heap.size, k, none⟩ (.int .i64 (mvB ms k)))) := hb1.setCell (p := ⟨w.heap.size, k, none⟩) (Nat.le_refl _) _
      clear hrow hr hf
      generalize f k = x at ck
      generalize mvF ms k = xf at d0
      generalize mvB ms k = xb at d1 HS hb2
      generalize mvT ms k = xt at d2
      go_wp2_with fail
      go_roundw
      case rel => exact ⟨k + 1, by omega, by go_num, HS.out _, hb2.out.alloc (by simpa using hb1.size) _⟩
      case measure => simp [intOf]; omega
    · have hkk : k = ms.length := by omega
      subst hkk
      obtain ⟨f, hr, hf⟩ := hrow.out
      have HR := Lib.hid (hr.congr hf)
      clear hrow hr hf
      go_wp2_with fail
      go_ret
      exact ⟨_, rfl, Nat.le_refl _, HR.out, hb1⟩

set_option maxRecDepth 100000 in
set_option maxHeartbeats 4000000 in
theorem ShortestFiringSequence_any (v : Value) (r : RgD) (t : Int) (w : World) (lo : Nat) (hv : RgAt lo w v r) (hs : SmallRg r) :
    Calls Try.prog 41 #[v, .int .i64 t] w (RetOv w (sfL r t) (sfB r t)) := by
  have HV := Lib.hid hv
  obtain ⟨a0, c0, a1, c1, rfl, h_0, h_1⟩ := hv.form
  have HM := Lib.hid h_1
  clear hv h_0 h_1
  have KC := hs.1.1
  have KM := Lib.hid hs.2
  have HS := Lib.hid hs; clear hs
  have E1 := Lib.hid (fun h : goodR r = false => sfB_bad (t := t) h)
  have E2 := Lib.hid (fun h : ¬ (0 ≤ t ∧ t < r.marks.length) => sfB_out h)
  have E3 := Lib.hid (fun h : sfB r t = false => sf_no h)
  obtain ⟨nc, hnc⟩ : ∃ n, n = r.marks.length := ⟨_, rfl⟩
  obtain ⟨na, hna⟩ : ∃ n, n = r.moves.length := ⟨_, rfl⟩
  obtain ⟨LL, hL⟩ : ∃ L, L = sfL r t := ⟨_, rfl⟩
  obtain ⟨BB, hB⟩ : ∃ B, B = sfB r t := ⟨_, rfl⟩
  rw [← hL, ← hB]
  have HL := Lib.hid hL
  have HB := Lib.hid hB
  rw [← hna] at HM
  rw [← hnc, ← hna] at HV ⊢
  rw [← hnc] at KC
  have HNC := Lib.hid hnc
  have HNA := Lib.hid hna
  clear hL hB hnc hna
  have x0 : (w.alloc (.cells #[.slice a0 nc c0, .slice a1 na c1] 59)).cell? ⟨w.heap.size, 0, none⟩ = some (.slice a0 nc c0) := by simp
  have x1 : (w.alloc (.cells #[.slice a0 nc c0, .slice a1 na c1] 59)).cell? ⟨w.heap.size, 1, none⟩ = some (.slice a1 na c1) := by simp
  have hal : Below w.heap.size w (w.alloc (.cells #[.slice a0 nc c0, .slice a1 na c1] 59)) := (Below.refl _ _).alloc (Nat.le_refl _) _
  go_enter Try.func41, Try.ntmps41
  go_wp2_with fail
  generalize w.alloc (.cells #[.slice a0 nc c0, .slice a1 na c1] 59) = W0 at x0 x1 hal ⊢
  refine (isReach_any _ r _ lo (HV.out.keep (Carries.of lo hal)) HS.out).mono ?_
  rintro e w1 ⟨rfl, hb⟩
  have hw1 : Below w.heap.size w w1 := hal.trans (hb.mono hal.size)
  have x0 := cell_carry x0 (Carries.of 0 hb)
  have x1 := cell_carry x1 (Carries.of 0 hb)
  clear hb hal
  cases hg : goodR r with
  | false =>
    have e1 := HB.out.trans (E1.out hg)
    have e2 := HL.out.trans (E3.out (E1.out hg))
    subst e1
    subst e2
    clear hg
    go_wp2_with fail
    go_ret2
    exact ⟨_, rfl, ow_nil _ _, hw1⟩
  | true =>
  have HG := Lib.hid hg; clear hg
  go_wp2_with fail
  refine (hasMarking_any _ _ _ _ _ _ _ _ KC).mono ?_
  rintro e w2 ⟨rfl, hb⟩
  have hw2 : Below w.heap.size w w2 := hw1.trans (hb.mono hw1.size)
  have x0 := cell_carry x0 (Carries.of 0 hb)
  have x1 := cell_carry x1 (Carries.of 0 hb)
  clear hb hw1
  by_cases ht : 0 ≤ t ∧ t < nc
  case neg =>
    have e0 : sfB r t = false := E2.out (by rw [← HNC.out]; exact ht)
    have e1 := HB.out.trans e0
    have e2 := HL.out.trans (E3.out e0)
    subst e1
    subst e2
    rw [decide_eq_false ht]
    clear ht e0
    go_wp2_with fail
    go_ret2
    exact ⟨_, rfl, ow_nil _ _, hw2⟩
  rw [decide_eq_true ht]
  obtain ⟨tn, rfl⟩ := Int.eq_ofNat_of_zero_le ht.1
  have htn : tn < nc := by omega
  clear ht
  go_wp2_with fail
  refine (shortestPath_any nc _ r.moves tn w2 lo (HM.out.keep (Carries.of lo hw2)) KC KM.out (by rw [HNC.out]; exact goodR_in HG.out) htn).mono ?_
  rintro e w3 ⟨D, hD, hn, hy, hb⟩
  have hw3 : Below w.heap.size w w3 := hw2.trans (hb.mono hw2.size)
  have HD : Hid (Dist r.marks.length (tgL r.moves) 0 D) := by rw [← HNC.out]; exact hD
  have hnl := Lib.hid HNC.out
  by_cases h0 : D tn < 0
  · have h := hn h0
    subst h
    have e0 : sfB r (tn : Int) = false := sfB_far HD.out (by rw [← HNC.out]; exact htn) h0
    have e1 := HB.out.trans e0
    have e2 := HL.out.trans (E3.out e0)
    subst e1
    subst e2
    clear hn hy hb h0 e0 hD
    go_wp2_with fail
    refine (along_any _ [] w3 0 ⟨none, 0, rfl, Nat.le_refl _, Or.inl rfl⟩ (by simp)).mono ?_
    rintro e w4 ⟨b, rfl, hb0, hrow, hb⟩
    have hw4 : Below w.heap.size w w4 := hw3.trans (hb.mono hw3.size)
    have HO : Hid (IntsOw w.heap.size w4 (.slice (some ⟨b, 0, none⟩) 0 0) []) := IntsOw.low (ow_of_row (zs := []) hrow (fun i hi => absurd hi (Nat.not_lt_zero _))) (Nat.le_trans hw3.size hb0)
    clear hb hrow
    go_wp2_with fail
    go_ret2
    exact ⟨_, rfl, HO.out, hw4⟩
  · obtain ⟨vv, h, hmv⟩ := hy (by omega)
    subst h
    have e1 := HB.out.trans (sfB_yes HG.out HD.out (by rw [← HNC.out]; exact htn) (by omega))
    have e2 := HL.out.trans (sfL_yes HG.out HD.out (goodR_in HG.out) (by rw [← HNC.out]; exact htn) (by omega))
    subst e1
    have HMV := Lib.hid hmv
    obtain ⟨am, cm, rfl⟩ := hmv.form
    have hdn := (hD tn htn).2.1
    obtain ⟨W, hW⟩ : ∃ W, W = wayTo r.moves D (D tn).toNat tn := ⟨_, rfl⟩
    have hWl : W.length ≤ 1048576 := by rw [hW, wayTo_length]; omega
    rw [← hW] at e2 HMV ⊢
    have hbl := Lib.hid (byL_toMv r.moves W)
    have HE := Lib.hid e2
    have HTL := Lib.hid (toMv_length r.moves W)
    have HBL := Lib.hid (byL_length r.moves W)
    clear hn hy hb h0 hD hmv hW e2
    go_wp2_with fail
    refine (along_any _ (toMv r.moves W) w3 _ HMV.out (by rw [HTL.out]; exact hWl)).mono ?_
    rintro e w4 ⟨b, rfl, hb0, hrow, hb⟩
    have hw4 : Below w.heap.size w w4 := hw3.trans (hb.mono hw3.size)
    have HO : Hid (IntsOw w.heap.size w4 (.slice (some ⟨b, 0, none⟩) (toMv r.moves W).length (toMv r.moves W).length) LL) := by
      rw [HE.out, HTL.out, ← HBL.out]
      rw [HTL.out, ← HBL.out] at hrow
      refine IntsOw.low (ow_of_row hrow (fun i hi => ?_)) (Nat.le_trans hw3.size hb0)
      rw [HBL.out] at hi
      rw [hbl.out i hi]
      rfl
    clear hb hrow
    go_wp2_with fail
    go_ret2
    exact ⟨_, rfl, HO.out, hw4⟩

end Go.Proofs.Ytfipnlehaklepaa
