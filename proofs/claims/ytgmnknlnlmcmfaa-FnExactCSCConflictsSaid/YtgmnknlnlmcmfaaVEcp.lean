/- WALKS: haveEqualCodes, EqualCodePairs of the program; l6Pairs, EqualCodePairs of the model. -/
import Derived.Test.YtgmnknlnlmcmfaaVRwa
import Derived.Test.YtgmnknlnlmcmfaaVSgv
import Derived.Test.YtgmnknlnlmcmfaaVSgu
namespace Go.Proofs.Ytgmnknlnlmcmfaa
open Go.RowKit

/-- two states have one code -/
def eqC (r : SgD) (i k : Nat) : Bool := decide (stN r.codes i = stN r.codes k)
def ecL (r : SgD) : List (List Int) := if goodG r = true then prZ (eqC r) r.codes.length else []
theorem ecL_no {r : SgD} (h : goodG r = false) : ecL r = [] := by unfold ecL; rw [h]; rfl
theorem ecL_yes {r : SgD} (h : goodG r = true) : ecL r = prZ (eqC r) r.codes.length := by unfold ecL; rw [h]; rfl
theorem ecL_small (r : SgD) : SmallRows (ecL r) := by
  cases h : goodG r with
  | false => rw [ecL_no h]; exact ⟨Nat.zero_le _, fun i => by simp [rwN]⟩
  | true =>
    rw [ecL_yes h]
    have hl := (goodG_get h).2.1
    have hm : r.codes.length ≤ 4000 := by have h1 := hl.1.2; have h2 := hl.2; omega
    refine ⟨Nat.le_trans (prZ_length _ _) (Nat.le_trans (Nat.mul_le_mul hm hm) (by decide)), fun i => Nat.le_trans prZ_two (by decide)⟩

/-- pairs that an iterator gave, collected: rows of the call's own -/
theorem PrS.rows {f : Nat → Nat → Bool} {m B B' : Nat} {w : World} {v : Value} {xs : List Pr} (h : PrS f m B xs w) (hr : w.ownsRow B' 28 1 v xs.length (xs.map prV)) (h1 : B' ≤ B) : RowsOw B' w v (prZ f m) := by
  obtain ⟨he, hp, ha⟩ := h
  have hl : (prZ f m).length = xs.length := by unfold prZ; rw [← he, List.length_map, List.length_map]
  refine ⟨xs.map (fun x => (prV x, [(x.1 : Int), (x.2.1 : Int)])), ?_, ⟨fun p hp2 => ?_, ?_⟩, ?_⟩
  · rw [hl, List.map_map]; exact hr
  · obtain ⟨x, hx, rfl⟩ := List.mem_map.1 hp2
    obtain ⟨hB, hh⟩ := hp x hx
    have hIO : IntsOw B' w (prV x) [(x.1 : Int), (x.2.1 : Int)] := ⟨_, 2, rfl, Nat.le_refl _, Or.inr ⟨x.2.2, 0, rfl, by omega, two_ints hh⟩⟩
    refine ⟨hIO, hIO.bound, fun b off n c e _ => ?_⟩
    injection e with e1 e2 e3
    injection e1 with e1
    injection e1 with e1 e4 e5
    subst e1
    exact ⟨3, by decide, _, _, hh⟩
  · rw [List.pairwise_map]
    refine ha.imp ?_
    intro x y hne b off n c off' n' c' e _ e'
    injection e with e1 e2 e3
    injection e1 with e1
    injection e1 with e1 e4 e5
    injection e' with e1' e2' e3'
    injection e1' with e1'
    injection e1' with e1' e4' e5'
    exact absurd (e1.trans e1'.symm) hne
  · rw [List.map_map]
    unfold prZ
    rw [← he, List.map_map]
    rfl

set_option maxRecDepth 100000 in
set_option maxHeartbeats 1000000 in
theorem haveEqualCodes_any (v : Value) (r : SgD) (i k : Nat) (w : World) (lo : Nat) (hv : SgAt lo w v r) (hs : SmallSg r) (hi : i < r.codes.length) (hk : k < r.codes.length) :
    Calls Try.prog 70 #[v, .int .i64 (i : Int), .int .i64 (k : Int)] w (RetB w (eqC r i k)) := by
  have KC := hs.2.1.1
  obtain ⟨q, hq⟩ : ∃ q, q = eqC r i k := ⟨_, rfl⟩
  rw [← hq]
  obtain ⟨a0, c0, a1, c1, a2, c2, rfl, h_0, h_1, h_2⟩ := hv.form
  clear hv h_0 h_2 hs
  obtain ⟨ao, cap, hvv, hc, hz⟩ := h_1
  injection hvv with e1 e2 e3
  subst e1; subst e3; clear e2
  rcases hz with h0 | ⟨b, off, rfl, hlo, hcell⟩
  · omega
  have d0 := hcell i hi
  have d1 := hcell k hk
  have t0 : ((stN r.codes i).toList == (stN r.codes k).toList) = q := by rw [bytes_toList_beq, hq]; rfl
  clear hcell hq hc
  generalize stN r.codes i = x at d0 t0
  generalize stN r.codes k = y at d1 t0
  obtain ⟨ng, hng⟩ : ∃ n, n = r.sigs.length := ⟨_, rfl⟩
  obtain ⟨nc, hnc⟩ : ∃ n, n = r.codes.length := ⟨_, rfl⟩
  obtain ⟨na, hna⟩ : ∃ n, n = r.arcs.length := ⟨_, rfl⟩
  rw [← hnc] at hi hk KC
  rw [← hng, ← hnc, ← hna]
  clear hng hnc hna
  have hal : Below w.heap.size w (w.alloc (.cells #[.slice a0 ng c0, .slice (some ⟨b, off, none⟩) nc c1, .slice a2 na c2] 34)) := (Below.refl _ _).alloc (Nat.le_refl _) _
  have x1 : (w.alloc (.cells #[.slice a0 ng c0, .slice (some ⟨b, off, none⟩) nc c1, .slice a2 na c2] 34)).cell? ⟨w.heap.size, 1, none⟩ = some (.slice (some ⟨b, off, none⟩) nc c1) := by simp
  have d0 := cell_carry d0 (Carries.of 0 hal)
  have d1 := cell_carry d1 (Carries.of 0 hal)
  go_enter Try.func70, Try.ntmps70
  go_wp2_with fail
  generalize w.alloc (.cells #[.slice a0 ng c0, .slice (some ⟨b, off, none⟩) nc c1, .slice a2 na c2] 34) = W0 at x1 hal d0 d1 ⊢
  go_quiet (fail)
  go_wp2_with fail
  go_ret
  exact ⟨rfl, below_drewN hal _⟩

set_option maxRecDepth 100000 in
set_option maxHeartbeats 2000000 in
theorem EqualCodePairs_any (v : Value) (r : SgD) (w : World) (lo : Nat) (hv : SgAt lo w v r) (hs : SmallSg r) :
    Calls Try.prog 22 #[v] w (RetOr w (ecL r) (goodG r)) := by
  have HV := Lib.hid hv
  obtain ⟨a0, c0, a1, c1, a2, c2, rfl, h_0, h_1, h_2⟩ := hv.form
  clear hv h_0 h_1 h_2
  have KC := hs.2.1.1
  have KA := hs.2.2
  have HS := Lib.hid hs; clear hs
  obtain ⟨ng, hng⟩ : ∃ n, n = r.sigs.length := ⟨_, rfl⟩
  obtain ⟨nc, hnc⟩ : ∃ n, n = r.codes.length := ⟨_, rfl⟩
  obtain ⟨na, hna⟩ : ∃ n, n = r.arcs.length := ⟨_, rfl⟩
  have e4 : goodG r = false → ecL r = [] := ecL_no
  have e5 : goodG r = true → ecL r = prZ (eqC r) nc := fun h => by rw [hnc]; exact ecL_yes h
  obtain ⟨LL, hL⟩ : ∃ L, L = ecL r := ⟨_, rfl⟩
  rw [← hL] at e4 e5 ⊢
  obtain ⟨G, hG⟩ : ∃ G, G = goodG r := ⟨_, rfl⟩
  rw [← hG] at e4 e5 ⊢
  have HGG := Lib.hid hG
  have E4 := Lib.hid e4
  have E5 := Lib.hid e5
  rw [← hng, ← hnc, ← hna] at HV ⊢
  rw [← hnc] at KC
  rw [← hna] at KA
  have HNC := Lib.hid hnc
  have HNA := Lib.hid hna
  have HNG := Lib.hid hng
  clear hG e4 e5 hL hng hnc hna
  have x0 : (w.alloc (.cells #[.slice a0 ng c0, .slice a1 nc c1, .slice a2 na c2] 34)).cell? ⟨w.heap.size, 0, none⟩ = some (.slice a0 ng c0) := by simp
  have x1 : (w.alloc (.cells #[.slice a0 ng c0, .slice a1 nc c1, .slice a2 na c2] 34)).cell? ⟨w.heap.size, 1, none⟩ = some (.slice a1 nc c1) := by simp
  have x2 : (w.alloc (.cells #[.slice a0 ng c0, .slice a1 nc c1, .slice a2 na c2] 34)).cell? ⟨w.heap.size, 2, none⟩ = some (.slice a2 na c2) := by simp
  have hal : Below w.heap.size w (w.alloc (.cells #[.slice a0 ng c0, .slice a1 nc c1, .slice a2 na c2] 34)) := (Below.refl _ _).alloc (Nat.le_refl _) _
  go_enter Try.func22, Try.ntmps22
  go_wp2_with fail
  generalize w.alloc (.cells #[.slice a0 ng c0, .slice a1 nc c1, .slice a2 na c2] 34) = W0 at x0 x1 x2 hal ⊢
  refine (IsValidSg_any _ r _ lo (HV.out.keep (Carries.of lo hal)) HS.out).mono ?_
  rintro e W ⟨rfl, hb⟩
  have hW : Below w.heap.size w W := hal.trans (hb.mono hal.size)
  have x0 := cell_carry x0 (Carries.of 0 hb)
  have x1 := cell_carry x1 (Carries.of 0 hb)
  have x2 := cell_carry x2 (Carries.of 0 hb)
  have zW := hW.size
  clear hb hal
  rw [← HGG.out]
  cases hg : G with
  | false =>
    have el := E4.out hg
    subst el
    subst hg
    go_wp2_with fail
    go_ret2
    exact ⟨_, rfl, RowsOw.nil _ _, hW⟩
  | true =>
  have HE := Lib.hid (E5.out hg)
  have HGT := Lib.hid (HGG.out.symm.trans hg)
  subst hg
  go_wp2_with fail
  refine (pairs_any nc 70 #[.agg #[.slice a0 ng c0, .slice a1 nc c1, .slice a2 na c2]] #[] W).mono ?_
  rintro e W2 ⟨rfl, hw2⟩
  have hb2 : Below W.heap.size W W2 := by rw [hw2]; exact ((Below.refl _ _).alloc (Nat.le_refl _) _).alloc (by simp) _
  have xc : W2.cell? ⟨W.heap.size, 0, none⟩ = some (.int .i64 (nc : Int)) := by rw [hw2]; simp
  have xf : W2.cell? ⟨W.heap.size + 1, 0, none⟩ = some (.func (.func 70) #[.agg #[.slice a0 ng c0, .slice a1 nc c1, .slice a2 na c2]] #[]) := by
    have h := (Boxed.new (W.alloc (.cells #[.int .i64 (nc : Int)] 3)) 100 (.func (.func 70) #[.agg #[.slice a0 ng c0, .slice a1 nc c1, .slice a2 na c2]] #[])).cell
    rw [World.size_alloc] at h
    rw [hw2]; exact h
  have hw : Below w.heap.size w W2 := hW.trans (hb2.mono zW)
  have zW2 := hb2.size
  have HV2 := Lib.hid (HV.out.keep (Carries.of lo hw))
  have hnc : nc ≤ 4000 := by have := (goodG_get HGT.out).2.1.1.2; rw [← HNC.out] at this; omega
  have hT := pairs1_tells 70 #[.agg #[.slice a0 ng c0, .slice a1 nc c1, .slice a2 na c2]] #[] (eqC r) nc 8 (by decide) W.heap.size (W.heap.size + 1) W2 (by omega) (enters_of Try.func70 (by kernel_rfl) rfl) xc xf
    (fun i k hik hk W3 hb3 => haveEqualCodes_any _ r i k W3 lo (HV2.out.keep (Carries.of lo hb3)) HS.out (by rw [← HNC.out]; omega) (by rw [← HNC.out]; exact hk))
  have hC := Collect_any 126 #[.pointer (some ⟨W.heap.size, 0, none⟩), .pointer (some ⟨W.heap.size + 1, 0, none⟩)] W2 W2 _ _ _ (Nat.le_trans (Nat.mul_le_mul hnc hnc) (by decide)) (enters_of Try.func126 (by kernel_rfl) rfl) (Below.refl _ _) (fun D => PrS.own (eqC r) nc W2.heap.size D) hT
  clear xc xf hT hw2 hb2
  go_wp2_with fail
  refine hC.mono ?_
  clear hC
  rintro e W3 ⟨vr, xs, rfl, hs3, hrow, hb3⟩
  have hR := Lib.hid (show RowsOw w.heap.size W3 vr LL by rw [HE.out]; exact (PrS.rows hs3 hrow (Nat.le_refl _)).low (Nat.le_trans zW zW2))
  have hw3 : Below w.heap.size w W3 := hw.trans (hb3.mono hw.size)
  obtain ⟨av, cv, rfl, _⟩ := hR.out.cap
  clear hs3 hrow hb3
  go_wp2_with fail
  go_ret2
  exact ⟨_, rfl, hR.out, hw3⟩

end Go.Proofs.Ytgmnknlnlmcmfaa
