/- WALKS: isNonInput, NonInputSignals of the program; l6Own, l6Owned, NonInputSignals of the model. -/
import Derived.Test.YtgmnknlnlmcmfaaVSgv
import Derived.Test.YtgmnknlnlmcmfaaVSgu
import Derived.Test.YtgmnknlnlmcmfaaVApb
import Derived.Test.YtgmnknlnlmcmfaaVOvk
namespace Go.Proofs.Ytgmnknlnlmcmfaa
open Go.RowKit

/-- a signal is no input -/
def niF (r : SgD) : Nat → Bool := fun k => (sgK r.sigs k != 1)
def niB (r : SgD) (x : Int) : Bool := decide (0 ≤ x ∧ x < (r.sigs.length : Int)) && niF r x.toNat
def niL (r : SgD) : List Int := if goodG r = true then enTo (niF r) r.sigs.length else []
theorem niL_no {r : SgD} (h : goodG r = false) : niL r = [] := by unfold niL; rw [h]; rfl
theorem niL_yes {r : SgD} (h : goodG r = true) : niL r = enTo (niF r) r.sigs.length := by unfold niL; rw [h]; rfl
theorem niL_small {r : SgD} (h : SmallSg r) : (niL r).length ≤ 1048576 := by
  unfold niL
  by_cases hb : goodG r = true
  · rw [if_pos hb]; exact Nat.le_trans (enTo_length _ _) h.1.1
  · rw [if_neg hb]; exact Nat.zero_le _

set_option maxRecDepth 100000 in
set_option maxHeartbeats 1000000 in
theorem isNonInput_any (v : Value) (r : SgD) (x : Int) (w : World) (lo : Nat) (hv : SgAt lo w v r) (hs : SmallSg r) :
    Calls Try.prog 60 #[v, .int .i64 x] w (RetB w (niB r x)) := by
  have KG := hs.1.1
  obtain ⟨q, hq⟩ : ∃ q, q = niB r x := ⟨_, rfl⟩
  rw [← hq]
  obtain ⟨a0, c0, a1, c1, a2, c2, rfl, h_0, h_1, h_2⟩ := hv.form
  clear hv h_1 h_2 hs
  have HF := Lib.hid h_0; clear h_0
  obtain ⟨ng, hng⟩ : ∃ n, n = r.sigs.length := ⟨_, rfl⟩
  obtain ⟨nc, hnc⟩ : ∃ n, n = r.codes.length := ⟨_, rfl⟩
  obtain ⟨na, hna⟩ : ∃ n, n = r.arcs.length := ⟨_, rfl⟩
  have hq2 : q = (decide (0 ≤ x ∧ x < (ng : Int)) && niF r x.toNat) := by rw [hng]; exact hq
  rw [← hng] at KG HF
  rw [← hng, ← hnc, ← hna]
  have HNG := Lib.hid hng
  clear hng hnc hna hq
  have hal : Below w.heap.size w (w.alloc (.cells #[.slice a0 ng c0, .slice a1 nc c1, .slice a2 na c2] 34)) := (Below.refl _ _).alloc (Nat.le_refl _) _
  have x0 : (w.alloc (.cells #[.slice a0 ng c0, .slice a1 nc c1, .slice a2 na c2] 34)).cell? ⟨w.heap.size, 0, none⟩ = some (.slice a0 ng c0) := by simp
  have HQ := Lib.hid hq2; clear hq2
  go_enter Try.func60, Try.ntmps60
  go_wp2_with fail
  generalize w.alloc (.cells #[.slice a0 ng c0, .slice a1 nc c1, .slice a2 na c2] 34) = W at x0 hal ⊢
  refine (sgHasSignal_any a0 a1 a2 ng c0 nc c1 na c2 x W KG).mono ?_
  rintro e W2 ⟨rfl, hb⟩
  have hw : Below w.heap.size w W2 := hal.trans (hb.mono hal.size)
  have x0 := cell_carry x0 (Carries.of 0 hb)
  clear hb
  by_cases hr : 0 ≤ x ∧ x < (ng : Int)
  · have e := HQ.out
    rw [decide_eq_true hr, Bool.true_and] at e
    rw [decide_eq_true hr]
    obtain ⟨k, rfl⟩ := Int.eq_ofNat_of_zero_le hr.1
    have hk : k < ng := by omega
    obtain ⟨ao, cap, hvv, hc, hz⟩ := HF.out
    injection hvv with e1 e2 e3
    subst e1; subst e3; clear e2
    rcases hz with h0 | ⟨b, off, rfl, hlo, hcell⟩
    · rw [← HNG.out] at h0; omega
    obtain ⟨p0, p1⟩ := hcell k (by rw [← HNG.out]; exact hk)
    have d1 := Carries.of lo hw _ _ hlo p1
    try dsimp only at d1
    have e2 : q = (sgK r.sigs k != 1) := e
    clear hcell p0 p1 e hc hr
    generalize sgK r.sigs k = kd at d1 e2
    have t0 : (kd != 1) = q := e2.symm
    clear e2
    go_wp2_with fail
    go_ret
    exact ⟨rfl, hw⟩
  · have e := HQ.out
    rw [decide_eq_false hr, Bool.false_and] at e
    rw [decide_eq_false hr]
    subst e
    clear hr
    go_wp2_with fail
    go_ret
    exact ⟨rfl, hw⟩

set_option maxRecDepth 100000 in
set_option maxHeartbeats 1000000 in
/-- the model's test, where the signal is there (or is none) -/
theorem l6Own_any (v : Value) (r : SgD) (x : Int) (w : World) (lo : Nat) (hv : SgAt lo w v r) (hs : SmallSg r) (hx : x < (r.sigs.length : Int)) :
    Calls Try.prog 114 #[v, .int .i64 x] w (RetB w (decide (x < 0) || niF r x.toNat)) := by
  have KG := hs.1.1
  obtain ⟨q, hq⟩ : ∃ q, q = (decide (x < 0) || niF r x.toNat) := ⟨_, rfl⟩
  rw [← hq]
  obtain ⟨a0, c0, a1, c1, a2, c2, rfl, h_0, h_1, h_2⟩ := hv.form
  clear hv h_1 h_2 hs
  obtain ⟨ao, cap, hvv, hc, hz⟩ := h_0
  injection hvv with e1 e2 e3
  subst e1; subst e3; clear e2
  obtain ⟨ng, hng⟩ : ∃ n, n = r.sigs.length := ⟨_, rfl⟩
  obtain ⟨nc, hnc⟩ : ∃ n, n = r.codes.length := ⟨_, rfl⟩
  obtain ⟨na, hna⟩ : ∃ n, n = r.arcs.length := ⟨_, rfl⟩
  have hz2 := hz
  rw [← hng] at KG hx hz2
  rw [← hng, ← hnc, ← hna]
  clear hng hnc hna hz
  have hal : Below w.heap.size w (w.alloc (.cells #[.slice a0 ng c0, .slice a1 nc c1, .slice a2 na c2] 34)) := (Below.refl _ _).alloc (Nat.le_refl _) _
  have x0 : (w.alloc (.cells #[.slice a0 ng c0, .slice a1 nc c1, .slice a2 na c2] 34)).cell? ⟨w.heap.size, 0, none⟩ = some (.slice a0 ng c0) := by simp
  by_cases hr : x < 0
  · rw [decide_eq_true hr, Bool.true_or] at hq
    subst hq
    go_enter Try.func114, Try.ntmps114
    go_wp2_with fail
    go_ret
    exact ⟨rfl, hal⟩
  · obtain ⟨k, rfl⟩ := Int.eq_ofNat_of_zero_le (show 0 ≤ x by omega)
    have hk : k < ng := by omega
    rcases hz2 with h0 | ⟨b, off, rfl, hlo, hcell⟩
    · omega
    obtain ⟨p0, p1⟩ := hcell k hk
    have d1 := Carries.of lo hal _ _ hlo p1
    try dsimp only at d1
    have t0 : (sgK r.sigs k != 1) = q := by rw [hq, decide_eq_false hr]; rfl
    clear hcell p0 p1 hq
    generalize sgK r.sigs k = kd at d1 t0
    go_enter Try.func114, Try.ntmps114
    go_wp2_with fail
    go_ret
    exact ⟨rfl, hal⟩

set_option maxRecDepth 100000 in
set_option maxHeartbeats 2000000 in
theorem NonInputSignals_any (v : Value) (r : SgD) (w : World) (lo : Nat) (hv : SgAt lo w v r) (hs : SmallSg r) :
    Calls Try.prog 15 #[v] w (RetOv w (niL r) (goodG r)) := by
  have HV := Lib.hid hv
  obtain ⟨a0, c0, a1, c1, a2, c2, rfl, h_0, h_1, h_2⟩ := hv.form
  clear hv h_0 h_1 h_2
  have KG := hs.1.1
  have KC := hs.2.1.1
  have KA := hs.2.2
  have HS := Lib.hid hs; clear hs
  obtain ⟨ng, hng⟩ : ∃ n, n = r.sigs.length := ⟨_, rfl⟩
  obtain ⟨nc, hnc⟩ : ∃ n, n = r.codes.length := ⟨_, rfl⟩
  obtain ⟨na, hna⟩ : ∃ n, n = r.arcs.length := ⟨_, rfl⟩
  have e4 : goodG r = false → niL r = [] := niL_no
  have e5 : goodG r = true → niL r = enTo (niF r) ng := fun h => by rw [hng]; exact niL_yes h
  obtain ⟨LL, hL⟩ : ∃ L, L = niL r := ⟨_, rfl⟩
  rw [← hL] at e4 e5 ⊢
  obtain ⟨G, hG⟩ : ∃ G, G = goodG r := ⟨_, rfl⟩
  rw [← hG] at e4 e5 ⊢
  have HGG := Lib.hid hG
  have E4 := Lib.hid e4
  have E5 := Lib.hid e5
  rw [← hng, ← hnc, ← hna] at HV ⊢
  rw [← hng] at KG
  rw [← hnc] at KC
  rw [← hna] at KA
  have HNC := Lib.hid hnc
  have HNA := Lib.hid hna
  have HNG := Lib.hid hng
  clear hG e4 e5 hL hng hnc hna
  have x0 : (w.alloc (.cells #[.slice a0 ng c0, .slice a1 nc c1, .slice a2 na c2] 34)).cell? ⟨w.heap.size, 0, none⟩ = some (.slice a0 ng c0) := by simp
  have x1 : (w.alloc (.cells #[.slice a0 ng c0, .slice a1 nc c1, .slice a2 na c2] 34)).cell? ⟨w.heap.size, 1, none⟩ = some (.slice a1 nc c1) := by simp
  have x2 : (w.alloc (.cells #[.slice a0 ng c0, .slice a1 nc c1, .slice a2 na c2] 34)).cell? ⟨w.heap.size, 2, none⟩ = some (.slice a2 na c2) := by simp
  have hal : Below w.heap.size w (w.alloc (.cells #[.slice a0 ng c0, .slice a1 nc c1, .slice a2 na c2] 34)) := (Below.refl _ _).alloc (Nat.le_refl _) _
  go_enter Try.func15, Try.ntmps15
  go_wp2_with fail
  generalize w.alloc (.cells #[.slice a0 ng c0, .slice a1 nc c1, .slice a2 na c2] 34) = W0 at x0 x1 x2 hal ⊢
  refine (IsValidSg_any _ r _ lo (HV.out.keep (Carries.of lo hal)) HS.out).mono ?_
  rintro e W ⟨rfl, hb⟩
  have hW : Below w.heap.size w W := hal.trans (hb.mono hal.size)
  have x0 := cell_carry x0 (Carries.of 0 hb)
  have x1 := cell_carry x1 (Carries.of 0 hb)
  have x2 := cell_carry x2 (Carries.of 0 hb)
  have zW := hW.size
  clear hb hal
  rw [← HGG.out]
  cases hg : G with
  | false =>
    have el := E4.out hg
    subst el
    subst hg
    go_wp2_with fail
    go_ret2
    exact ⟨_, rfl, ow_nil _ _, hW⟩
  | true =>
  have HE := Lib.hid (E5.out hg)
  have HGT := Lib.hid (HGG.out.symm.trans hg)
  subst hg
  go_wp2_with fail
  obtain ⟨f, hf⟩ : ∃ f, f = niF r := ⟨_, rfl⟩
  have HFR := Lib.hid (show ∀ k : Nat, niF r k = f k from fun k => by rw [hf])
  rw [← hf] at HE
  clear hf
  go_loopw [4, 12] (fun l i wr => ∃ k : Nat, k ≤ ng ∧ i = .int .i64 k ∧ Hid (wr.ownsRow W.heap.size 3 1 l (enTo f k).length (intCells (enTo f k))) ∧ Below W.heap.size W wr) (fun _ i _ => ng - (intOf i).toNat)
  case atStart => exact ⟨0, Nat.zero_le _, rfl, World.ownsRow_nil _ _ _ _, Below.refl _ _⟩
  case round =>
    obtain ⟨k, hk, rfl, hown, hb1⟩ := hrel
    have zz1 := hb1.size
    by_cases hlt : k < ng
    · have hle := enTo_length f k
      have x0' := cell_carry x0 (Carries.of 0 hb1)
      have x1' := cell_carry x1 (Carries.of 0 hb1)
      have x2' := cell_carry x2 (Carries.of 0 hb1)
      have hW3 : Below w.heap.size w wr := hW.trans (hb1.mono zW)
      have hki : ((k : Nat) : Int) < (r.sigs.length : Int) := by rw [← HNG.out]; omega
      go_wp2_with fail
      refine (isNonInput_any _ r k wr lo (HV.out.keep (Carries.of lo hW3)) HS.out).mono ?_
      rintro e W3 ⟨rfl, hb⟩
      have hb3 : Below W.heap.size W W3 := hb1.trans (hb.mono zz1)
      have zz3 := hb3.size
      have hown3 := Lib.hid (owns_after hown.out hb)
      have hfk : niB r (k : Int) = f k := by unfold niB; rw [decide_eq_true (show (0 : Int) ≤ (k : Int) ∧ (k : Int) < (r.sigs.length : Int) from ⟨by omega, hki⟩), Bool.true_and]; exact HFR.out k
      rw [hfk]
      clear hb hown x0' x1' x2' hfk
      cases hkk : f k with
      | true =>
        have HEN := Lib.hid (enTo_true (f := f) (k := k) hkk)
        clear hkk
        go_wp2_with (refine wpList_append_ints rfl (.tmp 18) (.tmp 20) rfl W.heap.size 0 _ _ _ rfl (World.ownsRow.alloc hown3.out _) _ [(k : Int)] rfl (ints_one _ _ _) (by simp; omega) (by simp; omega) ?_; intro v' w' hown' hgrow)
        have hw4 : Below W.heap.size W w' := (hb3.alloc zz3 _).grown hgrow (by simp; omega) (fun g hg => (hown3.out.lt g hg).1)
        have HO4 := Lib.hid (show w'.ownsRow W.heap.size 3 1 v' (enTo f (k + 1)).length (intCells (enTo f (k + 1))) by rw [HEN.out, List.length_append, intCells_append]; exact hown')
        clear hown' hgrow
        go_wp2_with fail
        go_roundw
        case rel => exact ⟨k + 1, by omega, by go_num, HO4, hw4⟩
        case measure => simp [intOf]; omega
      | false =>
        have HO4 := Lib.hid (show W3.ownsRow W.heap.size 3 1 u4 (enTo f (k + 1)).length (intCells (enTo f (k + 1))) by rw [enTo_false hkk]; exact hown3.out)
        clear hkk hown3
        go_wp2_with fail
        go_roundw
        case rel => exact ⟨k + 1, by omega, by go_num, HO4, hb3⟩
        case measure => simp [intOf]; omega
    · have hkk : k = ng := by omega
      subst hkk
      have HO2 : Hid (IntsOw w.heap.size wr u4 (enTo f k)) := by
        have h := ow_of_owns (ownsRow_low hown.out zW)
        exact h
      clear hown
      go_wp2_with fail
      go_ret2
      exact ⟨_, rfl, by rw [HE.out]; exact HO2.out, hW.trans (hb1.mono zW)⟩

/-- a call returns ints of its own -/
def RetOi (w : World) (l : List Int) (e : Ending) (w' : World) : Prop := ∃ v, e = .returned v ∧ IntsOw w.heap.size w' v l ∧ Below w.heap.size w w'

set_option maxRecDepth 100000 in
set_option maxHeartbeats 2000000 in
theorem l6Owned_any (v : Value) (r : SgD) (w : World) (lo : Nat) (hv : SgAt lo w v r) (hs : SmallSg r) :
    Calls Try.prog 55 #[v] w (RetOi w (enTo (niF r) r.sigs.length)) := by
  have HV := Lib.hid hv
  obtain ⟨a0, c0, a1, c1, a2, c2, rfl, h_0, h_1, h_2⟩ := hv.form
  clear hv h_0 h_1 h_2
  have KG := hs.1.1
  have HS := Lib.hid hs; clear hs
  obtain ⟨ng, hng⟩ : ∃ n, n = r.sigs.length := ⟨_, rfl⟩
  obtain ⟨nc, hnc⟩ : ∃ n, n = r.codes.length := ⟨_, rfl⟩
  obtain ⟨na, hna⟩ : ∃ n, n = r.arcs.length := ⟨_, rfl⟩
  rw [← hng, ← hnc, ← hna] at HV
  rw [← hng] at KG
  rw [← hng, ← hnc, ← hna]
  have HNG := Lib.hid hng
  clear hng hnc hna
  obtain ⟨f, hf⟩ : ∃ f, f = niF r := ⟨_, rfl⟩
  have HFR := Lib.hid (show ∀ k : Nat, niF r k = f k from fun k => by rw [hf])
  rw [← hf]
  clear hf
  have x0 : (w.alloc (.cells #[.slice a0 ng c0, .slice a1 nc c1, .slice a2 na c2] 34)).cell? ⟨w.heap.size, 0, none⟩ = some (.slice a0 ng c0) := by simp
  have x1 : (w.alloc (.cells #[.slice a0 ng c0, .slice a1 nc c1, .slice a2 na c2] 34)).cell? ⟨w.heap.size, 1, none⟩ = some (.slice a1 nc c1) := by simp
  have x2 : (w.alloc (.cells #[.slice a0 ng c0, .slice a1 nc c1, .slice a2 na c2] 34)).cell? ⟨w.heap.size, 2, none⟩ = some (.slice a2 na c2) := by simp
  have hW : Below w.heap.size w (w.alloc (.cells #[.slice a0 ng c0, .slice a1 nc c1, .slice a2 na c2] 34)) := (Below.refl _ _).alloc (Nat.le_refl _) _
  go_enter Try.func55, Try.ntmps55
  go_wp2_with fail
  generalize w.alloc (.cells #[.slice a0 ng c0, .slice a1 nc c1, .slice a2 na c2] 34) = W at x0 x1 x2 hW ⊢
  have zW := hW.size
  go_loopw [3, 8] (fun l i wr => ∃ k : Nat, k ≤ ng ∧ i = .int .i64 k ∧ Hid (wr.ownsRow W.heap.size 3 1 l (enTo f k).length (intCells (enTo f k))) ∧ Below W.heap.size W wr) (fun _ i _ => ng - (intOf i).toNat)
  case atStart => exact ⟨0, Nat.zero_le _, rfl, World.ownsRow_nil _ _ _ _, Below.refl _ _⟩
  case round =>
    obtain ⟨k, hk, rfl, hown, hb1⟩ := hrel
    have zz1 := hb1.size
    by_cases hlt : k < ng
    · have hle := enTo_length f k
      have x0' := cell_carry x0 (Carries.of 0 hb1)
      have x1' := cell_carry x1 (Carries.of 0 hb1)
      have x2' := cell_carry x2 (Carries.of 0 hb1)
      have hW3 : Below w.heap.size w wr := hW.trans (hb1.mono zW)
      have hki : ((k : Nat) : Int) < (r.sigs.length : Int) := by rw [← HNG.out]; omega
      go_wp2_with fail
      refine (l6Own_any _ r k wr lo (HV.out.keep (Carries.of lo hW3)) HS.out hki).mono ?_
      rintro e W3 ⟨rfl, hb⟩
      have hb3 : Below W.heap.size W W3 := hb1.trans (hb.mono zz1)
      have zz3 := hb3.size
      have hown3 := Lib.hid (owns_after hown.out hb)
      have hfk : (decide (((k : Nat) : Int) < 0) || niF r ((k : Nat) : Int).toNat) = f k := by rw [decide_eq_false (by omega), Bool.false_or]; exact HFR.out k
      rw [hfk]
      clear hb hown x0' x1' x2' hfk
      cases hkk : f k with
      | true =>
        have HEN := Lib.hid (enTo_true (f := f) (k := k) hkk)
        clear hkk
        go_wp2_with (refine wpList_append_ints rfl (.tmp 14) (.tmp 16) rfl W.heap.size 0 _ _ _ rfl (World.ownsRow.alloc hown3.out _) _ [(k : Int)] rfl (ints_one _ _ _) (by simp; omega) (by simp; omega) ?_; intro v' w' hown' hgrow)
        have hw4 : Below W.heap.size W w' := (hb3.alloc zz3 _).grown hgrow (by simp; omega) (fun g hg => (hown3.out.lt g hg).1)
        have HO4 := Lib.hid (show w'.ownsRow W.heap.size 3 1 v' (enTo f (k + 1)).length (intCells (enTo f (k + 1))) by rw [HEN.out, List.length_append, intCells_append]; exact hown')
        clear hown' hgrow
        go_wp2_with fail
        go_roundw
        case rel => exact ⟨k + 1, by omega, by go_num, HO4, hw4⟩
        case measure => simp [intOf]; omega
      | false =>
        have HO4 := Lib.hid (show W3.ownsRow W.heap.size 3 1 u3 (enTo f (k + 1)).length (intCells (enTo f (k + 1))) by rw [enTo_false hkk]; exact hown3.out)
        clear hkk hown3
        go_wp2_with fail
        go_roundw
        case rel => exact ⟨k + 1, by omega, by go_num, HO4, hb3⟩
        case measure => simp [intOf]; omega
    · have hkk : k = ng := by omega
      subst hkk
      have HO2 : Hid (IntsOw w.heap.size wr u3 (enTo f k)) := by
        have h := ow_of_owns (ownsRow_low hown.out zW)
        exact h
      clear hown
      go_wp2_with fail
      go_ret
      exact ⟨_, rfl, HO2.out, hW.trans (hb1.mono zW)⟩

set_option maxRecDepth 100000 in
set_option maxHeartbeats 2000000 in
theorem NonInputSignalsSpec_any (v : Value) (r : SgD) (w : World) (lo : Nat) (hv : SgAt lo w v r) (hs : SmallSg r) :
    Calls Try.prog 13 #[v] w (RetOv w (niL r) (goodG r)) := by
  have HV := Lib.hid hv
  obtain ⟨a0, c0, a1, c1, a2, c2, rfl, h_0, h_1, h_2⟩ := hv.form
  clear hv h_0 h_1 h_2
  have KG := hs.1.1
  have KC := hs.2.1.1
  have KA := hs.2.2
  have HS := Lib.hid hs; clear hs
  obtain ⟨ng, hng⟩ : ∃ n, n = r.sigs.length := ⟨_, rfl⟩
  obtain ⟨nc, hnc⟩ : ∃ n, n = r.codes.length := ⟨_, rfl⟩
  obtain ⟨na, hna⟩ : ∃ n, n = r.arcs.length := ⟨_, rfl⟩
  have e4 : goodG r = false → niL r = [] := niL_no
  have e5 : goodG r = true → niL r = enTo (niF r) ng := fun h => by rw [hng]; exact niL_yes h
  obtain ⟨LL, hL⟩ : ∃ L, L = niL r := ⟨_, rfl⟩
  rw [← hL] at e4 e5 ⊢
  obtain ⟨G, hG⟩ : ∃ G, G = goodG r := ⟨_, rfl⟩
  rw [← hG] at e4 e5 ⊢
  have HGG := Lib.hid hG
  have E4 := Lib.hid e4
  have E5 := Lib.hid e5
  rw [← hng, ← hnc, ← hna] at HV ⊢
  rw [← hng] at KG
  rw [← hnc] at KC
  rw [← hna] at KA
  have HNC := Lib.hid hnc
  have HNA := Lib.hid hna
  have HNG := Lib.hid hng
  clear hG e4 e5 hL hng hnc hna
  have x0 : (w.alloc (.cells #[.slice a0 ng c0, .slice a1 nc c1, .slice a2 na c2] 34)).cell? ⟨w.heap.size, 0, none⟩ = some (.slice a0 ng c0) := by simp
  have x1 : (w.alloc (.cells #[.slice a0 ng c0, .slice a1 nc c1, .slice a2 na c2] 34)).cell? ⟨w.heap.size, 1, none⟩ = some (.slice a1 nc c1) := by simp
  have x2 : (w.alloc (.cells #[.slice a0 ng c0, .slice a1 nc c1, .slice a2 na c2] 34)).cell? ⟨w.heap.size, 2, none⟩ = some (.slice a2 na c2) := by simp
  have hal : Below w.heap.size w (w.alloc (.cells #[.slice a0 ng c0, .slice a1 nc c1, .slice a2 na c2] 34)) := (Below.refl _ _).alloc (Nat.le_refl _) _
  go_enter Try.func13, Try.ntmps13
  go_wp2_with fail
  generalize w.alloc (.cells #[.slice a0 ng c0, .slice a1 nc c1, .slice a2 na c2] 34) = W0 at x0 x1 x2 hal ⊢
  refine (l5Good_any _ r _ lo (HV.out.keep (Carries.of lo hal)) HS.out).mono ?_
  rintro e W ⟨rfl, hb⟩
  have hW : Below w.heap.size w W := hal.trans (hb.mono hal.size)
  have x0 := cell_carry x0 (Carries.of 0 hb)
  have x1 := cell_carry x1 (Carries.of 0 hb)
  have x2 := cell_carry x2 (Carries.of 0 hb)
  have zW := hW.size
  clear hb hal
  rw [← HGG.out]
  cases hg : G with
  | false =>
    have el := E4.out hg
    subst el
    subst hg
    go_wp2_with fail
    go_ret2
    exact ⟨_, rfl, ow_nil _ _, hW⟩
  | true =>
  have HE := Lib.hid (E5.out hg)
  have HGT := Lib.hid (HGG.out.symm.trans hg)
  subst hg
  go_wp2_with fail
  refine (l6Owned_any _ r W lo (HV.out.keep (Carries.of lo hW)) HS.out).mono ?_
  rintro e W2 ⟨vr, rfl, hR0, hb3⟩
  have hR := Lib.hid (show IntsOw w.heap.size W2 vr LL by rw [HE.out, HNG.out]; exact hR0.low zW)
  obtain ⟨av, cv, rfl, _⟩ := hR.out
  have hw3 : Below w.heap.size w W2 := hW.trans (hb3.mono zW)
  clear hR0 hb3
  go_wp2_with fail
  go_ret2
  exact ⟨_, rfl, hR.out, hw3⟩

end Go.Proofs.Ytgmnknlnlmcmfaa
