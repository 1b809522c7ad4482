/- WALKS: StatesWithCode of the program and of the model. -/
import Derived.Test.YtfipnlehaklepaaVSgv
import Derived.Test.YtfipnlehaklepaaVSgu
import Derived.Test.YtfipnlehaklepaaVRetov
namespace Go.Proofs.Ytfipnlehaklepaa
open Go.RowKit

def swF (r : SgD) (m : ByteArray) : Nat → Bool := fun k => decide (stN r.codes k = m)
def swL (r : SgD) (m : ByteArray) : List Int := if goodG r = true then enTo (swF r m) r.codes.length else []
theorem swL_no {r : SgD} {m : ByteArray} (h : goodG r = false) : swL r m = [] := by unfold swL; rw [h]; rfl
theorem swL_yes {r : SgD} {m : ByteArray} (h : goodG r = true) : swL r m = enTo (swF r m) r.codes.length := by unfold swL; rw [h]; rfl
theorem swL_small {r : SgD} {m : ByteArray} (h : SmallSg r) : (swL r m).length ≤ 1048576 := by
  unfold swL
  by_cases hb : goodG r = true
  · rw [if_pos hb]; exact Nat.le_trans (enTo_length _ _) h.2.1.1
  · rw [if_neg hb]; exact Nat.zero_le _

set_option maxRecDepth 100000 in
set_option maxHeartbeats 2000000 in
theorem StatesWithCode_any (v : Value) (r : SgD) (m : ByteArray) (w : World) (lo : Nat) (hv : SgAt lo w v r) (hs : SmallSg r) :
    Calls Try.prog 26 #[v, .string m] w (RetOv w (swL r m) (goodG r)) := by
  have HV := Lib.hid hv
  obtain ⟨a0, c0, a1, c1, a2, c2, rfl, h_0, h_1, h_2⟩ := hv.form
  have HC := Lib.hid h_1
  clear hv h_0 h_1 h_2
  have KC := hs.2.1.1
  have HS := Lib.hid hs; clear hs
  obtain ⟨ng, hng⟩ : ∃ n, n = r.sigs.length := ⟨_, rfl⟩
  obtain ⟨nc, hnc⟩ : ∃ n, n = r.codes.length := ⟨_, rfl⟩
  obtain ⟨na, hna⟩ : ∃ n, n = r.arcs.length := ⟨_, rfl⟩
  have e4 : goodG r = false → swL r m = [] := swL_no
  have e5 : goodG r = true → swL r m = enTo (swF r m) nc := fun h => by rw [hnc]; exact swL_yes h
  obtain ⟨f, hf⟩ : ∃ f, f = swF r m := ⟨_, rfl⟩
  have hfk : ∀ k : Nat, f k = decide (stN r.codes k = m) := fun k => by rw [hf]; rfl
  rw [← hf] at e5
  obtain ⟨LL, hL⟩ : ∃ L, L = swL r m := ⟨_, rfl⟩
  rw [← hL] at e4 e5 ⊢
  obtain ⟨G, hG⟩ : ∃ G, G = goodG r := ⟨_, rfl⟩
  rw [← hG] at e4 e5 ⊢
  have HGG := Lib.hid hG
  have E4 := Lib.hid e4
  have E5 := Lib.hid e5
  have HFK := Lib.hid hfk
  rw [← hng, ← hnc, ← hna] at HV ⊢
  rw [← hnc] at KC HC
  have HNC := Lib.hid hnc
  clear hG e4 e5 hfk hf hL hng hnc hna
  have x0 : (w.alloc (.cells #[.slice a0 ng c0, .slice a1 nc c1, .slice a2 na c2] 32)).cell? ⟨w.heap.size, 0, none⟩ = some (.slice a0 ng c0) := by simp
  have x1 : (w.alloc (.cells #[.slice a0 ng c0, .slice a1 nc c1, .slice a2 na c2] 32)).cell? ⟨w.heap.size, 1, none⟩ = some (.slice a1 nc c1) := by simp
  have x2 : (w.alloc (.cells #[.slice a0 ng c0, .slice a1 nc c1, .slice a2 na c2] 32)).cell? ⟨w.heap.size, 2, none⟩ = some (.slice a2 na c2) := by simp
  have hal : Below w.heap.size w (w.alloc (.cells #[.slice a0 ng c0, .slice a1 nc c1, .slice a2 na c2] 32)) := (Below.refl _ _).alloc (Nat.le_refl _) _
  go_enter Try.func26, Try.ntmps26
  go_wp2_with fail
  generalize w.alloc (.cells #[.slice a0 ng c0, .slice a1 nc c1, .slice a2 na c2] 32) = W0 at x0 x1 x2 hal ⊢
  refine (IsValidSg_any _ r _ lo (HV.out.keep (Carries.of lo hal)) HS.out).mono ?_
  rintro e W ⟨rfl, hb⟩
  have hW : Below w.heap.size w W := hal.trans (hb.mono hal.size)
  have x0 := cell_carry x0 (Carries.of 0 hb)
  have x1 := cell_carry x1 (Carries.of 0 hb)
  have x2 := cell_carry x2 (Carries.of 0 hb)
  have zW := hW.size
  clear hb hal
  rw [← HGG.out]
  cases hg : G with
  | false =>
    have el := E4.out hg
    subst el
    subst hg
    go_wp2_with fail
    go_ret2
    exact ⟨_, rfl, ow_nil _ _, hW⟩
  | true =>
  have HE := Lib.hid (E5.out hg)
  subst hg
  go_wp2_with fail
  go_loopw [6, 15] (fun l i wr => ∃ k : Nat, k ≤ nc ∧ i = .int .i64 k ∧ Hid (wr.ownsRow W.heap.size 3 1 l (enTo f k).length (intCells (enTo f k))) ∧ Below W.heap.size W wr) (fun _ i _ => nc - (intOf i).toNat)
  case atStart => exact ⟨0, Nat.zero_le _, rfl, World.ownsRow_nil _ _ _ _, Below.refl _ _⟩
  case round =>
    obtain ⟨k, hk, rfl, hown, hb1⟩ := hrel
    have zz1 := hb1.size
    by_cases hlt : k < nc
    · have hle := enTo_length f k
      obtain ⟨ao, cap, hvv, hc, hz⟩ := HC.out
      injection hvv with e1 e2 e3
      subst e1; subst e3
      rcases hz with h0 | ⟨b, off, rfl, hlo, hcell⟩
      · omega
      have d0 := Carries.of lo (hW.trans (hb1.mono zW)) _ _ hlo (hcell k (by omega))
      clear hcell e2 hc
      have hkk := HFK.out k
      generalize stN r.codes k = x at d0 hkk
      by_cases he : x = m
      · rw [decide_eq_true he] at hkk
        have HEN := Lib.hid (enTo_true (f := f) (k := k) hkk)
        have t0 : (x.toList == m.toList) = true := by rw [bytes_toList_beq, decide_eq_true he]
        clear he hkk
        go_wp2_with (refine wpList_append_ints rfl (.tmp 23) (.tmp 25) rfl W.heap.size 0 _ _ _ rfl (World.ownsRow.alloc hown.out _) _ [(k : Int)] rfl (ints_one _ _ _) (by simp; omega) (by simp; omega) ?_; intro v' w' hown' hgrow)
        have hw4 : Below W.heap.size W w' := (hb1.alloc zz1 _).grown hgrow (by simp; omega) (fun g hg => (hown.out.lt g hg).1)
        have HO4 := Lib.hid (show w'.ownsRow W.heap.size 3 1 v' (enTo f (k + 1)).length (intCells (enTo f (k + 1))) by rw [HEN.out, List.length_append, intCells_append]; exact hown')
        clear hown' hgrow
        go_wp2_with fail
        go_roundw
        case rel => exact ⟨k + 1, by omega, by go_num, HO4, hw4⟩
        case measure => simp [intOf]; omega
      · rw [decide_eq_false he] at hkk
        have HO4 := Lib.hid (show wr.ownsRow W.heap.size 3 1 u6 (enTo f (k + 1)).length (intCells (enTo f (k + 1))) by rw [enTo_false hkk]; exact hown.out)
        have t0 : (x.toList == m.toList) = false := by rw [bytes_toList_beq, decide_eq_false he]
        clear he hkk hown
        go_wp2_with fail
        go_roundw
        case rel => exact ⟨k + 1, by omega, by go_num, HO4, hb1⟩
        case measure => simp [intOf]; omega
    · have hkk : k = nc := by omega
      subst hkk
      have HO2 : Hid (IntsOw w.heap.size wr u6 LL) := by
        have h := ow_of_owns (ownsRow_low hown.out zW)
        rw [← HE.out] at h
        exact h
      clear hown
      go_wp2_with fail
      go_ret2
      exact ⟨_, rfl, HO2.out, hW.trans (hb1.mono zW)⟩

set_option maxRecDepth 100000 in
set_option maxHeartbeats 2000000 in
theorem StatesWithCodeSpec_any (v : Value) (r : SgD) (m : ByteArray) (w : World) (lo : Nat) (hv : SgAt lo w v r) (hs : SmallSg r) :
    Calls Try.prog 25 #[v, .string m] w (RetOv w (swL r m) (goodG r)) := by
  have HV := Lib.hid hv
  obtain ⟨a0, c0, a1, c1, a2, c2, rfl, h_0, h_1, h_2⟩ := hv.form
  have HC := Lib.hid h_1
  clear hv h_0 h_1 h_2
  have KC := hs.2.1.1
  have HS := Lib.hid hs; clear hs
  obtain ⟨ng, hng⟩ : ∃ n, n = r.sigs.length := ⟨_, rfl⟩
  obtain ⟨nc, hnc⟩ : ∃ n, n = r.codes.length := ⟨_, rfl⟩
  obtain ⟨na, hna⟩ : ∃ n, n = r.arcs.length := ⟨_, rfl⟩
  have e4 : goodG r = false → swL r m = [] := swL_no
  have e5 : goodG r = true → swL r m = enTo (swF r m) nc := fun h => by rw [hnc]; exact swL_yes h
  obtain ⟨f, hf⟩ : ∃ f, f = swF r m := ⟨_, rfl⟩
  have hfk : ∀ k : Nat, f k = decide (stN r.codes k = m) := fun k => by rw [hf]; rfl
  rw [← hf] at e5
  obtain ⟨LL, hL⟩ : ∃ L, L = swL r m := ⟨_, rfl⟩
  rw [← hL] at e4 e5 ⊢
  obtain ⟨G, hG⟩ : ∃ G, G = goodG r := ⟨_, rfl⟩
  rw [← hG] at e4 e5 ⊢
  have HGG := Lib.hid hG
  have E4 := Lib.hid e4
  have E5 := Lib.hid e5
  have HFK := Lib.hid hfk
  rw [← hng, ← hnc, ← hna] at HV ⊢
  rw [← hnc] at KC HC
  have HNC := Lib.hid hnc
  clear hG e4 e5 hfk hf hL hng hnc hna
  have x0 : (w.alloc (.cells #[.slice a0 ng c0, .slice a1 nc c1, .slice a2 na c2] 32)).cell? ⟨w.heap.size, 0, none⟩ = some (.slice a0 ng c0) := by simp
  have x1 : (w.alloc (.cells #[.slice a0 ng c0, .slice a1 nc c1, .slice a2 na c2] 32)).cell? ⟨w.heap.size, 1, none⟩ = some (.slice a1 nc c1) := by simp
  have x2 : (w.alloc (.cells #[.slice a0 ng c0, .slice a1 nc c1, .slice a2 na c2] 32)).cell? ⟨w.heap.size, 2, none⟩ = some (.slice a2 na c2) := by simp
  have hal : Below w.heap.size w (w.alloc (.cells #[.slice a0 ng c0, .slice a1 nc c1, .slice a2 na c2] 32)) := (Below.refl _ _).alloc (Nat.le_refl _) _
  go_enter Try.func25, Try.ntmps25
  go_wp2_with fail
  generalize w.alloc (.cells #[.slice a0 ng c0, .slice a1 nc c1, .slice a2 na c2] 32) = W0 at x0 x1 x2 hal ⊢
  refine (l5Good_any _ r _ lo (HV.out.keep (Carries.of lo hal)) HS.out).mono ?_
  rintro e W ⟨rfl, hb⟩
  have hW : Below w.heap.size w W := hal.trans (hb.mono hal.size)
  have x0 := cell_carry x0 (Carries.of 0 hb)
  have x1 := cell_carry x1 (Carries.of 0 hb)
  have x2 := cell_carry x2 (Carries.of 0 hb)
  have zW := hW.size
  clear hb hal
  rw [← HGG.out]
  cases hg : G with
  | false =>
    have el := E4.out hg
    subst el
    subst hg
    go_wp2_with fail
    go_ret2
    exact ⟨_, rfl, ow_nil _ _, hW⟩
  | true =>
  have HE := Lib.hid (E5.out hg)
  subst hg
  go_wp2_with fail
  go_loopw [6, 15] (fun l i wr => ∃ k : Nat, k ≤ nc ∧ i = .int .i64 k ∧ Hid (wr.ownsRow W.heap.size 3 1 l (enTo f k).length (intCells (enTo f k))) ∧ Below W.heap.size W wr) (fun _ i _ => nc - (intOf i).toNat)
  case atStart => exact ⟨0, Nat.zero_le _, rfl, World.ownsRow_nil _ _ _ _, Below.refl _ _⟩
  case round =>
    obtain ⟨k, hk, rfl, hown, hb1⟩ := hrel
    have zz1 := hb1.size
    by_cases hlt : k < nc
    · have hle := enTo_length f k
      obtain ⟨ao, cap, hvv, hc, hz⟩ := HC.out
      injection hvv with e1 e2 e3
      subst e1; subst e3
      rcases hz with h0 | ⟨b, off, rfl, hlo, hcell⟩
      · omega
      have d0 := Carries.of lo (hW.trans (hb1.mono zW)) _ _ hlo (hcell k (by omega))
      clear hcell e2 hc
      have hkk := HFK.out k
      generalize stN r.codes k = x at d0 hkk
      by_cases he : x = m
      · rw [decide_eq_true he] at hkk
        have HEN := Lib.hid (enTo_true (f := f) (k := k) hkk)
        have t0 : (x.toList == m.toList) = true := by rw [bytes_toList_beq, decide_eq_true he]
        clear he hkk
        go_wp2_with (refine wpList_append_ints rfl (.tmp 23) (.tmp 25) rfl W.heap.size 0 _ _ _ rfl (World.ownsRow.alloc hown.out _) _ [(k : Int)] rfl (ints_one _ _ _) (by simp; omega) (by simp; omega) ?_; intro v' w' hown' hgrow)
        have hw4 : Below W.heap.size W w' := (hb1.alloc zz1 _).grown hgrow (by simp; omega) (fun g hg => (hown.out.lt g hg).1)
        have HO4 := Lib.hid (show w'.ownsRow W.heap.size 3 1 v' (enTo f (k + 1)).length (intCells (enTo f (k + 1))) by rw [HEN.out, List.length_append, intCells_append]; exact hown')
        clear hown' hgrow
        go_wp2_with fail
        go_roundw
        case rel => exact ⟨k + 1, by omega, by go_num, HO4, hw4⟩
        case measure => simp [intOf]; omega
      · rw [decide_eq_false he] at hkk
        have HO4 := Lib.hid (show wr.ownsRow W.heap.size 3 1 u6 (enTo f (k + 1)).length (intCells (enTo f (k + 1))) by rw [enTo_false hkk]; exact hown.out)
        have t0 : (x.toList == m.toList) = false := by rw [bytes_toList_beq, decide_eq_false he]
        clear he hkk hown
        go_wp2_with fail
        go_roundw
        case rel => exact ⟨k + 1, by omega, by go_num, HO4, hb1⟩
        case measure => simp [intOf]; omega
    · have hkk : k = nc := by omega
      subst hkk
      have HO2 : Hid (IntsOw w.heap.size wr u6 LL) := by
        have h := ow_of_owns (ownsRow_low hown.out zW)
        rw [← HE.out] at h
        exact h
      clear hown
      go_wp2_with fail
      go_ret2
      exact ⟨_, rfl, HO2.out, hW.trans (hb1.mono zW)⟩

end Go.Proofs.Ytfipnlehaklepaa
