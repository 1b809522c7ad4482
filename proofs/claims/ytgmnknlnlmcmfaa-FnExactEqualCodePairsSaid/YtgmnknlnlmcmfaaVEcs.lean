/- WALKS: l6Pairs, EqualCodePairs of the model.
   WALK: EqualCodePairs of the model. -/
import Derived.Test.YtgmnknlnlmcmfaaVEcp
namespace Go.Proofs.Ytgmnknlnlmcmfaa
open Go.RowKit

/-- a call returns rows of its own -/
def RetRr (w : World) (L : List (List Int)) (e : Ending) (w' : World) : Prop := ∃ v, e = .returned v ∧ RowsOw w.heap.size w' v L ∧ Below w.heap.size w w'

set_option maxRecDepth 100000 in
set_option maxHeartbeats 4000000 in
theorem l6Pairs_any (v : Value) (r : SgD) (w : World) (lo : Nat) (hv : SgAt lo w v r) (hs : SmallSg r) (hn : r.codes.length ≤ 4000) :
    Calls Try.prog 67 #[v] w (RetRr w (prZ (eqC r) r.codes.length)) := by
  obtain ⟨a0, c0, a1, c1, a2, c2, rfl, h_0, h_1, h_2⟩ := hv.form
  clear hv h_0 h_2 hs
  obtain ⟨ao, cap, hvv, hc, hz⟩ := h_1
  injection hvv with e1 e2 e3
  subst e1; subst e3; clear e2
  have HF := Lib.hid hz; clear hz
  obtain ⟨f, hf⟩ : ∃ f, f = eqC r := ⟨_, rfl⟩
  have HE : Hid (∀ i k : Nat, f i k = decide (stN r.codes i = stN r.codes k)) := fun i k => by rw [hf]; rfl
  rw [← hf]
  clear hf
  obtain ⟨ng, hng⟩ : ∃ n, n = r.sigs.length := ⟨_, rfl⟩
  obtain ⟨nc, hnc⟩ : ∃ n, n = r.codes.length := ⟨_, rfl⟩
  obtain ⟨na, hna⟩ : ∃ n, n = r.arcs.length := ⟨_, rfl⟩
  rw [← hnc] at hn HF hc
  rw [← hng, ← hnc, ← hna]
  clear hng hnc hna
  have hal : Below w.heap.size w (w.alloc (.cells #[.slice a0 ng c0, .slice a1 nc c1, .slice a2 na c2] 34)) := (Below.refl _ _).alloc (Nat.le_refl _) _
  have x1 : (w.alloc (.cells #[.slice a0 ng c0, .slice a1 nc c1, .slice a2 na c2] 34)).cell? ⟨w.heap.size, 1, none⟩ = some (.slice a1 nc c1) := by simp
  go_enter Try.func67, Try.ntmps67
  go_wp2_with fail
  generalize w.alloc (.cells #[.slice a0 ng c0, .slice a1 nc c1, .slice a2 na c2] 34) = W0 at x1 hal ⊢
  have z0 := hal.size
  go_loopw [3, 4, 5, 9] (fun out _ _ c wr => ∃ i : Nat, i ≤ nc ∧ c = .int .i64 i ∧ Hid (RowsG W0.heap.size wr out ((prTo f nc i).map prI)) ∧ Below W0.heap.size W0 wr) (fun _ _ _ c _ => nc - (intOf c).toNat)
  case atStart => exact ⟨0, Nat.zero_le _, rfl, RowsG.nil _ _, Below.refl _ _⟩
  case round =>
    obtain ⟨i, hi, rfl, HG, hb1⟩ := hrel
    by_cases hlt : i < nc
    · obtain ⟨wo, hwo⟩ : ∃ wo, wo = wr := ⟨_, rfl⟩
      subst hwo
      go_wp2_with fail
      go_loopw [3, 5] (fun out kv wr => ∃ k : Nat, i + 1 ≤ k ∧ k ≤ nc ∧ kv = .int .i64 k ∧ Hid (RowsG W0.heap.size wr out ((prTo f nc i ++ prRow f i k).map prI)) ∧ Below W0.heap.size W0 wr) (fun _ kv _ => nc - (intOf kv).toNat)
      case atStart =>
        refine ⟨i + 1, Nat.le_refl _, hlt, by go_num, ?_, hb1⟩
        rw [prRow_start (Nat.le_refl _), List.append_nil]; exact HG.out
      case round =>
        obtain ⟨k, hk1, hk2, rfl, HG2, hb2⟩ := hrel
        have zr := hb2.size
        have y1 := cell_carry x1 (Carries.of 0 hb2)
        by_cases hkt : k < nc
        · rcases HF.out with h0 | ⟨b, off, rfl, hlo, hcell⟩
          · omega
          have hbb : Below w.heap.size w wr := hal.trans (hb2.mono z0)
          have d0 := Carries.of lo hbb _ _ hlo (hcell i hlt)
          have d1 := Carries.of lo hbb _ _ hlo (hcell k hkt)
          have hfe := HE.out i k
          have t0 : ((stN r.codes i).toList == (stN r.codes k).toList) = f i k := by rw [bytes_toList_beq, hfe]
          clear hcell hfe hbb
          generalize stN r.codes i = x at d0 t0
          generalize stN r.codes k = y at d1 t0
          have hle : Hid ((prTo f nc i ++ prRow f i k).length ≤ 16000000) := by
            show (prTo f nc i ++ prRow f i k).length ≤ 16000000
            have h1 := prL_part (f := f) (m := nc) (i := i) (k := k) hlt hk2
            have h2 := prTo_length f nc nc
            have h3 : nc * nc ≤ 4000 * 4000 := Nat.mul_le_mul hn hn
            exact Nat.le_trans h1 (Nat.le_trans h2 h3)
          cases hq : f i k with
          | true =>
            rw [hq] at t0
            have HT := Lib.hid (prRow_yes (f := f) (i := i) (k := k) (by omega) hq)
            obtain ⟨zs, g1, g2, g3⟩ := HG2.out
            have hzl : zs.length ≤ 16000000 := by
              have h4 := congrArg List.length g3
              rw [List.length_map, List.length_map] at h4
              have h5 : (prTo f nc i ++ prRow f i k).length ≤ 16000000 := hle.out
              omega
            have G1 := Lib.hid g1
            have G2 := Lib.hid g2
            have G3 := Lib.hid g3
            clear g1 g2 g3 HG2 hq
            go_wp2_with fail
            go_quiet (fail)
            have hd : Below wr.heap.size wr (wr.drewN nq) := below_drewN (Below.refl _ _) _
            generalize wr.drewN nq = wd at hd ⊢
            have hsz := hd.size
            have G1d := Lib.hid (owns_after G1.out hd)
            go_wp2_with (refine wpList_append_row rfl (.tmp 32) (.tmp 36) rfl W0.heap.size _ zs.length _ rfl ((World.ownsRow.alloc G1d.out _).alloc _) (wd.heap.size + 1) (.slice (some ⟨wd.heap.size, 0, none⟩) 2 2) rfl (by simp) rfl (by omega) (by simp; omega) ?_; intro v' w' hown' hgrow)
            have hg5 := Lib.hid (show RowsG W0.heap.size w' v' ((prTo f nc i ++ prRow f i (k + 1)).map prI) by
              have h := RowsG.pair G1d.out (G2.out.after hd) G3.out (by omega) hown' hgrow
              rw [HT.out, ← List.append_assoc, List.map_append]; exact h)
            have hb5 : Below W0.heap.size W0 w' := (((hb2.trans (hd.mono zr)).alloc (by omega) _).alloc (by simp; omega) _).grown hgrow (by simp; omega) (fun g hg => (G1d.out.lt g hg).1)
            obtain ⟨av, cv, rfl⟩ := hg5.out.form
            clear hown' hgrow G1 G1d G2 G3 hd
            go_wp2_with fail
            go_roundw
            case rel => exact ⟨k + 1, by omega, by omega, by go_num, hg5, hb5⟩
            case measure => simp [intOf]; omega
          | false =>
            rw [hq] at t0
            have hg5 := Lib.hid (show RowsG W0.heap.size wr u3 ((prTo f nc i ++ prRow f i (k + 1)).map prI) by rw [prRow_no hq]; exact HG2.out)
            clear hq HG2
            go_wp2_with fail
            go_quiet (fail)
            have hb5 : Below W0.heap.size W0 (wr.drewN nq) := below_drewN hb2 _
            have hd : Below wr.heap.size wr (wr.drewN nq) := below_drewN (Below.refl _ _) _
            generalize wr.drewN nq = wd at hd hb5 ⊢
            have hg6 := Lib.hid (hg5.out.after hd)
            clear hg5 hd
            go_wp2_with fail
            go_roundw
            case rel => exact ⟨k + 1, by omega, by omega, by go_num, hg6, hb5⟩
            case measure => simp [intOf]; omega
        · obtain rfl : k = nc := by omega
          have hg5 := Lib.hid (show RowsG W0.heap.size wr u3 ((prTo f k (i + 1)).map prI) by rw [prTo_succ]; exact HG2.out)
          clear HG2
          go_wp2_with fail
          go_roundw
          case rel => exact ⟨i + 1, by omega, by go_num, hg5, hb2⟩
          case measure => simp [intOf]; omega
    · obtain rfl : i = nc := by omega
      have hR := Lib.hid (HG.out.own.low z0)
      obtain ⟨av, cv, rfl⟩ := HG.out.form
      clear HG
      go_wp2_with fail
      go_ret
      exact ⟨_, rfl, hR.out, hal.trans (hb1.mono z0)⟩

end Go.Proofs.Ytgmnknlnlmcmfaa

namespace Go.Proofs.Ytgmnknlnlmcmfaa
open Go.RowKit

set_option maxRecDepth 100000 in
set_option maxHeartbeats 2000000 in
theorem EqualCodePairsSpec_any (v : Value) (r : SgD) (w : World) (lo : Nat) (hv : SgAt lo w v r) (hs : SmallSg r) :
    Calls Try.prog 21 #[v] w (RetOr w (ecL r) (goodG r)) := by
  have HV := Lib.hid hv
  obtain ⟨a0, c0, a1, c1, a2, c2, rfl, h_0, h_1, h_2⟩ := hv.form
  clear hv h_0 h_1 h_2
  have KC := hs.2.1.1
  have KA := hs.2.2
  have HS := Lib.hid hs; clear hs
  obtain ⟨ng, hng⟩ : ∃ n, n = r.sigs.length := ⟨_, rfl⟩
  obtain ⟨nc, hnc⟩ : ∃ n, n = r.codes.length := ⟨_, rfl⟩
  obtain ⟨na, hna⟩ : ∃ n, n = r.arcs.length := ⟨_, rfl⟩
  have e4 : goodG r = false → ecL r = [] := ecL_no
  have e5 : goodG r = true → ecL r = prZ (eqC r) nc := fun h => by rw [hnc]; exact ecL_yes h
  obtain ⟨LL, hL⟩ : ∃ L, L = ecL r := ⟨_, rfl⟩
  rw [← hL] at e4 e5 ⊢
  obtain ⟨G, hG⟩ : ∃ G, G = goodG r := ⟨_, rfl⟩
  rw [← hG] at e4 e5 ⊢
  have HGG := Lib.hid hG
  have E4 := Lib.hid e4
  have E5 := Lib.hid e5
  rw [← hng, ← hnc, ← hna] at HV ⊢
  rw [← hnc] at KC
  rw [← hna] at KA
  have HNC := Lib.hid hnc
  have HNA := Lib.hid hna
  have HNG := Lib.hid hng
  clear hG e4 e5 hL hng hnc hna
  have x0 : (w.alloc (.cells #[.slice a0 ng c0, .slice a1 nc c1, .slice a2 na c2] 34)).cell? ⟨w.heap.size, 0, none⟩ = some (.slice a0 ng c0) := by simp
  have x1 : (w.alloc (.cells #[.slice a0 ng c0, .slice a1 nc c1, .slice a2 na c2] 34)).cell? ⟨w.heap.size, 1, none⟩ = some (.slice a1 nc c1) := by simp
  have x2 : (w.alloc (.cells #[.slice a0 ng c0, .slice a1 nc c1, .slice a2 na c2] 34)).cell? ⟨w.heap.size, 2, none⟩ = some (.slice a2 na c2) := by simp
  have hal : Below w.heap.size w (w.alloc (.cells #[.slice a0 ng c0, .slice a1 nc c1, .slice a2 na c2] 34)) := (Below.refl _ _).alloc (Nat.le_refl _) _
  go_enter Try.func21, Try.ntmps21
  go_wp2_with fail
  generalize w.alloc (.cells #[.slice a0 ng c0, .slice a1 nc c1, .slice a2 na c2] 34) = W0 at x0 x1 x2 hal ⊢
  refine (l5Good_any _ r _ lo (HV.out.keep (Carries.of lo hal)) HS.out).mono ?_
  rintro e W ⟨rfl, hb⟩
  have hW : Below w.heap.size w W := hal.trans (hb.mono hal.size)
  have x0 := cell_carry x0 (Carries.of 0 hb)
  have x1 := cell_carry x1 (Carries.of 0 hb)
  have x2 := cell_carry x2 (Carries.of 0 hb)
  have zW := hW.size
  clear hb hal
  rw [← HGG.out]
  cases hg : G with
  | false =>
    have el := E4.out hg
    subst el
    subst hg
    go_wp2_with fail
    go_ret2
    exact ⟨_, rfl, RowsOw.nil _ _, hW⟩
  | true =>
  have HE := Lib.hid (E5.out hg)
  have HGT := Lib.hid (HGG.out.symm.trans hg)
  subst hg
  go_wp2_with fail
  have hn4 : r.codes.length ≤ 4000 := by have h := (goodG_get HGT.out).2.1; have h1 := h.1.2; have h2 := h.2; omega
  refine (l6Pairs_any _ r _ lo (HV.out.keep (Carries.of lo hW)) HS.out hn4).mono ?_
  rintro e W2 ⟨vr, rfl, hR0, hb3⟩
  have hR := Lib.hid (show RowsOw w.heap.size W2 vr LL by rw [HE.out, HNC.out]; exact hR0.low zW)
  obtain ⟨av, cv, rfl, _⟩ := hR.out.cap
  have hw3 : Below w.heap.size w W2 := hW.trans (hb3.mono zW)
  clear hR0 hb3
  go_wp2_with fail
  go_ret2
  exact ⟨_, rfl, hR.out, hw3⟩

end Go.Proofs.Ytgmnknlnlmcmfaa
