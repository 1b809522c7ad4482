/- WALKS: l6Pairs, EqualCodePairs of the model.
   WALK: l5Excited of the model. -/
import Derived.Test.YtgmnknlnlmcmfaaVEcp
import Derived.Test.YtgmnknlnlmcmfaaVExd
import Derived.Test.YtgmnknlnlmcmfaaVSgd
import Derived.Test.YtgmnknlnlmcmfaaVSteps
namespace Go.Proofs.Ytgmnknlnlmcmfaa
open Go.RowKit

/-- a call returns rows of its own -/
def RetRr (w : World) (L : List (List Int)) (e : Ending) (w' : World) : Prop := ∃ v, e = .returned v ∧ RowsOw w.heap.size w' v L ∧ Below w.heap.size w w'

set_option maxRecDepth 100000 in
set_option maxHeartbeats 4000000 in
theorem l6Pairs_any (v : Value) (r : SgD) (w : World) (lo : Nat) (hv : SgAt lo w v r) (hs : SmallSg r) (hn : r.codes.length ≤ 4000) :
    Calls Try.prog 67 #[v] w (RetRr w (prZ (eqC r) r.codes.length)) := by
  obtain ⟨a0, c0, a1, c1, a2, c2, rfl, h_0, h_1, h_2⟩ := hv.form
  clear hv h_0 h_2 hs
  obtain ⟨ao, cap, hvv, hc, hz⟩ := h_1
  injection hvv with e1 e2 e3
  subst e1; subst e3; clear e2
  have HF := Lib.hid hz; clear hz
  obtain ⟨f, hf⟩ : ∃ f, f = eqC r := ⟨_, rfl⟩
  have HE : Hid (∀ i k : Nat, f i k = decide (stN r.codes i = stN r.codes k)) := fun i k => by rw [hf]; rfl
  rw [← hf]
  clear hf
  obtain ⟨ng, hng⟩ : ∃ n, n = r.sigs.length := ⟨_, rfl⟩
  obtain ⟨nc, hnc⟩ : ∃ n, n = r.codes.length := ⟨_, rfl⟩
  obtain ⟨na, hna⟩ : ∃ n, n = r.arcs.length := ⟨_, rfl⟩
  rw [← hnc] at hn HF hc
  rw [← hng, ← hnc, ← hna]
  clear hng hnc hna
  have hal : Below w.heap.size w (w.alloc (.cells #[.slice a0 ng c0, .slice a1 nc c1, .slice a2 na c2] 34)) := (Below.refl _ _).alloc (Nat.le_refl _) _
  have x1 : (w.alloc (.cells #[.slice a0 ng c0, .slice a1 nc c1, .slice a2 na c2] 34)).cell? ⟨w.heap.size, 1, none⟩ = some (.slice a1 nc c1) := by simp
  go_enter Try.func67, Try.ntmps67
  go_wp2_with fail
  generalize w.alloc (.cells #[.slice a0 ng c0, .slice a1 nc c1, .slice a2 na c2] 34) = W0 at x1 hal ⊢
  have z0 := hal.size
  go_loopw [3, 4, 5, 9] (fun out _ _ c wr => ∃ i : Nat, i ≤ nc ∧ c = .int .i64 i ∧ Hid (RowsG W0.heap.size wr out ((prTo f nc i).map prI)) ∧ Below W0.heap.size W0 wr) (fun _ _ _ c _ => nc - (intOf c).toNat)
  case atStart => exact ⟨0, Nat.zero_le _, rfl, RowsG.nil _ _, Below.refl _ _⟩
  case round =>
    obtain ⟨i, hi, rfl, HG, hb1⟩ := hrel
    by_cases hlt : i < nc
    · obtain ⟨wo, hwo⟩ : ∃ wo, wo = wr := ⟨_, rfl⟩
      subst hwo
      go_wp2_with fail
      go_loopw [3, 5] (fun out kv wr => ∃ k : Nat, i + 1 ≤ k ∧ k ≤ nc ∧ kv = .int .i64 k ∧ Hid (RowsG W0.heap.size wr out ((prTo f nc i ++ prRow f i k).map prI)) ∧ Below W0.heap.size W0 wr) (fun _ kv _ => nc - (intOf kv).toNat)
      case atStart =>
        refine ⟨i + 1, Nat.le_refl _, hlt, by go_num, ?_, hb1⟩
        rw [prRow_start (Nat.le_refl _), List.append_nil]; exact HG.out
      case round =>
        obtain ⟨k, hk1, hk2, rfl, HG2, hb2⟩ := hrel
        have zr := hb2.size
        have y1 := cell_carry x1 (Carries.of 0 hb2)
        by_cases hkt : k < nc
        · rcases HF.out with h0 | ⟨b, off, rfl, hlo, hcell⟩
          · omega
          have hbb : Below w.heap.size w wr := hal.trans (hb2.mono z0)
          have d0 := Carries.of lo hbb _ _ hlo (hcell i hlt)
          have d1 := Carries.of lo hbb _ _ hlo (hcell k hkt)
          have hfe := HE.out i k
          have t0 : ((stN r.codes i).toList == (stN r.codes k).toList) = f i k := by rw [bytes_toList_beq, hfe]
          clear hcell hfe hbb
          generalize stN r.codes i = x at d0 t0
          generalize stN r.codes k = y at d1 t0
          have hle : Hid ((prTo f nc i ++ prRow f i k).length ≤ 16000000) := by
            show (prTo f nc i ++ prRow f i k).length ≤ 16000000
            have h1 := prL_part (f := f) (m := nc) (i := i) (k := k) hlt hk2
            have h2 := prTo_length f nc nc
            have h3 : nc * nc ≤ 4000 * 4000 := Nat.mul_le_mul hn hn
            exact Nat.le_trans h1 (Nat.le_trans h2 h3)
          cases hq : f i k with
          | true =>
            rw [hq] at t0
            have HT := Lib.hid (prRow_yes (f := f) (i := i) (k := k) (by omega) hq)
            obtain ⟨zs, g1, g2, g3⟩ := HG2.out
            have hzl : zs.length ≤ 16000000 := by
              have h4 := congrArg List.length g3
              rw [List.length_map, List.length_map] at h4
              have h5 : (prTo f nc i ++ prRow f i k).length ≤ 16000000 := hle.out
              omega
            have G1 := Lib.hid g1
            have G2 := Lib.hid g2
            have G3 := Lib.hid g3
            clear g1 g2 g3 HG2 hq
            go_wp2_with fail
            go_quiet (fail)
            have hd : Below wr.heap.size wr (wr.drewN nq) := below_drewN (Below.refl _ _) _
            generalize wr.drewN nq = wd at hd ⊢
            have hsz := hd.size
            have G1d := Lib.hid (owns_after G1.out hd)
            go_wp2_with (refine wpList_append_row rfl (.tmp 32) (.tmp 36) rfl W0.heap.size _ zs.length _ rfl ((World.ownsRow.alloc G1d.out _).alloc _) (wd.heap.size + 1) (.slice (some ⟨wd.heap.size, 0, none⟩) 2 2) rfl (by simp) rfl (by omega) (by simp; omega) ?_; intro v' w' hown' hgrow)
            have hg5 := Lib.hid (show RowsG W0.heap.size w' v' ((prTo f nc i ++ prRow f i (k + 1)).map prI) by
              have h := RowsG.pair G1d.out (G2.out.after hd) G3.out (by omega) hown' hgrow
              rw [HT.out, ← List.append_assoc, List.map_append]; exact h)
            have hb5 : Below W0.heap.size W0 w' := (((hb2.trans (hd.mono zr)).alloc (by omega) _).alloc (by simp; omega) _).grown hgrow (by simp; omega) (fun g hg => (G1d.out.lt g hg).1)
            obtain ⟨av, cv, rfl⟩ := hg5.out.form
            clear hown' hgrow G1 G1d G2 G3 hd
            go_wp2_with fail
            go_roundw
            case rel => exact ⟨k + 1, by omega, by omega, by go_num, hg5, hb5⟩
            case measure => simp [intOf]; omega
          | false =>
            rw [hq] at t0
            have hg5 := Lib.hid (show RowsG W0.heap.size wr u3 ((prTo f nc i ++ prRow f i (k + 1)).map prI) by rw [prRow_no hq]; exact HG2.out)
            clear hq HG2
            go_wp2_with fail
            go_quiet (fail)
            have hb5 : Below W0.heap.size W0 (wr.drewN nq) := below_drewN hb2 _
            have hd : Below wr.heap.size wr (wr.drewN nq) := below_drewN (Below.refl _ _) _
            generalize wr.drewN nq = wd at hd hb5 ⊢
            have hg6 := Lib.hid (hg5.out.after hd)
            clear hg5 hd
            go_wp2_with fail
            go_roundw
            case rel => exact ⟨k + 1, by omega, by omega, by go_num, hg6, hb5⟩
            case measure => simp [intOf]; omega
        · obtain rfl : k = nc := by omega
          have hg5 := Lib.hid (show RowsG W0.heap.size wr u3 ((prTo f k (i + 1)).map prI) by rw [prTo_succ]; exact HG2.out)
          clear HG2
          go_wp2_with fail
          go_roundw
          case rel => exact ⟨i + 1, by omega, by go_num, hg5, hb2⟩
          case measure => simp [intOf]; omega
    · obtain rfl : i = nc := by omega
      have hR := Lib.hid (HG.out.own.low z0)
      obtain ⟨av, cv, rfl⟩ := HG.out.form
      clear HG
      go_wp2_with fail
      go_ret
      exact ⟨_, rfl, hR.out, hal.trans (hb1.mono z0)⟩

end Go.Proofs.Ytgmnknlnlmcmfaa

namespace Go.Proofs.Ytgmnknlnlmcmfaa
open Go.RowKit

set_option maxRecDepth 100000 in
set_option maxHeartbeats 1000000 in
theorem l5Excited_any (v : Value) (r : SgD) (k s : Int) (w : World) (lo : Nat) (hv : SgAt lo w v r) (hs : SmallSg r) :
    Calls Try.prog 127 #[v, .int .i64 k, .int .i64 s] w (RetB w (excB r k s)) := by
  obtain ⟨q, hq⟩ : ∃ q, q = excB r k s := ⟨_, rfl⟩
  rw [← hq]
  obtain ⟨a0, c0, a1, c1, a2, c2, rfl, h_0, h_1, hl⟩ := hv.form
  clear hv h_0 h_1
  have K2 := hs.2.2
  clear hs
  obtain ⟨gs, ss, ls⟩ := r
  simp only at hl hq K2 ⊢
  have HQ := Lib.hid hq; clear hq
  obtain ⟨ao, cap, hvv, hc, hz⟩ := hl
  injection hvv with e1 e2 e3
  subst e1; subst e3; clear e2
  have HF := Lib.hid hz; clear hz
  go_enter Try.func127, Try.ntmps127
  go_wp2_with fail
  go_loopw [12] (fun iv wr => ∃ i : Nat, i ≤ ls.length ∧ iv = .int .i64 i ∧ Hid (∀ j, j < i → excAt ls k s j = false) ∧ Below w.heap.size w wr) (fun iv _ => ls.length - (intOf iv).toNat)
  case atStart => exact ⟨0, Nat.zero_le _, rfl, fun j hj => absurd hj (Nat.not_lt_zero _), by (repeat' (first | (with_reducible exact Below.refl _ _) | (with_reducible assumption) | (with_reducible refine Below.alloc ?_ ?_ _) | (with_reducible refine Below.drew ?_) | (with_reducible refine below_drewN ?_ _) | (with_reducible refine Below.setCell ?_ ?_ _) | go_size))⟩
  case round =>
    obtain ⟨i, hi, rfl, hall, hb1⟩ := hrel
    have zr : w.heap.size ≤ wr.heap.size := hb1.size
    by_cases hlt : i < ls.length
    · rcases HF.out with h0 | ⟨b, off, rfl, hlo, hcell⟩
      · omega
      obtain ⟨q0, q1, q2, q3⟩ := hcell i hlt
      have d0 := Carries.of lo hb1 _ _ hlo q0
      have d1 := Carries.of lo hb1 _ _ hlo q1
      have d2 := Carries.of lo hb1 _ _ hlo q2
      have d3 := Carries.of lo hb1 _ _ hlo q3
      clear hcell q0 q1 q2 q3
      try dsimp only at d0 d1 d2 d3
      have hex : excAt ls k s i = decide (arF ls i = k ∧ arS ls i = s) := rfl
      generalize arF ls i = xf at d0 hex
      generalize arS ls i = xs at d1 hex
      generalize arU ls i = xu at d2
      generalize arT ls i = xt at d3
      by_cases h : xf = k ∧ xs = s
      · rw [decide_eq_true h] at hex
        have e := HQ.out
        unfold excB at e
        rw [anyTo_true hlt hex] at e
        subst e
        have t0 : (xf == k) = true := by simpa using h.1
        have t1 : (xs == s) = true := by simpa using h.2
        clear h hex
        go_wp2_with fail
        go_ret
        exact ⟨rfl, by (repeat' (first | (with_reducible exact Below.refl _ _) | (with_reducible assumption) | (with_reducible refine Below.alloc ?_ ?_ _) | (with_reducible refine Below.drew ?_) | (with_reducible refine below_drewN ?_ _) | (with_reducible refine Below.setCell ?_ ?_ _) | go_size))⟩
      · rw [decide_eq_false h] at hex
        have H2 : Hid (∀ j, j < i + 1 → excAt ls k s j = false) := by
          intro j hj
          by_cases e : j = i
          · subst e; exact hex
          · exact hall.out j (by omega)
        clear hex
        by_cases h1 : xf = k
        · have t0 : (xf == k) = true := by simpa using h1
          have t1 : (xs == s) = false := by rw [beq_eq_false_iff_ne]; exact fun h2 => h ⟨h1, h2⟩
          clear h h1
          go_wp2_with fail
          go_roundw
          case rel => exact ⟨i + 1, by omega, by go_num, H2, by (repeat' (first | (with_reducible exact Below.refl _ _) | (with_reducible assumption) | (with_reducible refine Below.alloc ?_ ?_ _) | (with_reducible refine Below.drew ?_) | (with_reducible refine below_drewN ?_ _) | (with_reducible refine Below.setCell ?_ ?_ _) | go_size))⟩
          case measure => simp [intOf]; omega
        · have t0 : (xf == k) = false := by simpa using h1
          clear h h1
          go_wp2_with fail
          go_roundw
          case rel => exact ⟨i + 1, by omega, by go_num, H2, by (repeat' (first | (with_reducible exact Below.refl _ _) | (with_reducible assumption) | (with_reducible refine Below.alloc ?_ ?_ _) | (with_reducible refine Below.drew ?_) | (with_reducible refine below_drewN ?_ _) | (with_reducible refine Below.setCell ?_ ?_ _) | go_size))⟩
          case measure => simp [intOf]; omega
    · have hii : i = ls.length := by omega
      subst hii
      have e := HQ.out
      unfold excB at e
      rw [anyTo_false hall.out] at e
      subst e
      go_wp2_with fail
      go_ret
      exact ⟨rfl, hb1⟩

end Go.Proofs.Ytgmnknlnlmcmfaa
