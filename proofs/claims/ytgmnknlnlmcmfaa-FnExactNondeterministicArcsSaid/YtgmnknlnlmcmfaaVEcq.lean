/- WALKS: forks, NondeterministicArcs of the program.
   WALKS: l6Pairs, EqualCodePairs of the model. -/
import Derived.Test.YtgmnknlnlmcmfaaVNda
namespace Go.Proofs.Ytgmnknlnlmcmfaa
open Go.RowKit

def fkL (r : SgD) : List (List Int) := if goodG r = true then prZ (fkC r) r.arcs.length else []
theorem fkL_no {r : SgD} (h : goodG r = false) : fkL r = [] := by unfold fkL; rw [h]; rfl
theorem fkL_yes {r : SgD} (h : goodG r = true) : fkL r = prZ (fkC r) r.arcs.length := by unfold fkL; rw [h]; rfl
theorem fkL_small (r : SgD) : SmallRows (fkL r) := by
  cases h : goodG r with
  | false => rw [fkL_no h]; exact ⟨Nat.zero_le _, fun i => by simp [rwN]⟩
  | true =>
    rw [fkL_yes h]
    have hl := (goodG_get h).2.1
    have hm : r.arcs.length ≤ 4000 := by have h1 := hl.1.2; have h2 := hl.2; omega
    refine ⟨Nat.le_trans (prZ_length _ _) (Nat.le_trans (Nat.mul_le_mul hm hm) (by decide)), fun i => Nat.le_trans prZ_two (by decide)⟩

/-- what a call hands back that makes an iterator of pairs: its captures, and what it tells -/
def RetIt (w : World) (f : Nat → Nat → Bool) (m : Nat) (e : Ending) (w' : World) : Prop :=
  ∃ Bc Bf : Nat, e = .returned (.func (.func 126) #[] #[.pointer (some ⟨Bc, 0, none⟩), .pointer (some ⟨Bf, 0, none⟩)]) ∧ Below w.heap.size w w' ∧
    Tells 8 Try.prog 126 #[.pointer (some ⟨Bc, 0, none⟩), .pointer (some ⟨Bf, 0, none⟩)] (fun x : Pr => #[prV x]) (PrKp w'.heap.size) (PrS f m w'.heap.size) (fun p => p ≠ [] ∧ prL f m ≠ []) (m * m) w'

set_option maxRecDepth 100000 in
set_option maxHeartbeats 2000000 in
theorem forks_any (v : Value) (r : SgD) (w : World) (lo : Nat) (hv : SgAt lo w v r) (hn : r.arcs.length ≤ 4000) :
    Calls Try.prog 74 #[v] w (RetIt w (fkC r) r.arcs.length) := by
  obtain ⟨a0, c0, a1, c1, a2, c2, rfl, h_0, h_1, h_2⟩ := hv.form
  have HL := Lib.hid h_2
  clear hv h_0 h_1 h_2
  obtain ⟨ng, hng⟩ : ∃ n, n = r.sigs.length := ⟨_, rfl⟩
  obtain ⟨nc, hnc⟩ : ∃ n, n = r.codes.length := ⟨_, rfl⟩
  obtain ⟨na, hna⟩ : ∃ n, n = r.arcs.length := ⟨_, rfl⟩
  rw [← hng, ← hnc, ← hna]
  rw [← hna] at hn HL
  have HNA := Lib.hid hna
  clear hng hnc hna
  have hal : Below w.heap.size w (w.alloc (.cells #[.slice a0 ng c0, .slice a1 nc c1, .slice a2 na c2] 34)) := (Below.refl _ _).alloc (Nat.le_refl _) _
  have x2 : (w.alloc (.cells #[.slice a0 ng c0, .slice a1 nc c1, .slice a2 na c2] 34)).cell? ⟨w.heap.size, 2, none⟩ = some (.slice a2 na c2) := by simp
  go_enter Try.func74, Try.ntmps74
  go_wp2_with fail
  generalize w.alloc (.cells #[.slice a0 ng c0, .slice a1 nc c1, .slice a2 na c2] 34) = W at x2 hal ⊢
  have zW := hal.size
  refine (pairs_any na 130 #[] #[.pointer (some ⟨w.heap.size, 0, none⟩)] W).mono ?_
  rintro e W2 ⟨rfl, hw2⟩
  have hb2 : Below W.heap.size W W2 := by rw [hw2]; exact ((Below.refl _ _).alloc (Nat.le_refl _) _).alloc (by simp) _
  have xc : W2.cell? ⟨W.heap.size, 0, none⟩ = some (.int .i64 (na : Int)) := by rw [hw2]; simp
  have xf : W2.cell? ⟨W.heap.size + 1, 0, none⟩ = some (.func (.func 130) #[] #[.pointer (some ⟨w.heap.size, 0, none⟩)]) := by
    have h := (Boxed.new (W.alloc (.cells #[.int .i64 (na : Int)] 3)) 100 (.func (.func 130) #[] #[.pointer (some ⟨w.heap.size, 0, none⟩)])).cell
    rw [World.size_alloc] at h
    rw [hw2]; exact h
  have x2' := Lib.hid (cell_carry x2 (Carries.of 0 hb2))
  have hw : Below w.heap.size w W2 := hal.trans (hb2.mono zW)
  have hT := pairs1_tells 130 #[] #[.pointer (some ⟨w.heap.size, 0, none⟩)] (fkC r) na 8 (by decide) W.heap.size (W.heap.size + 1) W2 (by omega) (enters_of Try.func130 (by kernel_rfl) rfl) xc xf
    (fun i k hik hk W3 hb3 => forksClo_any r i k w.heap.size a2 c2 W3 lo (by rw [← HNA.out]; exact HL.out.keep (Carries.of lo (hw.trans (hb3.mono hw.size)))) (by rw [← HNA.out]; omega) (by rw [← HNA.out]; omega) (by rw [← HNA.out]; exact hk) (by rw [← HNA.out]; exact cell_carry x2'.out (Carries.of 0 hb3)))
  have HT := Lib.hid hT
  clear xc xf hT hw2 hb2 x2
  go_wp2_with fail
  go_ret
  exact ⟨_, _, rfl, hw, HT.out⟩

set_option maxRecDepth 100000 in
set_option maxHeartbeats 2000000 in
theorem NondeterministicArcs_any (v : Value) (r : SgD) (w : World) (lo : Nat) (hv : SgAt lo w v r) (hs : SmallSg r) :
    Calls Try.prog 29 #[v] w (RetOr w (fkL r) (goodG r)) := by
  have HV := Lib.hid hv
  obtain ⟨a0, c0, a1, c1, a2, c2, rfl, h_0, h_1, h_2⟩ := hv.form
  clear hv h_0 h_1 h_2
  have KC := hs.2.1.1
  have KA := hs.2.2
  have HS := Lib.hid hs; clear hs
  obtain ⟨ng, hng⟩ : ∃ n, n = r.sigs.length := ⟨_, rfl⟩
  obtain ⟨nc, hnc⟩ : ∃ n, n = r.codes.length := ⟨_, rfl⟩
  obtain ⟨na, hna⟩ : ∃ n, n = r.arcs.length := ⟨_, rfl⟩
  have e4 : goodG r = false → fkL r = [] := fkL_no
  have e5 : goodG r = true → fkL r = prZ (fkC r) na := fun h => by rw [hna]; exact fkL_yes h
  obtain ⟨LL, hL⟩ : ∃ L, L = fkL r := ⟨_, rfl⟩
  rw [← hL] at e4 e5 ⊢
  obtain ⟨G, hG⟩ : ∃ G, G = goodG r := ⟨_, rfl⟩
  rw [← hG] at e4 e5 ⊢
  have HGG := Lib.hid hG
  have E4 := Lib.hid e4
  have E5 := Lib.hid e5
  rw [← hng, ← hnc, ← hna] at HV ⊢
  rw [← hnc] at KC
  rw [← hna] at KA
  have HNC := Lib.hid hnc
  have HNA := Lib.hid hna
  have HNG := Lib.hid hng
  clear hG e4 e5 hL hng hnc hna
  have x0 : (w.alloc (.cells #[.slice a0 ng c0, .slice a1 nc c1, .slice a2 na c2] 34)).cell? ⟨w.heap.size, 0, none⟩ = some (.slice a0 ng c0) := by simp
  have x1 : (w.alloc (.cells #[.slice a0 ng c0, .slice a1 nc c1, .slice a2 na c2] 34)).cell? ⟨w.heap.size, 1, none⟩ = some (.slice a1 nc c1) := by simp
  have x2 : (w.alloc (.cells #[.slice a0 ng c0, .slice a1 nc c1, .slice a2 na c2] 34)).cell? ⟨w.heap.size, 2, none⟩ = some (.slice a2 na c2) := by simp
  have hal : Below w.heap.size w (w.alloc (.cells #[.slice a0 ng c0, .slice a1 nc c1, .slice a2 na c2] 34)) := (Below.refl _ _).alloc (Nat.le_refl _) _
  go_enter Try.func29, Try.ntmps29
  go_wp2_with fail
  generalize w.alloc (.cells #[.slice a0 ng c0, .slice a1 nc c1, .slice a2 na c2] 34) = W0 at x0 x1 x2 hal ⊢
  refine (IsValidSg_any _ r _ lo (HV.out.keep (Carries.of lo hal)) HS.out).mono ?_
  rintro e W ⟨rfl, hb⟩
  have hW : Below w.heap.size w W := hal.trans (hb.mono hal.size)
  have x0 := cell_carry x0 (Carries.of 0 hb)
  have x1 := cell_carry x1 (Carries.of 0 hb)
  have x2 := cell_carry x2 (Carries.of 0 hb)
  have zW := hW.size
  clear hb hal
  rw [← HGG.out]
  cases hg : G with
  | false =>
    have el := E4.out hg
    subst el
    subst hg
    go_wp2_with fail
    go_ret2
    exact ⟨_, rfl, RowsOw.nil _ _, hW⟩
  | true =>
  have HE := Lib.hid (E5.out hg)
  have HGT := Lib.hid (HGG.out.symm.trans hg)
  subst hg
  go_wp2_with fail
  have hn4 : r.arcs.length ≤ 4000 := (goodG_get HGT.out).2.1.2
  refine (forks_any _ r W lo (HV.out.keep (Carries.of lo hW)) hn4).mono ?_
  rintro e W2 ⟨Bc, Bf, rfl, hb2, hT⟩
  have hw : Below w.heap.size w W2 := hW.trans (hb2.mono zW)
  have zW2 := hb2.size
  have hC := Collect_any 126 #[.pointer (some ⟨Bc, 0, none⟩), .pointer (some ⟨Bf, 0, none⟩)] W2 W2 _ _ _ (Nat.le_trans (Nat.mul_le_mul hn4 hn4) (by decide)) (enters_of Try.func126 (by kernel_rfl) rfl) (Below.refl _ _) (fun D => PrS.own (fkC r) r.arcs.length W2.heap.size D) hT
  clear hT hb2
  go_wp2_with fail
  refine hC.mono ?_
  clear hC
  rintro e W3 ⟨vr, xs, rfl, hs3, hrow, hb3⟩
  have hR := Lib.hid (show RowsOw w.heap.size W3 vr LL by rw [HE.out, HNA.out]; exact (PrS.rows hs3 hrow (Nat.le_refl _)).low (Nat.le_trans zW zW2))
  have hw3 : Below w.heap.size w W3 := hw.trans (hb3.mono hw.size)
  obtain ⟨av, cv, rfl, _⟩ := hR.out.cap
  clear hs3 hrow hb3
  go_wp2_with fail
  go_ret2
  exact ⟨_, rfl, hR.out, hw3⟩

end Go.Proofs.Ytgmnknlnlmcmfaa

namespace Go.Proofs.Ytgmnknlnlmcmfaa
open Go.RowKit

/-- a call returns rows of its own -/
def RetRr (w : World) (L : List (List Int)) (e : Ending) (w' : World) : Prop := ∃ v, e = .returned v ∧ RowsOw w.heap.size w' v L ∧ Below w.heap.size w w'

set_option maxRecDepth 100000 in
set_option maxHeartbeats 4000000 in
theorem l6Pairs_any (v : Value) (r : SgD) (w : World) (lo : Nat) (hv : SgAt lo w v r) (hs : SmallSg r) (hn : r.codes.length ≤ 4000) :
    Calls Try.prog 67 #[v] w (RetRr w (prZ (eqC r) r.codes.length)) := by
  obtain ⟨a0, c0, a1, c1, a2, c2, rfl, h_0, h_1, h_2⟩ := hv.form
  clear hv h_0 h_2 hs
  obtain ⟨ao, cap, hvv, hc, hz⟩ := h_1
  injection hvv with e1 e2 e3
  subst e1; subst e3; clear e2
  have HF := Lib.hid hz; clear hz
  obtain ⟨f, hf⟩ : ∃ f, f = eqC r := ⟨_, rfl⟩
  have HE : Hid (∀ i k : Nat, f i k = decide (stN r.codes i = stN r.codes k)) := fun i k => by rw [hf]; rfl
  rw [← hf]
  clear hf
  obtain ⟨ng, hng⟩ : ∃ n, n = r.sigs.length := ⟨_, rfl⟩
  obtain ⟨nc, hnc⟩ : ∃ n, n = r.codes.length := ⟨_, rfl⟩
  obtain ⟨na, hna⟩ : ∃ n, n = r.arcs.length := ⟨_, rfl⟩
  rw [← hnc] at hn HF hc
  rw [← hng, ← hnc, ← hna]
  clear hng hnc hna
  have hal : Below w.heap.size w (w.alloc (.cells #[.slice a0 ng c0, .slice a1 nc c1, .slice a2 na c2] 34)) := (Below.refl _ _).alloc (Nat.le_refl _) _
  have x1 : (w.alloc (.cells #[.slice a0 ng c0, .slice a1 nc c1, .slice a2 na c2] 34)).cell? ⟨w.heap.size, 1, none⟩ = some (.slice a1 nc c1) := by simp
  go_enter Try.func67, Try.ntmps67
  go_wp2_with fail
  generalize w.alloc (.cells #[.slice a0 ng c0, .slice a1 nc c1, .slice a2 na c2] 34) = W0 at x1 hal ⊢
  have z0 := hal.size
  go_loopw [3, 4, 5, 9] (fun out _ _ c wr => ∃ i : Nat, i ≤ nc ∧ c = .int .i64 i ∧ Hid (RowsG W0.heap.size wr out ((prTo f nc i).map prI)) ∧ Below W0.heap.size W0 wr) (fun _ _ _ c _ => nc - (intOf c).toNat)
  case atStart => exact ⟨0, Nat.zero_le _, rfl, RowsG.nil _ _, Below.refl _ _⟩
  case round =>
    obtain ⟨i, hi, rfl, HG, hb1⟩ := hrel
    by_cases hlt : i < nc
    · obtain ⟨wo, hwo⟩ : ∃ wo, wo = wr := ⟨_, rfl⟩
      subst hwo
      go_wp2_with fail
      go_loopw [3, 5] (fun out kv wr => ∃ k : Nat, i + 1 ≤ k ∧ k ≤ nc ∧ kv = .int .i64 k ∧ Hid (RowsG W0.heap.size wr out ((prTo f nc i ++ prRow f i k).map prI)) ∧ Below W0.heap.size W0 wr) (fun _ kv _ => nc - (intOf kv).toNat)
      case atStart =>
        refine ⟨i + 1, Nat.le_refl _, hlt, by go_num, ?_, hb1⟩
        rw [prRow_start (Nat.le_refl _), List.append_nil]; exact HG.out
      case round =>
        obtain ⟨k, hk1, hk2, rfl, HG2, hb2⟩ := hrel
        have zr := hb2.size
        have y1 := cell_carry x1 (Carries.of 0 hb2)
        by_cases hkt : k < nc
        · rcases HF.out with h0 | ⟨b, off, rfl, hlo, hcell⟩
          · omega
          have hbb : Below w.heap.size w wr := hal.trans (hb2.mono z0)
          have d0 := Carries.of lo hbb _ _ hlo (hcell i hlt)
          have d1 := Carries.of lo hbb _ _ hlo (hcell k hkt)
          have hfe := HE.out i k
          have t0 : ((stN r.codes i).toList == (stN r.codes k).toList) = f i k := by rw [bytes_toList_beq, hfe]
          clear hcell hfe hbb
          generalize stN r.codes i = x at d0 t0
          generalize stN r.codes k = y at d1 t0
          have hle : Hid ((prTo f nc i ++ prRow f i k).length ≤ 16000000) := by
            show (prTo f nc i ++ prRow f i k).length ≤ 16000000
            have h1 := prL_part (f := f) (m := nc) (i := i) (k := k) hlt hk2
            have h2 := prTo_length f nc nc
            have h3 : nc * nc ≤ 4000 * 4000 := Nat.mul_le_mul hn hn
            exact Nat.le_trans h1 (Nat.le_trans h2 h3)
          cases hq : f i k with
          | true =>
            rw [hq] at t0
            have HT := Lib.hid (prRow_yes (f := f) (i := i) (k := k) (by omega) hq)
            obtain ⟨zs, g1, g2, g3⟩ := HG2.out
            have hzl : zs.length ≤ 16000000 := by
              have h4 := congrArg List.length g3
              rw [List.length_map, List.length_map] at h4
              have h5 : (prTo f nc i ++ prRow f i k).length ≤ 16000000 := hle.out
              omega
            have G1 := Lib.hid g1
            have G2 := Lib.hid g2
            have G3 := Lib.hid g3
            clear g1 g2 g3 HG2 hq
            go_wp2_with fail
            go_quiet (fail)
            have hd : Below wr.heap.size wr (wr.drewN nq) := below_drewN (Below.refl _ _) _
            generalize wr.drewN nq = wd at hd ⊢
            have hsz := hd.size
            have G1d := Lib.hid (owns_after G1.out hd)
            go_wp2_with (refine wpList_append_row rfl (.tmp 32) (.tmp 36) rfl W0.heap.size _ zs.length _ rfl ((World.ownsRow.alloc G1d.out _).alloc _) (wd.heap.size + 1) (.slice (some ⟨wd.heap.size, 0, none⟩) 2 2) rfl (by simp) rfl (by omega) (by simp; omega) ?_; intro v' w' hown' hgrow)
            have hg5 := Lib.hid (show RowsG W0.heap.size w' v' ((prTo f nc i ++ prRow f i (k + 1)).map prI) by
              have h := RowsG.pair G1d.out (G2.out.after hd) G3.out (by omega) hown' hgrow
              rw [HT.out, ← List.append_assoc, List.map_append]; exact h)
            have hb5 : Below W0.heap.size W0 w' := (((hb2.trans (hd.mono zr)).alloc (by omega) _).alloc (by simp; omega) _).grown hgrow (by simp; omega) (fun g hg => (G1d.out.lt g hg).1)
            obtain ⟨av, cv, rfl⟩ := hg5.out.form
            clear hown' hgrow G1 G1d G2 G3 hd
            go_wp2_with fail
            go_roundw
            case rel => exact ⟨k + 1, by omega, by omega, by go_num, hg5, hb5⟩
            case measure => simp [intOf]; omega
          | false =>
            rw [hq] at t0
            have hg5 := Lib.hid (show RowsG W0.heap.size wr u3 ((prTo f nc i ++ prRow f i (k + 1)).map prI) by rw [prRow_no hq]; exact HG2.out)
            clear hq HG2
            go_wp2_with fail
            go_quiet (fail)
            have hb5 : Below W0.heap.size W0 (wr.drewN nq) := below_drewN hb2 _
            have hd : Below wr.heap.size wr (wr.drewN nq) := below_drewN (Below.refl _ _) _
            generalize wr.drewN nq = wd at hd hb5 ⊢
            have hg6 := Lib.hid (hg5.out.after hd)
            clear hg5 hd
            go_wp2_with fail
            go_roundw
            case rel => exact ⟨k + 1, by omega, by omega, by go_num, hg6, hb5⟩
            case measure => simp [intOf]; omega
        · obtain rfl : k = nc := by omega
          have hg5 := Lib.hid (show RowsG W0.heap.size wr u3 ((prTo f k (i + 1)).map prI) by rw [prTo_succ]; exact HG2.out)
          clear HG2
          go_wp2_with fail
          go_roundw
          case rel => exact ⟨i + 1, by omega, by go_num, hg5, hb2⟩
          case measure => simp [intOf]; omega
    · obtain rfl : i = nc := by omega
      have hR := Lib.hid (HG.out.own.low z0)
      obtain ⟨av, cv, rfl⟩ := HG.out.form
      clear HG
      go_wp2_with fail
      go_ret
      exact ⟨_, rfl, hR.out, hal.trans (hb1.mono z0)⟩

end Go.Proofs.Ytgmnknlnlmcmfaa
