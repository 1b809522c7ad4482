/- WALK: l5Excited of the model.
   WALK: l6Breaks of the model. -/
import Derived.Test.YtnmoocgocnjdjaaGreatVExd
import Derived.Test.YtnmoocgocnjdjaaGreatVSgd
import Derived.Test.YtnmoocgocnjdjaaGreatVSteps
import Derived.BigRegion
import Derived.Test.YtnmoocgocnjdjaaGreatVShj
namespace Go.Proofs.YtnmoocgocnjdjaaGreat
open Go.RowKit

set_option maxRecDepth 100000 in
set_option maxHeartbeats 1000000 in
theorem l5Excited_any (v : Value) (r : SgD) (k s : Int) (w : World) (lo : Nat) (hv : SgAt lo w v r) (hs : SmallSg r) :
    Calls Tryz.prog 138 #[v, .int .i64 k, .int .i64 s] w (RetB w (excB r k s)) := by
  obtain ⟨q, hq⟩ : ∃ q, q = excB r k s := ⟨_, rfl⟩
  rw [← hq]
  obtain ⟨a0, c0, a1, c1, a2, c2, rfl, h_0, h_1, hl⟩ := hv.form
  clear hv h_0 h_1
  have K2 := hs.2.2
  clear hs
  obtain ⟨gs, ss, ls⟩ := r
  simp only at hl hq K2 ⊢
  have HQ := Lib.hid hq; clear hq
  obtain ⟨ao, cap, hvv, hc, hz⟩ := hl
  injection hvv with e1 e2 e3
  subst e1; subst e3; clear e2
  have HF := Lib.hid hz; clear hz
  go_enter Tryz.func138, Tryz.ntmps138
  go_wp2_with fail
  go_loopw [12] (fun iv wr => ∃ i : Nat, i ≤ ls.length ∧ iv = .int .i64 i ∧ Hid (∀ j, j < i → excAt ls k s j = false) ∧ Below w.heap.size w wr) (fun iv _ => ls.length - (intOf iv).toNat)
  case atStart => exact ⟨0, Nat.zero_le _, rfl, fun j hj => absurd hj (Nat.not_lt_zero _), by (repeat' (first | (with_reducible exact Below.refl _ _) | (with_reducible assumption) | (with_reducible refine Below.alloc ?_ ?_ _) | (with_reducible refine Below.drew ?_) | (with_reducible refine below_drewN ?_ _) | (with_reducible refine Below.setCell ?_ ?_ _) | go_size))⟩
  case round =>
    obtain ⟨i, hi, rfl, hall, hb1⟩ := hrel
    have zr : w.heap.size ≤ wr.heap.size := hb1.size
    by_cases hlt : i < ls.length
    · rcases HF.out with h0 | ⟨b, off, rfl, hlo, hcell⟩
      · omega
      obtain ⟨q0, q1, q2, q3⟩ := hcell i hlt
      have d0 := Carries.of lo hb1 _ _ hlo q0
      have d1 := Carries.of lo hb1 _ _ hlo q1
      have d2 := Carries.of lo hb1 _ _ hlo q2
      have d3 := Carries.of lo hb1 _ _ hlo q3
      clear hcell q0 q1 q2 q3
      try dsimp only at d0 d1 d2 d3
      have hex : excAt ls k s i = decide (arF ls i = k ∧ arS ls i = s) := rfl
      generalize arF ls i = xf at d0 hex
      generalize arS ls i = xs at d1 hex
      generalize arU ls i = xu at d2
      generalize arT ls i = xt at d3
      by_cases h : xf = k ∧ xs = s
      · rw [decide_eq_true h] at hex
        have e := HQ.out
        unfold excB at e
        rw [anyTo_true hlt hex] at e
        subst e
        have t0 : (xf == k) = true := by simpa using h.1
        have t1 : (xs == s) = true := by simpa using h.2
        clear h hex
        go_wp2_with fail
        go_ret
        exact ⟨rfl, by (repeat' (first | (with_reducible exact Below.refl _ _) | (with_reducible assumption) | (with_reducible refine Below.alloc ?_ ?_ _) | (with_reducible refine Below.drew ?_) | (with_reducible refine below_drewN ?_ _) | (with_reducible refine Below.setCell ?_ ?_ _) | go_size))⟩
      · rw [decide_eq_false h] at hex
        have H2 : Hid (∀ j, j < i + 1 → excAt ls k s j = false) := by
          intro j hj
          by_cases e : j = i
          · subst e; exact hex
          · exact hall.out j (by omega)
        clear hex
        by_cases h1 : xf = k
        · have t0 : (xf == k) = true := by simpa using h1
          have t1 : (xs == s) = false := by rw [beq_eq_false_iff_ne]; exact fun h2 => h ⟨h1, h2⟩
          clear h h1
          go_wp2_with fail
          go_roundw
          case rel => exact ⟨i + 1, by omega, by go_num, H2, by (repeat' (first | (with_reducible exact Below.refl _ _) | (with_reducible assumption) | (with_reducible refine Below.alloc ?_ ?_ _) | (with_reducible refine Below.drew ?_) | (with_reducible refine below_drewN ?_ _) | (with_reducible refine Below.setCell ?_ ?_ _) | go_size))⟩
          case measure => simp [intOf]; omega
        · have t0 : (xf == k) = false := by simpa using h1
          clear h h1
          go_wp2_with fail
          go_roundw
          case rel => exact ⟨i + 1, by omega, by go_num, H2, by (repeat' (first | (with_reducible exact Below.refl _ _) | (with_reducible assumption) | (with_reducible refine Below.alloc ?_ ?_ _) | (with_reducible refine Below.drew ?_) | (with_reducible refine below_drewN ?_ _) | (with_reducible refine Below.setCell ?_ ?_ _) | go_size))⟩
          case measure => simp [intOf]; omega
    · have hii : i = ls.length := by omega
      subst hii
      have e := HQ.out
      unfold excB at e
      rw [anyTo_false hall.out] at e
      subst e
      go_wp2_with fail
      go_ret
      exact ⟨rfl, hb1⟩

end Go.Proofs.YtnmoocgocnjdjaaGreat

namespace Go.Proofs.YtnmoocgocnjdjaaGreat
open Go.RowKit

theorem bkSig_no {r : SgD} {k s : Nat} (h : excB r (k : Int) (s : Int) = false) : bkSig r k s = [] := by unfold bkSig; rw [h]; rfl
theorem bkSig_yes {r : SgD} {k s : Nat} (h : excB r (k : Int) (s : Int) = true) : bkSig r k s = bkRow r k s r.arcs.length := by unfold bkSig; rw [if_pos h]

set_option maxRecDepth 100000 in
set_option maxHeartbeats 4000000 in
theorem l6Breaks_any (v : Value) (r : SgD) (w : World) (lo : Nat) (hv : SgAt lo w v r) (hs : SmallSg r) (hg : goodG r = true) :
    Calls Tryz.prog 85 #[v] w (RetPv (bkL r) w) := by
  have HV := Lib.hid hv
  obtain ⟨a0, c0, a1, c1, a2, c2, rfl, h_0, h_1, h_2⟩ := hv.form
  clear hv h_0 h_1
  obtain ⟨ao, cap, hvv, hc, hz⟩ := h_2
  injection hvv with e1 e2 e3
  subst e1; subst e3; clear e2
  have HF := Lib.hid hz; clear hz hc
  have HS := Lib.hid hs; clear hs
  have hn4 : r.arcs.length ≤ 4000 := (goodG_get hg).2.1.2
  have hc4 : r.codes.length ≤ 4000 := by have h := (goodG_get hg).2.1; have h1 := h.1.2; have h2 := h.2; omega
  have h8 : r.sigs.length ≤ 8 := (of_decide_eq_true (Bool.and_eq_true_iff.1 (goodG_get hg).1).2).2
  have hsl : ∀ j, j < r.arcs.length → arS r.arcs j < (r.sigs.length : Int) := fun j hj => by
    have hlab := arcV_lab (arcsB_at (goodG_get hg).2.2.2.1 hj)
    by_cases h1 : arS r.arcs j < (r.sigs.length : Int)
    · exact h1
    · rw [labV_out (fun q => h1 q.2)] at hlab
      have := (Bool.and_eq_true_iff.1 hlab).1
      have := of_decide_eq_true this
      omega
  have hlen : ∀ k s n, k < r.codes.length → s < r.sigs.length → n ≤ r.arcs.length → ((brkTo r k ++ bkSt r k s) ++ bkRow r k s n).length ≤ 1073741824 := fun k s n hk hs hn => by
    have h1 := brkTo_length r k
    have h2 := bkSt_length r k s
    have h3 := bkRow_length r k s n
    have h4 : (s + 1) * r.arcs.length ≤ r.sigs.length * r.arcs.length := Nat.mul_le_mul_right _ hs
    have h5 : (k + 1) * (r.sigs.length * r.arcs.length) ≤ 4000 * (8 * 4000) := Nat.mul_le_mul (by omega) (Nat.mul_le_mul h8 hn4)
    rw [Nat.succ_mul] at h4 h5
    rw [List.length_append, List.length_append]
    generalize r.sigs.length * r.arcs.length = A at *
    generalize k * A = A2 at *
    generalize s * r.arcs.length = A3 at *
    omega
  have HSL := Lib.hid hsl
  have HLE := Lib.hid hlen
  clear hsl hlen hg
  obtain ⟨ng, hng⟩ : ∃ n, n = r.sigs.length := ⟨_, rfl⟩
  obtain ⟨nc, hnc⟩ : ∃ n, n = r.codes.length := ⟨_, rfl⟩
  obtain ⟨na, hna⟩ : ∃ n, n = r.arcs.length := ⟨_, rfl⟩
  rw [← hng, ← hnc, ← hna] at HV ⊢
  rw [← hna] at HF hn4
  rw [← hng] at h8
  rw [← hnc] at hc4
  have HNG := Lib.hid hng
  have HNC := Lib.hid hnc
  have HNA := Lib.hid hna
  clear hng hnc hna
  have hal : Below w.heap.size w (w.alloc (.cells #[.slice a0 ng c0, .slice a1 nc c1, .slice a2 na c2] 80)) := (Below.refl _ _).alloc (Nat.le_refl _) _
  have x0 : (w.alloc (.cells #[.slice a0 ng c0, .slice a1 nc c1, .slice a2 na c2] 80)).cell? ⟨w.heap.size, 0, none⟩ = some (.slice a0 ng c0) := by simp
  have x1 : (w.alloc (.cells #[.slice a0 ng c0, .slice a1 nc c1, .slice a2 na c2] 80)).cell? ⟨w.heap.size, 1, none⟩ = some (.slice a1 nc c1) := by simp
  have x2 : (w.alloc (.cells #[.slice a0 ng c0, .slice a1 nc c1, .slice a2 na c2] 80)).cell? ⟨w.heap.size, 2, none⟩ = some (.slice a2 na c2) := by simp
  go_enter Tryz.func85, Tryz.ntmps85
  go_wp2_with fail
  generalize w.alloc (.cells #[.slice a0 ng c0, .slice a1 nc c1, .slice a2 na c2] 80) = W0 at x0 x1 x2 hal ⊢
  have z0 := hal.size
  have HX : Hid (∀ (y z : Int) (W' : World), Below W0.heap.size W0 W' → Calls Tryz.prog 138 #[.agg #[.slice a0 ng c0, .slice a1 nc c1, .slice a2 na c2], .int .i64 y, .int .i64 z] W' (RetB W' (excB r y z))) := fun y z W' h => l5Excited_any _ r y z W' lo (HV.out.keep (Carries.of lo (hal.trans (h.mono z0)))) HS.out
  have HO : Hid (∀ (y : Int) (W' : World), y < (ng : Int) → Below W0.heap.size W0 W' → Calls Tryz.prog 139 #[.agg #[.slice a0 ng c0, .slice a1 nc c1, .slice a2 na c2], .int .i64 y] W' (RetB W' (decide (y < 0) || niF r y.toNat))) := fun y W' hy h => l6Own_any _ r y W' lo (HV.out.keep (Carries.of lo (hal.trans (h.mono z0)))) HS.out (by rw [← HNG.out]; exact hy)
  go_loopw [3, 4, 5, 6, 7, 11] (fun out _ _ _ _ c wr => ∃ k : Nat, k ≤ nc ∧ c = .int .i64 k ∧ Hid (PRow W0.heap.size wr out (brkTo r k)) ∧ Below W0.heap.size W0 wr) (fun _ _ _ _ _ c _ => nc - (intOf c).toNat)
  case atStart => exact ⟨0, Nat.zero_le _, rfl, PRow.nil _ _, Below.refl _ _⟩
  case round =>
    obtain ⟨k, hk, rfl, HG, hb1⟩ := hrel
    have zo := hb1.size
    by_cases hlt : k < nc
    · have x0' := cell_carry x0 (Carries.of 0 hb1)
      go_wp2_with fail
      clear x0'
      go_loopw [3, 5, 6, 7, 17] (fun out _ _ _ c wr => ∃ s : Nat, s ≤ ng ∧ c = .int .i64 s ∧ Hid (PRow W0.heap.size wr out (brkTo r k ++ bkSt r k s)) ∧ Below W0.heap.size W0 wr) (fun _ _ _ _ c _ => ng - (intOf c).toNat)
      case atStart =>
        refine ⟨0, Nat.zero_le _, rfl, ?_, hb1⟩
        rw [bkSt_zero, List.append_nil]; exact HG.out
      case round =>
        obtain ⟨s, hs1, rfl, HG2, hb2⟩ := hrel
        have zr := hb2.size
        by_cases hst : s < ng
        · have g0 := cell_carry x0 (Carries.of 0 hb2)
          have g1 := cell_carry x1 (Carries.of 0 hb2)
          have g2 := cell_carry x2 (Carries.of 0 hb2)
          have HSU := Lib.hid (bkSt_succ r k s)
          have HNO := Lib.hid (fun h => bkSig_no (r := r) (k := k) (s := s) h)
          have HYE := Lib.hid (fun h => bkSig_yes (r := r) (k := k) (s := s) h)
          have HXC := Lib.hid (HX.out (k : Int) (s : Int) wr hb2)
          go_wp2_with fail
          refine HXC.out.mono ?_
          rintro e W2 ⟨rfl, hb⟩
          have hw2 : Below W0.heap.size W0 W2 := hb2.trans (hb.mono zr)
          have HG3 := Lib.hid (show PRow W0.heap.size W2 _ (brkTo r k ++ bkSt r k s) from owns_after HG2.out hb)
          have z2 := hw2.size
          clear hb g0 g1 g2 HG2 HXC
          have g2 := cell_carry x2 (Carries.of 0 hw2)
          cases hE : excB r (k : Int) (s : Int) with
          | false =>
            have HG5 := Lib.hid (show PRow W0.heap.size W2 u3 (brkTo r k ++ bkSt r k (s + 1)) by rw [HSU.out, HNO.out hE, List.append_nil]; exact HG3.out)
            clear hE HG3
            go_wp2_with fail
            go_roundw
            case rel => exact ⟨s + 1, by omega, by go_num, HG5, hw2⟩
            case measure => simp [intOf]; omega
          | true =>
            have HSG := Lib.hid (HYE.out hE)
            clear hE
            go_wp2_with fail
            go_loopw [3, 6, 7, 28] (fun out _ _ c wr => ∃ n : Nat, n ≤ na ∧ c = .int .i64 n ∧ Hid (PRow W0.heap.size wr out ((brkTo r k ++ bkSt r k s) ++ bkRow r k s n)) ∧ Below W0.heap.size W0 wr) (fun _ _ _ c _ => na - (intOf c).toNat)
            case atStart =>
              refine ⟨0, Nat.zero_le _, rfl, ?_, hw2⟩
              rw [bkRow_zero, List.append_nil]; exact HG3.out
            case round =>
              obtain ⟨n, hn1, rfl, HG4, hb3⟩ := hrel
              have z3 := hb3.size
              by_cases hnt : n < na
              · rcases HF.out with h0 | ⟨bA, off, rfl, hlo, hcell⟩
                · omega
                have hbo : Below w.heap.size w wr := hal.trans (hb3.mono z0)
                obtain ⟨p0, p1, p2, p3⟩ := hcell n hnt
                have d0 := Carries.of lo hbo _ _ hlo p0
                have d1 := Carries.of lo hbo _ _ hlo p1
                have d2 := Carries.of lo hbo _ _ hlo p2
                have d3 := Carries.of lo hbo _ _ hlo p3
                have hsl := HSL.out n (by rw [← HNA.out]; exact hnt)
                rw [← HNG.out] at hsl
                have hle := HLE.out k s n (by rw [← HNC.out]; exact hlt) (by rw [← HNG.out]; exact hst) (by rw [← HNA.out]; omega)
                have HLN := Lib.hid hle
                have hq : pvQ r k s n = ((arF r.arcs n == (k : Int)) && ((arS r.arcs n != (s : Int)) && (!excB r (arT r.arcs n) (s : Int) && ((decide ((s : Int) < 0) || niF r (s : Int).toNat) || (decide (arS r.arcs n < 0) || niF r (arS r.arcs n).toNat))))) := rfl
                have HYY := Lib.hid (fun h => bkRow_yes (r := r) (k := k) (s := s) (t := n) h)
                have HNN := Lib.hid (fun h => bkRow_no (r := r) (k := k) (s := s) (t := n) h)
                clear hcell p0 p1 p2 p3 hbo hle
                try dsimp only at d0 d1 d2 d3
                generalize arF r.arcs n = f1 at d0 hq
                generalize arS r.arcs n = s1 at d1 hq hsl
                generalize arU r.arcs n = u1 at d2
                generalize arT r.arcs n = t1 at d3 hq
                obtain ⟨E0, t0⟩ : ∃ e, (f1 == (k : Int)) = e := ⟨_, rfl⟩
                obtain ⟨E1, t1'⟩ : ∃ e, (s1 != (s : Int)) = e := ⟨_, rfl⟩
                obtain ⟨E2, h2⟩ : ∃ e, excB r t1 (s : Int) = e := ⟨_, rfl⟩
                obtain ⟨M1, h3⟩ : ∃ e, (decide ((s : Int) < 0) || niF r (s : Int).toNat) = e := ⟨_, rfl⟩
                obtain ⟨M2, h4⟩ : ∃ e, (decide (s1 < 0) || niF r s1.toNat) = e := ⟨_, rfl⟩
                rw [t0, t1', h2, h3, h4] at hq
                have H2 := Lib.hid h2
                have H3 := Lib.hid h3
                have H4 := Lib.hid h4
                have HQ := Lib.hid hq
                have HSL1 := Lib.hid hsl
                clear h2 h3 h4 hq hsl
                have hba : Below wr.heap.size wr (wr.alloc (.cells #[.int .i64 f1, .int .i64 s1, .bool u1, .int .i64 t1] 138)) := (Below.refl _ _).alloc (Nat.le_refl _) _
                have hb4 : Below W0.heap.size W0 (wr.alloc (.cells #[.int .i64 f1, .int .i64 s1, .bool u1, .int .i64 t1] 138)) := hb3.trans (hba.mono z3)
                have HG5 := Lib.hid (show PRow W0.heap.size (wr.alloc (.cells #[.int .i64 f1, .int .i64 s1, .bool u1, .int .i64 t1] 138)) u3 ((brkTo r k ++ bkSt r k s) ++ bkRow r k s n) from owns_after HG4.out hba)
                have AI := ArcBx.new wr f1 s1 u1 t1
                have y0 := cell_carry x0 (Carries.of 0 hb4)
                have y1 := cell_carry x1 (Carries.of 0 hb4)
                have y2 := cell_carry x2 (Carries.of 0 hb4)
                have HAI := Lib.hid AI
                clear hba AI HG4
                cases E0 with
                | false =>
                  have HG6 := Lib.hid (show PRow W0.heap.size (wr.alloc (.cells #[.int .i64 f1, .int .i64 s1, .bool u1, .int .i64 t1] 138)) u3 ((brkTo r k ++ bkSt r k s) ++ bkRow r k s (n + 1)) by rw [HNN.out (by rw [HQ.out]; rfl)]; exact HG5.out)
                  clear HG5
                  go_wp2_with fail
                  go_roundw
                  case rel => exact ⟨n + 1, by omega, by go_num, HG6, hb4⟩
                  case measure => simp [intOf]; omega
                | true =>
                cases E1 with
                | false =>
                  have HG6 := Lib.hid (show PRow W0.heap.size (wr.alloc (.cells #[.int .i64 f1, .int .i64 s1, .bool u1, .int .i64 t1] 138)) u3 ((brkTo r k ++ bkSt r k s) ++ bkRow r k s (n + 1)) by rw [HNN.out (by rw [HQ.out]; rfl)]; exact HG5.out)
                  clear HG5
                  go_wp2_with fail
                  go_roundw
                  case rel => exact ⟨n + 1, by omega, by go_num, HG6, hb4⟩
                  case measure => simp [intOf]; omega
                | true =>
                go_wp2_with fail
                generalize wr.alloc (.cells #[.int .i64 f1, .int .i64 s1, .bool u1, .int .i64 t1] 138) = wa at hb4 HG5 HAI y0 y1 y2 ⊢
                have z4 := hb4.size
                refine (HX.out t1 (s : Int) wa hb4).mono ?_
                rintro e W5 ⟨rfl, hb⟩
                have hb5 : Below W0.heap.size W0 W5 := hb4.trans (hb.mono z4)
                have HG6 := Lib.hid (show PRow W0.heap.size W5 u3 ((brkTo r k ++ bkSt r k s) ++ bkRow r k s n) from owns_after HG5.out hb)
                have HAI5 := Lib.hid (HAI.out.after hb)
                have z5 := hb5.size
                rw [H2.out]
                clear hb HG5 HAI y0 y1 y2
                have y0 := cell_carry x0 (Carries.of 0 hb5)
                have y1 := cell_carry x1 (Carries.of 0 hb5)
                have y2 := cell_carry x2 (Carries.of 0 hb5)
                cases E2 with
                | true =>
                  have HG7 := Lib.hid (show PRow W0.heap.size W5 u3 ((brkTo r k ++ bkSt r k s) ++ bkRow r k s (n + 1)) by rw [HNN.out (by rw [HQ.out]; rfl)]; exact HG6.out)
                  clear HG6
                  go_wp2_with fail
                  go_roundw
                  case rel => exact ⟨n + 1, by omega, by go_num, HG7, hb5⟩
                  case measure => simp [intOf]; omega
                | false =>
                go_wp2_with fail
                refine (HO.out (s : Int) W5 (by omega) hb5).mono ?_
                rintro e W6 ⟨rfl, hb⟩
                have hb6 : Below W0.heap.size W0 W6 := hb5.trans (hb.mono z5)
                have HG7 := Lib.hid (show PRow W0.heap.size W6 u3 ((brkTo r k ++ bkSt r k s) ++ bkRow r k s n) from owns_after HG6.out hb)
                have HAI6 := Lib.hid (HAI5.out.after hb)
                have z6 := hb6.size
                rw [H3.out]
                clear hb HG6 HAI5 y0 y1 y2
                have y0 := cell_carry x0 (Carries.of 0 hb6)
                have y1 := cell_carry x1 (Carries.of 0 hb6)
                have y2 := cell_carry x2 (Carries.of 0 hb6)
                obtain ⟨k0, k1, k2, k3⟩ := HAI6.out.cells
                cases M1 with
                | true =>
                  have HE := Lib.hid (HYY.out (by rw [HQ.out]; rfl))
                  go_wp2_with (refine wpList_append_pv rfl (.tmp 62) (.tmp 67) rfl W0.heap.size _ ((brkTo r k ++ bkSt r k s) ++ bkRow r k s n) rfl (World.ownsRow.alloc HG7.out _) _ ((k : Int), (s : Int), (n : Int)) rfl (by simp) (by simp) (by simp) HLN.out (by simp; omega) ?_; intro v' w' hown' hgrow)
                  have hw7 : Below W0.heap.size W0 w' := (hb6.alloc z6 _).grown hgrow (by simp; omega) (fun g hg => (HG7.out.lt g hg).1)
                  have HG8 := Lib.hid (show PRow W0.heap.size w' v' ((brkTo r k ++ bkSt r k s) ++ bkRow r k s (n + 1)) by rw [HE.out, ← List.append_assoc]; exact hown')
                  clear hown' hgrow HG7 HE k0 k1 k2 k3 y0 y1 y2 HAI6
                  go_wp2_with fail
                  go_roundw
                  case rel => exact ⟨n + 1, by omega, by go_num, HG8, hw7⟩
                  case measure => simp [intOf]; omega
                | false =>
                go_wp2_with fail
                refine (HO.out s1 W6 HSL1.out hb6).mono ?_
                rintro e W7 ⟨rfl, hb⟩
                have hb7 : Below W0.heap.size W0 W7 := hb6.trans (hb.mono z6)
                have HG8 := Lib.hid (show PRow W0.heap.size W7 u3 ((brkTo r k ++ bkSt r k s) ++ bkRow r k s n) from owns_after HG7.out hb)
                have z7 := hb7.size
                rw [H4.out]
                clear hb HG7 HAI6 k0 k1 k2 k3 y0 y1 y2
                cases M2 with
                | true =>
                  have HE := Lib.hid (HYY.out (by rw [HQ.out]; rfl))
                  go_wp2_with (refine wpList_append_pv rfl (.tmp 62) (.tmp 67) rfl W0.heap.size _ ((brkTo r k ++ bkSt r k s) ++ bkRow r k s n) rfl (World.ownsRow.alloc HG8.out _) _ ((k : Int), (s : Int), (n : Int)) rfl (by simp) (by simp) (by simp) HLN.out (by simp; omega) ?_; intro v' w' hown' hgrow)
                  have hw8 : Below W0.heap.size W0 w' := (hb7.alloc z7 _).grown hgrow (by simp; omega) (fun g hg => (HG8.out.lt g hg).1)
                  have HG9 := Lib.hid (show PRow W0.heap.size w' v' ((brkTo r k ++ bkSt r k s) ++ bkRow r k s (n + 1)) by rw [HE.out, ← List.append_assoc]; exact hown')
                  clear hown' hgrow HG8 HE
                  go_wp2_with fail
                  go_roundw
                  case rel => exact ⟨n + 1, by omega, by go_num, HG9, hw8⟩
                  case measure => simp [intOf]; omega
                | false =>
                  have HG9 := Lib.hid (show PRow W0.heap.size W7 u3 ((brkTo r k ++ bkSt r k s) ++ bkRow r k s (n + 1)) by rw [HNN.out (by rw [HQ.out]; rfl)]; exact HG8.out)
                  clear HG8
                  go_wp2_with fail
                  go_roundw
                  case rel => exact ⟨n + 1, by omega, by go_num, HG9, hb7⟩
                  case measure => simp [intOf]; omega
              · obtain rfl : n = na := by omega
                have HG5 := Lib.hid (show PRow W0.heap.size wr u3 (brkTo r k ++ bkSt r k (s + 1)) by rw [HSU.out, HSG.out, ← HNA.out, ← List.append_assoc]; exact HG4.out)
                clear HG4
                go_wp2_with fail
                go_roundw
                case rel => exact ⟨s + 1, by omega, by go_num, HG5, hb3⟩
                case measure => simp [intOf]; omega
        · obtain rfl : s = ng := by omega
          have HG5 := Lib.hid (show PRow W0.heap.size wr u3 (brkTo r (k + 1)) by rw [brkTo_succ, ← HNG.out]; exact HG2.out)
          clear HG2
          go_wp2_with fail
          go_roundw
          case rel => exact ⟨k + 1, by omega, by go_num, HG5, hb2⟩
          case measure => simp [intOf]; omega
    · obtain rfl : k = nc := by omega
      have HR := Lib.hid (show PRow w.heap.size wr u3 (bkL r) by unfold bkL; rw [← HNC.out]; exact HG.out.low z0)
      obtain ⟨av, cv, rfl⟩ := HG.out.form
      clear HG
      go_wp2_with fail
      go_ret
      exact ⟨_, rfl, HR.out, hal.trans (hb1.mono z0)⟩

end Go.Proofs.YtnmoocgocnjdjaaGreat
