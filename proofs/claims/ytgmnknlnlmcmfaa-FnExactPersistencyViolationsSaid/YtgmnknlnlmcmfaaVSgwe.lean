/- WALK: l5Excited of the model. -/
import Derived.Test.YtgmnknlnlmcmfaaVExd
import Derived.Test.YtgmnknlnlmcmfaaVSgd
import Derived.Test.YtgmnknlnlmcmfaaVSteps
namespace Go.Proofs.Ytgmnknlnlmcmfaa
open Go.RowKit

set_option maxRecDepth 100000 in
set_option maxHeartbeats 1000000 in
theorem l5Excited_any (v : Value) (r : SgD) (k s : Int) (w : World) (lo : Nat) (hv : SgAt lo w v r) (hs : SmallSg r) :
    Calls Try.prog 127 #[v, .int .i64 k, .int .i64 s] w (RetB w (excB r k s)) := by
  obtain ⟨q, hq⟩ : ∃ q, q = excB r k s := ⟨_, rfl⟩
  rw [← hq]
  obtain ⟨a0, c0, a1, c1, a2, c2, rfl, h_0, h_1, hl⟩ := hv.form
  clear hv h_0 h_1
  have K2 := hs.2.2
  clear hs
  obtain ⟨gs, ss, ls⟩ := r
  simp only at hl hq K2 ⊢
  have HQ := Lib.hid hq; clear hq
  obtain ⟨ao, cap, hvv, hc, hz⟩ := hl
  injection hvv with e1 e2 e3
  subst e1; subst e3; clear e2
  have HF := Lib.hid hz; clear hz
  go_enter Try.func127, Try.ntmps127
  go_wp2_with fail
  go_loopw [12] (fun iv wr => ∃ i : Nat, i ≤ ls.length ∧ iv = .int .i64 i ∧ Hid (∀ j, j < i → excAt ls k s j = false) ∧ Below w.heap.size w wr) (fun iv _ => ls.length - (intOf iv).toNat)
  case atStart => exact ⟨0, Nat.zero_le _, rfl, fun j hj => absurd hj (Nat.not_lt_zero _), by (repeat' (first | (with_reducible exact Below.refl _ _) | (with_reducible assumption) | (with_reducible refine Below.alloc ?_ ?_ _) | (with_reducible refine Below.drew ?_) | (with_reducible refine below_drewN ?_ _) | (with_reducible refine Below.setCell ?_ ?_ _) | go_size))⟩
  case round =>
    obtain ⟨i, hi, rfl, hall, hb1⟩ := hrel
    have zr : w.heap.size ≤ wr.heap.size := hb1.size
    by_cases hlt : i < ls.length
    · rcases HF.out with h0 | ⟨b, off, rfl, hlo, hcell⟩
      · omega
      obtain ⟨q0, q1, q2, q3⟩ := hcell i hlt
      have d0 := Carries.of lo hb1 _ _ hlo q0
      have d1 := Carries.of lo hb1 _ _ hlo q1
      have d2 := Carries.of lo hb1 _ _ hlo q2
      have d3 := Carries.of lo hb1 _ _ hlo q3
      clear hcell q0 q1 q2 q3
      try dsimp only at d0 d1 d2 d3
      have hex : excAt ls k s i = decide (arF ls i = k ∧ arS ls i = s) := rfl
      generalize arF ls i = xf at d0 hex
      generalize arS ls i = xs at d1 hex
      generalize arU ls i = xu at d2
      generalize arT ls i = xt at d3
      by_cases h : xf = k ∧ xs = s
      · rw [decide_eq_true h] at hex
        have e := HQ.out
        unfold excB at e
        rw [anyTo_true hlt hex] at e
        subst e
        have t0 : (xf == k) = true := by simpa using h.1
        have t1 : (xs == s) = true := by simpa using h.2
        clear h hex
        go_wp2_with fail
        go_ret
        exact ⟨rfl, by (repeat' (first | (with_reducible exact Below.refl _ _) | (with_reducible assumption) | (with_reducible refine Below.alloc ?_ ?_ _) | (with_reducible refine Below.drew ?_) | (with_reducible refine below_drewN ?_ _) | (with_reducible refine Below.setCell ?_ ?_ _) | go_size))⟩
      · rw [decide_eq_false h] at hex
        have H2 : Hid (∀ j, j < i + 1 → excAt ls k s j = false) := by
          intro j hj
          by_cases e : j = i
          · subst e; exact hex
          · exact hall.out j (by omega)
        clear hex
        by_cases h1 : xf = k
        · have t0 : (xf == k) = true := by simpa using h1
          have t1 : (xs == s) = false := by rw [beq_eq_false_iff_ne]; exact fun h2 => h ⟨h1, h2⟩
          clear h h1
          go_wp2_with fail
          go_roundw
          case rel => exact ⟨i + 1, by omega, by go_num, H2, by (repeat' (first | (with_reducible exact Below.refl _ _) | (with_reducible assumption) | (with_reducible refine Below.alloc ?_ ?_ _) | (with_reducible refine Below.drew ?_) | (with_reducible refine below_drewN ?_ _) | (with_reducible refine Below.setCell ?_ ?_ _) | go_size))⟩
          case measure => simp [intOf]; omega
        · have t0 : (xf == k) = false := by simpa using h1
          clear h h1
          go_wp2_with fail
          go_roundw
          case rel => exact ⟨i + 1, by omega, by go_num, H2, by (repeat' (first | (with_reducible exact Below.refl _ _) | (with_reducible assumption) | (with_reducible refine Below.alloc ?_ ?_ _) | (with_reducible refine Below.drew ?_) | (with_reducible refine below_drewN ?_ _) | (with_reducible refine Below.setCell ?_ ?_ _) | go_size))⟩
          case measure => simp [intOf]; omega
    · have hii : i = ls.length := by omega
      subst hii
      have e := HQ.out
      unfold excB at e
      rw [anyTo_false hall.out] at e
      subst e
      go_wp2_with fail
      go_ret
      exact ⟨rfl, hb1⟩

end Go.Proofs.Ytgmnknlnlmcmfaa
