/- WALKS: cmp.Or of three ints, cmp.Compare of ints, compareViolations: two violations compared place by place. -/
import Derived.StillTailTactics
import Derived.Sort.Grow
import Derived.Test.YtgmnknlnlmcmfaaVSrt
import Derived.Test.YtgmnknlnlmcmfaaVRgd
import Derived.Test.YtgmnknlnlmcmfaaVSteps
namespace Go.Proofs.Ytgmnknlnlmcmfaa
open Go.RowKit Go.Sort

def cmI (x y : Int) : Int := if x < y then -1 else if y < x then 1 else 0
def orV (x y z : Int) : Int := if x ≠ 0 then x else if y ≠ 0 then y else z
def cfV (p q : Mv) : Int := orV (cmI p.1 q.1) (cmI p.2.1 q.2.1) (cmI p.2.2 q.2.2)

set_option maxHeartbeats 1000000 in
theorem cmpCompare_same (x y : Int) (w : World) : Calls Try.prog 187 #[.int .i64 x, .int .i64 y] w (fun e w' => e = .returned (.int .i64 (cmI x y)) ∧ w' = w) := by
  have n1 : (x != x) = false := by simp
  have n2 : (y != y) = false := by simp
  have hnan : ∀ (z : Int) (w : World), Calls Try.prog 221 #[.int .i64 z] w (fun e w' => e = .returned (.bool false) ∧ w' = w) := fun z w => by
    have n1 : (z != z) = false := by simp
    go_enter Try.func221, Try.ntmps221
    go_wp2_with fail
    go_ret
    exact ⟨rfl, rfl⟩
  have HN := Lib.hid hnan; clear hnan
  by_cases h1 : x < y
  · have e : cmI x y = -1 := by unfold cmI; rw [if_pos h1]
    rw [e]; clear e
    go_enter Try.func187, Try.ntmps187
    go_wp2_with (go_at_call 221; refine (HN.out _ _).mono ?_; rintro e w' ⟨rfl, rfl⟩)
    go_ret
    exact ⟨rfl, rfl⟩
  · by_cases h2 : y < x
    · have e : cmI x y = 1 := by unfold cmI; rw [if_neg h1, if_pos h2]
      rw [e]; clear e
      go_enter Try.func187, Try.ntmps187
      go_wp2_with (go_at_call 221; refine (HN.out _ _).mono ?_; rintro e w' ⟨rfl, rfl⟩)
      go_ret
      exact ⟨rfl, rfl⟩
    · have e : cmI x y = 0 := by unfold cmI; rw [if_neg h1, if_neg h2]
      rw [e]; clear e
      go_enter Try.func187, Try.ntmps187
      go_wp2_with (go_at_call 221; refine (HN.out _ _).mono ?_; rintro e w' ⟨rfl, rfl⟩)
      go_ret
      exact ⟨rfl, rfl⟩

set_option maxHeartbeats 1000000 in
theorem cmpOr3_same (b : Nat) (x y z : Int) (w : World) (h0 : w.cell? ⟨b, 0, none⟩ = some (.int .i64 x)) (h1 : w.cell? ⟨b, 1, none⟩ = some (.int .i64 y)) (h2 : w.cell? ⟨b, 2, none⟩ = some (.int .i64 z)) :
    Calls Try.prog 186 #[.slice (some ⟨b, 0, none⟩) 3 3] w (fun e w' => e = .returned (.int .i64 (orV x y z)) ∧ w' = w) := by
  obtain ⟨V, hV⟩ : ∃ V : Nat → Int, V = fun i => if i = 0 then x else if i = 1 then y else z := ⟨_, rfl⟩
  have hc : ∀ i, i < 3 → w.cell? ⟨b, 0 + i, none⟩ = some (.int .i64 (V i)) := fun i hi => by
    rw [hV]
    match i, hi with
    | 0, _ => exact h0
    | 1, _ => exact h1
    | 2, _ => exact h2
  have hres : ∀ i, i < 3 → (∀ j, j < i → V j = 0) → V i ≠ 0 → orV x y z = V i := fun i hi hb hn => by
    have hb0 := hb 0
    have hb1 := hb 1
    rw [hV] at hn hb0 hb1 ⊢
    unfold orV
    match i, hi with
    | 0, _ => simp at hn; simp [hn]
    | 1, _ =>
      have q : x = 0 := by simpa using hb0 (by decide)
      simp at hn
      simp [q, hn]
    | 2, _ =>
      have q : x = 0 := by simpa using hb0 (by decide)
      have q' : y = 0 := by simpa using hb1 (by decide)
      simp [q, q']
  have hnone : (∀ j, j < 3 → V j = 0) → orV x y z = 0 := fun hb => by
    have q := hb 0 (by decide)
    have q' := hb 1 (by decide)
    have q2 := hb 2 (by decide)
    rw [hV] at q q' q2
    simp at q q' q2
    simp [orV, q, q', q2]
  obtain ⟨R, hR⟩ : ∃ R, R = orV x y z := ⟨_, rfl⟩
  rw [← hR] at hres hnone ⊢
  have HC := Lib.hid hc
  have HR := Lib.hid hres
  have HN := Lib.hid hnone
  clear hc hres hnone hR hV h0 h1 h2
  go_enter Try.func186, Try.ntmps186
  go_wp2_with fail
  go_loopw [8] (fun c wr => ∃ i : Nat, i ≤ 3 ∧ c = .int .i64 i ∧ Hid (∀ j, j < i → V j = 0) ∧ wr = w) (fun c _ => 3 - (intOf c).toNat)
  case atStart => exact ⟨0, by omega, rfl, fun j hj => absurd hj (Nat.not_lt_zero _), rfl⟩
  case round =>
    obtain ⟨i, hi, rfl, hz, rfl⟩ := hrel
    by_cases hlt : i < 3
    · have d0 := HC.out i hlt
      rw [Nat.zero_add] at d0
      by_cases hv : V i = 0
      · have t0 : (V i != 0) = false := by simp [hv]
        have hz2 : Hid (∀ j, j < i + 1 → V j = 0) := fun j hj => by
          by_cases e : j = i
          · subst e; exact hv
          · exact hz.out j (by omega)
        clear hv
        generalize V i = vi at d0 t0
        go_wp2_with fail
        go_roundw
        case rel => exact ⟨i + 1, by omega, by go_num, hz2, trivial⟩
        case measure => simp [intOf]; omega
      · have t0 : (V i != 0) = true := by simp [hv]
        have e := HR.out i hlt hz.out hv
        clear hv
        generalize V i = vi at d0 t0 e
        subst e
        go_wp2_with fail
        go_ret
        exact ⟨rfl, rfl⟩
    · have e := HN.out (fun j hj => hz.out j (by omega))
      obtain rfl : i = 3 := by omega
      subst e
      go_wp2_with fail
      go_ret
      exact ⟨rfl, rfl⟩

set_option maxRecDepth 100000 in
set_option maxHeartbeats 2000000 in
/-- in whatever world: three blocks are laid -/
theorem compareViolations_any (p q : Mv) (W : World) :
    Calls Try.prog 133 #[.agg #[.int .i64 p.1, .int .i64 p.2.1, .int .i64 p.2.2], .agg #[.int .i64 q.1, .int .i64 q.2.1, .int .i64 q.2.2]] W (fun e w' => e = .returned (.int .i64 (cfV p q)) ∧ ∃ n os, w' = grow (W.drewN n) os) := by
  obtain ⟨p0, p1, p2⟩ := p
  obtain ⟨q0, q1, q2⟩ := q
  unfold cfV
  simp only
  obtain ⟨W1, hW1⟩ : ∃ W1, W1 = (W.alloc (.cells #[.int .i64 p0, .int .i64 p1, .int .i64 p2] 106)).alloc (.cells #[.int .i64 q0, .int .i64 q1, .int .i64 q2] 106) := ⟨_, rfl⟩
  have hg : W1 = grow W #[.cells #[.int .i64 p0, .int .i64 p1, .int .i64 p2] 106, .cells #[.int .i64 q0, .int .i64 q1, .int .i64 q2] 106] := by
    rw [hW1, alloc_eq_grow, alloc_eq_grow, grow_grow]; rfl
  have HG := Lib.hid hg; clear hg
  have H0 := Lib.hid (cmpCompare_same p0 q0)
  have H1 := Lib.hid (cmpCompare_same p1 q1)
  have H2 := Lib.hid (cmpCompare_same p2 q2)
  generalize cmI p0 q0 = c0 at H0 ⊢
  generalize cmI p1 q1 = c1 at H1 ⊢
  generalize cmI p2 q2 = c2 at H2 ⊢
  go_enter Try.func133, Try.ntmps133
  go_wp2_with fail
  rw [← hW1]
  have a0 : W1.cell? ⟨W.heap.size, 0, none⟩ = some (.int .i64 p0) := by rw [hW1]; simp
  have a1 : W1.cell? ⟨W.heap.size, 1, none⟩ = some (.int .i64 p1) := by rw [hW1]; simp
  have a2 : W1.cell? ⟨W.heap.size, 2, none⟩ = some (.int .i64 p2) := by rw [hW1]; simp
  have b0 : W1.cell? ⟨W.heap.size + 1, 0, none⟩ = some (.int .i64 q0) := by rw [hW1]; simp
  have b1 : W1.cell? ⟨W.heap.size + 1, 1, none⟩ = some (.int .i64 q1) := by rw [hW1]; simp
  have b2 : W1.cell? ⟨W.heap.size + 1, 2, none⟩ = some (.int .i64 q2) := by rw [hW1]; simp
  clear hW1
  refine wp_region_still_tail 15 (by kernel_rfl) (by kernel_rfl) ?_
  simp only [List.take_succ_cons, List.take_zero, List.drop_succ_cons, List.drop_zero]
  repeat still_step
  still_call (H0.out _)
  repeat still_step
  still_call (H1.out _)
  repeat still_step
  still_call (H2.out _)
  repeat still_step
  try refine wpStill_nil ?_
  change wpList _ _ _ _ _ W1.drew
  go_wp2_with fail
  have e0 : ((W1.alloc (.cells #[.int .i64 c0, .int .i64 c1, .int .i64 c2] 3)).drew).cell? ⟨W1.heap.size, 0, none⟩ = some (.int .i64 c0) := by simp
  have e1 : ((W1.alloc (.cells #[.int .i64 c0, .int .i64 c1, .int .i64 c2] 3)).drew).cell? ⟨W1.heap.size, 1, none⟩ = some (.int .i64 c1) := by simp
  have e2 : ((W1.alloc (.cells #[.int .i64 c0, .int .i64 c1, .int .i64 c2] 3)).drew).cell? ⟨W1.heap.size, 2, none⟩ = some (.int .i64 c2) := by simp
  refine (cmpOr3_same _ c0 c1 c2 _ e0 e1 e2).mono ?_
  rintro e w' ⟨rfl, rfl⟩
  go_wp2_with fail
  go_ret
  refine ⟨rfl, 1, #[.cells #[.int .i64 p0, .int .i64 p1, .int .i64 p2] 106, .cells #[.int .i64 q0, .int .i64 q1, .int .i64 q2] 106, .cells #[.int .i64 c0, .int .i64 c1, .int .i64 c2] 3], ?_⟩
  rw [HG.out, alloc_eq_grow, grow_grow]
  rfl

end Go.Proofs.Ytgmnknlnlmcmfaa
