/- WALKS: l6Trace, FormatTrace of the model. -/
import Derived.Test.YtnmoocgocnjdjaaVFtm
namespace Go.Proofs.Ytnmoocgocnjdjaa
open Go.RowKit

set_option maxRecDepth 100000 in
set_option maxHeartbeats 2000000 in
theorem l6Trace_any (v vl : Value) (r : SgD) (L : List Ar) (w : World) (lo lo' : Nat) (hv : SgAt lo w v r) (hvl : ArcsAt lo' w vl L) (hs : SmallSg r) (hl : L.length ≤ 4001) (hin : LabsIn r.sigs.length L) :
    Calls Try.prog 58 #[v, vl] w (RetV w (.string (trT r.sigs L))) := by
  have HV := Lib.hid hv
  obtain ⟨a0, c0, a1, c1, a2, c2, rfl, _, _, _⟩ := hv.form
  clear hv
  have HS := Lib.hid hs
  have K0 := Lib.hid hs.1
  clear hs
  have HIN := Lib.hid hin; clear hin
  obtain ⟨ao, cap, rfl, hc, hz⟩ := hvl
  have HF := Lib.hid hz; clear hz
  obtain ⟨n0, hn0⟩ : ∃ x, x = r.sigs.length := ⟨_, rfl⟩
  obtain ⟨n1, hn1⟩ : ∃ x, x = r.codes.length := ⟨_, rfl⟩
  obtain ⟨n2, hn2⟩ : ∃ x, x = r.arcs.length := ⟨_, rfl⟩
  rw [← hn0, ← hn1, ← hn2] at HV ⊢
  clear hn0 hn1 hn2
  obtain ⟨T, hT⟩ : ∃ T : Nat → ByteArray, T = trTo r.sigs L := ⟨_, rfl⟩
  have HT := Lib.hid hT
  have e : trT r.sigs L = T L.length := by rw [hT, trTo_all]
  rw [e]; clear e hT
  go_enter Try.func58, Try.ntmps58
  go_wp2_with fail
  go_loopw [5, 10] (fun sv i wr => ∃ k : Nat, k ≤ L.length ∧ i = .int .i64 k ∧ sv = .string (T k) ∧ Below w.heap.size w wr ∧ w.heap.size < wr.heap.size ∧ wr.cell? ⟨w.heap.size, 0, none⟩ = some (.slice a0 n0 c0) ∧ wr.cell? ⟨w.heap.size, 1, none⟩ = some (.slice a1 n1 c1) ∧ wr.cell? ⟨w.heap.size, 2, none⟩ = some (.slice a2 n2 c2)) (fun _ i _ => L.length - (intOf i).toNat)
  case atStart => exact ⟨0, Nat.zero_le _, rfl, by rw [HT.out]; rfl, (Below.refl _ _).alloc (Nat.le_refl _) _, by simp, by simp, by simp, by simp⟩
  case round =>
    obtain ⟨k, hk, rfl, rfl, hw1, z1, x0, x1, x2⟩ := hrel
    by_cases hlt : k < L.length
    · rcases HF.out with h0 | ⟨b, off, rfl, hlo, hcell⟩
      · omega
      obtain ⟨q0, q1, q2, q3⟩ := hcell k hlt
      have d0 := Carries.of lo' hw1 _ _ hlo q0
      have d1 := Carries.of lo' hw1 _ _ hlo q1
      have d2 := Carries.of lo' hw1 _ _ hlo q2
      have d3 := Carries.of lo' hw1 _ _ hlo q3
      clear hcell q0 q1 q2 q3
      have HLI := Lib.hid (HIN.out k hlt)
      have HTW := Lib.hid (trW_get (ss := r.sigs) hlt)
      have hz0 : (T k).size ≤ 4195360578 := by
        have := trTo_size K0.out HIN.out k hk
        rw [HT.out]
        have : k * 1048578 ≤ 4001 * 1048578 := Nat.mul_le_mul_right _ (by omega)
        omega
      have hzw : (wordL r.sigs (arS L k) (arU L k)).size ≤ 1048577 := wordL_size K0.out HLI.out
      have hstep : T (k + 1) = (if k = 0 then T k else T k ++ ⟨#[32]⟩) ++ wordL r.sigs (arS L k) (arU L k) := by rw [HT.out, ← HTW.out]; rfl
      have HST := Lib.hid hstep; clear hstep HTW
      try dsimp only at d0 d1 d2 d3
      generalize arF L k = e0 at d0
      generalize arS L k = e1 at d1 HLI HST hzw
      generalize arU L k = e2 at d2 HLI HST hzw
      generalize arT L k = e3 at d3
      have x0A := cell_carry x0 (Carries.alloc (Carries.refl 0 wr) (.cells #[.int .i64 e0, .int .i64 e1, .bool e2, .int .i64 e3] 98))
      have x1A := cell_carry x1 (Carries.alloc (Carries.refl 0 wr) (.cells #[.int .i64 e0, .int .i64 e1, .bool e2, .int .i64 e3] 98))
      have x2A := cell_carry x2 (Carries.alloc (Carries.refl 0 wr) (.cells #[.int .i64 e0, .int .i64 e1, .bool e2, .int .i64 e3] 98))
      have hsz1 : (T k ++ ⟨#[32]⟩).size = (T k).size + 1 := by rw [ByteArray.size_append]; rfl
      by_cases hk0 : k = 0
      · have hst := HST.out
        rw [if_pos hk0] at hst
        have HS2 := Lib.hid hst; clear hst
        have hkp : ¬ (0 : Int) < (k : Int) := by omega
        clear hk0
        go_wp2_with fail
        refine (l6Word_any _ r e0 e1 e2 e3 _ lo (HV.out.keep (Carries.of lo (hw1.alloc hw1.size _))) HS.out HLI.out).mono ?_
        rintro e w2 ⟨rfl, hb⟩
        have hw2 : Below w.heap.size w w2 := (hw1.alloc hw1.size _).trans (hb.mono (by simp; omega))
        have x0 := cell_carry x0A (Carries.of 0 hb)
        have x1 := cell_carry x1A (Carries.of 0 hb)
        have x2 := cell_carry x2A (Carries.of 0 hb)
        have z2 : w.heap.size < w2.heap.size := by have := hb.size; simp at this; omega
        clear hb d0 d1 d2 d3
        go_wp2_with fail
        go_roundw
        case rel => exact ⟨k + 1, by omega, by go_num, by rw [HS2.out], hw2, z2, x0, x1, x2⟩
        case measure => simp [intOf]; omega
      · have hst := HST.out
        rw [if_neg hk0] at hst
        have HS2 := Lib.hid hst; clear hst
        have hkp : (0 : Int) < (k : Int) := by omega
        clear hk0
        go_wp2_with fail
        refine (l6Word_any _ r e0 e1 e2 e3 _ lo (HV.out.keep (Carries.of lo (hw1.alloc hw1.size _))) HS.out HLI.out).mono ?_
        rintro e w2 ⟨rfl, hb⟩
        have hw2 : Below w.heap.size w w2 := (hw1.alloc hw1.size _).trans (hb.mono (by simp; omega))
        have x0 := cell_carry x0A (Carries.of 0 hb)
        have x1 := cell_carry x1A (Carries.of 0 hb)
        have x2 := cell_carry x2A (Carries.of 0 hb)
        have z2 : w.heap.size < w2.heap.size := by have := hb.size; simp at this; omega
        clear hb d0 d1 d2 d3
        go_wp2_with fail
        go_roundw
        case rel => exact ⟨k + 1, by omega, by go_num, by rw [HS2.out], hw2, z2, x0, x1, x2⟩
        case measure => simp [intOf]; omega
    · have hkk : k = L.length := by omega
      subst hkk
      go_wp2_with fail
      go_ret
      exact ⟨rfl, hw1⟩

theorem anyTo_succ (n : Nat) (g : Nat → Bool) : anyTo (n + 1) g = (anyTo n g || g n) := by
  unfold anyTo
  rw [List.range_succ, List.any_append]
  simp

set_option maxRecDepth 100000 in
set_option maxHeartbeats 4000000 in
theorem specFormatTrace_any (v vl : Value) (r : SgD) (L : List Ar) (w : World) (lo lo' : Nat) (hv : SgAt lo w v r) (hvl : ArcsAt lo' w vl L) (hs : SmallSg r) (hl : L.length ≤ 1048576) :
    Calls Try.prog 27 #[v, vl] w (RetTx w (ftS r L) (ftB r L)) := by
  obtain ⟨S, hS⟩ : ∃ x, x = ftS r L := ⟨_, rfl⟩
  obtain ⟨B, hB⟩ : ∃ x, x = ftB r L := ⟨_, rfl⟩
  rw [← hS, ← hB]
  have HSS := Lib.hid hS; clear hS
  have HBB := Lib.hid hB; clear hB
  have HV := Lib.hid hv
  have HL := Lib.hid hvl
  obtain ⟨a0, c0, a1, c1, a2, c2, rfl, _, _, h_2⟩ := hv.form
  obtain ⟨al, cl, e0, hcl, hz⟩ := hvl
  subst e0
  have HF := Lib.hid hz
  clear hv hz
  have HS := Lib.hid hs
  have K2 := hs.2.2
  clear hs
  obtain ⟨a2', c2', e0, hc2, hz2⟩ := h_2
  injection e0 with e1 e2 e3
  subst e1; subst e3; clear e2
  obtain ⟨C, hC⟩ : ∃ x, x = r.arcs := ⟨_, rfl⟩
  obtain ⟨n0, hn0⟩ : ∃ x, x = r.sigs.length := ⟨_, rfl⟩
  obtain ⟨n1, hn1⟩ : ∃ x, x = r.codes.length := ⟨_, rfl⟩
  rw [← hn0, ← hn1, ← hC] at HV ⊢
  rw [← hC] at K2 hz2 hc2
  have HF2 := Lib.hid hz2; clear hz2 hc2
  have HCC := Lib.hid hC
  clear hn0 hn1 hC
  go_enter Try.func27, Try.ntmps27
  go_wp2_with fail
  refine (l5Good_any _ r _ lo (HV.out.keep ?_) HS.out).mono ?_
  · (repeat' (first | (with_reducible exact Carries.refl _ _) | (with_reducible assumption) | (with_reducible refine Carries.alloc ?_ _) | (with_reducible refine Carries.drew ?_) | (with_reducible refine Carries.drewN ?_ _) | (with_reducible refine Carries.set ?_ ?_ _) | go_size))
  rintro e w1 ⟨rfl, hb⟩
  have hw1 : Below w.heap.size w w1 := by
    refine Below.trans ?_ (hb.mono ?_)
    · (repeat' (first | (with_reducible exact Below.refl _ _) | (with_reducible assumption) | (with_reducible refine Below.alloc ?_ ?_ _) | (with_reducible refine Below.drew ?_) | (with_reducible refine below_drewN ?_ _) | (with_reducible refine Below.setCell ?_ ?_ _) | go_size))
    · simp
  have x0 : w1.cell? ⟨w.heap.size, 0, none⟩ = some (.slice a0 n0 c0) := cell_carry (by simp) (Carries.of 0 hb)
  have x1 : w1.cell? ⟨w.heap.size, 1, none⟩ = some (.slice a1 n1 c1) := cell_carry (by simp) (Carries.of 0 hb)
  have x2 : w1.cell? ⟨w.heap.size, 2, none⟩ = some (.slice a2 C.length c2) := cell_carry (by simp) (Carries.of 0 hb)
  have z1 : w.heap.size < w1.heap.size := by have := hb.size; simp at this; omega
  clear hb
  cases hg : goodG r with
  | false =>
    have hf : ftB r L = false := by unfold ftB; rw [hg]; rfl
    have k1 := HSS.out
    have k2 := HBB.out
    rw [ftS_no hf] at k1
    rw [hf] at k2
    subst k1; subst k2
    clear hg hf
    go_wp2_with fail
    go_ret2
    exact ⟨rfl, hw1⟩
  | true =>
  have HG := Lib.hid hg; clear hg
  by_cases h4 : L.length ≤ 4000
  case neg =>
    have hf : ftB r L = false := by unfold ftB; rw [decide_eq_false h4]; simp
    have k1 := HSS.out
    have k2 := HBB.out
    rw [ftS_no hf] at k1
    rw [hf] at k2
    subst k1; subst k2
    clear hf
    go_wp2_with fail
    go_ret2
    exact ⟨rfl, hw1⟩
  have hfB : ftB r L = trB C L := by unfold ftB; rw [HG.out, decide_eq_true h4, HCC.out]; simp
  have HFB := Lib.hid hfB; clear hfB
  go_wp2_with fail
  go_loopw [6, 22] (fun at_ i wr => ∃ k : Nat, k ≤ L.length ∧ i = .int .i64 k ∧ at_ = .int .i64 (trAt L k) ∧ Hid (∀ j, j < k → trIs C L j = true) ∧ Below w.heap.size w wr ∧ w.heap.size < wr.heap.size ∧ wr.cell? ⟨w.heap.size, 0, none⟩ = some (.slice a0 n0 c0) ∧ wr.cell? ⟨w.heap.size, 1, none⟩ = some (.slice a1 n1 c1) ∧ wr.cell? ⟨w.heap.size, 2, none⟩ = some (.slice a2 C.length c2)) (fun _ i _ => L.length - (intOf i).toNat)
  case atStart => exact ⟨0, Nat.zero_le _, rfl, rfl, fun j hj => absurd hj (Nat.not_lt_zero _), hw1, z1, x0, x1, x2⟩
  case round =>
    clear x0 x1 x2 z1
    obtain ⟨wo, rfl⟩ : ∃ wo, wo = wr := ⟨_, rfl⟩
    obtain ⟨k, hk, rfl, rfl, hall, hwk, z1, x0, x1, x2⟩ := hrel
    by_cases hlt : k < L.length
    · rcases HF.out with h0 | ⟨b, off, rfl, hlo, hcell⟩
      · omega
      obtain ⟨q0, q1, q2, q3⟩ := hcell k hlt
      have d0 := Carries.of lo' hwk _ _ hlo q0
      have d1 := Carries.of lo' hwk _ _ hlo q1
      have d2 := Carries.of lo' hwk _ _ hlo q2
      have d3 := Carries.of lo' hwk _ _ hlo q3
      clear hcell q0 q1 q2 q3
      have hkk : trIs C L k = (decide (arF L k = trAt L k) && anyTo C.length (arIs C (arF L k) (arS L k) (arU L k) (arT L k))) := rfl
      have hnx : trAt L (k + 1) = arT L k := by unfold trAt; simp
      try dsimp only at d0 d1 d2 d3
      generalize arF L k = e0 at d0 hkk
      generalize arS L k = e1 at d1 hkk
      generalize arU L k = e2 at d2 hkk
      generalize arT L k = e3 at d3 hkk hnx
      generalize trAt L k = p at hkk ⊢
      obtain ⟨G, hG⟩ : ∃ G, G = arIs C e0 e1 e2 e3 := ⟨_, rfl⟩
      rw [← hG] at hkk
      have HGG := Lib.hid hG; clear hG
      have HKK := Lib.hid hkk; clear hkk
      have HN := Lib.hid hnx; clear hnx
      obtain ⟨V, hV⟩ : ∃ x, x = wo.alloc (.cells #[.int .i64 e0, .int .i64 e1, .bool e2, .int .i64 e3] 98) := ⟨_, rfl⟩
      have hwV : Below w.heap.size w V := by rw [hV]; exact hwk.alloc hwk.size _
      have HV1 : Below wo.heap.size wo V := by rw [hV]; exact (Below.refl _ _).alloc (Nat.le_refl _) _
      have b0 : V.cell? ⟨wo.heap.size, 0, none⟩ = some (.int .i64 e0) := by rw [hV]; simp
      have b1 : V.cell? ⟨wo.heap.size, 1, none⟩ = some (.int .i64 e1) := by rw [hV]; simp
      have b2 : V.cell? ⟨wo.heap.size, 2, none⟩ = some (.bool e2) := by rw [hV]; simp
      have b3 : V.cell? ⟨wo.heap.size, 3, none⟩ = some (.int .i64 e3) := by rw [hV]; simp
      have x0 := cell_carry x0 (Carries.of 0 HV1)
      have x1 := cell_carry x1 (Carries.of 0 HV1)
      have x2 := cell_carry x2 (Carries.of 0 HV1)
      have zV : w.heap.size < V.heap.size := by have := HV1.size; omega
      have x2c := x2
      rw [hV] at x2c
      clear HV1
      go_wp2_with fail
      rw [← hV]
      clear hV x2c d0 d1 d2 d3
      go_loopw [9, 29] (fun mt i wi => ∃ j : Nat, j ≤ C.length ∧ i = .int .i64 j ∧ mt = .bool (anyTo j G) ∧ Below V.heap.size V wi) (fun _ i _ => C.length - (intOf i).toNat)
      case atStart => exact ⟨0, Nat.zero_le _, rfl, rfl, Below.refl _ _⟩
      case round =>
        obtain ⟨j, hj, rfl, rfl, hbi⟩ := hrel
        by_cases hjl : j < C.length
        · rcases HF2.out with h0 | ⟨b', off', rfl, hlo2, hcell⟩
          · omega
          have hwi := hwV.trans (hbi.mono hwV.size)
          obtain ⟨q0, q1, q2, q3⟩ := hcell j hjl
          have d0 := Carries.of lo hwi _ _ hlo2 q0
          have d1 := Carries.of lo hwi _ _ hlo2 q1
          have d2 := Carries.of lo hwi _ _ hlo2 q2
          have d3 := Carries.of lo hwi _ _ hlo2 q3
          clear hcell q0 q1 q2 q3
          have hgj : decide ((e0, e1, e2, e3) = (arF C j, arS C j, arU C j, arT C j)) = G j := by rw [HGG.out]; rfl
          have hrun := fun w' => (eqlArc_run e0 e1 e3 (arF C j) (arS C j) (arT C j) e2 (arU C j) w').trans (by rw [hgj])
          clear hgj
          have hsu := Lib.hid (anyTo_succ j G)
          try dsimp only at d0 d1 d2 d3
          generalize arF C j = f0 at d0 hrun
          generalize arS C j = f1 at d1 hrun
          generalize arU C j = f2 at d2 hrun
          generalize arT C j = f3 at d3 hrun
          generalize G j = gj at hrun hsu
          have y0 := cell_keep b0 hbi (Nat.le_refl _)
          have y1 := cell_keep b1 hbi (Nat.le_refl _)
          have y2 := cell_keep b2 hbi (Nat.le_refl _)
          have y3 := cell_keep b3 hbi (Nat.le_refl _)
          have hA : Below V.heap.size V (wr.alloc (.cells #[.int .i64 f0, .int .i64 f1, .bool f2, .int .i64 f3] 98)) := hbi.alloc hbi.size _
          have y0 := cell_carry y0 (Carries.alloc (Carries.refl 0 wr) (.cells #[.int .i64 f0, .int .i64 f1, .bool f2, .int .i64 f3] 98))
          have y1 := cell_carry y1 (Carries.alloc (Carries.refl 0 wr) (.cells #[.int .i64 f0, .int .i64 f1, .bool f2, .int .i64 f3] 98))
          have y2 := cell_carry y2 (Carries.alloc (Carries.refl 0 wr) (.cells #[.int .i64 f0, .int .i64 f1, .bool f2, .int .i64 f3] 98))
          have y3 := cell_carry y3 (Carries.alloc (Carries.refl 0 wr) (.cells #[.int .i64 f0, .int .i64 f1, .bool f2, .int .i64 f3] 98))
          cases hm : anyTo j G with
          | true =>
            have e := hsu.out
            rw [hm, Bool.true_or] at e
            have HE := Lib.hid e; clear e hm
            go_wp2_with fail
            go_roundw
            case rel => exact ⟨j + 1, by omega, by go_num, by rw [HE.out], hA⟩
            case measure => simp [intOf]; omega
          | false =>
            have e := hsu.out
            rw [hm, Bool.false_or] at e
            have HE := Lib.hid e; clear e hm
            go_wp2_with fail
            go_roundw
            case rel => exact ⟨j + 1, by omega, by go_num, by rw [HE.out], hA⟩
            case measure => simp [intOf]; omega
        · have hjj : j = C.length := by omega
          subst hjj
          have hwi := hwV.trans (hbi.mono hwV.size)
          have y0 := cell_keep b0 hbi (Nat.le_refl _)
          have y3 := cell_keep b3 hbi (Nat.le_refl _)
          have x0 := cell_keep x0 hbi (Nat.le_refl _)
          have x1 := cell_keep x1 hbi (Nat.le_refl _)
          have x2 := cell_keep x2 hbi (Nat.le_refl _)
          have zi : w.heap.size < wr.heap.size := by have := hbi.size; omega
          have hKB : trIs C L k = (decide (e0 = p) && anyTo C.length G) := HKK.out
          cases hm : anyTo C.length G with
          | false =>
            rw [hm, Bool.and_false] at hKB
            have hf := HFB.out
            rw [trB_no hlt hKB] at hf
            have k1 := HSS.out
            have k2 := HBB.out
            rw [ftS_no hf] at k1
            rw [hf] at k2
            subst k1; subst k2
            clear hm hKB hf
            go_wp2_with fail
            go_ret2
            exact ⟨rfl, hwi⟩
          | true =>
            rw [hm, Bool.and_true] at hKB
            clear hm
            by_cases he : e0 = p
            case neg =>
              have te : (e0 != p) = true := by simpa using he
              rw [decide_eq_false he] at hKB
              have hf := HFB.out
              rw [trB_no hlt hKB] at hf
              have k1 := HSS.out
              have k2 := HBB.out
              rw [ftS_no hf] at k1
              rw [hf] at k2
              subst k1; subst k2
              clear he hKB hf
              go_wp2_with fail
              go_ret2
              exact ⟨rfl, hwi⟩
            have te : (e0 != p) = false := by simpa using he
            rw [decide_eq_true he] at hKB
            have H2 : Hid (∀ j, j < k + 1 → trIs C L j = true) := by
              intro j hj
              by_cases ej : j = k
              · subst ej; exact hKB
              · exact hall.out j (by omega)
            clear hKB he
            go_wp2_with fail
            go_roundw
            case rel => exact ⟨k + 1, by omega, by go_num, by rw [HN.out], H2, hwi, zi, x0, x1, x2⟩
            case measure => simp [intOf]; omega
    · have hkk : k = L.length := by omega
      subst hkk
      have ht := trB_yes hall.out
      have hf := HFB.out
      rw [ht] at hf
      have k1 := HSS.out
      have k2 := HBB.out
      rw [ftS_yes hf] at k1
      rw [hf] at k2
      subst k2
      rw [HCC.out] at ht
      have HT := Lib.hid ht; clear ht hf
      have HK := Lib.hid k1; clear k1
      go_wp2_with fail
      refine (l6Trace_any _ _ r L _ lo lo' (HV.out.keep (Carries.of lo hwk)) (HL.out.keep (Carries.of lo' hwk)) HS.out (by omega) (tr_labs HG.out HT.out)).mono ?_
      rintro e w3 ⟨rfl, hb⟩
      rw [← HK.out]
      have hw3 : Below w.heap.size w w3 := hwk.trans (hb.mono hwk.size)
      clear hb
      go_wp2_with fail
      go_ret2
      exact ⟨rfl, hw3⟩

end Go.Proofs.Ytnmoocgocnjdjaa
