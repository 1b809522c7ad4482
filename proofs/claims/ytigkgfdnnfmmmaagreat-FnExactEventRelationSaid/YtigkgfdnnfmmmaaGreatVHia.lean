/- slices.IndexFunc, slices.ContainsFunc of sets of events, of ints, of events, at a closure whose answers are known (the text on arcs, turned by program: ghia.py). -/
import Derived.Test.YtigkgfdnnfmmmaaGreatVUfh
import Derived.Test.YtigkgfdnnfmmmaaGreatVSgi
namespace Go.Proofs.YtigkgfdnnfmmmaaGreat
open Go.RowKit

/-- what a slice of sets of events reads as -/
def UsAt (lo : Nat) (w : World) (v : Value) (l : List Nat) : Prop :=
  ∃ (ao : Option Addr) (cap : Nat), v = .slice ao l.length cap ∧ l.length ≤ cap ∧
    (l.length = 0 ∨ ∃ b off, ao = some ⟨b, off, none⟩ ∧ lo ≤ b ∧ ∀ i, i < l.length → w.cell? ⟨b, off + i, none⟩ = some (.int .u64 ((l.getD i 0 : Nat) : Int)))
theorem UsAt.keep {lo : Nat} {w w' : World} {v : Value} {l : List Nat} (h : UsAt lo w v l) (hb : Carries lo w w') : UsAt lo w' v l := by
  obtain ⟨ao, cap, hv, hc, hz⟩ := h
  refine ⟨ao, cap, hv, hc, ?_⟩
  rcases hz with hz | ⟨b, off, ha, hlo, hcell⟩
  · exact Or.inl hz
  · exact Or.inr ⟨b, off, ha, hlo, fun i hi => hb _ _ hlo (hcell i hi)⟩
theorem URow.at {B : Nat} {w : World} {v : Value} {l : List Nat} (h : URow B w v l) : UsAt B w v l := by
  have h0 := h
  rcases h.2 with ⟨rfl, hn⟩ | ⟨g, cap, cur, rfl, hb, hg, hnc, _⟩
  · exact ⟨none, 0, by rw [hn], by omega, Or.inl hn⟩
  · refine ⟨_, _, rfl, hnc, Or.inr ⟨g, 0, rfl, hb, fun i hi => ?_⟩⟩
    rw [Nat.zero_add, h0.cellAt i (by omega)]; exact usCells_get hi
theorem ERow.at {B : Nat} {w : World} {v : Value} {es : List Ev} (h : ERow B w v es) : EvsAt B w v es := by
  obtain ⟨xs, h, hx⟩ := h
  have h0 := h
  rcases h.2 with ⟨rfl, hn⟩ | ⟨g, cap, cur, rfl, hb, hg, hnc, _⟩
  · exact ⟨none, 0, by rw [hn], by omega, Or.inl hn⟩
  · refine ⟨_, _, rfl, hnc, Or.inr ⟨g, 0, rfl, hb, fun i hi => ?_⟩⟩
    obtain ⟨u, q, e0, e1, eu, hq, hrow⟩ := hx i hi
    refine ⟨u, ?_, ?_, ?_⟩
    · rw [Nat.zero_add, h0.cellAt (i * 2) (by omega)]; exact e0
    · rw [Nat.zero_add, h0.cellAt (i * 2 + 1) (by omega)]; exact e1
    · subst eu
      exact ⟨_, _, rfl, Nat.le_refl _, Or.inr ⟨q, 0, rfl, hq.1, fun j hj => by rw [Nat.zero_add]; exact hrow.cell hj⟩⟩

set_option maxRecDepth 100000 in
set_option maxHeartbeats 1000000 in
theorem IndexFuncSet_any (v : Value) (ss : List Nat) (F : Nat) (cv : Value) (g : Nat → Bool) (w : World) (lo : Nat) (hv : UsAt lo w v ss) (hl : ss.length ≤ 1048576)
    (hF : ∀ (args : Array Value) (w : World), (callFunc F args).run Tryz.prog w = .ok (.enter F args) w)
    (hclo : ∀ k, k < ss.length → ∀ w1, Below w.heap.size w w1 → Calls Tryz.prog F #[.int .u64 ((ss.getD k 0 : Nat) : Int), cv] w1 (RetB w1 (g k))) :
    Calls Tryz.prog 102 #[v, .func (.func F) #[] #[cv]] w (RetIx w (anyTo ss.length g)) := by
  obtain ⟨q, hq⟩ : ∃ q, q = anyTo ss.length g := ⟨_, rfl⟩
  rw [← hq]
  have HG := Lib.hid hq; clear hq
  obtain ⟨ao, cap, rfl, hc, hz⟩ := hv
  have HF := Lib.hid hz; clear hz
  have HC := Lib.hid hclo; clear hclo
  go_enter Tryz.func102, Tryz.ntmps102
  go_wp2_with fail
  go_loopw [8] (fun i wr => ∃ k : Nat, k ≤ ss.length ∧ i = .int .i64 k ∧ Hid (∀ j, j < k → g j = false) ∧ Below w.heap.size w wr) (fun i _ => ss.length - (intOf i).toNat)
  case atStart => exact ⟨0, Nat.zero_le _, rfl, fun j hj => absurd hj (Nat.not_lt_zero _), Below.refl _ _⟩
  case round =>
    obtain ⟨k, hk, rfl, hall, hb1⟩ := hrel
    by_cases hlt : k < ss.length
    · rcases HF.out with h0 | ⟨b, off, rfl, hlo, hcell⟩
      · omega
      have q0 := hcell k hlt
      have d0 := Carries.of lo hb1 _ _ hlo q0
      have HCL := Lib.hid (HC.out k hlt wr hb1)
      generalize ss.getD k 0 = y at d0 HCL
      clear hcell q0
      go_wp2_with fail
      refine HCL.out.mono ?_
      rintro e w2 ⟨rfl, hb⟩
      have hw2 : Below w.heap.size w w2 := hb1.trans (hb.mono hb1.size)
      clear hb d0
      cases hk2 : g k with
      | false =>
        have H2 : Hid (∀ j, j < k + 1 → g j = false) := by
          intro j hj
          by_cases ej : j = k
          · subst ej; exact hk2
          · exact hall.out j (by omega)
        clear hk2
        go_wp2_with fail
        go_roundw
        case rel => exact ⟨k + 1, by omega, by go_num, H2, hw2⟩
        case measure => simp [intOf]; omega
      | true =>
        have e := HG.out
        rw [anyTo_true hlt hk2] at e
        subst e
        clear hk2
        go_wp2_with fail
        go_ret
        refine ⟨(k : Int), rfl, by omega, by omega, ?_, hw2⟩
        rw [decide_eq_true (by omega)]
    · have hkk : k = ss.length := by omega
      subst hkk
      have e := HG.out
      rw [anyTo_false hall.out] at e
      subst e
      go_wp2_with fail
      go_ret
      exact ⟨-1, rfl, by omega, by omega, rfl, hb1⟩

set_option maxRecDepth 100000 in
set_option maxHeartbeats 400000 in
theorem ContainsFuncSet_any (v : Value) (ss : List Nat) (F : Nat) (cv : Value) (g : Nat → Bool) (w : World) (lo : Nat) (hv : UsAt lo w v ss) (hl : ss.length ≤ 1048576)
    (hF : ∀ (args : Array Value) (w : World), (callFunc F args).run Tryz.prog w = .ok (.enter F args) w)
    (hclo : ∀ k, k < ss.length → ∀ w1, Below w.heap.size w w1 → Calls Tryz.prog F #[.int .u64 ((ss.getD k 0 : Nat) : Int), cv] w1 (RetB w1 (g k))) :
    Calls Tryz.prog 93 #[v, .func (.func F) #[] #[cv]] w (RetB w (anyTo ss.length g)) := by
  obtain ⟨q, hq⟩ : ∃ q, q = anyTo ss.length g := ⟨_, rfl⟩
  rw [← hq]
  have HG := Lib.hid hq; clear hq
  have hv2 := hv
  obtain ⟨ao, cap, rfl, _, _⟩ := hv2
  have HV := Lib.hid hv; clear hv
  have HC := Lib.hid hclo; clear hclo
  go_enter Tryz.func93, Tryz.ntmps93
  go_wp2_with fail
  refine (IndexFuncSet_any _ ss F _ g _ lo HV.out hl hF HC.out).mono ?_
  rintro e w1 ⟨r, rfl, h0, h1, hr, hb⟩
  rw [← HG.out] at hr
  by_cases h : 0 ≤ r
  · rw [decide_eq_true h] at hr
    subst hr
    have t1 : decide (0 ≤ r) = true := decide_eq_true (by omega)
    go_wp2_with fail
    go_ret
    exact ⟨rfl, hb⟩
  · rw [decide_eq_false h] at hr
    subst hr
    have t1 : decide (0 ≤ r) = false := decide_eq_false (by omega)
    go_wp2_with fail
    go_ret
    exact ⟨rfl, hb⟩

set_option maxRecDepth 100000 in
set_option maxHeartbeats 1000000 in
theorem IndexFuncInt2_any (v : Value) (ss : List Int) (F : Nat) (cv cv2 : Value) (g : Nat → Bool) (w : World) (lo : Nat) (hv : IntsAt lo w v ss) (hl : ss.length ≤ 1048576)
    (hF : ∀ (args : Array Value) (w : World), (callFunc F args).run Tryz.prog w = .ok (.enter F args) w)
    (hclo : ∀ k, k < ss.length → ∀ w1, Below w.heap.size w w1 → Calls Tryz.prog F #[.int .i64 (ss.getD k 0), cv, cv2] w1 (RetB w1 (g k))) :
    Calls Tryz.prog 100 #[v, .func (.func F) #[] #[cv, cv2]] w (RetIx w (anyTo ss.length g)) := by
  obtain ⟨q, hq⟩ : ∃ q, q = anyTo ss.length g := ⟨_, rfl⟩
  rw [← hq]
  have HG := Lib.hid hq; clear hq
  obtain ⟨ao, cap, rfl, hc, hz⟩ := hv
  have HF := Lib.hid hz; clear hz
  have HC := Lib.hid hclo; clear hclo
  go_enter Tryz.func100, Tryz.ntmps100
  go_wp2_with fail
  go_loopw [8] (fun i wr => ∃ k : Nat, k ≤ ss.length ∧ i = .int .i64 k ∧ Hid (∀ j, j < k → g j = false) ∧ Below w.heap.size w wr) (fun i _ => ss.length - (intOf i).toNat)
  case atStart => exact ⟨0, Nat.zero_le _, rfl, fun j hj => absurd hj (Nat.not_lt_zero _), Below.refl _ _⟩
  case round =>
    obtain ⟨k, hk, rfl, hall, hb1⟩ := hrel
    by_cases hlt : k < ss.length
    · rcases HF.out with rfl | ⟨b, off, rfl, hlo, hcell⟩
      · simp at hlt
      have q0 := hcell k hlt
      have d0 := Carries.of lo hb1 _ _ hlo q0
      have HCL := Lib.hid (HC.out k hlt wr hb1)
      generalize ss.getD k 0 = y at d0 HCL
      clear hcell q0
      go_wp2_with fail
      refine HCL.out.mono ?_
      rintro e w2 ⟨rfl, hb⟩
      have hw2 : Below w.heap.size w w2 := hb1.trans (hb.mono hb1.size)
      clear hb d0
      cases hk2 : g k with
      | false =>
        have H2 : Hid (∀ j, j < k + 1 → g j = false) := by
          intro j hj
          by_cases ej : j = k
          · subst ej; exact hk2
          · exact hall.out j (by omega)
        clear hk2
        go_wp2_with fail
        go_roundw
        case rel => exact ⟨k + 1, by omega, by go_num, H2, hw2⟩
        case measure => simp [intOf]; omega
      | true =>
        have e := HG.out
        rw [anyTo_true hlt hk2] at e
        subst e
        clear hk2
        go_wp2_with fail
        go_ret
        refine ⟨(k : Int), rfl, by omega, by omega, ?_, hw2⟩
        rw [decide_eq_true (by omega)]
    · have hkk : k = ss.length := by omega
      subst hkk
      have e := HG.out
      rw [anyTo_false hall.out] at e
      subst e
      go_wp2_with fail
      go_ret
      exact ⟨-1, rfl, by omega, by omega, rfl, hb1⟩

set_option maxRecDepth 100000 in
set_option maxHeartbeats 400000 in
theorem ContainsFuncInt2_any (v : Value) (ss : List Int) (F : Nat) (cv cv2 : Value) (g : Nat → Bool) (w : World) (lo : Nat) (hv : IntsAt lo w v ss) (hl : ss.length ≤ 1048576)
    (hF : ∀ (args : Array Value) (w : World), (callFunc F args).run Tryz.prog w = .ok (.enter F args) w)
    (hclo : ∀ k, k < ss.length → ∀ w1, Below w.heap.size w w1 → Calls Tryz.prog F #[.int .i64 (ss.getD k 0), cv, cv2] w1 (RetB w1 (g k))) :
    Calls Tryz.prog 89 #[v, .func (.func F) #[] #[cv, cv2]] w (RetB w (anyTo ss.length g)) := by
  obtain ⟨q, hq⟩ : ∃ q, q = anyTo ss.length g := ⟨_, rfl⟩
  rw [← hq]
  have HG := Lib.hid hq; clear hq
  have hv2 := hv
  obtain ⟨ao, cap, rfl, _, _⟩ := hv2
  have HV := Lib.hid hv; clear hv
  have HC := Lib.hid hclo; clear hclo
  go_enter Tryz.func89, Tryz.ntmps89
  go_wp2_with fail
  refine (IndexFuncInt2_any _ ss F _ _ g _ lo HV.out hl hF HC.out).mono ?_
  rintro e w1 ⟨r, rfl, h0, h1, hr, hb⟩
  rw [← HG.out] at hr
  by_cases h : 0 ≤ r
  · rw [decide_eq_true h] at hr
    subst hr
    have t1 : decide (0 ≤ r) = true := decide_eq_true (by omega)
    go_wp2_with fail
    go_ret
    exact ⟨rfl, hb⟩
  · rw [decide_eq_false h] at hr
    subst hr
    have t1 : decide (0 ≤ r) = false := decide_eq_false (by omega)
    go_wp2_with fail
    go_ret
    exact ⟨rfl, hb⟩

set_option maxRecDepth 100000 in
set_option maxHeartbeats 1000000 in
theorem IndexFuncEv_any (v : Value) (ss : List Ev) (F : Nat) (cv : Value) (g : Nat → Bool) (w : World) (lo : Nat) (hv : EvsAt lo w v ss) (hl : ss.length ≤ 1048576)
    (hF : ∀ (args : Array Value) (w : World), (callFunc F args).run Tryz.prog w = .ok (.enter F args) w)
    (hclo : ∀ k, k < ss.length → ∀ w1, Below w.heap.size w w1 → ∀ u1, IntsAt lo w1 u1 (evP ss k) → Calls Tryz.prog F #[.agg #[.int .i64 (evT ss k), u1], cv] w1 (RetB w1 (g k))) :
    Calls Tryz.prog 101 #[v, .func (.func F) #[] #[cv]] w (RetIx w (anyTo ss.length g)) := by
  obtain ⟨q, hq⟩ : ∃ q, q = anyTo ss.length g := ⟨_, rfl⟩
  rw [← hq]
  have HG := Lib.hid hq; clear hq
  obtain ⟨ao, cap, rfl, hc, hz⟩ := hv
  have HF := Lib.hid hz; clear hz
  have HC := Lib.hid hclo; clear hclo
  go_enter Tryz.func101, Tryz.ntmps101
  go_wp2_with fail
  go_loopw [8] (fun i wr => ∃ k : Nat, k ≤ ss.length ∧ i = .int .i64 k ∧ Hid (∀ j, j < k → g j = false) ∧ Below w.heap.size w wr) (fun i _ => ss.length - (intOf i).toNat)
  case atStart => exact ⟨0, Nat.zero_le _, rfl, fun j hj => absurd hj (Nat.not_lt_zero _), Below.refl _ _⟩
  case round =>
    obtain ⟨k, hk, rfl, hall, hb1⟩ := hrel
    by_cases hlt : k < ss.length
    · rcases HF.out with h0 | ⟨b, off, rfl, hlo, hcell⟩
      · omega
      obtain ⟨u1, q0, q1, hu⟩ := hcell k hlt
      have d0 := Carries.of lo hb1 _ _ hlo q0
      have d1 := Carries.of lo hb1 _ _ hlo q1
      have HU := Lib.hid (hu.keep (Carries.of lo hb1))
      clear hcell q0 q1 hu
      go_wp2_with fail
      refine (HC.out k hlt _ hb1 _ HU.out).mono ?_
      rintro e w2 ⟨rfl, hb⟩
      have hw2 : Below w.heap.size w w2 := hb1.trans (hb.mono hb1.size)
      clear hb d0 d1
      cases hk2 : g k with
      | false =>
        have H2 : Hid (∀ j, j < k + 1 → g j = false) := by
          intro j hj
          by_cases ej : j = k
          · subst ej; exact hk2
          · exact hall.out j (by omega)
        clear hk2
        go_wp2_with fail
        go_roundw
        case rel => exact ⟨k + 1, by omega, by go_num, H2, hw2⟩
        case measure => simp [intOf]; omega
      | true =>
        have e := HG.out
        rw [anyTo_true hlt hk2] at e
        subst e
        clear hk2
        go_wp2_with fail
        go_ret
        refine ⟨(k : Int), rfl, by omega, by omega, ?_, hw2⟩
        rw [decide_eq_true (by omega)]
    · have hkk : k = ss.length := by omega
      subst hkk
      have e := HG.out
      rw [anyTo_false hall.out] at e
      subst e
      go_wp2_with fail
      go_ret
      exact ⟨-1, rfl, by omega, by omega, rfl, hb1⟩

set_option maxRecDepth 100000 in
set_option maxHeartbeats 400000 in
theorem ContainsFuncEv_any (v : Value) (ss : List Ev) (F : Nat) (cv : Value) (g : Nat → Bool) (w : World) (lo : Nat) (hv : EvsAt lo w v ss) (hl : ss.length ≤ 1048576)
    (hF : ∀ (args : Array Value) (w : World), (callFunc F args).run Tryz.prog w = .ok (.enter F args) w)
    (hclo : ∀ k, k < ss.length → ∀ w1, Below w.heap.size w w1 → ∀ u1, IntsAt lo w1 u1 (evP ss k) → Calls Tryz.prog F #[.agg #[.int .i64 (evT ss k), u1], cv] w1 (RetB w1 (g k))) :
    Calls Tryz.prog 91 #[v, .func (.func F) #[] #[cv]] w (RetB w (anyTo ss.length g)) := by
  obtain ⟨q, hq⟩ : ∃ q, q = anyTo ss.length g := ⟨_, rfl⟩
  rw [← hq]
  have HG := Lib.hid hq; clear hq
  have hv2 := hv
  obtain ⟨ao, cap, rfl, _, _⟩ := hv2
  have HV := Lib.hid hv; clear hv
  have HC := Lib.hid hclo; clear hclo
  go_enter Tryz.func91, Tryz.ntmps91
  go_wp2_with fail
  refine (IndexFuncEv_any _ ss F _ g _ lo HV.out hl hF HC.out).mono ?_
  rintro e w1 ⟨r, rfl, h0, h1, hr, hb⟩
  rw [← HG.out] at hr
  by_cases h : 0 ≤ r
  · rw [decide_eq_true h] at hr
    subst hr
    have t1 : decide (0 ≤ r) = true := decide_eq_true (by omega)
    go_wp2_with fail
    go_ret
    exact ⟨rfl, hb⟩
  · rw [decide_eq_false h] at hr
    subst hr
    have t1 : decide (0 ≤ r) = false := decide_eq_false (by omega)
    go_wp2_with fail
    go_ret
    exact ⟨rfl, hb⟩


end Go.Proofs.YtigkgfdnnfmmmaaGreat
