/- WALKS: IsExcited of the program. -/
import Derived.Test.YtfipnlehaklepaaVSgv
namespace Go.Proofs.Ytfipnlehaklepaa
open Go.RowKit

/-- an arc that leaves state k is an edge of signal s -/
def excAt (ls : List Ar) (k s : Int) (i : Nat) : Bool := decide (arF ls i = k ∧ arS ls i = s)
def excB (r : SgD) (k s : Int) : Bool := anyTo r.arcs.length (excAt r.arcs k s)
/-- IsExcited can be asked -/
def exOk (r : SgD) (k s : Int) : Bool := goodG r && decide ((0 ≤ k ∧ k < (r.codes.length : Int)) ∧ (0 ≤ s ∧ s < (r.sigs.length : Int)))
def exA (r : SgD) (k s : Int) : Bool := exOk r k s && excB r k s
theorem exOk_bad {r : SgD} {k s : Int} (h : goodG r = false) : exOk r k s = false ∧ exA r k s = false := by unfold exA exOk; rw [h]; exact ⟨rfl, rfl⟩
theorem exOk_out {r : SgD} {k s : Int} (h : ¬ ((0 ≤ k ∧ k < (r.codes.length : Int)) ∧ (0 ≤ s ∧ s < (r.sigs.length : Int)))) : exOk r k s = false ∧ exA r k s = false := by
  unfold exA exOk; rw [decide_eq_false h, Bool.and_false]; exact ⟨rfl, rfl⟩
theorem exOk_in {r : SgD} {k s : Int} (h : goodG r = true) (h2 : (0 ≤ k ∧ k < (r.codes.length : Int)) ∧ (0 ≤ s ∧ s < (r.sigs.length : Int))) : exOk r k s = true ∧ exA r k s = excB r k s := by
  unfold exA exOk; rw [h, decide_eq_true h2]; exact ⟨rfl, rfl⟩

set_option maxRecDepth 100000 in
set_option maxHeartbeats 1000000 in
theorem excClo_any (f x : Int) (u : Bool) (t k s : Int) (B B2 : Nat) (w : World) (x0 : w.cell? ⟨B, 0, none⟩ = some (.int .i64 k)) (x1 : w.cell? ⟨B2, 0, none⟩ = some (.int .i64 s)) :
    Calls Try.prog 129 #[.agg #[.int .i64 f, .int .i64 x, .bool u, .int .i64 t], .pointer (some ⟨B, 0, none⟩), .pointer (some ⟨B2, 0, none⟩)] w (RetB w (decide (f = k ∧ x = s))) := by
  have z0 : B < w.heap.size := cell_old x0
  have z1 : B2 < w.heap.size := cell_old x1
  by_cases h1 : f = k
  · have t0 : (f == k) = true := by simpa using h1
    by_cases h2 : x = s
    · have t1 : (x == s) = true := by simpa using h2
      rw [decide_eq_true (And.intro h1 h2)]
      clear h1 h2
      go_enter Try.func129, Try.ntmps129
      go_wp2_with fail
      go_ret
      exact ⟨rfl, by (repeat' (first | (with_reducible exact Below.refl _ _) | (with_reducible assumption) | (with_reducible refine Below.alloc ?_ ?_ _) | (with_reducible refine Below.drew ?_) | (with_reducible refine below_drewN ?_ _) | (with_reducible refine Below.setCell ?_ ?_ _) | go_size))⟩
    · have t1 : (x == s) = false := by simpa using h2
      rw [decide_eq_false (fun h => h2 h.2)]
      clear h1 h2
      go_enter Try.func129, Try.ntmps129
      go_wp2_with fail
      go_ret
      exact ⟨rfl, by (repeat' (first | (with_reducible exact Below.refl _ _) | (with_reducible assumption) | (with_reducible refine Below.alloc ?_ ?_ _) | (with_reducible refine Below.drew ?_) | (with_reducible refine below_drewN ?_ _) | (with_reducible refine Below.setCell ?_ ?_ _) | go_size))⟩
  · have t0 : (f == k) = false := by simpa using h1
    rw [decide_eq_false (fun h => h1 h.1)]
    clear h1
    go_enter Try.func129, Try.ntmps129
    go_wp2_with fail
    go_ret
    exact ⟨rfl, by (repeat' (first | (with_reducible exact Below.refl _ _) | (with_reducible assumption) | (with_reducible refine Below.alloc ?_ ?_ _) | (with_reducible refine Below.drew ?_) | (with_reducible refine below_drewN ?_ _) | (with_reducible refine Below.setCell ?_ ?_ _) | go_size))⟩

/-! two captures -/
set_option maxRecDepth 100000 in
set_option maxHeartbeats 1000000 in
theorem IndexFuncArc2_any (v : Value) (ss : List Ar) (F : Nat) (cv cv2 : Value) (g : Nat → Bool) (w : World) (lo : Nat) (hv : ArcsAt lo w v ss) (hl : ss.length ≤ 1048576)
    (hF : ∀ (args : Array Value) (w : World), (callFunc F args).run Try.prog w = .ok (.enter F args) w)
    (hclo : ∀ k, k < ss.length → ∀ w1, Below w.heap.size w w1 → Calls Try.prog F #[.agg #[.int .i64 (arF ss k), .int .i64 (arS ss k), .bool (arU ss k), .int .i64 (arT ss k)], cv, cv2] w1 (RetB w1 (g k))) :
    Calls Try.prog 166 #[v, .func (.func F) #[] #[cv, cv2]] w (RetIx w (anyTo ss.length g)) := by
  obtain ⟨q, hq⟩ : ∃ q, q = anyTo ss.length g := ⟨_, rfl⟩
  rw [← hq]
  have HG := Lib.hid hq; clear hq
  obtain ⟨ao, cap, rfl, hc, hz⟩ := hv
  have HF := Lib.hid hz; clear hz
  have HC := Lib.hid hclo; clear hclo
  go_enter Try.func166, Try.ntmps166
  go_wp2_with fail
  go_loopw [8] (fun i wr => ∃ k : Nat, k ≤ ss.length ∧ i = .int .i64 k ∧ Hid (∀ j, j < k → g j = false) ∧ Below w.heap.size w wr) (fun i _ => ss.length - (intOf i).toNat)
  case atStart => exact ⟨0, Nat.zero_le _, rfl, fun j hj => absurd hj (Nat.not_lt_zero _), Below.refl _ _⟩
  case round =>
    obtain ⟨k, hk, rfl, hall, hb1⟩ := hrel
    by_cases hlt : k < ss.length
    · rcases HF.out with h0 | ⟨b, off, rfl, hlo, hcell⟩
      · omega
      obtain ⟨q0, q1, q2, q3⟩ := hcell k hlt
      have d0 := Carries.of lo hb1 _ _ hlo q0
      have d1 := Carries.of lo hb1 _ _ hlo q1
      have d2 := Carries.of lo hb1 _ _ hlo q2
      have d3 := Carries.of lo hb1 _ _ hlo q3
      clear hcell q0 q1 q2 q3
      go_wp2_with fail
      refine (HC.out k hlt _ hb1).mono ?_
      rintro e w2 ⟨rfl, hb⟩
      have hw2 : Below w.heap.size w w2 := hb1.trans (hb.mono hb1.size)
      clear hb d0 d1 d2 d3
      cases hk2 : g k with
      | false =>
        have H2 : Hid (∀ j, j < k + 1 → g j = false) := by
          intro j hj
          by_cases ej : j = k
          · subst ej; exact hk2
          · exact hall.out j (by omega)
        clear hk2
        go_wp2_with fail
        go_roundw
        case rel => exact ⟨k + 1, by omega, by go_num, H2, hw2⟩
        case measure => simp [intOf]; omega
      | true =>
        have e := HG.out
        rw [anyTo_true hlt hk2] at e
        subst e
        clear hk2
        go_wp2_with fail
        go_ret
        refine ⟨(k : Int), rfl, by omega, by omega, ?_, hw2⟩
        rw [decide_eq_true (by omega)]
    · have hkk : k = ss.length := by omega
      subst hkk
      have e := HG.out
      rw [anyTo_false hall.out] at e
      subst e
      go_wp2_with fail
      go_ret
      exact ⟨-1, rfl, by omega, by omega, rfl, hb1⟩

set_option maxRecDepth 100000 in
set_option maxHeartbeats 400000 in
theorem ContainsFuncArc2_any (v : Value) (ss : List Ar) (F : Nat) (cv cv2 : Value) (g : Nat → Bool) (w : World) (lo : Nat) (hv : ArcsAt lo w v ss) (hl : ss.length ≤ 1048576)
    (hF : ∀ (args : Array Value) (w : World), (callFunc F args).run Try.prog w = .ok (.enter F args) w)
    (hclo : ∀ k, k < ss.length → ∀ w1, Below w.heap.size w w1 → Calls Try.prog F #[.agg #[.int .i64 (arF ss k), .int .i64 (arS ss k), .bool (arU ss k), .int .i64 (arT ss k)], cv, cv2] w1 (RetB w1 (g k))) :
    Calls Try.prog 123 #[v, .func (.func F) #[] #[cv, cv2]] w (RetB w (anyTo ss.length g)) := by
  obtain ⟨q, hq⟩ : ∃ q, q = anyTo ss.length g := ⟨_, rfl⟩
  rw [← hq]
  have HG := Lib.hid hq; clear hq
  have hv2 := hv
  obtain ⟨ao, cap, rfl, _, _⟩ := hv2
  have HV := Lib.hid hv; clear hv
  have HC := Lib.hid hclo; clear hclo
  go_enter Try.func123, Try.ntmps123
  go_wp2_with fail
  refine (IndexFuncArc2_any _ ss F _ _ g _ lo HV.out hl hF HC.out).mono ?_
  rintro e w1 ⟨r, rfl, h0, h1, hr, hb⟩
  rw [← HG.out] at hr
  by_cases h : 0 ≤ r
  · rw [decide_eq_true h] at hr
    subst hr
    have t1 : decide (0 ≤ r) = true := decide_eq_true (by omega)
    go_wp2_with fail
    go_ret
    exact ⟨rfl, hb⟩
  · rw [decide_eq_false h] at hr
    subst hr
    have t1 : decide (0 ≤ r) = false := decide_eq_false (by omega)
    go_wp2_with fail
    go_ret
    exact ⟨rfl, hb⟩

set_option maxRecDepth 100000 in
set_option maxHeartbeats 1000000 in
theorem isExcited_any (v : Value) (r : SgD) (k s : Int) (w : World) (lo : Nat) (hv : SgAt lo w v r) (hs : SmallSg r) :
    Calls Try.prog 72 #[v, .int .i64 k, .int .i64 s] w (RetB w (excB r k s)) := by
  obtain ⟨q, hq⟩ : ∃ q, q = excB r k s := ⟨_, rfl⟩
  rw [← hq]
  have HQ := Lib.hid hq; clear hq
  obtain ⟨a0, c0, a1, c1, a2, c2, rfl, h_0, h_1, hl⟩ := hv.form
  clear hv h_0 h_1
  have HL := Lib.hid hl; clear hl
  have K2 := hs.2.2
  clear hs
  obtain ⟨ng, hng⟩ : ∃ n, n = r.sigs.length := ⟨_, rfl⟩
  obtain ⟨nc, hnc⟩ : ∃ n, n = r.codes.length := ⟨_, rfl⟩
  rw [← hng, ← hnc]
  clear hng hnc
  have hmf : ∀ (fn : Fn) (first cap : Array Value) (w : World), (Instr.makeFunc fn first cap).run Try.prog w = .ok (.func fn first cap) w := fun _ _ _ _ => rfl
  go_enter Try.func72, Try.ntmps72
  go_wp2_with fail
  have x0 : (((w.alloc (.cells #[.slice a0 ng c0, .slice a1 nc c1, .slice a2 r.arcs.length c2] 32)).alloc (.cells #[.int .i64 k] 3)).alloc (.cells #[.int .i64 s] 3)).cell? ⟨w.heap.size + 1, 0, none⟩ = some (.int .i64 k) := by simp [go_sem]
  have x1 : (((w.alloc (.cells #[.slice a0 ng c0, .slice a1 nc c1, .slice a2 r.arcs.length c2] 32)).alloc (.cells #[.int .i64 k] 3)).alloc (.cells #[.int .i64 s] 3)).cell? ⟨w.heap.size + 1 + 1, 0, none⟩ = some (.int .i64 s) := by simp [go_sem]
  refine (ContainsFuncArc2_any _ r.arcs _ _ _ (excAt r.arcs k s) _ lo (HL.out.keep ?_) K2 (fun _ _ => rfl) (fun i hi w1 hw1 => excClo_any _ _ _ _ k s _ _ _ (cell_carry x0 (Carries.of 0 hw1)) (cell_carry x1 (Carries.of 0 hw1)))).mono ?_
  · (repeat' (first | (with_reducible exact Carries.refl _ _) | (with_reducible assumption) | (with_reducible refine Carries.alloc ?_ _) | (with_reducible refine Carries.drew ?_) | (with_reducible refine Carries.drewN ?_ _) | (with_reducible refine Carries.set ?_ ?_ _) | go_size))
  rintro e w1 ⟨rfl, hb⟩
  have e2 : anyTo r.arcs.length (excAt r.arcs k s) = q := HQ.out.symm
  rw [e2]
  have hw1 : Below w.heap.size w w1 := by
    refine Below.trans ?_ (hb.mono ?_)
    · (repeat' (first | (with_reducible exact Below.refl _ _) | (with_reducible assumption) | (with_reducible refine Below.alloc ?_ ?_ _) | (with_reducible refine Below.drew ?_) | (with_reducible refine below_drewN ?_ _) | (with_reducible refine Below.setCell ?_ ?_ _) | go_size))
    · simp; omega
  clear hb e2 x0 x1
  go_wp2_with fail
  go_ret
  exact ⟨rfl, hw1⟩

set_option maxRecDepth 100000 in
set_option maxHeartbeats 2000000 in
theorem IsExcited_any (v : Value) (r : SgD) (k s : Int) (w : World) (lo : Nat) (hv : SgAt lo w v r) (hs : SmallSg r) :
    Calls Try.prog 24 #[v, .int .i64 k, .int .i64 s] w (RetV w (.tuple #[.bool (exA r k s), .bool (exOk r k s)])) := by
  obtain ⟨qa, hqa⟩ : ∃ q, q = exA r k s := ⟨_, rfl⟩
  obtain ⟨qo, hqo⟩ : ∃ q, q = exOk r k s := ⟨_, rfl⟩
  rw [← hqa, ← hqo]
  have HV := Lib.hid hv
  obtain ⟨a0, c0, a1, c1, a2, c2, rfl, h_0, h_1, h_2⟩ := hv.form
  clear hv h_0 h_1 h_2
  have KG := hs.1.1
  have KC := hs.2.1.1
  have HS := Lib.hid hs; clear hs
  obtain ⟨ng, hng⟩ : ∃ n, n = r.sigs.length := ⟨_, rfl⟩
  obtain ⟨nc, hnc⟩ : ∃ n, n = r.codes.length := ⟨_, rfl⟩
  obtain ⟨na, hna⟩ : ∃ n, n = r.arcs.length := ⟨_, rfl⟩
  have E1 : Hid (goodG r = false → qo = false ∧ qa = false) := fun h => by rw [hqa, hqo]; exact exOk_bad h
  have E2 : Hid (¬ ((0 ≤ k ∧ k < (nc : Int)) ∧ (0 ≤ s ∧ s < (ng : Int))) → qo = false ∧ qa = false) := fun h => by rw [hqa, hqo]; rw [hng, hnc] at h; exact exOk_out h
  have E3 : Hid (goodG r = true → (0 ≤ k ∧ k < (nc : Int)) ∧ (0 ≤ s ∧ s < (ng : Int)) → qo = true ∧ qa = excB r k s) := fun h h2 => by rw [hqa, hqo]; rw [hng, hnc] at h2; exact exOk_in h h2
  rw [← hng, ← hnc, ← hna] at HV ⊢
  rw [← hnc] at KC
  rw [← hng] at KG
  clear hng hnc hna hqa hqo
  have x0 : (w.alloc (.cells #[.slice a0 ng c0, .slice a1 nc c1, .slice a2 na c2] 32)).cell? ⟨w.heap.size, 0, none⟩ = some (.slice a0 ng c0) := by simp
  have x1 : (w.alloc (.cells #[.slice a0 ng c0, .slice a1 nc c1, .slice a2 na c2] 32)).cell? ⟨w.heap.size, 1, none⟩ = some (.slice a1 nc c1) := by simp
  have x2 : (w.alloc (.cells #[.slice a0 ng c0, .slice a1 nc c1, .slice a2 na c2] 32)).cell? ⟨w.heap.size, 2, none⟩ = some (.slice a2 na c2) := by simp
  have hal : Below w.heap.size w (w.alloc (.cells #[.slice a0 ng c0, .slice a1 nc c1, .slice a2 na c2] 32)) := (Below.refl _ _).alloc (Nat.le_refl _) _
  go_enter Try.func24, Try.ntmps24
  go_wp2_with fail
  generalize w.alloc (.cells #[.slice a0 ng c0, .slice a1 nc c1, .slice a2 na c2] 32) = W at x0 x1 x2 hal ⊢
  refine (IsValidSg_any _ r _ lo (HV.out.keep (Carries.of lo hal)) HS.out).mono ?_
  rintro e w1 ⟨rfl, hb⟩
  have hw1 : Below w.heap.size w w1 := hal.trans (hb.mono hal.size)
  have x0 := cell_carry x0 (Carries.of 0 hb)
  have x1 := cell_carry x1 (Carries.of 0 hb)
  have x2 := cell_carry x2 (Carries.of 0 hb)
  clear hb hal
  cases hg : goodG r with
  | false =>
    obtain ⟨rfl, rfl⟩ := E1.out hg
    clear hg
    go_wp2_with fail
    go_ret2
    exact ⟨rfl, hw1⟩
  | true =>
  have HGG := Lib.hid hg; clear hg
  go_wp2_with fail
  refine (hasState_any _ _ _ _ _ _ _ _ _ _ _ KC).mono ?_
  rintro e w2 ⟨rfl, hb⟩
  have hw2 : Below w.heap.size w w2 := hw1.trans (hb.mono hw1.size)
  have x0 := cell_carry x0 (Carries.of 0 hb)
  have x1 := cell_carry x1 (Carries.of 0 hb)
  have x2 := cell_carry x2 (Carries.of 0 hb)
  clear hb
  by_cases h1 : 0 ≤ k ∧ k < (nc : Int)
  case neg =>
    obtain ⟨rfl, rfl⟩ := E2.out (fun h => h1 h.1)
    rw [decide_eq_false h1]
    clear h1
    go_wp2_with fail
    go_ret2
    exact ⟨rfl, hw2⟩
  rw [decide_eq_true h1]
  go_wp2_with fail
  refine (sgHasSignal_any _ _ _ _ _ _ _ _ _ _ _ KG).mono ?_
  rintro e w3 ⟨rfl, hb⟩
  have hw3 : Below w.heap.size w w3 := hw2.trans (hb.mono hw2.size)
  have x0 := cell_carry x0 (Carries.of 0 hb)
  have x1 := cell_carry x1 (Carries.of 0 hb)
  have x2 := cell_carry x2 (Carries.of 0 hb)
  clear hb
  by_cases h2 : 0 ≤ s ∧ s < (ng : Int)
  case neg =>
    obtain ⟨rfl, rfl⟩ := E2.out (fun h => h2 h.2)
    rw [decide_eq_false h2]
    clear h2
    go_wp2_with fail
    go_ret2
    exact ⟨rfl, hw3⟩
  rw [decide_eq_true h2]
  obtain ⟨rfl, e2⟩ := E3.out HGG.out ⟨h1, h2⟩
  have HE := Lib.hid e2; clear e2 h1 h2
  go_wp2_with fail
  refine (isExcited_any _ r k s _ lo (HV.out.keep (Carries.of lo hw3)) HS.out).mono ?_
  rintro e w4 ⟨rfl, hb⟩
  rw [← HE.out]
  have hw4 : Below w.heap.size w w4 := hw3.trans (hb.mono hw3.size)
  clear hb
  go_wp2_with fail
  go_ret2
  exact ⟨rfl, hw4⟩

end Go.Proofs.Ytfipnlehaklepaa
