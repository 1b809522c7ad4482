/- WALKS: slices.IndexFunc of moves at a closure of three captures whose answers are known; the closure of shortestPath. -/
import Derived.Test.YtfipnlehaklepaaVFarp
import Derived.Test.YtfipnlehaklepaaVHsm
import Derived.Test.YtfipnlehaklepaaVDst
import Derived.BigQuiet
namespace Go.Proofs.Ytfipnlehaklepaa
open Go.RowKit

set_option maxRecDepth 100000 in
set_option maxHeartbeats 1000000 in
theorem IndexFuncMv3_any (v : Value) (ms : List Mv) (F : Nat) (c1 c2 c3 : Value) (g : Nat → Bool) (k0 : Nat) (w : World) (lo : Nat) (hv : MovesAt lo w v ms) (hl : ms.length ≤ 1048576) (hk0 : k0 < ms.length) (hbef : ∀ j, j < k0 → g j = false) (hhit : g k0 = true)
    (hF : ∀ (args : Array Value) (w : World), (callFunc F args).run Try.prog w = .ok (.enter F args) w)
    (hclo : ∀ k, k < ms.length → ∀ w1, Below w.heap.size w w1 → Calls Try.prog F #[.agg #[.int .i64 (mvF ms k), .int .i64 (mvB ms k), .int .i64 (mvT ms k)], c1, c2, c3] w1 (RetB w1 (g k))) :
    Calls Try.prog 131 #[v, .func (.func F) #[] #[c1, c2, c3]] w (RetV w (.int .i64 (k0 : Int))) := by
  obtain ⟨ao, cap, rfl, hc, hz⟩ := hv
  have HF := Lib.hid hz; clear hz
  have HC := Lib.hid hclo; clear hclo
  have HB := Lib.hid hbef; clear hbef
  have HH := Lib.hid hhit; clear hhit
  go_enter Try.func131, Try.ntmps131
  go_wp2_with fail
  go_loopw [8] (fun i wr => ∃ k : Nat, k ≤ k0 ∧ i = .int .i64 k ∧ Below w.heap.size w wr) (fun i _ => k0 - (intOf i).toNat)
  case atStart => exact ⟨0, Nat.zero_le _, rfl, Below.refl _ _⟩
  case round =>
    obtain ⟨k, hk, rfl, hb1⟩ := hrel
    have hlt : k < ms.length := by omega
    rcases HF.out with h0 | ⟨b, off, rfl, hlo, hcell⟩
    · omega
    obtain ⟨q0, q1, q2⟩ := hcell k hlt
    have d0 := Carries.of lo hb1 _ _ hlo q0
    have d1 := Carries.of lo hb1 _ _ hlo q1
    have d2 := Carries.of lo hb1 _ _ hlo q2
    clear hcell q0 q1 q2
    go_wp2_with fail
    refine (HC.out k hlt _ hb1).mono ?_
    rintro e w2 ⟨rfl, hb⟩
    have hw2 : Below w.heap.size w w2 := hb1.trans (hb.mono hb1.size)
    clear hb d0 d1 d2
    by_cases hkk : k = k0
    · subst hkk
      rw [HH.out]
      go_wp2_with fail
      go_ret
      exact ⟨rfl, hw2⟩
    · rw [HB.out k (by omega)]
      go_wp2_with fail
      go_roundw
      case rel => exact ⟨k + 1, by omega, by go_num, hw2⟩
      case measure => simp [intOf]; omega

set_option maxRecDepth 100000 in
set_option maxHeartbeats 1000000 in
theorem pathClo_any (f b t a d : Int) (n db p5 p8 p10 : Nat) (D : Nat → Int) (w : World) (hn : n ≤ 1048576) (hf : 0 ≤ f ∧ f < n)
    (x5 : w.cell? ⟨p5, 0, none⟩ = some (.int .i64 a)) (x8 : w.cell? ⟨p8, 0, none⟩ = some (.slice (some ⟨db, 0, none⟩) n n)) (x10 : w.cell? ⟨p10, 0, none⟩ = some (.int .i64 d)) (hrow : w.rowIs db 3 n (dV D)) :
    Calls Try.prog 132 #[.agg #[.int .i64 f, .int .i64 b, .int .i64 t], .pointer (some ⟨p5, 0, none⟩), .pointer (some ⟨p8, 0, none⟩), .pointer (some ⟨p10, 0, none⟩)] w (RetB w (decide (t = a ∧ D f.toNat = d))) := by
  obtain ⟨fn, rfl⟩ := Int.eq_ofNat_of_zero_le hf.1
  rw [Int.toNat_natCast]
  have hf1 : (fn : Int) < (n : Int) := hf.2
  have hf0 : (0 : Int) ≤ (fn : Int) := hf.1
  clear hf
  obtain ⟨q, hq⟩ : ∃ q, q = decide (t = a ∧ D fn = d) := ⟨_, rfl⟩
  rw [← hq]
  have cf := hrow.cell (i := fn) (by omega)
  unfold dV at cf
  generalize D fn = x at cf hq
  have HQ := Lib.hid hq; clear hq
  have zdb := hrow.lt
  have z5 : p5 < w.heap.size := cell_old x5
  have z8 : p8 < w.heap.size := cell_old x8
  have z10 : p10 < w.heap.size := cell_old x10
  clear hrow
  have hbA : Below w.heap.size w (w.alloc (.cells #[.int .i64 (fn : Int), .int .i64 b, .int .i64 t] 112)) := (Below.refl _ _).alloc (Nat.le_refl _) _
  have x5 := cell_carry x5 (Carries.of 0 hbA)
  have x8 := cell_carry x8 (Carries.of 0 hbA)
  have x10 := cell_carry x10 (Carries.of 0 hbA)
  have cf := cell_carry cf (Carries.of 0 hbA)
  have y0 : (w.alloc (.cells #[.int .i64 (fn : Int), .int .i64 b, .int .i64 t] 112)).cell? ⟨w.heap.size, 0, none⟩ = some (.int .i64 (fn : Int)) := by simp
  have y1 : (w.alloc (.cells #[.int .i64 (fn : Int), .int .i64 b, .int .i64 t] 112)).cell? ⟨w.heap.size, 1, none⟩ = some (.int .i64 b) := by simp
  have y2 : (w.alloc (.cells #[.int .i64 (fn : Int), .int .i64 b, .int .i64 t] 112)).cell? ⟨w.heap.size, 2, none⟩ = some (.int .i64 t) := by simp
  go_enter Try.func132, Try.ntmps132
  go_wp2_with fail
  generalize w.alloc (.cells #[.int .i64 (fn : Int), .int .i64 b, .int .i64 t] 112) = W at x5 x8 x10 cf y0 y1 y2 hbA ⊢
  by_cases h1 : t = a
  case neg =>
    have t1 : decide (t = a) = false := decide_eq_false h1
    have t2 : (t == a) = false := by rw [beq_eq_false_iff_ne]; exact h1
    have e := HQ.out
    rw [decide_eq_false (fun h => h1 h.1)] at e
    subst e
    go_quiet (fail)
    go_wp2_with fail
    go_ret
    exact ⟨rfl, below_drewN hbA _⟩
  subst h1
  by_cases h2 : x = d
  case neg =>
    have t1 : decide (x = d) = false := decide_eq_false h2
    have t2 : (x == d) = false := by rw [beq_eq_false_iff_ne]; exact h2
    have e := HQ.out
    rw [decide_eq_false (fun h => h2 h.2)] at e
    subst e
    go_quiet (fail)
    go_wp2_with fail
    go_ret
    exact ⟨rfl, below_drewN hbA _⟩
  subst h2
  have e := HQ.out
  rw [decide_eq_true ⟨rfl, rfl⟩] at e
  subst e
  go_quiet (fail)
  go_wp2_with fail
  go_ret
  exact ⟨rfl, below_drewN hbA _⟩

end Go.Proofs.Ytfipnlehaklepaa
