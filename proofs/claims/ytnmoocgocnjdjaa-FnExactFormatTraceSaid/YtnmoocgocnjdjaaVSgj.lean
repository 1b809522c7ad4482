/- WALKS: hasState, hasSignal, bitAfter, allows, label, hasArc of the program. -/
import Derived.Test.YtnmoocgocnjdjaaVSgi
import Derived.Test.YtnmoocgocnjdjaaVIter
import Derived.Test.YtnmoocgocnjdjaaVDumy
import Derived.StillTailTactics
namespace Go.Proofs.Ytnmoocgocnjdjaa
open Go.RowKit

set_option maxRecDepth 100000 in
set_option maxHeartbeats 400000 in
theorem hasState_any (a0 a1 a2 : Option Addr) (n0 c0 n1 c1 n2 c2 : Nat) (k : Int) (w : World) (hn : n1 ≤ 1048576) :
    Calls Try.prog 155 #[.agg #[.slice a0 n0 c0, .slice a1 n1 c1, .slice a2 n2 c2], .int .i64 k] w (RetB w (decide (0 ≤ k ∧ k < n1))) := by
  by_cases h1 : 0 ≤ k
  · by_cases h2 : k < n1
    · rw [decide_eq_true (⟨h1, h2⟩ : 0 ≤ k ∧ k < n1)]
      go_enter Try.func155, Try.ntmps155
      go_wp2_with fail
      go_ret
      exact ⟨rfl, by (repeat' (first | (with_reducible exact Below.refl _ _) | (with_reducible assumption) | (with_reducible refine Below.alloc ?_ ?_ _) | (with_reducible refine Below.drew ?_) | (with_reducible refine below_drewN ?_ _) | (with_reducible refine Below.setCell ?_ ?_ _) | go_size))⟩
    · rw [decide_eq_false (fun h => h2 h.2 : ¬ (0 ≤ k ∧ k < n1))]
      go_enter Try.func155, Try.ntmps155
      go_wp2_with fail
      go_ret
      exact ⟨rfl, by (repeat' (first | (with_reducible exact Below.refl _ _) | (with_reducible assumption) | (with_reducible refine Below.alloc ?_ ?_ _) | (with_reducible refine Below.drew ?_) | (with_reducible refine below_drewN ?_ _) | (with_reducible refine Below.setCell ?_ ?_ _) | go_size))⟩
  · rw [decide_eq_false (fun h => h1 h.1 : ¬ (0 ≤ k ∧ k < n1))]
    go_enter Try.func155, Try.ntmps155
    go_wp2_with fail
    go_ret
    exact ⟨rfl, by (repeat' (first | (with_reducible exact Below.refl _ _) | (with_reducible assumption) | (with_reducible refine Below.alloc ?_ ?_ _) | (with_reducible refine Below.drew ?_) | (with_reducible refine below_drewN ?_ _) | (with_reducible refine Below.setCell ?_ ?_ _) | go_size))⟩

set_option maxRecDepth 100000 in
set_option maxHeartbeats 400000 in
theorem sgHasSignal_any (a0 a1 a2 : Option Addr) (n0 c0 n1 c1 n2 c2 : Nat) (k : Int) (w : World) (hn : n0 ≤ 1048576) :
    Calls Try.prog 156 #[.agg #[.slice a0 n0 c0, .slice a1 n1 c1, .slice a2 n2 c2], .int .i64 k] w (RetB w (decide (0 ≤ k ∧ k < n0))) := by
  by_cases h1 : 0 ≤ k
  · by_cases h2 : k < n0
    · rw [decide_eq_true (⟨h1, h2⟩ : 0 ≤ k ∧ k < n0)]
      go_enter Try.func156, Try.ntmps156
      go_wp2_with fail
      go_ret
      exact ⟨rfl, by (repeat' (first | (with_reducible exact Below.refl _ _) | (with_reducible assumption) | (with_reducible refine Below.alloc ?_ ?_ _) | (with_reducible refine Below.drew ?_) | (with_reducible refine below_drewN ?_ _) | (with_reducible refine Below.setCell ?_ ?_ _) | go_size))⟩
    · rw [decide_eq_false (fun h => h2 h.2 : ¬ (0 ≤ k ∧ k < n0))]
      go_enter Try.func156, Try.ntmps156
      go_wp2_with fail
      go_ret
      exact ⟨rfl, by (repeat' (first | (with_reducible exact Below.refl _ _) | (with_reducible assumption) | (with_reducible refine Below.alloc ?_ ?_ _) | (with_reducible refine Below.drew ?_) | (with_reducible refine below_drewN ?_ _) | (with_reducible refine Below.setCell ?_ ?_ _) | go_size))⟩
  · rw [decide_eq_false (fun h => h1 h.1 : ¬ (0 ≤ k ∧ k < n0))]
    go_enter Try.func156, Try.ntmps156
    go_wp2_with fail
    go_ret
    exact ⟨rfl, by (repeat' (first | (with_reducible exact Below.refl _ _) | (with_reducible assumption) | (with_reducible refine Below.alloc ?_ ?_ _) | (with_reducible refine Below.drew ?_) | (with_reducible refine below_drewN ?_ _) | (with_reducible refine Below.setCell ?_ ?_ _) | go_size))⟩

/-- the bit of signal q behind an arc of signal s, edge u, where it was x ahead of it -/
def bitAft (s : Int) (u : Bool) (q x : Int) : Int := if s = q then (if u then 49 else 48) else x
theorem bitAft_ne {s : Int} {u : Bool} {q x : Int} (h : ¬ s = q) : bitAft s u q x = x := by unfold bitAft; rw [if_neg h]
theorem bitAft_up {s q x : Int} (h : s = q) : bitAft s true q x = 49 := by unfold bitAft; rw [if_pos h]; rfl
theorem bitAft_down {s q x : Int} (h : s = q) : bitAft s false q x = 48 := by unfold bitAft; rw [if_pos h]; rfl

set_option maxRecDepth 100000 in
set_option maxHeartbeats 400000 in
theorem bitAfter_any (f s : Int) (u : Bool) (t q x : Int) (w : World) :
    Calls Try.prog 170 #[.agg #[.int .i64 f, .int .i64 s, .bool u, .int .i64 t], .int .i64 q, .int .i32 x] w (RetV w (.int .i32 (bitAft s u q x))) := by
  by_cases h : s = q
  · subst h
    have t0 : (s != s) = false := by simp
    cases u with
    | true =>
      rw [bitAft_up rfl]
      go_enter Try.func170, Try.ntmps170
      go_wp2_with fail
      go_ret
      exact ⟨rfl, by (repeat' (first | (with_reducible exact Below.refl _ _) | (with_reducible assumption) | (with_reducible refine Below.alloc ?_ ?_ _) | (with_reducible refine Below.drew ?_) | (with_reducible refine below_drewN ?_ _) | (with_reducible refine Below.setCell ?_ ?_ _) | go_size))⟩
    | false =>
      rw [bitAft_down rfl]
      go_enter Try.func170, Try.ntmps170
      go_wp2_with fail
      go_ret
      exact ⟨rfl, by (repeat' (first | (with_reducible exact Below.refl _ _) | (with_reducible assumption) | (with_reducible refine Below.alloc ?_ ?_ _) | (with_reducible refine Below.drew ?_) | (with_reducible refine below_drewN ?_ _) | (with_reducible refine Below.setCell ?_ ?_ _) | go_size))⟩
  · have t0 : (s != q) = true := by simpa using h
    rw [bitAft_ne h]
    clear h
    go_enter Try.func170, Try.ntmps170
    go_wp2_with fail
    go_ret
    exact ⟨rfl, by (repeat' (first | (with_reducible exact Below.refl _ _) | (with_reducible assumption) | (with_reducible refine Below.alloc ?_ ?_ _) | (with_reducible refine Below.drew ?_) | (with_reducible refine below_drewN ?_ _) | (with_reducible refine Below.setCell ?_ ?_ _) | go_size))⟩

def allowB (s : Int) (u : Bool) (q x y : Int) : Bool := decide (y = bitAft s u q x ∧ (s = q → x ≠ y))

set_option maxRecDepth 100000 in
set_option maxHeartbeats 1000000 in
theorem allows_any (f s : Int) (u : Bool) (t q x y : Int) (w : World) :
    Calls Try.prog 157 #[.agg #[.int .i64 f, .int .i64 s, .bool u, .int .i64 t], .int .i64 q, .int .i32 x, .int .i32 y] w (RetB w (allowB s u q x y)) := by
  obtain ⟨g, hg⟩ : ∃ g, g = allowB s u q x y := ⟨_, rfl⟩
  rw [← hg]
  unfold allowB at hg
  have HG := Lib.hid hg; clear hg
  go_enter Try.func157, Try.ntmps157
  go_wp2_with fail
  refine (bitAfter_any _ _ _ _ _ _ _).mono ?_
  rintro e w1 ⟨rfl, hb⟩
  have hw1 : Below w.heap.size w w1 := by
    refine Below.trans ?_ (hb.mono ?_)
    · (repeat' (first | (with_reducible exact Below.refl _ _) | (with_reducible assumption) | (with_reducible refine Below.alloc ?_ ?_ _) | (with_reducible refine Below.drew ?_) | (with_reducible refine below_drewN ?_ _) | (with_reducible refine Below.setCell ?_ ?_ _) | go_size))
    · simp
  have x1 : w1.cell? ⟨w.heap.size, 1, none⟩ = some (.int .i64 s) := cell_carry (by simp) (Carries.of 0 hb)
  clear hb
  by_cases h1 : y = bitAft s u q x
  case neg =>
    have e := HG.out
    rw [decide_eq_false (fun h => h1 h.1)] at e
    subst e
    have t0 : (y == bitAft s u q x) = false := by simpa using h1
    clear h1
    go_wp2_with fail
    go_ret
    exact ⟨rfl, hw1⟩
  have t0 : (y == bitAft s u q x) = true := by simpa using h1
  have H1 := Lib.hid h1; clear h1
  generalize bitAft s u q x = z at t0 H1 HG
  by_cases h2 : s = q
  · have t1 : (s != q) = false := by simpa using h2
    by_cases h3 : x = y
    · have t2 : (x != y) = false := by simpa using h3
      have e := HG.out
      rw [decide_eq_false (fun h => h.2 h2 h3)] at e
      subst e
      clear h2 h3
      go_wp2_with fail
      go_ret
      exact ⟨rfl, hw1⟩
    · have t2 : (x != y) = true := by simpa using h3
      have e := HG.out
      rw [decide_eq_true ⟨H1.out, fun _ => h3⟩] at e
      subst e
      clear h2 h3
      go_wp2_with fail
      go_ret
      exact ⟨rfl, hw1⟩
  · have t1 : (s != q) = true := by simpa using h2
    have e := HG.out
    rw [decide_eq_true ⟨H1.out, fun h => absurd h h2⟩] at e
    subst e
    clear h2
    go_wp2_with fail
    go_ret
    exact ⟨rfl, hw1⟩

set_option maxRecDepth 100000 in
set_option maxHeartbeats 400000 in
theorem label_any (f s : Int) (u : Bool) (t : Int) (w : World) :
    Calls Try.prog 101 #[.agg #[.int .i64 f, .int .i64 s, .bool u, .int .i64 t]] w (RetV w (.agg #[.int .i64 s, .bool u])) := by
  go_enter Try.func101, Try.ntmps101
  go_wp2_with fail
  refine bodyPost_ret (v := .agg #[.int .i64 s, .bool u]) (by simp [results, Try.results101, go_sem]) rfl ?_
  exact ⟨rfl, by (repeat' (first | (with_reducible exact Below.refl _ _) | (with_reducible assumption) | (with_reducible refine Below.alloc ?_ ?_ _) | (with_reducible refine Below.drew ?_) | (with_reducible refine below_drewN ?_ _) | (with_reducible refine Below.setCell ?_ ?_ _) | go_size))⟩

theorem flip_allow {s : Int} {u : Bool} {x y : ByteArray} {q : Nat} : decide (FlipAt s u x y q) = allowB s u q (byN x q) (byN y q) := by
  rw [Bool.eq_iff_iff, decide_eq_true_eq]
  unfold allowB
  rw [decide_eq_true_eq]
  unfold FlipAt bitAft bitN
  by_cases h : s = q
  · rw [if_pos h, if_pos h]
    cases u <;> simp [h] <;> omega
  · rw [if_neg h, if_neg h]
    simp [h]; omega

end Go.Proofs.Ytnmoocgocnjdjaa
