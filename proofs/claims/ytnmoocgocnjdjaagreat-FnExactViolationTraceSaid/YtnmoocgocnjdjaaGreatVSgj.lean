/- PLAIN PART: a range over a string whose round makes memory: the iterator's block among others.
   WALK: isDummy of the program.
   WALKS: hasState, hasSignal, bitAfter, allows, label, hasArc of the program. -/
import Derived.Test.YtnmoocgocnjdjaaGreatVSrt
import Derived.Laws.RangeAny
import Derived.Test.YtnmoocgocnjdjaaGreatVSigas
import Derived.Test.YtnmoocgocnjdjaaGreatVSgi
import Derived.StillTailTactics
namespace Go.Proofs.YtnmoocgocnjdjaaGreat
open Go.RowKit

/-- the iterator in block b stands at p -/
def iterAt (w : World) (b : Nat) (s : ByteArray) (p : Nat) : World := { w with heap := w.heap.setIfInBounds b (.stringIter s p) }
theorem iterAt_heap {w : World} {b p p' : Nat} {s : ByteArray} (h : w.heap[b]? = some (.stringIter s p)) : (iterAt w b s p').heap[b]? = some (.stringIter s p') := by
  have hb := (Array.getElem?_eq_some_iff.1 h).1
  simp [iterAt, Array.getElem?_setIfInBounds, hb]
theorem iterAt_other {w : World} {b p c : Nat} {s : ByteArray} (h : c ≠ b) : (iterAt w b s p).heap[c]? = w.heap[c]? := by
  simp only [iterAt, Array.getElem?_setIfInBounds]
  rw [if_neg (fun e => h e.symm)]
theorem iterAt_size (w : World) (b p : Nat) (s : ByteArray) : (iterAt w b s p).heap.size = w.heap.size := by simp [iterAt]
theorem iterAt_cell {w : World} {b p p' : Nat} {s : ByteArray} (h : w.heap[b]? = some (.stringIter s p)) {a : Addr} {v : Value} (hc : w.cell? a = some v) : (iterAt w b s p').cell? a = some v := by
  have hne : a.block ≠ b := by
    rintro rfl
    unfold World.cell? at hc
    rw [h] at hc
    simp at hc
  exact (World.cell?_of_block (iterAt_other (p := p') (s := s) hne)).trans hc
theorem iterAt_carries {w : World} {b p p' : Nat} {s : ByteArray} (h : w.heap[b]? = some (.stringIter s p)) (lo : Nat) : Carries lo w (iterAt w b s p') := fun _ _ _ hc => iterAt_cell h hc
theorem iterAt_below {w : World} {b B p : Nat} {s : ByteArray} (hB : B ≤ b) : Below B w (iterAt w b s p) :=
  ⟨rfl, rfl, rfl, by rw [iterAt_size]; exact Nat.le_refl _, fun k hk => iterAt_other (by omega)⟩
theorem run_next_at {P : Program} (w : World) (b : Nat) (s : ByteArray) (pos : Nat) (ty : TypeId) (hb : w.heap[b]? = some (.stringIter s pos)) (h : pos < s.size) (ha : (s[pos]'h).toNat < 128) :
    (Instr.next (.pointer (some ⟨b, 0, none⟩)) true ty).run P w = .ok (.tuple #[.bool true, .int .i64 pos, .int .i32 (s[pos]'h).toNat]) (iterAt w b s (pos + 1)) := by
  simp only [Instr.next, getObj, setObj, Sem.run_bind, Sem.run, hb, Result.andThen, h, if_true, decode_ascii s pos h ha]
  simp [goInt, Sem.run, iterAt]
theorem run_next_stop {P : Program} (w : World) (b : Nat) (s : ByteArray) (pos : Nat) (ty : TypeId) (hb : w.heap[b]? = some (.stringIter s pos)) (h : ¬ pos < s.size) :
    (Instr.next (.pointer (some ⟨b, 0, none⟩)) true ty).run P w = .ok (.tuple #[.bool false]) w := by
  simp [Instr.next, getObj, Sem.run, hb, h]
theorem iterPos_at {w : World} {k : Nat} {s : ByteArray} {p : Nat} (h : w.heap[k]? = some (.stringIter s p)) : w.iterPos k = p := by simp [World.iterPos, h]

end Go.Proofs.YtnmoocgocnjdjaaGreat

namespace Go.Proofs.YtnmoocgocnjdjaaGreat
open Go.RowKit

set_option maxHeartbeats 400000 in
theorem isDummy_any (a : Int) (u : Bool) (w : World) :
    Calls Tryz.prog 196 #[.agg #[.int .i64 a, .bool u]] w (RetB w (decide (a = -1) && !u)) := by
  by_cases h : a = -1
  · subst h
    cases u with
    | true =>
      go_enter Tryz.func196, Tryz.ntmps196
      go_wp2_with fail
      go_ret
      exact ⟨rfl, by (repeat' (first | (with_reducible exact Below.refl _ _) | (with_reducible assumption) | (with_reducible refine Below.alloc ?_ ?_ _) | (with_reducible refine Below.drew ?_) | (with_reducible refine below_drewN ?_ _) | (with_reducible refine Below.setCell ?_ ?_ _) | go_size))⟩
    | false =>
      go_enter Tryz.func196, Tryz.ntmps196
      go_wp2_with fail
      go_ret
      exact ⟨rfl, by (repeat' (first | (with_reducible exact Below.refl _ _) | (with_reducible assumption) | (with_reducible refine Below.alloc ?_ ?_ _) | (with_reducible refine Below.drew ?_) | (with_reducible refine below_drewN ?_ _) | (with_reducible refine Below.setCell ?_ ?_ _) | go_size))⟩
  · have e : (a == -1) = false := by simpa using h
    rw [decide_eq_false h]
    go_enter Tryz.func196, Tryz.ntmps196
    go_wp2_with fail
    go_ret
    exact ⟨rfl, by (repeat' (first | (with_reducible exact Below.refl _ _) | (with_reducible assumption) | (with_reducible refine Below.alloc ?_ ?_ _) | (with_reducible refine Below.drew ?_) | (with_reducible refine below_drewN ?_ _) | (with_reducible refine Below.setCell ?_ ?_ _) | go_size))⟩

end Go.Proofs.YtnmoocgocnjdjaaGreat

namespace Go.Proofs.YtnmoocgocnjdjaaGreat
open Go.RowKit

set_option maxRecDepth 100000 in
set_option maxHeartbeats 400000 in
theorem hasState_any (a0 a1 a2 : Option Addr) (n0 c0 n1 c1 n2 c2 : Nat) (k : Int) (w : World) (hn : n1 ≤ 1048576) :
    Calls Tryz.prog 155 #[.agg #[.slice a0 n0 c0, .slice a1 n1 c1, .slice a2 n2 c2], .int .i64 k] w (RetB w (decide (0 ≤ k ∧ k < n1))) := by
  by_cases h1 : 0 ≤ k
  · by_cases h2 : k < n1
    · rw [decide_eq_true (⟨h1, h2⟩ : 0 ≤ k ∧ k < n1)]
      go_enter Tryz.func155, Tryz.ntmps155
      go_wp2_with fail
      go_ret
      exact ⟨rfl, by (repeat' (first | (with_reducible exact Below.refl _ _) | (with_reducible assumption) | (with_reducible refine Below.alloc ?_ ?_ _) | (with_reducible refine Below.drew ?_) | (with_reducible refine below_drewN ?_ _) | (with_reducible refine Below.setCell ?_ ?_ _) | go_size))⟩
    · rw [decide_eq_false (fun h => h2 h.2 : ¬ (0 ≤ k ∧ k < n1))]
      go_enter Tryz.func155, Tryz.ntmps155
      go_wp2_with fail
      go_ret
      exact ⟨rfl, by (repeat' (first | (with_reducible exact Below.refl _ _) | (with_reducible assumption) | (with_reducible refine Below.alloc ?_ ?_ _) | (with_reducible refine Below.drew ?_) | (with_reducible refine below_drewN ?_ _) | (with_reducible refine Below.setCell ?_ ?_ _) | go_size))⟩
  · rw [decide_eq_false (fun h => h1 h.1 : ¬ (0 ≤ k ∧ k < n1))]
    go_enter Tryz.func155, Tryz.ntmps155
    go_wp2_with fail
    go_ret
    exact ⟨rfl, by (repeat' (first | (with_reducible exact Below.refl _ _) | (with_reducible assumption) | (with_reducible refine Below.alloc ?_ ?_ _) | (with_reducible refine Below.drew ?_) | (with_reducible refine below_drewN ?_ _) | (with_reducible refine Below.setCell ?_ ?_ _) | go_size))⟩

set_option maxRecDepth 100000 in
set_option maxHeartbeats 400000 in
theorem sgHasSignal_any (a0 a1 a2 : Option Addr) (n0 c0 n1 c1 n2 c2 : Nat) (k : Int) (w : World) (hn : n0 ≤ 1048576) :
    Calls Tryz.prog 151 #[.agg #[.slice a0 n0 c0, .slice a1 n1 c1, .slice a2 n2 c2], .int .i64 k] w (RetB w (decide (0 ≤ k ∧ k < n0))) := by
  by_cases h1 : 0 ≤ k
  · by_cases h2 : k < n0
    · rw [decide_eq_true (⟨h1, h2⟩ : 0 ≤ k ∧ k < n0)]
      go_enter Tryz.func151, Tryz.ntmps151
      go_wp2_with fail
      go_ret
      exact ⟨rfl, by (repeat' (first | (with_reducible exact Below.refl _ _) | (with_reducible assumption) | (with_reducible refine Below.alloc ?_ ?_ _) | (with_reducible refine Below.drew ?_) | (with_reducible refine below_drewN ?_ _) | (with_reducible refine Below.setCell ?_ ?_ _) | go_size))⟩
    · rw [decide_eq_false (fun h => h2 h.2 : ¬ (0 ≤ k ∧ k < n0))]
      go_enter Tryz.func151, Tryz.ntmps151
      go_wp2_with fail
      go_ret
      exact ⟨rfl, by (repeat' (first | (with_reducible exact Below.refl _ _) | (with_reducible assumption) | (with_reducible refine Below.alloc ?_ ?_ _) | (with_reducible refine Below.drew ?_) | (with_reducible refine below_drewN ?_ _) | (with_reducible refine Below.setCell ?_ ?_ _) | go_size))⟩
  · rw [decide_eq_false (fun h => h1 h.1 : ¬ (0 ≤ k ∧ k < n0))]
    go_enter Tryz.func151, Tryz.ntmps151
    go_wp2_with fail
    go_ret
    exact ⟨rfl, by (repeat' (first | (with_reducible exact Below.refl _ _) | (with_reducible assumption) | (with_reducible refine Below.alloc ?_ ?_ _) | (with_reducible refine Below.drew ?_) | (with_reducible refine below_drewN ?_ _) | (with_reducible refine Below.setCell ?_ ?_ _) | go_size))⟩

/-- the bit of signal q behind an arc of signal s, edge u, where it was x ahead of it -/
def bitAft (s : Int) (u : Bool) (q x : Int) : Int := if s = q then (if u then 49 else 48) else x
theorem bitAft_ne {s : Int} {u : Bool} {q x : Int} (h : ¬ s = q) : bitAft s u q x = x := by unfold bitAft; rw [if_neg h]
theorem bitAft_up {s q x : Int} (h : s = q) : bitAft s true q x = 49 := by unfold bitAft; rw [if_pos h]; rfl
theorem bitAft_down {s q x : Int} (h : s = q) : bitAft s false q x = 48 := by unfold bitAft; rw [if_pos h]; rfl

set_option maxRecDepth 100000 in
set_option maxHeartbeats 400000 in
theorem bitAfter_any (f s : Int) (u : Bool) (t q x : Int) (w : World) :
    Calls Tryz.prog 236 #[.agg #[.int .i64 f, .int .i64 s, .bool u, .int .i64 t], .int .i64 q, .int .i32 x] w (RetV w (.int .i32 (bitAft s u q x))) := by
  by_cases h : s = q
  · subst h
    have t0 : (s != s) = false := by simp
    cases u with
    | true =>
      rw [bitAft_up rfl]
      go_enter Tryz.func236, Tryz.ntmps236
      go_wp2_with fail
      go_ret
      exact ⟨rfl, by (repeat' (first | (with_reducible exact Below.refl _ _) | (with_reducible assumption) | (with_reducible refine Below.alloc ?_ ?_ _) | (with_reducible refine Below.drew ?_) | (with_reducible refine below_drewN ?_ _) | (with_reducible refine Below.setCell ?_ ?_ _) | go_size))⟩
    | false =>
      rw [bitAft_down rfl]
      go_enter Tryz.func236, Tryz.ntmps236
      go_wp2_with fail
      go_ret
      exact ⟨rfl, by (repeat' (first | (with_reducible exact Below.refl _ _) | (with_reducible assumption) | (with_reducible refine Below.alloc ?_ ?_ _) | (with_reducible refine Below.drew ?_) | (with_reducible refine below_drewN ?_ _) | (with_reducible refine Below.setCell ?_ ?_ _) | go_size))⟩
  · have t0 : (s != q) = true := by simpa using h
    rw [bitAft_ne h]
    clear h
    go_enter Tryz.func236, Tryz.ntmps236
    go_wp2_with fail
    go_ret
    exact ⟨rfl, by (repeat' (first | (with_reducible exact Below.refl _ _) | (with_reducible assumption) | (with_reducible refine Below.alloc ?_ ?_ _) | (with_reducible refine Below.drew ?_) | (with_reducible refine below_drewN ?_ _) | (with_reducible refine Below.setCell ?_ ?_ _) | go_size))⟩

def allowB (s : Int) (u : Bool) (q x y : Int) : Bool := decide (y = bitAft s u q x ∧ (s = q → x ≠ y))

set_option maxRecDepth 100000 in
set_option maxHeartbeats 1000000 in
theorem allows_any (f s : Int) (u : Bool) (t q x y : Int) (w : World) :
    Calls Tryz.prog 217 #[.agg #[.int .i64 f, .int .i64 s, .bool u, .int .i64 t], .int .i64 q, .int .i32 x, .int .i32 y] w (RetB w (allowB s u q x y)) := by
  obtain ⟨g, hg⟩ : ∃ g, g = allowB s u q x y := ⟨_, rfl⟩
  rw [← hg]
  unfold allowB at hg
  have HG := Lib.hid hg; clear hg
  go_enter Tryz.func217, Tryz.ntmps217
  go_wp2_with fail
  refine (bitAfter_any _ _ _ _ _ _ _).mono ?_
  rintro e w1 ⟨rfl, hb⟩
  have hw1 : Below w.heap.size w w1 := by
    refine Below.trans ?_ (hb.mono ?_)
    · (repeat' (first | (with_reducible exact Below.refl _ _) | (with_reducible assumption) | (with_reducible refine Below.alloc ?_ ?_ _) | (with_reducible refine Below.drew ?_) | (with_reducible refine below_drewN ?_ _) | (with_reducible refine Below.setCell ?_ ?_ _) | go_size))
    · simp
  have x1 : w1.cell? ⟨w.heap.size, 1, none⟩ = some (.int .i64 s) := cell_carry (by simp) (Carries.of 0 hb)
  clear hb
  by_cases h1 : y = bitAft s u q x
  case neg =>
    have e := HG.out
    rw [decide_eq_false (fun h => h1 h.1)] at e
    subst e
    have t0 : (y == bitAft s u q x) = false := by simpa using h1
    clear h1
    go_wp2_with fail
    go_ret
    exact ⟨rfl, hw1⟩
  have t0 : (y == bitAft s u q x) = true := by simpa using h1
  have H1 := Lib.hid h1; clear h1
  generalize bitAft s u q x = z at t0 H1 HG
  by_cases h2 : s = q
  · have t1 : (s != q) = false := by simpa using h2
    by_cases h3 : x = y
    · have t2 : (x != y) = false := by simpa using h3
      have e := HG.out
      rw [decide_eq_false (fun h => h.2 h2 h3)] at e
      subst e
      clear h2 h3
      go_wp2_with fail
      go_ret
      exact ⟨rfl, hw1⟩
    · have t2 : (x != y) = true := by simpa using h3
      have e := HG.out
      rw [decide_eq_true ⟨H1.out, fun _ => h3⟩] at e
      subst e
      clear h2 h3
      go_wp2_with fail
      go_ret
      exact ⟨rfl, hw1⟩
  · have t1 : (s != q) = true := by simpa using h2
    have e := HG.out
    rw [decide_eq_true ⟨H1.out, fun h => absurd h h2⟩] at e
    subst e
    clear h2
    go_wp2_with fail
    go_ret
    exact ⟨rfl, hw1⟩

set_option maxRecDepth 100000 in
set_option maxHeartbeats 400000 in
theorem label_any (f s : Int) (u : Bool) (t : Int) (w : World) :
    Calls Tryz.prog 159 #[.agg #[.int .i64 f, .int .i64 s, .bool u, .int .i64 t]] w (RetV w (.agg #[.int .i64 s, .bool u])) := by
  go_enter Tryz.func159, Tryz.ntmps159
  go_wp2_with fail
  refine bodyPost_ret (v := .agg #[.int .i64 s, .bool u]) (by simp [results, Tryz.results159, go_sem]) rfl ?_
  exact ⟨rfl, by (repeat' (first | (with_reducible exact Below.refl _ _) | (with_reducible assumption) | (with_reducible refine Below.alloc ?_ ?_ _) | (with_reducible refine Below.drew ?_) | (with_reducible refine below_drewN ?_ _) | (with_reducible refine Below.setCell ?_ ?_ _) | go_size))⟩

theorem flip_allow {s : Int} {u : Bool} {x y : ByteArray} {q : Nat} : decide (FlipAt s u x y q) = allowB s u q (byN x q) (byN y q) := by
  rw [Bool.eq_iff_iff, decide_eq_true_eq]
  unfold allowB
  rw [decide_eq_true_eq]
  unfold FlipAt bitAft bitN
  by_cases h : s = q
  · rw [if_pos h, if_pos h]
    cases u <;> simp [h] <;> omega
  · rw [if_neg h, if_neg h]
    simp [h]; omega

end Go.Proofs.YtnmoocgocnjdjaaGreat
