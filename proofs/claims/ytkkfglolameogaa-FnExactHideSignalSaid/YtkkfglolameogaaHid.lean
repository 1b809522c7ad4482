/-
  WALKS: HideSignal of the program and of the model.
-/
import Derived.Test.YtkkfglolameogaaMirr
import Derived.Test.YtkkfglolameogaaDel
import Derived.Deep.RegionHeld3
namespace Go.Proofs.Ytkkfglolameogaa
open Go.RowKit

theorem But.setNew {B : Nat} {o1 o2 : Option Nat} {a w : World} (h : But B o1 o2 a w) {p : Addr} (hp : a.heap.size ≤ p.block) (u : Value) : But B o1 o2 a (w.setCell p u) :=
  ⟨by have := h.1; simpa [World.setCell] using this, fun b hB hb h1 h2 => (Below.heap_setCell _ _ _ _ (by omega)).trans (h.2 b hB hb h1 h2)⟩

/-- all signals but number k -/
def hidSigs (k : Nat) (ss : List Sig) : List Sig := (List.range (ss.length - 1)).map fun i => if i < k then (sgN ss i, sgK ss i) else (sgN ss (i + 1), sgK ss (i + 1))
theorem hidSigs_length (k : Nat) (ss : List Sig) : (hidSigs k ss).length = ss.length - 1 := by simp [hidSigs]
theorem hidSigs_N {k : Nat} {ss : List Sig} {i : Nat} (h : i < ss.length - 1) : sgN (hidSigs k ss) i = if i < k then sgN ss i else sgN ss (i + 1) := by
  by_cases hk : i < k <;> simp [hidSigs, sgN, List.getD, h, hk]
theorem hidSigs_K {k : Nat} {ss : List Sig} {i : Nat} (h : i < ss.length - 1) : sgK (hidSigs k ss) i = if i < k then sgK ss i else sgK ss (i + 1) := by
  by_cases hk : i < k <;> simp [hidSigs, sgK, List.getD, h, hk]
theorem hidSigs_cells (k : Nat) (ss : List Sig) : pairCells (sgX (hidSigs k ss)) (sgY (hidSigs k ss)) (ss.length - 1) = pairCells (skp (sgX ss) k) (skp (sgY ss) k) (ss.length - 1) :=
  pairCells_congr _ fun i hi => by
    unfold skp
    simp only [sgX, sgY, hidSigs_N hi, hidSigs_K hi]
    by_cases hk : i < k
    · rw [if_pos hk, if_pos hk, if_pos hk, if_pos hk]; exact ⟨rfl, rfl⟩
    · rw [if_neg hk, if_neg hk, if_neg hk, if_neg hk]; exact ⟨rfl, rfl⟩
/-- a label when signal g is hidden -/
def hidA (g a : Int) : Int := if a = g then -1 else if g < a then a - 1 else a
def hidU (g a : Int) (u : Bool) : Bool := if a = g then false else u
def hidLabs (j : Nat) (g : Int) (ls : List Lab) : List Lab := (List.range ls.length).map fun i => if i < j then (hidA g (lbS ls i), hidU g (lbS ls i) (lbU ls i)) else (lbS ls i, lbU ls i)
theorem hidLabs_length (j : Nat) (g : Int) (ls : List Lab) : (hidLabs j g ls).length = ls.length := by simp [hidLabs]
theorem hidLabs_S {j : Nat} {g : Int} {ls : List Lab} {i : Nat} (h : i < ls.length) : lbS (hidLabs j g ls) i = if i < j then hidA g (lbS ls i) else lbS ls i := by
  by_cases hk : i < j <;> simp [hidLabs, lbS, List.getD, h, hk]
theorem hidLabs_U {j : Nat} {g : Int} {ls : List Lab} {i : Nat} (h : i < ls.length) : lbU (hidLabs j g ls) i = if i < j then hidU g (lbS ls i) (lbU ls i) else lbU ls i := by
  by_cases hk : i < j <;> simp [hidLabs, lbU, List.getD, h, hk]
theorem hidLabs_zero (g : Int) (ls : List Lab) : pairCells (lbX (hidLabs 0 g ls)) (lbY (hidLabs 0 g ls)) ls.length = pairCells (lbX ls) (lbY ls) ls.length :=
  pairCells_congr _ fun i hi => by simp [lbX, lbY, hidLabs_S hi, hidLabs_U hi]
theorem hidLabs_step {j : Nat} {g : Int} {ls : List Lab} (hj : j < ls.length) : ((pairCells (lbX (hidLabs j g ls)) (lbY (hidLabs j g ls)) ls.length).set (j * 2) (.int .i64 (hidA g (lbS ls j)))).set (j * 2 + 1) (.bool (hidU g (lbS ls j) (lbU ls j))) = pairCells (lbX (hidLabs (j + 1) g ls)) (lbY (hidLabs (j + 1) g ls)) ls.length := by
  rw [pairCells_set0 _ _ _ _ _ hj, pairCells_set1 _ _ _ _ _ hj]
  refine pairCells_congr _ fun i hi => ?_
  simp only [lbX, lbY, hidLabs_S hi, hidLabs_U hi]
  by_cases e : i = j
  · subst e
    rw [if_pos rfl, if_pos rfl, if_pos (Nat.lt_succ_self _), if_pos (Nat.lt_succ_self _)]; exact ⟨rfl, rfl⟩
  · rw [if_neg e, if_neg e]
    by_cases h : i < j
    · rw [if_pos h, if_pos h, if_pos (by omega), if_pos (by omega)]; exact ⟨rfl, rfl⟩
    · rw [if_neg h, if_neg h, if_neg (by omega), if_neg (by omega)]; exact ⟨rfl, rfl⟩
/-- a label that stays is written in both cells as it was -/
theorem hidLabs_same {j : Nat} {g : Int} {ls : List Lab} (hj : j < ls.length) (h1 : hidA g (lbS ls j) = lbS ls j) (h2 : hidU g (lbS ls j) (lbU ls j) = lbU ls j) : pairCells (lbX (hidLabs j g ls)) (lbY (hidLabs j g ls)) ls.length = pairCells (lbX (hidLabs (j + 1) g ls)) (lbY (hidLabs (j + 1) g ls)) ls.length :=
  pairCells_congr _ fun i hi => by
    simp only [lbX, lbY, hidLabs_S hi, hidLabs_U hi]
    by_cases e : i = j
    · subst e
      rw [if_neg (Nat.lt_irrefl _), if_neg (Nat.lt_irrefl _), if_pos (Nat.lt_succ_self _), if_pos (Nat.lt_succ_self _), h1, h2]; exact ⟨rfl, rfl⟩
    · by_cases h : i < j
      · rw [if_pos h, if_pos h, if_pos (by omega), if_pos (by omega)]; exact ⟨rfl, rfl⟩
      · rw [if_neg h, if_neg h, if_neg (by omega), if_neg (by omega)]; exact ⟨rfl, rfl⟩
/-- a label of which the number alone turns -/
theorem hidLabs_step0 {j : Nat} {g : Int} {ls : List Lab} (hj : j < ls.length) (h2 : hidU g (lbS ls j) (lbU ls j) = lbU ls j) : (pairCells (lbX (hidLabs j g ls)) (lbY (hidLabs j g ls)) ls.length).set (j * 2) (.int .i64 (hidA g (lbS ls j))) = pairCells (lbX (hidLabs (j + 1) g ls)) (lbY (hidLabs (j + 1) g ls)) ls.length := by
  rw [pairCells_set0 _ _ _ _ _ hj]
  refine pairCells_congr _ fun i hi => ?_
  simp only [lbX, lbY, hidLabs_S hi, hidLabs_U hi]
  by_cases e : i = j
  · subst e
    rw [if_pos rfl, if_neg (Nat.lt_irrefl _), if_pos (Nat.lt_succ_self _), if_pos (Nat.lt_succ_self _), h2]; exact ⟨rfl, rfl⟩
  · rw [if_neg e]
    by_cases h : i < j
    · rw [if_pos h, if_pos h, if_pos (by omega), if_pos (by omega)]; exact ⟨rfl, rfl⟩
    · rw [if_neg h, if_neg h, if_neg (by omega), if_neg (by omega)]; exact ⟨rfl, rfl⟩
theorem hidA_bounds {g a : Int} (h0 : -1 ≤ a) (h1 : a ≤ 1048576) : -1 ≤ hidA g a ∧ hidA g a ≤ 1048576 ∨ g < -1 := by
  unfold hidA; split
  · left; omega
  · split
    · by_cases h : g < -1
      · right; exact h
      · left; omega
    · left; omega

def hidB (s : StgD) (g : Int) : Bool := goodS s && (decide (0 ≤ g ∧ g < (s.sigs.length : Int)) && decide (s.sigs.length ≠ 1))
def hidR (s : StgD) (g : Int) : StgD := if hidB s g = true then ⟨s.net, hidSigs g.toNat s.sigs, hidLabs s.labs.length g s.labs, s.start⟩ else zeroS
theorem hidR_no {s : StgD} {g : Int} (h : hidB s g = false) : hidR s g = zeroS := by unfold hidR; rw [h]; rfl
theorem hidR_yes {s : StgD} {g : Int} (h : hidB s g = true) : hidR s g = ⟨s.net, hidSigs g.toNat s.sigs, hidLabs s.labs.length g s.labs, s.start⟩ := by unfold hidR; rw [h]; rfl
theorem hidR_small {s : StgD} {g : Int} (h : SmallStg s) : SmallStg (hidR s g) := by
  by_cases hb : hidB s g = true
  · rw [hidR_yes hb]
    refine ⟨h.1, ⟨?_, fun i hi => ?_⟩, ?_, h.2.2.2⟩
    · show (hidSigs g.toNat s.sigs).length ≤ 1048576
      rw [hidSigs_length]; have := h.2.1.1; omega
    · simp only at hi ⊢
      rw [hidSigs_length] at hi
      rw [hidSigs_N hi]
      split
      · exact h.2.1.2 i (by omega)
      · exact h.2.1.2 (i + 1) (by omega)
    · show (hidLabs s.labs.length g s.labs).length ≤ 1048576
      rw [hidLabs_length]; exact h.2.2.1
  · rw [hidR_no (by simpa using hb)]; exact zeroS_small
theorem goodS_labs {s : StgD} (h : goodS s = true) {i : Nat} (hi : i < s.labs.length) : -1 ≤ lbS s.labs i ∧ lbS s.labs i ≤ (s.sigs.length : Int) := by
  unfold goodS labsB at h
  simp only [Bool.and_eq_true, decide_eq_true_eq] at h
  have h1 := h.2.2.1
  rcases h1 i hi with h | h <;> omega

set_option maxHeartbeats 400000 in
theorem hiddenLabel_any (a g : Int) (u : Bool) (w : World) (h0 : -1 ≤ a) (h1 : a ≤ 1048576) (hg : 0 ≤ g) :
    Calls Try.prog 77 #[.agg #[.int .i64 a, .bool u], .int .i64 g] w (RetV w (.agg #[.int .i64 (hidA g a), .bool (hidU g a u)])) := by
  by_cases e : a = g
  · have hA : hidA g a = -1 := by unfold hidA; rw [if_pos e]
    have hU : hidU g a u = false := by unfold hidU; rw [if_pos e]
    rw [hA, hU]
    clear hA hU
    have t : (a == g) = true := by simpa using e
    clear e
    go_enter Try.func77, Try.ntmps77
    go_wp2_with fail
    refine bodyPost_ret (v := .agg #[.int .i64 (-1), .bool false]) (by simp [results, Try.results77, go_sem]) rfl ?_
    exact ⟨rfl, by (repeat' (first | (with_reducible exact Below.refl _ _) | (with_reducible assumption) | (with_reducible refine Below.alloc ?_ ?_ _) | (with_reducible refine Below.drew ?_) | (with_reducible refine below_drewN ?_ _) | (with_reducible refine Below.setCell ?_ ?_ _) | go_size))⟩
  · have hU : hidU g a u = u := by unfold hidU; rw [if_neg e]
    rw [hU]
    clear hU
    have t : (a == g) = false := by simpa using e
    by_cases h : g < a
    · have hA : hidA g a = a - 1 := by unfold hidA; rw [if_neg e, if_pos h]
      rw [hA]
      clear hA e
      go_enter Try.func77, Try.ntmps77
      go_wp2_with fail
      refine bodyPost_ret (v := .agg #[.int .i64 (a - 1), .bool u]) (by simp [results, Try.results77, go_sem]) rfl ?_
      exact ⟨rfl, by (repeat' (first | (with_reducible exact Below.refl _ _) | (with_reducible assumption) | (with_reducible refine Below.alloc ?_ ?_ _) | (with_reducible refine Below.drew ?_) | (with_reducible refine below_drewN ?_ _) | (with_reducible refine Below.setCell ?_ ?_ _) | go_size))⟩
    · have hA : hidA g a = a := by unfold hidA; rw [if_neg e, if_neg h]
      rw [hA]
      clear hA e
      go_enter Try.func77, Try.ntmps77
      go_wp2_with fail
      refine bodyPost_ret (v := .agg #[.int .i64 a, .bool u]) (by simp [results, Try.results77, go_sem]) rfl ?_
      exact ⟨rfl, by (repeat' (first | (with_reducible exact Below.refl _ _) | (with_reducible assumption) | (with_reducible refine Below.alloc ?_ ?_ _) | (with_reducible refine Below.drew ?_) | (with_reducible refine below_drewN ?_ _) | (with_reducible refine Below.setCell ?_ ?_ _) | go_size))⟩

end Go.Proofs.Ytkkfglolameogaa
