/- PLAIN PART: blocks and their types: a row's block is no block of another type; owned rows stand when such a block is written. No program is named here.
   APPEND of one int at a time: what the row of the numbers that pass a test is; rows that are owned read, and may be written. -/
import Derived.Test.YtigkgfdnnfmmmaaVNetd
import Derived.Laws.AppendOwn
import Derived.Lib.BufferOwn
import Derived.Lib.SmallJoins
import Derived.Test.YtigkgfdnnfmmmaaVApp
import Derived.Test.YtigkgfdnnfmmmaaVOwn
namespace Go.Proofs.Ytigkgfdnnfmmmaa
open Go.RowKit

theorem owns_after {w w' : World} {B : Nat} {e : TypeId} {size : Nat} {v : Value} {n : Nat} {xs : List Value} (h : w.ownsRow B e size v n xs) (hb : Below w.heap.size w w') : w'.ownsRow B e size v n xs := by
  refine h.kept (row := none) ⟨hb.os, hb.tape, hb.output, hb.size, fun i hi _ => hb.block i hi⟩ ?_
  cases v.ownBlock with
  | none => exact Or.inl rfl
  | some k => exact Or.inr (by simp)

theorem grownBy_set (w : World) (p : Addr) (u : Value) : w.grownBy (w.setCell p u) (some p.block) :=
  ⟨rfl, rfl, rfl, by simp, fun k _ hne => Below.heap_setCell _ _ _ _ (fun e => hne (by rw [e]))⟩

/-- the block holds cells of this type -/
def TyAt (w : World) (g : Nat) (t : TypeId) : Prop := ∃ cur f, w.heap[g]? = some (.cells cur t f)
theorem TyAt.lt {w : World} {g : Nat} {t : TypeId} (h : TyAt w g t) : g < w.heap.size := by
  obtain ⟨_, _, h⟩ := h
  exact (Array.getElem?_eq_some_iff.1 h).1
theorem TyAt.keep {w w' : World} {g : Nat} {t : TypeId} (h : TyAt w g t) (hb : Below w.heap.size w w') : TyAt w' g t := by
  have hl := h.lt
  obtain ⟨c, f, h⟩ := h
  exact ⟨c, f, (hb.block g hl).trans h⟩
theorem TyAt.grown {w w' : World} {g : Nat} {t : TypeId} {row : Option Nat} (h : TyAt w g t) (hg : w.grownBy w' row) (hne : some g ≠ row) : TyAt w' g t := by
  have hl := h.lt
  obtain ⟨c, f, h⟩ := h
  exact ⟨c, f, (hg.block g hl hne).trans h⟩
theorem TyAt.set {w : World} {g : Nat} {t : TypeId} (h : TyAt w g t) (p : Addr) (u : Value) : TyAt (w.setCell p u) g t := by
  obtain ⟨c, f, h⟩ := h
  by_cases e : g = p.block
  · subst e
    exact ⟨_, _, by simp [World.setCell, Array.getElem?_modify, h]; exact ⟨rfl, rfl⟩⟩
  · exact ⟨c, f, (Below.heap_setCell _ _ _ _ e).trans h⟩
theorem TyAt.new (w : World) (c : Array Value) (t : TypeId) : TyAt (w.alloc (.cells c t)) w.heap.size t := ⟨c, _, heap_alloc_new w _⟩
theorem owns_ne {B : Nat} {w : World} {e t : TypeId} {size n g : Nat} {v : Value} {xs : List Value} (h : w.ownsRow B e size v n xs) (hT : TyAt w g t) (hne : e ≠ t) : some g ≠ v.ownBlock := by
  obtain ⟨c, f, hT⟩ := hT
  rcases h.2 with ⟨rfl, _⟩ | ⟨g', cap, cur, rfl, _, hg, _⟩
  · simp [Value.ownBlock]
  · intro e'
    simp only [Value.ownBlock, Option.some.injEq] at e'
    subst e'
    rw [hT] at hg
    simp at hg
    exact hne hg.2.1.symm
theorem owns_setT {B : Nat} {w : World} {e t : TypeId} {size n : Nat} {v : Value} {xs : List Value} (h : w.ownsRow B e size v n xs) {p : Addr} (hT : TyAt w p.block t) (hne : e ≠ t) (u : Value) : (w.setCell p u).ownsRow B e size v n xs :=
  h.kept (grownBy_set w p u) (Or.inr (fun e' => owns_ne h hT hne e'.symm))
/-- rows of two types lie in two blocks -/
theorem rows_apartT {B B' : Nat} {w : World} {e e' : TypeId} {s s' n n' : Nat} {v v' : Value} {xs ys : List Value} (h : w.ownsRow B e s v n xs) (h' : w.ownsRow B' e' s' v' n' ys) (hne : e ≠ e') : v.ownBlock = none ∨ v.ownBlock ≠ v'.ownBlock := by
  rcases h.2 with ⟨rfl, _⟩ | ⟨g, cap, cur, rfl, _, hg, _⟩
  · exact Or.inl rfl
  · right
    rcases h'.2 with ⟨rfl, _⟩ | ⟨g', cap', cur', rfl, _, hg', _⟩
    · simp [Value.ownBlock]
    · intro e1
      simp only [Value.ownBlock, Option.some.injEq] at e1
      subst e1
      rw [hg] at hg'
      simp at hg'
      exact hne hg'.2

end Go.Proofs.Ytigkgfdnnfmmmaa

namespace Go.Proofs.Ytigkgfdnnfmmmaa
open Go.RowKit

theorem ints_one (w : World) (e : TypeId) (z : Int) : IntsAt 0 (w.alloc (.cells #[.int .i64 z] e)) (.slice (some ⟨w.heap.size, 0, none⟩) 1 1) [z] := by
  refine ⟨_, 1, rfl, Nat.le_refl _, Or.inr ⟨w.heap.size, 0, rfl, Nat.zero_le _, fun i hi => ?_⟩⟩
  have h0 : i = 0 := by simp at hi; omega
  subst h0
  simp

/-- the numbers below k at which f is true -/
def enTo (f : Nat → Bool) (k : Nat) : List Int := ((List.range k).filter f).map Int.ofNat
theorem enTo_zero (f : Nat → Bool) : enTo f 0 = [] := rfl
theorem enTo_true {f : Nat → Bool} {k : Nat} (h : f k = true) : enTo f (k + 1) = enTo f k ++ [(k : Int)] := by
  unfold enTo
  rw [List.range_succ, List.filter_append, List.filter_cons_of_pos h, List.filter_nil, List.map_append]
  rfl
theorem enTo_false {f : Nat → Bool} {k : Nat} (h : f k = false) : enTo f (k + 1) = enTo f k := by
  unfold enTo
  rw [List.range_succ, List.filter_append, List.filter_cons_of_neg (by simp [h]), List.filter_nil, List.append_nil]
theorem enTo_length (f : Nat → Bool) (k : Nat) : (enTo f k).length ≤ k := by
  unfold enTo
  rw [List.length_map]
  exact Nat.le_trans (List.length_filter_le _ _) (by simp)

theorem ow_of_owns {w : World} {base : Nat} {v : Value} {zs : List Int} (h : w.ownsRow base 3 1 v zs.length (intCells zs)) : IntsOw base w v zs := by
  have h0 := h
  rcases h.2 with ⟨rfl, hn⟩ | ⟨g, cap, cur, rfl, hb, hg, hnc, _, _, _⟩
  · have hz : zs = [] := List.eq_nil_of_length_eq_zero hn
    subst hz
    exact ⟨_, _, rfl, Nat.le_refl _, Or.inl rfl⟩
  · refine ⟨_, _, rfl, hnc, Or.inr ⟨g, 0, rfl, hb, fun i hi => ⟨?_, ?_⟩⟩⟩
    · rw [Nat.zero_add, h0.cellAt i (by omega)]
      exact intCells_get hi
    · exact h0.frozenAt _
theorem ow_nil (w : World) (lo : Nat) : IntsOw lo w (.slice none 0 0) [] := ⟨none, 0, rfl, Nat.le_refl _, Or.inl rfl⟩

theorem ints_nil (w : World) (lo : Nat) : IntsAt lo w (.slice none 0 0) [] := ⟨none, 0, rfl, Nat.le_refl _, Or.inl rfl⟩

end Go.Proofs.Ytigkgfdnnfmmmaa
