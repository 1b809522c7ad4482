/- PLAIN PART: blocks and their types: a row's block is no block of another type; owned rows stand when such a block is written. No program is named here. -/
import Derived.Test.YtigkgfdnnfmmmaaVNetd
import Derived.Laws.AppendOwn
import Derived.Lib.BufferOwn
import Derived.Lib.SmallJoins
namespace Go.Proofs.Ytigkgfdnnfmmmaa
open Go.RowKit

theorem owns_after {w w' : World} {B : Nat} {e : TypeId} {size : Nat} {v : Value} {n : Nat} {xs : List Value} (h : w.ownsRow B e size v n xs) (hb : Below w.heap.size w w') : w'.ownsRow B e size v n xs := by
  refine h.kept (row := none) ⟨hb.os, hb.tape, hb.output, hb.size, fun i hi _ => hb.block i hi⟩ ?_
  cases v.ownBlock with
  | none => exact Or.inl rfl
  | some k => exact Or.inr (by simp)

theorem grownBy_set (w : World) (p : Addr) (u : Value) : w.grownBy (w.setCell p u) (some p.block) :=
  ⟨rfl, rfl, rfl, by simp, fun k _ hne => Below.heap_setCell _ _ _ _ (fun e => hne (by rw [e]))⟩

/-- the block holds cells of this type -/
def TyAt (w : World) (g : Nat) (t : TypeId) : Prop := ∃ cur f, w.heap[g]? = some (.cells cur t f)
theorem TyAt.lt {w : World} {g : Nat} {t : TypeId} (h : TyAt w g t) : g < w.heap.size := by
  obtain ⟨_, _, h⟩ := h
  exact (Array.getElem?_eq_some_iff.1 h).1
theorem TyAt.keep {w w' : World} {g : Nat} {t : TypeId} (h : TyAt w g t) (hb : Below w.heap.size w w') : TyAt w' g t := by
  have hl := h.lt
  obtain ⟨c, f, h⟩ := h
  exact ⟨c, f, (hb.block g hl).trans h⟩
theorem TyAt.grown {w w' : World} {g : Nat} {t : TypeId} {row : Option Nat} (h : TyAt w g t) (hg : w.grownBy w' row) (hne : some g ≠ row) : TyAt w' g t := by
  have hl := h.lt
  obtain ⟨c, f, h⟩ := h
  exact ⟨c, f, (hg.block g hl hne).trans h⟩
theorem TyAt.set {w : World} {g : Nat} {t : TypeId} (h : TyAt w g t) (p : Addr) (u : Value) : TyAt (w.setCell p u) g t := by
  obtain ⟨c, f, h⟩ := h
  by_cases e : g = p.block
  · subst e
    exact ⟨_, _, by simp [World.setCell, Array.getElem?_modify, h]; exact ⟨rfl, rfl⟩⟩
  · exact ⟨c, f, (Below.heap_setCell _ _ _ _ e).trans h⟩
theorem TyAt.new (w : World) (c : Array Value) (t : TypeId) : TyAt (w.alloc (.cells c t)) w.heap.size t := ⟨c, _, heap_alloc_new w _⟩
theorem owns_ne {B : Nat} {w : World} {e t : TypeId} {size n g : Nat} {v : Value} {xs : List Value} (h : w.ownsRow B e size v n xs) (hT : TyAt w g t) (hne : e ≠ t) : some g ≠ v.ownBlock := by
  obtain ⟨c, f, hT⟩ := hT
  rcases h.2 with ⟨rfl, _⟩ | ⟨g', cap, cur, rfl, _, hg, _⟩
  · simp [Value.ownBlock]
  · intro e'
    simp only [Value.ownBlock, Option.some.injEq] at e'
    subst e'
    rw [hT] at hg
    simp at hg
    exact hne hg.2.1.symm
theorem owns_setT {B : Nat} {w : World} {e t : TypeId} {size n : Nat} {v : Value} {xs : List Value} (h : w.ownsRow B e size v n xs) {p : Addr} (hT : TyAt w p.block t) (hne : e ≠ t) (u : Value) : (w.setCell p u).ownsRow B e size v n xs :=
  h.kept (grownBy_set w p u) (Or.inr (fun e' => owns_ne h hT hne e'.symm))
/-- rows of two types lie in two blocks -/
theorem rows_apartT {B B' : Nat} {w : World} {e e' : TypeId} {s s' n n' : Nat} {v v' : Value} {xs ys : List Value} (h : w.ownsRow B e s v n xs) (h' : w.ownsRow B' e' s' v' n' ys) (hne : e ≠ e') : v.ownBlock = none ∨ v.ownBlock ≠ v'.ownBlock := by
  rcases h.2 with ⟨rfl, _⟩ | ⟨g, cap, cur, rfl, _, hg, _⟩
  · exact Or.inl rfl
  · right
    rcases h'.2 with ⟨rfl, _⟩ | ⟨g', cap', cur', rfl, _, hg', _⟩
    · simp [Value.ownBlock]
    · intro e1
      simp only [Value.ownBlock, Option.some.injEq] at e1
      subst e1
      rw [hg] at hg'
      simp at hg'
      exact hne hg'.2

end Go.Proofs.Ytigkgfdnnfmmmaa
