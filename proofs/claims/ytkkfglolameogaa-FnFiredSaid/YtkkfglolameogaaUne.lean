/-
  BLOCKS AND THEIR TYPES: a row's block is no block of another type; owned rows stand when such a block is written.
-/
import Derived.Test.YtkkfglolameogaaOwnt
namespace Go.Proofs.Ytkkfglolameogaa
open Go.RowKit

/-- the block holds cells of this type -/
def TyAt (w : World) (g : Nat) (t : TypeId) : Prop := ∃ cur f, w.heap[g]? = some (.cells cur t f)
theorem TyAt.lt {w : World} {g : Nat} {t : TypeId} (h : TyAt w g t) : g < w.heap.size := by
  obtain ⟨_, _, h⟩ := h
  exact (Array.getElem?_eq_some_iff.1 h).1
theorem TyAt.keep {w w' : World} {g : Nat} {t : TypeId} (h : TyAt w g t) (hb : Below w.heap.size w w') : TyAt w' g t := by
  have hl := h.lt
  obtain ⟨c, f, h⟩ := h
  exact ⟨c, f, (hb.block g hl).trans h⟩
theorem TyAt.grown {w w' : World} {g : Nat} {t : TypeId} {row : Option Nat} (h : TyAt w g t) (hg : w.grownBy w' row) (hne : some g ≠ row) : TyAt w' g t := by
  have hl := h.lt
  obtain ⟨c, f, h⟩ := h
  exact ⟨c, f, (hg.block g hl hne).trans h⟩
theorem TyAt.set {w : World} {g : Nat} {t : TypeId} (h : TyAt w g t) (p : Addr) (u : Value) : TyAt (w.setCell p u) g t := by
  obtain ⟨c, f, h⟩ := h
  by_cases e : g = p.block
  · subst e
    exact ⟨_, _, by simp [World.setCell, Array.getElem?_modify, h]; exact ⟨rfl, rfl⟩⟩
  · exact ⟨c, f, (Below.heap_setCell _ _ _ _ e).trans h⟩
theorem TyAt.new (w : World) (c : Array Value) (t : TypeId) : TyAt (w.alloc (.cells c t)) w.heap.size t := ⟨c, _, heap_alloc_new w _⟩
theorem owns_ne {B : Nat} {w : World} {e t : TypeId} {size n g : Nat} {v : Value} {xs : List Value} (h : w.ownsRow B e size v n xs) (hT : TyAt w g t) (hne : e ≠ t) : some g ≠ v.ownBlock := by
  obtain ⟨c, f, hT⟩ := hT
  rcases h.2 with ⟨rfl, _⟩ | ⟨g', cap, cur, rfl, _, hg, _⟩
  · simp [Value.ownBlock]
  · intro e'
    simp only [Value.ownBlock, Option.some.injEq] at e'
    subst e'
    rw [hT] at hg
    simp at hg
    exact hne hg.2.1.symm
theorem owns_setT {B : Nat} {w : World} {e t : TypeId} {size n : Nat} {v : Value} {xs : List Value} (h : w.ownsRow B e size v n xs) {p : Addr} (hT : TyAt w p.block t) (hne : e ≠ t) (u : Value) : (w.setCell p u).ownsRow B e size v n xs :=
  h.kept (grownBy_set w p u) (Or.inr (fun e' => owns_ne h hT hne e'.symm))
theorem OwnTrs.setT {B : Nat} {w : World} {t : TypeId} {xs : List Value} {k : Nat} {ts : List Tr} (h : OwnTrs B w xs k ts) {p : Addr} (hT : TyAt w p.block t) (hne : 3 ≠ t) (u : Value) : OwnTrs B (w.setCell p u) xs k ts := by
  refine ⟨h.1, fun i hi => ?_⟩
  obtain ⟨v0, v1, e0, e1, h0, h1⟩ := h.2 i hi
  exact ⟨v0, v1, e0, e1, owns_setT h0 hT hne u, owns_setT h1 hT hne u⟩
theorem OwnTrs.low {B B' : Nat} {w : World} {xs : List Value} {k : Nat} {ts : List Tr} (h : OwnTrs B w xs k ts) (hB : B' ≤ B) : OwnTrs B' w xs k ts := by
  refine ⟨h.1, fun i hi => ?_⟩
  obtain ⟨v0, v1, e0, e1, h0, h1⟩ := h.2 i hi
  exact ⟨v0, v1, e0, e1, h0.low hB, h1.low hB⟩
theorem OwnTrs.congr {B : Nat} {w : World} {xs : List Value} {k : Nat} {ts us : List Tr} (h : OwnTrs B w xs k ts) (he : ∀ i, i < k → us.getD i ([], []) = ts.getD i ([], [])) : OwnTrs B w xs k us := by
  refine ⟨h.1, fun i hi => ?_⟩
  rw [he i hi]
  exact h.2 i hi

/-- a call returns a net of its own -/
def RetOwnN (w : World) (n : NetD) (e : Ending) (w' : World) : Prop :=
  ∃ u xs, e = .returned (.agg #[.int .i64 n.places, u]) ∧ w'.ownsRow w.heap.size 64 2 u n.ts.length xs ∧ OwnTrs w.heap.size w' xs n.ts.length n.ts ∧ Below w.heap.size w w'

end Go.Proofs.Ytkkfglolameogaa
