/- Rows of two types lie apart; what a graph of the model's own is. -/
import Derived.Test.YtgmnknlnlmcmfaaVMtext
import Derived.Test.YtgmnknlnlmcmfaaVUnf
namespace Go.Proofs.Ytgmnknlnlmcmfaa
open Go.RowKit

/-- rows of two types lie in two blocks -/
theorem rows_apartT {B B' : Nat} {w : World} {e e' : TypeId} {s s' n n' : Nat} {v v' : Value} {xs ys : List Value} (h : w.ownsRow B e s v n xs) (h' : w.ownsRow B' e' s' v' n' ys) (hne : e ≠ e') : v.ownBlock = none ∨ v.ownBlock ≠ v'.ownBlock := by
  rcases h.2 with ⟨rfl, _⟩ | ⟨g, cap, cur, rfl, _, hg, _⟩
  · exact Or.inl rfl
  · right
    rcases h'.2 with ⟨rfl, _⟩ | ⟨g', cap', cur', rfl, _, hg', _⟩
    · simp [Value.ownBlock]
    · intro e1
      simp only [Value.ownBlock, Option.some.injEq] at e1
      subst e1
      rw [hg] at hg'
      simp at hg'
      exact hne hg'.2
theorem OwnTrs.grownT {B B' : Nat} {w w' : World} {e : TypeId} {s : Nat} {xs ys : List Value} {k n : Nat} {v : Value} {ts : List Tr} (h : OwnTrs B w xs k ts) (hown : w.ownsRow B' e s v n ys) (hne : 3 ≠ e) (hg : w.grownBy w' v.ownBlock) : OwnTrs B w' xs k ts := by
  refine ⟨h.1, fun i hi => ?_⟩
  obtain ⟨v0, v1, e0, e1, h0, h1⟩ := h.2 i hi
  exact ⟨v0, v1, e0, e1, h0.kept hg (rows_apartT h0 hown hne), h1.kept hg (rows_apartT h1 hown hne)⟩

/-- a call returns a graph of its own -/
def RetL2 (w : World) (s : StgD) (e : Ending) (w' : World) : Prop :=
  ∃ (u : Value) (xs : List Value) (vs vl : Value), e = .returned (.agg #[.int .i64 s.net.places, u, vs, vl, .string s.start]) ∧
    w'.ownsRow w.heap.size 176 2 u s.net.ts.length xs ∧ OwnTrs w.heap.size w' xs s.net.ts.length s.net.ts ∧
    w'.ownsRow w.heap.size 118 2 vs s.sigs.length (pairCells (sgX s.sigs) (sgY s.sigs) s.sigs.length) ∧
    w'.ownsRow w.heap.size 113 2 vl s.labs.length (pairCells (lbX s.labs) (lbY s.labs) s.labs.length) ∧ Below w.heap.size w w'


end Go.Proofs.Ytgmnknlnlmcmfaa
