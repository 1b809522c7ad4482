/- WALK: AreIndependent of the program. -/
import Derived.Test.YtigkgfdnnfmmmaaVIndd
import Derived.Test.YtigkgfdnnfmmmaaVTrn
namespace Go.Proofs.Ytigkgfdnnfmmmaa
open Go.RowKit

theorem putAll_append (v : UInt8) (xs : List UInt8) (a b : List Int) : putAll v (putAll v xs a) b = putAll v xs (a ++ b) := by
  unfold putAll; rw [List.foldl_append]
theorem isTransition_in (v : Value) (n : NetD) (t : Int) (w : World) (lo : Nat) (hv : NetAt lo w v n) (hsm : SmallTrs n.ts) :
    Calls Try.prog 76 #[v, .int .i64 t] w (RetB w (inT n t)) := isTransition_any v n t w lo hv hsm
/-- the program's test of independence -/
def indI (X Y : Tr) : Bool := putAll 48 (putAll 48 (putAll 49 (putAll 49 blank X.1) X.2) Y.1) Y.2 == putAll 49 (putAll 49 blank X.1) X.2
theorem InArr.both {t : Tr} (h1 : InArr t.1) (h2 : InArr t.2) : InArr (both t) := by
  intro i hi
  have hm : (Go.Proofs.Ytigkgfdnnfmmmaa.both t).getD i 0 ∈ Go.Proofs.Ytigkgfdnnfmmmaa.both t := by rw [getD_eq hi]; exact List.getElem_mem hi
  rcases List.mem_append.1 hm with h | h
  · exact ⟨h1.nonneg _ h, h1.lt _ h⟩
  · exact ⟨h2.nonneg _ h, h2.lt _ h⟩
theorem indI_eq {X Y : Tr} (h1 : InArr X.1) (h2 : InArr X.2) (h3 : InArr Y.1) (h4 : InArr Y.2) : indI X Y = !meetB (both X) (both Y) := by
  unfold indI
  rw [putAll_append, putAll_append]
  exact disjoint_eq (InArr.both h1 h2) (InArr.both h3 h4)

/-- behind a region: two blocks hold two transitions' lists -/
def TwoTr (w : World) (x0 x1 y0 y1 : Value) (mk : Value → Value → Act) (e : Exit) (a' : Act) (w' : World) : Prop :=
  e = .normal ∧ ∃ b c : Nat, a' = mk (.pointer (some ⟨b, 0, none⟩)) (.pointer (some ⟨c, 0, none⟩)) ∧ w'.cell? ⟨b, 0, none⟩ = some x0 ∧ w'.cell? ⟨b, 1, none⟩ = some x1 ∧ w'.cell? ⟨c, 0, none⟩ = some y0 ∧ w'.cell? ⟨c, 1, none⟩ = some y1 ∧ Below w.heap.size w w'
/-- behind a region: a block holds a marking; a transition's lists are as they were -/
def OneArr (w : World) (B : Nat) (y0 y1 : Value) (xs : List UInt8) (mk : Value → Act) (e : Exit) (a' : Act) (w' : World) : Prop :=
  e = .normal ∧ ∃ b : Nat, a' = mk (.pointer (some ⟨b, 0, none⟩)) ∧ ArrAt w' b xs ∧ Below w.heap.size w w' ∧ w'.cell? ⟨B, 0, none⟩ = some y0 ∧ w'.cell? ⟨B, 1, none⟩ = some y1

end Go.Proofs.Ytigkgfdnnfmmmaa
