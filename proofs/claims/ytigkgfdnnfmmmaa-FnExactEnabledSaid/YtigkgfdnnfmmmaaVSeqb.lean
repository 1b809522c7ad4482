/- WALK: FireSequence of the program. -/
import Derived.Test.YtigkgfdnnfmmmaaVSeq
namespace Go.Proofs.Ytigkgfdnnfmmmaa
open Go.RowKit

theorem take_pad {s : ByteArray} {k : Nat} (h : k = s.size) : bstr ((pad (bytes s)).take k) = s := by
  subst h
  unfold pad
  rw [← bytes_length, List.take_left']
  · exact bstr_bytes s
  · rfl

/-- behind a region: a block holds a marking; another does still; two cells are as they were -/
def TwoArrB (w : World) (c0 c1 : Addr) (y0 y1 : Value) (b9 : Nat) (xs ys : List UInt8) (mk : Value → Act) (e : Exit) (a' : Act) (w' : World) : Prop :=
  e = .normal ∧ ∃ b : Nat, a' = mk (.pointer (some ⟨b, 0, none⟩)) ∧ ArrAt w' b xs ∧ ArrAt w' b9 ys ∧ Below w.heap.size w w' ∧ w'.cell? c0 = some y0 ∧ w'.cell? c1 = some y1

end Go.Proofs.Ytigkgfdnnfmmmaa
