/- PLAIN PART: a range over a string whose round makes memory: the iterator's block among others. -/
import Derived.Test.YtnmoocgocnjdjaaVNetd
import Derived.Laws.RangeAny
namespace Go.Proofs.Ytnmoocgocnjdjaa
open Go.RowKit

/-- the iterator in block b stands at p -/
def iterAt (w : World) (b : Nat) (s : ByteArray) (p : Nat) : World := { w with heap := w.heap.setIfInBounds b (.stringIter s p) }
theorem iterAt_heap {w : World} {b p p' : Nat} {s : ByteArray} (h : w.heap[b]? = some (.stringIter s p)) : (iterAt w b s p').heap[b]? = some (.stringIter s p') := by
  have hb := (Array.getElem?_eq_some_iff.1 h).1
  simp [iterAt, Array.getElem?_setIfInBounds, hb]
theorem iterAt_other {w : World} {b p c : Nat} {s : ByteArray} (h : c ≠ b) : (iterAt w b s p).heap[c]? = w.heap[c]? := by
  simp only [iterAt, Array.getElem?_setIfInBounds]
  rw [if_neg (fun e => h e.symm)]
theorem iterAt_size (w : World) (b p : Nat) (s : ByteArray) : (iterAt w b s p).heap.size = w.heap.size := by simp [iterAt]
theorem iterAt_cell {w : World} {b p p' : Nat} {s : ByteArray} (h : w.heap[b]? = some (.stringIter s p)) {a : Addr} {v : Value} (hc : w.cell? a = some v) : (iterAt w b s p').cell? a = some v := by
  have hne : a.block ≠ b := by
    rintro rfl
    unfold World.cell? at hc
    rw [h] at hc
    simp at hc
  exact (World.cell?_of_block (iterAt_other (p := p') (s := s) hne)).trans hc
theorem iterAt_carries {w : World} {b p p' : Nat} {s : ByteArray} (h : w.heap[b]? = some (.stringIter s p)) (lo : Nat) : Carries lo w (iterAt w b s p') := fun _ _ _ hc => iterAt_cell h hc
theorem iterAt_below {w : World} {b B p : Nat} {s : ByteArray} (hB : B ≤ b) : Below B w (iterAt w b s p) :=
  ⟨rfl, rfl, rfl, by rw [iterAt_size]; exact Nat.le_refl _, fun k hk => iterAt_other (by omega)⟩
theorem run_next_at {P : Program} (w : World) (b : Nat) (s : ByteArray) (pos : Nat) (ty : TypeId) (hb : w.heap[b]? = some (.stringIter s pos)) (h : pos < s.size) (ha : (s[pos]'h).toNat < 128) :
    (Instr.next (.pointer (some ⟨b, 0, none⟩)) true ty).run P w = .ok (.tuple #[.bool true, .int .i64 pos, .int .i32 (s[pos]'h).toNat]) (iterAt w b s (pos + 1)) := by
  simp only [Instr.next, getObj, setObj, Sem.run_bind, Sem.run, hb, Result.andThen, h, if_true, decode_ascii s pos h ha]
  simp [goInt, Sem.run, iterAt]
theorem run_next_stop {P : Program} (w : World) (b : Nat) (s : ByteArray) (pos : Nat) (ty : TypeId) (hb : w.heap[b]? = some (.stringIter s pos)) (h : ¬ pos < s.size) :
    (Instr.next (.pointer (some ⟨b, 0, none⟩)) true ty).run P w = .ok (.tuple #[.bool false]) w := by
  simp [Instr.next, getObj, Sem.run, hb, h]
theorem iterPos_at {w : World} {k : Nat} {s : ByteArray} {p : Nat} (h : w.heap[k]? = some (.stringIter s p)) : w.iterPos k = p := by simp [World.iterPos, h]

end Go.Proofs.Ytnmoocgocnjdjaa
