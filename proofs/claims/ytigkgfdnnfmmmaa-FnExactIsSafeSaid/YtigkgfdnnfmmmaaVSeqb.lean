/- FIRE SEQUENCES: the plain part, and the model's walk.
   WALK: FireSequence of the program. -/
import Derived.Test.YtigkgfdnnfmmmaaVIfire
namespace Go.Proofs.Ytigkgfdnnfmmmaa
open Go.RowKit

/-- firing in order -/
def runSeq (n : NetD) : List Int → ByteArray → Nat → ByteArray × Nat × Bool
  | [], s, k => (s, k, true)
  | t :: l, s, k => if fireOk n s t = true then runSeq n l (bstr (fireS n s t)) (k + 1) else (s, k, false)
def seqOk (n : NetD) (s : ByteArray) (l : List Int) : Bool := goodN n && (markB n s && decide (l.length ≤ 200))
def seqR (n : NetD) (s : ByteArray) (l : List Int) : ByteArray × Nat × Bool := if seqOk n s l = true then runSeq n l s 0 else (bstr [], 0, false)

theorem drop_getD {l : List Int} {k : Nat} (hk : k < l.length) : l.drop k = l.getD k 0 :: l.drop (k + 1) := by
  rw [List.drop_eq_getElem_cons hk, getD_eq hk]
theorem run_step {n : NetD} {l : List Int} {s : ByteArray} {k : Nat} (hk : k < l.length) (h : fireOk n s (l.getD k 0) = true) : runSeq n (l.drop k) s k = runSeq n (l.drop (k + 1)) (bstr (fireS n s (l.getD k 0))) (k + 1) := by
  rw [drop_getD hk, runSeq, if_pos h]
theorem run_stop {n : NetD} {l : List Int} {s : ByteArray} {k : Nat} (hk : k < l.length) (h : fireOk n s (l.getD k 0) = false) : runSeq n (l.drop k) s k = (s, k, false) := by
  rw [drop_getD hk, runSeq, if_neg (by rw [h]; simp)]
theorem run_end {n : NetD} {l : List Int} {s : ByteArray} : runSeq n (l.drop l.length) s l.length = (s, l.length, true) := by
  rw [List.drop_length, runSeq]

theorem dig_mark {n : NetD} {bs : List UInt8} (h : Dig bs) (hl : (bs.length : Int) = n.places) : markB n (bstr bs) = true := by
  unfold markB digB
  rw [bstr_size, decide_eq_true hl, Bool.and_true, decide_eq_true_eq]
  intro i hi
  have hs : i < (bstr bs).size := by rw [bstr_size]; exact hi
  rw [get!_eq hs, ← byte_at hs, bytes_bstr]
  rcases h i hi with c | c
  · left; rw [c]; rfl
  · right; rw [c]; rfl

theorem fired_mark {n : NetD} {s : ByteArray} {t : Int} (h : fireOk n s t = true) : markB n (bstr (fireS n s t)) = true := by
  have h' := h
  unfold fireOk at h'
  simp only [Bool.and_eq_true] at h'
  obtain ⟨hc, hp⟩ := h'
  have hc' := hc
  unfold canB at hc'
  simp only [Bool.and_eq_true] at hc'
  obtain ⟨hg, hm, ht, _⟩ := hc'
  have ht3 : 0 ≤ t ∧ t < n.ts.length := of_decide_eq_true ht
  obtain ⟨i1, i2, _, _⟩ := good_tr hg (t := t.toNat) (by omega)
  unfold fireS fired
  rw [if_pos hc, if_pos hp]
  refine dig_mark ?_ ?_
  · exact ((mark_dig hm).put (Or.inl rfl) i1.nonneg).put (Or.inr rfl) i2.nonneg
  · rw [putAll_length]; unfold restB; rw [putAll_length, bytes_length]; exact mark_size hm
theorem mark_small {n : NetD} {s : ByteArray} (hg : goodN n = true) (hm : markB n s = true) : s.size ≤ 30 := by
  have := mark_size hm
  have := (goodN_parts hg).2.1
  omega

end Go.Proofs.Ytigkgfdnnfmmmaa

namespace Go.Proofs.Ytigkgfdnnfmmmaa
open Go.RowKit

theorem take_pad {s : ByteArray} {k : Nat} (h : k = s.size) : bstr ((pad (bytes s)).take k) = s := by
  subst h
  unfold pad
  rw [← bytes_length, List.take_left']
  · exact bstr_bytes s
  · rfl

/-- behind a region: a block holds a marking; another does still; two cells are as they were -/
def TwoArrB (w : World) (c0 c1 : Addr) (y0 y1 : Value) (b9 : Nat) (xs ys : List UInt8) (mk : Value → Act) (e : Exit) (a' : Act) (w' : World) : Prop :=
  e = .normal ∧ ∃ b : Nat, a' = mk (.pointer (some ⟨b, 0, none⟩)) ∧ ArrAt w' b xs ∧ ArrAt w' b9 ys ∧ Below w.heap.size w w' ∧ w'.cell? c0 = some y0 ∧ w'.cell? c1 = some y1

end Go.Proofs.Ytigkgfdnnfmmmaa
