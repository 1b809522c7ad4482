/- A marking as bytes (out of Byte). -/
import Derived.Test.YtigkgfdnnfmmmaaVInts
namespace Go.Proofs.Ytigkgfdnnfmmmaa
open Go.RowKit

def bstr (bs : List UInt8) : ByteArray := ⟨bs.toArray⟩
theorem bstr_size (bs : List UInt8) : (bstr bs).size = bs.length := by simp [bstr, ByteArray.size]
def bytes (s : ByteArray) : List UInt8 := s.data.toList
theorem bytes_length (s : ByteArray) : (bytes s).length = s.size := by simp [bytes]
theorem bytes_bstr (bs : List UInt8) : bytes (bstr bs) = bs := by simp [bytes, bstr]
theorem bstr_bytes (s : ByteArray) : bstr (bytes s) = s := by
  obtain ⟨d⟩ := s
  simp [bytes, bstr]
theorem byte_at {s : ByteArray} {q : Nat} (h : q < s.size) : (bytes s).getD q 0 = s[q] := by
  have h' : q < s.data.toList.length := by simpa using h
  rw [bytes, List.getD, List.getElem?_eq_getElem h']
  rfl

theorem foldl_push (ns : List UInt8) : ∀ s : ByteArray, (ns.map (fun b => (b.toNat : Int))).foldl (fun r n => r.push (UInt8.ofNat n.toNat)) s = ⟨s.data ++ ns.toArray⟩ := by
  induction ns with
  | nil => intro s; simp
  | cons b ns ih =>
    intro s
    simp only [List.map_cons, List.foldl_cons]
    rw [ih]
    obtain ⟨d⟩ := s
    simp [ByteArray.push]

end Go.Proofs.Ytigkgfdnnfmmmaa
